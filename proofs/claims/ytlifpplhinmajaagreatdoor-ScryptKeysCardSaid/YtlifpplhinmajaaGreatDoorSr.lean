/- Small things of the document's sha: right, shift; a block's words as they are reckoned by 256s. No condition but those typed. The document's spread by its contract: a block's words, and those that follow. Condition: the text has 64 bytes. -/
import Derived.Test.YtlifpplhinmajaaGreatDoorSa
import Derived.Deep.LoopGhost
import Derived.WalkMore
namespace Go.Proofs.YtlifpplhinmajaaGreatDoor
set_option maxRecDepth 50000
open Go.RowKit Rot Sha

theorem refr_n (n m s : Nat) (hm : n + m = 32) (hs : ((m : Int) % 32).toNat = s) (x : Nat) (hx : x < 4294967296) (w : World) : Calls Tryz.prog 139 #[.int .u32 (x : Int), .int .i64 (n : Int)] w fun e w' => e = .returned (.int .u32 (rotl 32 x s : Nat)) ∧ w = w' := by
  have e : (32 : Int) - (n : Int) = (m : Int) := by omega
  have C := refleft_any x (m : Int) w hx
  rw [hs] at C
  have HC := Lib.hid C
  have hn : n ≤ 32 := by omega
  have hmb : m ≤ 32 := by omega
  clear C hs hm
  go_enter Tryz.func139, Tryz.ntmps139
  go_wp2_with fail
  refine HC.out.mono ?_
  rintro e w' ⟨rfl, rfl⟩
  go_wp2
  go_ret
  exact ⟨rfl, rfl⟩
theorem shift_any (n : Nat) (hn : n ≤ 32) (x : Nat) (hx : x < 4294967296) (w : World) : Calls Tryz.prog 142 #[.int .u32 (x : Int), .int .i64 (n : Int)] w fun e w' => e = .returned (.int .u32 (x / 2 ^ n : Nat)) ∧ w = w' := by
  obtain ⟨Z, hZ⟩ : ∃ Z, Z = x / 2 ^ n := ⟨_, rfl⟩
  rw [← hZ]
  have HZ0 := Lib.hid hZ
  clear hZ
  go_enter Tryz.func142, Tryz.ntmps142
  go_wp2
  go_loop [0, 5] (fun v i => ∃ k y : Nat, k ≤ n ∧ i = .int .i64 (k : Int) ∧ v = .int .u32 (y : Int) ∧ y < 4294967296 ∧ Hid (y = x / 2 ^ k)) (fun _ i => n - (intOf i).toNat)
  case atStart => exact ⟨0, x, by omega, rfl, rfl, hx, Lib.hid (by simp)⟩
  case round =>
    obtain ⟨k, y, hk, rfl, rfl, hy, HY⟩ := hrel
    by_cases hlt : k < n
    · have hdt : decide ((k : Int) < (n : Int)) = true := by simp; omega
      obtain ⟨z, hz⟩ : ∃ z, z = y / 2 := ⟨_, rfl⟩
      have hq : (y : Int).tdiv 2 = (z : Int) := by rw [Int.tdiv_eq_ediv_of_nonneg (by omega)]; omega
      have hzb : z < 4294967296 := by omega
      have HZ : Hid (z = x / 2 ^ (k + 1)) := Lib.hid (by rw [hz, HY.out, Nat.div_div_eq_div_mul, ← Nat.pow_succ])
      have HLT := Lib.hid hlt
      clear hz hlt
      go_wp2
      go_round
      case rel => exact ⟨k + 1, z, HLT.out, by go_num, rfl, hzb, HZ⟩
      case measure => have := HLT.out; simp [intOf]; omega
    · obtain rfl : k = n := by omega
      have hdt : decide ((k : Int) < (k : Int)) = false := by simp
      go_wp2
      go_ret
      exact ⟨by rw [HZ0.out, ← HY.out]; rfl, rfl⟩

/-- the word of place j, when k of its bytes were taken -/
def hw (bs : List Nat) (j : Nat) : Nat → Nat
  | 0 => 0
  | k + 1 => hw bs j k * 256 + bs.getD (4 * j + k) 0
def filled (bs : List Nat) (i : Nat) : List Nat := (List.range i).map (fun j => hw bs j 4) ++ List.replicate (64 - i) 0
theorem getD_byte (bs : List Nat) (h : ∀ x ∈ bs, x < 256) (i : Nat) : bs.getD i 0 < 256 := by
  rw [List.getD_eq_getElem?_getD]
  by_cases hi : i < bs.length
  · rw [List.getElem?_eq_getElem hi]; exact h _ (List.getElem_mem hi)
  · rw [List.getElem?_eq_none (by omega)]; decide
theorem hw_lt (bs : List Nat) (h : ∀ x ∈ bs, x < 256) (j : Nat) : ∀ k, hw bs j k < 256 ^ k
  | 0 => by simp [hw]
  | k + 1 => by
    have h1 := hw_lt bs h j k
    have h2 := getD_byte bs h (4 * j + k)
    rw [hw, Nat.pow_succ]
    have : (hw bs j k + 1) * 256 ≤ 256 ^ k * 256 := Nat.mul_le_mul_right _ h1
    omega
theorem filled_length (bs : List Nat) (i : Nat) (h : i ≤ 64) : (filled bs i).length = 64 := by simp [filled]; omega
theorem filled_at (bs : List Nat) (i : Nat) : (filled bs i).getD i 0 = 0 := by
  unfold filled
  rw [List.getD_eq_getElem?_getD, List.getElem?_append_right (by simp)]
  simp only [List.length_map, List.length_range, Nat.sub_self, List.getElem?_replicate]
  split <;> rfl
theorem filled_zero (bs : List Nat) (i : Nat) (_h : i < 64) : (filled bs i).set i 0 = filled bs i := by
  refine List.ext_getElem (by simp) fun j h1 h2 => ?_
  rw [List.getElem_set]
  split
  · rename_i e
    subst e
    have := filled_at bs i
    rw [List.getD_eq_getElem?_getD, List.getElem?_eq_getElem h2] at this
    exact this.symm
  · rfl
theorem filled_next (bs : List Nat) (i : Nat) (h : i < 64) : (filled bs i).set i (hw bs i 4) = filled bs (i + 1) := by
  have e : List.replicate (64 - i) 0 = 0 :: List.replicate (64 - (i + 1)) 0 := by
    rw [show 64 - i = 64 - (i + 1) + 1 by omega, List.replicate_succ]
  unfold filled
  rw [List.range_succ, List.map_append, e, List.set_append_right _ _ (by simp)]
  simp
theorem or_low2 (a b i : Nat) (h : b < 2 ^ i) : (a * 2 ^ i) ||| b = a * 2 ^ i + b := by
  rw [Nat.mul_comm]; exact (Nat.two_pow_add_eq_or_of_lt h a).symm
theorem hw_sum (a b c d : Nat) : a * 2 ^ 24 + b * 65536 = (a * 256 + b) * 2 ^ 16 ∧ (a * 256 + b) * 2 ^ 16 + c * 256 = ((a * 256 + b) * 256 + c) * 2 ^ 8 ∧ ((a * 256 + b) * 256 + c) * 2 ^ 8 + d = ((a * 256 + b) * 256 + c) * 256 + d := by
  refine ⟨by omega, ?_, ?_⟩
  · rw [show (2 : Nat) ^ 16 = 65536 from rfl, show (2 : Nat) ^ 8 = 256 from rfl]; omega
  · rw [show (2 : Nat) ^ 8 = 256 from rfl]
theorem downs4_hw (f : Nat → Nat) (hf : ∀ i, f i < 256) : orTo (downs 4) f 4 = ((f 0 * 256 + f 1) * 256 + f 2) * 256 + f 3 := by
  have h0 := hf 0
  have h1 := hf 1
  have h2 := hf 2
  have h3 := hf 3
  have b1 : f 1 * 65536 < 2 ^ 24 := Nat.lt_of_lt_of_le (Nat.mul_lt_mul_of_pos_right h1 (by decide)) (by decide)
  have b2 : f 2 * 256 < 2 ^ 16 := Nat.lt_of_lt_of_le (Nat.mul_lt_mul_of_pos_right h2 (by decide)) (by decide)
  obtain ⟨g1, g2, g3⟩ := hw_sum (f 0) (f 1) (f 2) (f 3)
  have e : orTo (downs 4) f 4 = (((f 0 * 2 ^ 24) ||| f 1 * 65536) ||| f 2 * 256) ||| f 3 := by
    show (((0 ||| f 0 * 2 ^ 24) ||| f 1 * 65536) ||| f 2 * 256) ||| f 3 * 1 = _
    rw [Nat.zero_or, Nat.mul_one]
  rw [e, or_low2 _ _ 24 b1, g1, or_low2 _ _ 16 b2, g2, or_low2 _ _ 8 (by exact h3), g3]
theorem filled_all (bs : List Nat) (hx : ∀ x ∈ bs, x < 256) : filled bs 16 = fill (blockWords bs) 0 := by
  unfold filled fill blockWords wordsAt
  congr 1
  refine List.map_congr_left fun j hj => ?_
  have hj : j < 16 := List.mem_range.1 hj
  unfold wordAt
  rw [show min 4 (4 * 16 - j * 4) = 4 by omega, downs4_hw _ (fun i => getD_byte bs hx _), Nat.mul_comm j 4]
  simp [hw]
end Go.Proofs.YtlifpplhinmajaaGreatDoor

namespace Go.Proofs.YtlifpplhinmajaaGreatDoor
set_option maxRecDepth 50000
open Go.RowKit Rot Sha

theorem text_at (s : ByteArray) (q : Nat) (h : q < s.size) : (s[q]).toNat = (nats (tl s)).getD q 0 := by
  have h2 : (tl s)[q]? = some s[q] := by
    unfold tl
    rw [Array.getElem?_toList]
    exact Array.getElem?_eq_getElem h
  rw [List.getD_eq_getElem?_getD, nats, List.getElem?_map, h2]
  rfl

set_option maxRecDepth 20000 in
set_option maxHeartbeats 1600000 in
theorem spread_any (s : ByteArray) (hs : s.size = 64) (w : World) :
    Calls Tryz.prog 138 #[.string s] w fun e w' => e = .returned (.agg (wd (sched (blockWords (nats (tl s)))))) ∧ Below w.heap.size w w' := by
  obtain ⟨bs, hbs⟩ : ∃ bs, bs = nats (tl s) := ⟨_, rfl⟩
  have hx : ∀ x ∈ bs, x < 256 := by rw [hbs]; exact nats_lt _
  have HAT := Lib.hid fun (q : Nat) (h : q < s.size) => show (s[q]).toNat = bs.getD q 0 from by rw [hbs]; exact text_at s q h
  have HX := Lib.hid hx
  rw [← hbs]
  clear hbs hx
  obtain ⟨b1, hb1⟩ : ∃ b1, b1 = w.heap.size + 1 := ⟨_, rfl⟩
  have HB1 := Lib.hid hb1
  go_enter Tryz.func138, Tryz.ntmps138
  go_wp2
  generalize hW : World.alloc (World.alloc _ _) _ = W2
  have R1 : RowAt W2 (w.heap.size + 1) 37 (wd (filled bs 0)) := by
    subst hW
    have h0 := RowAt.new (w.alloc (.cells (Array.replicate 64 (.int .u32 0)) 37)) 37 (wd (filled bs 0))
    rw [World.size_alloc] at h0
    exact h0
  have R0 : RowAt W2 w.heap.size 37 (Array.replicate 64 (.int .u32 0)) := by
    subst hW
    exact (RowAt.new w 37 (Array.replicate 64 (.int .u32 0))).alloc _
  have hB : Below w.heap.size w W2 := by
    subst hW
    exact ((Below.refl _ w).alloc (Nat.le_refl _) _).alloc (by simp) _
  clear hW
  have H1 := Lib.hid R1
  have H0 := Lib.hid R0
  have HB := Lib.hid hB
  clear R1 R0 hB
  go_loopw [4] (fun v4 wr => ∃ i : Nat, i ≤ 16 ∧ v4 = .int .i64 (i : Int) ∧ RowAt wr (w.heap.size + 1) 37 (wd (filled bs i)) ∧ RowAt wr w.heap.size 37 (Array.replicate 64 (.int .u32 0)) ∧ Below w.heap.size w wr) (fun v4 _ => 16 - (intOf v4).toNat)
  case atStart => exact ⟨0, by omega, rfl, H1.out, H0.out, HB.out⟩
  case round =>
    clear H1 H0 HB
    obtain ⟨i, hi, rfl, R1, R0, hB⟩ := hrel
    have H1 := Lib.hid R1
    have H0 := Lib.hid R0
    have HB := Lib.hid hB
    clear R1 R0 hB
    by_cases hlt : i < 16
    · have hdt : decide ((i : Int) < 16) = true := by simp; omega
      go_wp2
      go_loopw [5] (fun v5 wr => ∃ k : Nat, k ≤ 4 ∧ v5 = .int .i64 (k : Int) ∧ RowAt wr (w.heap.size + 1) 37 (wd ((filled bs i).set i (hw bs i k))) ∧ RowAt wr w.heap.size 37 (Array.replicate 64 (.int .u32 0)) ∧ Below w.heap.size w wr) (fun v5 _ => 4 - (intOf v5).toNat)
      case atStart => exact ⟨0, by omega, rfl, by rw [hw, filled_zero bs i (by omega)]; exact H1.out, H0.out, HB.out⟩
      case round =>
        clear H1 H0 HB
        obtain ⟨k, hk, rfl, R1, R0, hB⟩ := hrel
        have H0 := Lib.hid R0
        have HB := Lib.hid hB
        have H1 := Lib.hid R1
        by_cases hkl : k < 4
        · have hlen : ((filled bs i).set i (hw bs i k)).length = 64 := by rw [List.length_set]; exact filled_length bs i (by omega)
          have ci := (R1.cell i).trans (wd_at _ i (by omega))
          have fi := R1.frozen i
          have hg : ((filled bs i).set i (hw bs i k)).getD i 0 = hw bs i k := by
            rw [List.getD_eq_getElem?_getD, List.getElem?_set_self (by rw [filled_length bs i (by omega)]; omega)]; rfl
          rw [hg] at ci
          have hlw := hw_lt bs HX.out i k
          have hp : 256 ^ k ≤ 256 ^ 3 := Nat.pow_le_pow_right (by decide) (by omega)
          have hy : hw bs i k < 16777216 := Nat.lt_of_lt_of_le hlw hp
          have HF : Hid (hw bs i (k + 1) = hw bs i k * 256 + bs.getD (4 * i + k) 0) := Lib.hid rfl
          have hbb := getD_byte bs HX.out (4 * i + k)
          obtain ⟨q4, hq4⟩ : ∃ q4, q4 = 4 * i := ⟨_, rfl⟩
          obtain ⟨q, hq⟩ : ∃ q, q = q4 + k := ⟨_, rfl⟩
          rw [← hq4, ← hq] at HF hbb
          have hqs : q < s.size := by omega
          have hsq := HAT.out q hqs
          have hix := fun (W : World) => show (Instr.index 9 (.string s) (.int .i64 (q : Int))).run Tryz.prog W = .ok (.int .u8 (bs.getD q 0 : Nat)) W from by
            rw [run_index_string W _ s .i64 q Tryz.underlying9, dif_pos (by omega)]
            simp only [Int.toNat_natCast, hsq]
          clear R1 R0 hB hlen hg hlw hp
          generalize hw bs i k = y at *
          generalize bs.getD q 0 = b at *
          obtain ⟨y2, hy2⟩ : ∃ y2, y2 = y * 256 := ⟨_, rfl⟩
          obtain ⟨z, hz⟩ : ∃ z, z = y2 + b := ⟨_, rfl⟩
          have e1 : IntKind.i64.wrap (4 * (i : Int)) = (q4 : Int) := by rw [IntWalk.i64_in _ (by omega)]; omega
          have e2 : IntKind.i64.wrap ((q4 : Int) + (k : Int)) = (q : Int) := by rw [IntWalk.i64_in _ (by omega)]; omega
          have e3 : IntKind.u32.wrap ((y : Int) * 256) = (y2 : Int) := by rw [IntKind.wrap_u32]; omega
          have e4 : IntKind.u32.wrap ((y2 : Int) + (b : Int)) = (z : Int) := by rw [IntKind.wrap_u32]; omega
          have e5 : IntKind.u32.wrap (b : Int) = (b : Int) := by rw [IntKind.wrap_u32]; omega
          have e6 : IntKind.i64.wrap (i : Int) = (i : Int) := IntWalk.i64_in _ (by omega)
          have e7 : IntKind.i64.wrap (q : Int) = (q : Int) := IntWalk.i64_in _ (by omega)
          have n1 : (0 : Int) ≤ (i : Int) := by omega
          have n2 : (i : Int) < 64 := by omega
          have n3 : (0 : Int) ≤ (q : Int) := by omega
          have n4 : (q : Int) < (s.size : Int) := by omega
          have hkt : decide ((k : Int) < 4) = true := by simp; omega
          have ki : ∀ tp d os out, (World.mk wr.heap tp d os out).cell? ⟨w.heap.size + 1, i, none⟩ = some (.int .u32 (y : Int)) := fun _ _ _ _ => ci
          have HZ := Lib.hid (And.intro hz (And.intro hy2 HF.out))
          have HKL := Lib.hid hkl
          clear hz hy2 HF hq hq4 hkl
          go_wp2
          refine wp_region_still_tail 14 (by kernel_rfl) (by kernel_rfl) ?_
          simp only [List.take_succ_cons, List.take_zero, List.drop_succ_cons, List.drop_zero]
          repeat still_step
          refine wpStill_nil ?_
          change wpList _ _ _ _ _ wr.drew
          go_wp2
          go_roundw
          case rel =>
            refine ⟨k + 1, HKL.out, by go_num, ?_, (H0.out.drew).setOther _ (by simp) _, (HB.out.drew.setCell (by simp) _)⟩
            obtain ⟨g1, g2, g3⟩ := HZ.out
            have e : (filled bs i).set i (hw bs i (k + 1)) = ((filled bs i).set i y).set i z := by
              rw [g3, ← g2, ← g1, List.set_set]
            rw [e, ← wd_set]
            exact (H1.out.drew).setCell i _
          case measure => have := HKL.out; simp [intOf]; omega
        · obtain rfl : k = 4 := by omega
          have hkt : decide (((4 : Nat) : Int) < 4) = false := by simp
          clear R1 R0 hB
          go_wp2
          go_roundw
          case rel => exact ⟨i + 1, by omega, by go_num, by rw [← filled_next bs i (by omega)]; exact H1.out, H0.out, HB.out⟩
          case measure => simp [intOf]; omega
    · obtain rfl : i = 16 := by omega
      have hdt : decide (((16 : Nat) : Int) < 16) = false := by simp
      have hfa := filled_all bs HX.out
      rw [hfa] at H1
      have HO := Lib.hid (blockWords_length bs)
      have HW := Lib.hid (blockWords_lt bs HX.out)
      clear hfa
      go_wp2
      go_loopg [6] 48 (fun g v6 wr => ∃ j : Nat, j + g = 48 ∧ v6 = .int .i64 ((16 + j : Nat) : Int) ∧ RowAt wr (w.heap.size + 1) 37 (wd (fill (blockWords bs) j)) ∧ RowAt wr w.heap.size 37 (Array.replicate 64 (.int .u32 0)) ∧ Below w.heap.size w wr)
      case atStart => exact ⟨0, by omega, rfl, H1.out, H0.out, HB.out⟩
      case round =>
        clear H1 H0 HB
        obtain ⟨j, hj, rfl, R1, R0, hB⟩ := hrel
        have hlen := fill_length (blockWords bs) HO.out j
        have hlt := fill_lt (blockWords bs) HW.out j
        have H1 := Lib.hid R1
        have H0 := Lib.hid R0
        have HB := Lib.hid hB
        by_cases h : j < 48
        · obtain ⟨g2, rfl⟩ : ∃ g2, gk = g2 + 1 := ⟨gk - 1, by omega⟩
          obtain ⟨i, hi⟩ : ∃ i, i = 16 + j := ⟨_, rfl⟩
          have HJ := Lib.hid hj
          have hi1 : 16 ≤ i := by omega
          have hi2 : i < 64 := by omega
          have c15 := (R1.cell (i - 15)).trans (wd_at _ _ (by omega))
          have c2 := (R1.cell (i - 2)).trans (wd_at _ _ (by omega))
          have c16 := (R1.cell (i - 16)).trans (wd_at _ _ (by omega))
          have c7 := (R1.cell (i - 7)).trans (wd_at _ _ (by omega))
          have ci := (R1.cell i).trans (wd_at _ _ (by omega))
          have fi := R1.frozen i
          have b15 := getD_lt_of _ hlt (i - 15)
          have b2 := getD_lt_of _ hlt (i - 2)
          have HE : Hid (fill (blockWords bs) (j + 1) = (fill (blockWords bs) j).set i (add (add (add ((fill (blockWords bs) j).getD (i - 16) 0) ((fill (blockWords bs) j).getD (i - 7) 0)) (s0 ((fill (blockWords bs) j).getD (i - 15) 0))) (s1 ((fill (blockWords bs) j).getD (i - 2) 0)))) := Lib.hid (by rw [hi]; rfl)
          rw [← hi]
          clear R1 R0 hB hlen hlt
          generalize (fill (blockWords bs) j).getD (i - 15) 0 = x15 at *
          generalize (fill (blockWords bs) j).getD (i - 2) 0 = x2 at *
          generalize (fill (blockWords bs) j).getD (i - 16) 0 = x16 at *
          generalize (fill (blockWords bs) j).getD (i - 7) 0 = x7 at *
          generalize (fill (blockWords bs) j).getD i 0 = xi at *
          obtain ⟨p15, hp15⟩ : ∃ p, p = i - 15 := ⟨_, rfl⟩
          obtain ⟨p2, hp2⟩ : ∃ p, p = i - 2 := ⟨_, rfl⟩
          obtain ⟨p16, hp16⟩ : ∃ p, p = i - 16 := ⟨_, rfl⟩
          obtain ⟨p7, hp7⟩ : ∃ p, p = i - 7 := ⟨_, rfl⟩
          rw [← hp15] at c15
          rw [← hp2] at c2
          rw [← hp16] at c16
          rw [← hp7] at c7
          have q15 : (i : Int) - 15 = (p15 : Int) := by omega
          have q2 : (i : Int) - 2 = (p2 : Int) := by omega
          have q16 : (i : Int) - 16 = (p16 : Int) := by omega
          have q7 : (i : Int) - 7 = (p7 : Int) := by omega
          have v15 : IntKind.i64.wrap (p15 : Int) = (p15 : Int) := IntWalk.i64_in _ (by omega)
          have v2 : IntKind.i64.wrap (p2 : Int) = (p2 : Int) := IntWalk.i64_in _ (by omega)
          have v16 : IntKind.i64.wrap (p16 : Int) = (p16 : Int) := IntWalk.i64_in _ (by omega)
          have v7 : IntKind.i64.wrap (p7 : Int) = (p7 : Int) := IntWalk.i64_in _ (by omega)
          have vi : IntKind.i64.wrap (i : Int) = (i : Int) := IntWalk.i64_in _ (by omega)
          have n15 : (p15 : Int) < 64 := by omega
          have n2 : (p2 : Int) < 64 := by omega
          have n16 : (p16 : Int) < 64 := by omega
          have n7 : (p7 : Int) < 64 := by omega
          have ni : (i : Int) < 64 := by omega
          have z15 : (0 : Int) ≤ (p15 : Int) := by omega
          have z2 : (0 : Int) ≤ (p2 : Int) := by omega
          have z16 : (0 : Int) ≤ (p16 : Int) := by omega
          have z7 : (0 : Int) ≤ (p7 : Int) := by omega
          have zi : (0 : Int) ≤ (i : Int) := by omega
          have k15 : ∀ tp d os out, (World.mk wr.heap tp d os out).cell? ⟨w.heap.size + 1, p15, none⟩ = some (.int .u32 (x15 : Int)) := fun _ _ _ _ => c15
          have k2 : ∀ tp d os out, (World.mk wr.drew.heap tp d os out).cell? ⟨w.heap.size + 1, p2, none⟩ = some (.int .u32 (x2 : Int)) := fun _ _ _ _ => c2
          have k16 : ∀ tp d os out, (World.mk wr.drew.drew.heap tp d os out).cell? ⟨w.heap.size + 1, p16, none⟩ = some (.int .u32 (x16 : Int)) := fun _ _ _ _ => c16
          have k7 : ∀ tp d os out, (World.mk wr.drew.drew.heap tp d os out).cell? ⟨w.heap.size + 1, p7, none⟩ = some (.int .u32 (x7 : Int)) := fun _ _ _ _ => c7
          have ki : ∀ tp d os out, (World.mk wr.drew.drew.heap tp d os out).cell? ⟨w.heap.size + 1, i, none⟩ = some (.int .u32 (xi : Int)) := fun _ _ _ _ => ci
          have kf : ∀ tp d os out, (World.mk wr.drew.drew.heap tp d os out).frozen? ⟨w.heap.size + 1, i, none⟩ = false := fun _ _ _ _ => fi
          have HI := Lib.hid (show i = 16 + j from hi)
          have hdt : decide ((i : Int) < 64) = true := by simp; omega
          obtain ⟨z8, hz8⟩ : ∃ z8, z8 = x15 / 8 := ⟨_, rfl⟩
          obtain ⟨z10, hz10⟩ : ∃ z10, z10 = x2 / 1024 := ⟨_, rfl⟩
          have r7 := fun w => refr_n 7 25 25 rfl rfl x15 b15 w
          have r18 := fun w => refr_n 18 14 14 rfl rfl x15 b15 w
          have r17 := fun w => refr_n 17 15 15 rfl rfl x2 b2 w
          have r19 := fun w => refr_n 19 13 13 rfl rfl x2 b2 w
          have r3 : ∀ W : World, Calls Tryz.prog 142 #[.int .u32 (x15 : Int), .int .i64 3] W fun e w' => e = .returned (.int .u32 (z8 : Int)) ∧ W = w' := fun W => by rw [hz8]; exact shift_any 3 (by omega) x15 b15 W
          have r10 : ∀ W : World, Calls Tryz.prog 142 #[.int .u32 (x2 : Int), .int .i64 10] W fun e w' => e = .returned (.int .u32 (z10 : Int)) ∧ W = w' := fun W => by rw [hz10]; exact shift_any 10 (by omega) x2 b2 W
          have HS := And.intro (Lib.hid r7) (And.intro (Lib.hid r18) (And.intro (Lib.hid r3) (And.intro (Lib.hid r17) (And.intro (Lib.hid r19) (Lib.hid r10)))))
          have hv0 : bits .xor .u32 (bits .xor .u32 (rotl 32 x15 25 : Nat) (rotl 32 x15 14 : Nat)) (z8 : Int) = ((s0 x15 : Nat) : Int) := by
            rw [rot3 x15 25 14 z8 (by omega) (by omega) b15 (by omega), hz8]; rfl
          have hv1 : bits .xor .u32 (bits .xor .u32 (rotl 32 x2 15 : Nat) (rotl 32 x2 13 : Nat)) (z10 : Int) = ((s1 x2 : Nat) : Int) := by
            rw [rot3 x2 15 13 z10 (by omega) (by omega) b2 (by omega), hz10]; rfl
          have HV := And.intro (Lib.hid hv0) (Lib.hid hv1)
          clear r7 r18 r17 r19 r3 r10 c15 c2 c16 c7 ci fi hp15 hp2 hp16 hp7 hi hz8 hz10 hj hv0 hv1
          go_wp2
          refine wp_region_still_tail 17 (by kernel_rfl) (by kernel_rfl) ?_
          simp only [List.take_succ_cons, List.take_zero, List.drop_succ_cons, List.drop_zero]
          repeat still_step
          still_call ((HS.1.out _).mono fun _ _ h => And.intro h.1 h.2.symm)
          repeat still_step
          still_call ((HS.2.1.out _).mono fun _ _ h => And.intro h.1 h.2.symm)
          repeat still_step
          still_call ((HS.2.2.1.out _).mono fun _ _ h => And.intro h.1 h.2.symm)
          repeat still_step
          refine wpStill_nil ?_
          change wpList _ _ _ _ _ wr.drew
          rw [HV.1.out]
          go_wp2
          refine wp_region_still_tail 17 (by kernel_rfl) (by kernel_rfl) ?_
          simp only [List.take_succ_cons, List.take_zero, List.drop_succ_cons, List.drop_zero]
          repeat still_step
          still_call ((HS.2.2.2.1.out _).mono fun _ _ h => And.intro h.1 h.2.symm)
          repeat still_step
          still_call ((HS.2.2.2.2.1.out _).mono fun _ _ h => And.intro h.1 h.2.symm)
          repeat still_step
          still_call ((HS.2.2.2.2.2.out _).mono fun _ _ h => And.intro h.1 h.2.symm)
          repeat still_step
          refine wpStill_nil ?_
          change wpList _ _ _ _ _ wr.drew.drew
          rw [HV.2.out]
          generalize s0 x15 = X0 at *
          generalize s1 x2 = X1 at *
          have hvv : IntKind.u32.wrap (IntKind.u32.wrap (IntKind.u32.wrap ((x16 : Int) + (x7 : Int)) + (X0 : Int)) + (X1 : Int)) = ((add (add (add x16 x7) X0) X1 : Nat) : Int) := by rw [wadd, wadd, wadd]
          go_wp2
          refine wp_region_still_tail 15 (by kernel_rfl) (by kernel_rfl) ?_
          simp only [List.take_succ_cons, List.take_zero, List.drop_succ_cons, List.drop_zero]
          repeat still_step
          refine wpStill_nil ?_
          change wpList _ _ _ _ _ wr.drew.drew.drew
          go_wp2
          go_roundg g2
          case measure => omega
          case rel =>
            refine ⟨j + 1, by have := HJ.out; omega, by have := HI.out; go_num, ?_, H0.out.drew.drew.drew.setOther _ (by simp) _, below_drewN HB.out 3 |>.setCell (by simp) _⟩
            rw [HE.out, ← wd_set]
            exact H1.out.drew.drew.drew.setCell i _
        · obtain rfl : j = 48 := by omega
          have hs64 : (wd (fill (blockWords bs) 48)).size = 64 := by rw [wd_size]; exact hlen
          have HS := Lib.hid hs64
          have hdt : decide (((16 + 48 : Nat) : Int) < 64) = false := by simp
          clear R1 R0 hB hlen hlt hs64
          go_wp2_with (first
            | refine wpList_load_row rfl 37 (.tmp 3) rfl (w.heap.size + 1) rfl 37 (wd (fill (blockWords bs) 48)) (0, 0) _ H1.out Tryz.underlying37 rfl (by rw [HS.out]; exact size64) ?_
            | refine wpList_store_row rfl 37 (.tmp 2) (.tmp 84) rfl w.heap.size (wd (fill (blockWords bs) 48)) rfl rfl 37 _ H0.out (by rw [HS.out]; exact size64) (by rw [HS.out]; rfl) (wd_one _) ?_)
          have hR := H0.out.setRow (wd (fill (blockWords bs) 48))
          refine bodyPost_ret (v := .agg (wd (sched (blockWords bs)))) (results_cell_row rfl _ _ w.heap.size 37 (wd (fill (blockWords bs) 48)) (0, 0) _ rfl hR Tryz.underlying37 rfl (by rw [HS.out]; exact size64)) rfl ⟨rfl, ?_⟩
          exact below_setRow HB.out (Nat.le_refl _) _
end Go.Proofs.YtlifpplhinmajaaGreatDoor

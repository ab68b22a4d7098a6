/- A grid's first blocks, by their contracts. Conditions: those typed. -/
import Derived.Deep.LoopGhost
import Derived.Deep.CutBlock
import Derived.Deep.CutRange
import Derived.WalkMore
import Derived.Deep.RegionWith
import Derived.Test.YtfoodaobiknihaaGreatDoorGe
import Derived.Test.YtfoodaobiknihaaGreatDoorBm
import Derived.Test.YtfoodaobiknihaaGreatDoorLy
namespace Go.Proofs.YtfoodaobiknihaaGreatDoor
set_option maxRecDepth 50000
open Go.RowKit Bb Bl
def fS (s : ByteArray) (i k : Nat) : List UInt8 := longL 1024 (tl s ++ (lead k ++ lead i))
def fB (s : ByteArray) (i k : Nat) : List Nat := frB (nb (tx (fS s i k)))
theorem fB_ok (s : ByteArray) (i k : Nat) : okb (fB s i k) := frB_ok _ (nb_lt _)
set_option maxHeartbeats 6400000 in
theorem gfirst_any (s : ByteArray) (hs : s.size ≤ 1000) (i k : Nat) (hi : i ≤ 1000) (hk : k ≤ 1000) (w : World) (hK : QAt w) : Calls Tryz.prog 31 #[.string s, .int .i64 (i : Int), .int .i64 (k : Int)] w fun e w' => e = .returned (.agg (wq (fB s i k))) ∧ Below w.heap.size w w' := by
  have hz := zero_b
  obtain ⟨B, hB⟩ : ∃ B, B = fB s i k := ⟨_, rfl⟩
  have HBO : Hid (okb B) := Lib.hid (by rw [hB]; exact fB_ok s i k)
  rw [← hB]
  obtain ⟨T, hT⟩ : ∃ T, T = tx (fS s i k) := ⟨_, rfl⟩
  have htl : tl s = s.data.toList := rfl
  have hsl : (tl s).length ≤ 1000 := by rw [htl, Array.length_toList]; exact hs
  have hl8 : (tl s ++ (lead k ++ lead i)).length ≤ 100000 := by rw [List.length_append, List.length_append, lead_length, lead_length]; omega
  have hTs : T.size = 1024 := by rw [hT]; exact longL_tx 1024 (by decide) _ hl8
  have CF := Lib.hid (from_any T hTs)
  have hBT : B = frB (nb T) := by rw [hB, hT]; rfl
  rw [← hBT] at CF
  have h1 : IntKind.u32.wrap (k : Int) = (k : Int) := by rw [IntKind.wrap_u32]; omega
  have h2 : IntKind.u32.wrap (i : Int) = (i : Int) := by rw [IntKind.wrap_u32]; omega
  obtain ⟨w1, e1⟩ : ∃ w1, w1 = w.alloc (.cells (wq zb) 83) := ⟨_, rfl⟩
  have b1 : Below w.heap.size w w1 := by rw [e1]; exact one_box _ _
  have r1 : RowAt w1 w.heap.size 83 (wq zb) := by rw [e1]; exact RowAt.new _ _ _
  have b2 : Below w1.heap.size w1 (w1.alloc (.cells #[.int .u32 (k : Int), .int .u32 (i : Int)] 88)) := one_box _ _
  have CL := Lib.hid (little32_any (some ⟨w1.heap.size, 0, none⟩) 2 [k, i] (w1.alloc (.cells #[.int .u32 (k : Int), .int .u32 (i : Int)] 88)) (fun j hj => by
    have hj2 : j < 2 := by simpa [u32s] using hj
    refine ⟨w1.heap.size, 0, rfl, by simp, ?_⟩
    rw [Nat.zero_add, (RowAt.new w1 88 #[.int .u32 (k : Int), .int .u32 (i : Int)]).cell j]
    rcases (show j = 0 ∨ j = 1 by omega) with rfl | rfl <;> rfl) (by simp) (fun x hx => by simp at hx; omega))
  have HK := Lib.hid hK
  have HB1 := Lib.hid b1
  have HR1 := Lib.hid r1
  have HB2 := Lib.hid (below_step b1 b2)
  have E1 := Lib.hid e1
  have HS1 : Hid (w.heap.size + 1 = w1.heap.size) := Lib.hid (by rw [e1, World.size_alloc])
  have HT := Lib.hid hT
  have HL8 := Lib.hid hl8
  clear hK hB hT b1 b2 r1 e1 hBT htl hsl hl8 hTs hs
  go_enter Tryz.func31, Tryz.ntmps31
  go_wp2_with fail
  rw [← E1.out, HS1.out]
  refine CL.out.mono ?_
  rintro e w2 ⟨v, rfl, hown, hb⟩
  have e4 : u8s ([k, i].flatMap (bytesOf ups 4)) = cs (lead k ++ lead i) := by
    rw [show cs (lead k ++ lead i) = cs (lead k) ++ cs (lead i) by simp [cs], ← lead_cs, ← lead_cs]
    simp [u8s]
  rw [e4] at hown
  obtain ⟨A', c', rfl, -, _, _⟩ := own_form hown
  have hcv : (convert 86 9 (.slice A' 8 c')).run Tryz.prog w2 = .ok (.string (tx (lead k ++ lead i))) w2 := conv_text _ hown
  have HB3 := Lib.hid (below_step HB2.out hb)
  have HR3 := Lib.hid (RowAt.step HR1.out (below_step (one_box _ _) hb))
  clear CL hown hb HB2 HR1 E1 e4
  obtain ⟨U, hU⟩ : ∃ U, U = tx (lead k ++ lead i) := ⟨_, rfl⟩
  rw [← hU] at hcv
  have CB := Lib.hid (block_any (w2.alloc (.cells #[.string s, .string U] 9)) (HK.out.next (below_step HB3.out (one_box _ _))) (some ⟨w2.heap.size, 0, none⟩) 2 [s, U] (fun j hj => by
    have hj2 : j < 2 := by simpa [stv] using hj
    refine ⟨w2.heap.size, 0, rfl, by simp, ?_⟩
    rw [Nat.zero_add, (RowAt.new w2 9 #[.string s, .string U]).cell j]
    rcases (show j = 0 ∨ j = 1 by omega) with rfl | rfl <;> rfl) (by rw [jn_two, hU, tl_tx]; exact HL8.out) (by simp))
  rw [jn_two, hU, tl_tx, show tx (longL 1024 (tl s ++ (lead k ++ lead i))) = T from HT.out.symm, ← hU] at CB
  have HB4 := Lib.hid (below_step HB3.out (one_box w2 (.cells #[.string s, .string U] 9)))
  have HR4 := Lib.hid (RowAt.step HR3.out (one_box w2 (.cells #[.string s, .string U] 9)))
  clear hU HB3 HR3 HT HL8 HK
  go_wp2_with fail
  refine CB.out.mono ?_
  rintro e w3 ⟨rfl, hb⟩
  have HB5 := Lib.hid (below_step HB4.out hb)
  have HR5 := Lib.hid (RowAt.step HR4.out hb)
  clear CB hb HB4 HR4 hcv
  go_wp2_with fail
  refine (CF.out _).mono ?_
  rintro e w4 ⟨rfl, hb⟩
  have hb2 := below_step hb (set_below w4 B)
  have HST := Lib.hid (set_new w4 HBO.out.1)
  have HB6 := Lib.hid (below_step HB5.out hb2)
  have HR6 := Lib.hid (RowAt.step HR5.out hb2)
  have HX6 := Lib.hid (RowAt.setRow (RowAt.new w4 83 (wq zb)) (wq B))
  clear CF hb hb2 HB5 HR5
  go_upto_region 2 with (refine wpList_store_of rfl _ _ _ rfl ⟨w4.heap.size, 0, none⟩ _ rfl rfl HST.out ?_)
  clear HST
  generalize World.setRow _ _ _ = w5 at *
  generalize w4.heap.size = X at *
  have kX := RowAt.load HX6.out Tryz.underlying83 (by rw [wq_size, HBO.out.1]; exact b_size)
  have HST := Lib.hid (HR6.out.store (C' := wq B) (by rw [wq_size, HBO.out.1]; exact b_size) (by rw [wq_size, wq_size, HBO.out.1]; exact zb_ok.1) (wq_one _))
  go_wp2_with (first
    | refine wpList_load_want rfl 83 _ rfl _ _ rfl kX ?_
    | refine wpList_store_of rfl _ _ _ rfl ⟨w.heap.size, 0, none⟩ _ rfl rfl HST.out ?_)
  have hR := RowAt.setRow HR6.out (wq B)
  refine bodyPost_ret (v := .agg (wq B)) (results_cell_row rfl _ _ w.heap.size 83 _ (0, 0) _ rfl hR Tryz.underlying83 rfl (by rw [wq_size, HBO.out.1]; exact b_size)) rfl ⟨rfl, ?_⟩
  exact below_setRow HB6.out (Nat.le_refl _) _
open Go.RowKit Bb Bl
def begIn (s : ByteArray) (c : Nat) (M : List (List Nat)) (i : Nat) : Nat → List (List Nat)
  | 0 => M
  | k + 1 => (begIn s c M i k).set (i * c + k) (fB s i k)
def begTo (s : ByteArray) (c : Nat) (L : List (List Nat)) : Nat → List (List Nat)
  | 0 => L
  | n + 1 => begIn s c (begTo s c L n) n 2
theorem begIn_len (s : ByteArray) (c : Nat) (M : List (List Nat)) (i : Nat) : ∀ k, (begIn s c M i k).length = M.length
  | 0 => rfl
  | k + 1 => by rw [begIn, List.length_set]; exact begIn_len s c M i k
theorem begTo_len (s : ByteArray) (c : Nat) (L : List (List Nat)) : ∀ n, (begTo s c L n).length = L.length
  | 0 => rfl
  | n + 1 => by rw [begTo, begIn_len]; exact begTo_len s c L n
section
variable {w : World} {q p h G a t l m b c g z : Nat} {L : List (List Nat)}
set_option maxHeartbeats 6400000 in
theorem begin_any {N0 : Nat} (h0 : 1 < N0) (hN0 : N0 ≤ G) (hk : QAt w) (hG : GrAt w q p h G a t l m b c g z L) (hl : l ≤ 1000) (hc0 : 2 ≤ c) (hc : c ≤ 4194304) (hL : L.length = l * c) (hLm : L.length ≤ 4194304) (s : ByteArray) (hs : s.size ≤ 1000) :
    Calls Tryz.prog 12 #[.pointer (some ⟨q, 0, none⟩), .string s] w fun e w' => e = .returned (.int .i64 0) ∧ GrAt w' q p h G a t l m b c g z (begTo s c L l) ∧ Kept (fun j => j = G) w w' := by
  have hGw : G < w.heap.size := hG.live.blk.lt
  have HQ : Hid (∀ u, Kept (fun j => j = G) w u → QAt u) := Lib.hid fun u hu => hk.below (hu.below (B := N0) (by omega) fun x hx => by omega) h0
  have k0 := hG.row.lanes
  have HG := Lib.hid hG
  have HL := Lib.hid hL
  have HLm := Lib.hid hLm
  have HS := Lib.hid hs
  clear hk hG hL hLm hs
  go_enter Tryz.func12, Tryz.ntmps12
  go_wp2
  go_loopw [15] (fun v15 wr => ∃ i : Nat, i ≤ l ∧ v15 = .int .i64 (i : Int) ∧ Hid (GrAt wr q p h G a t l m b c g z (begTo s c L i)) ∧ Hid (Kept (fun j => j = G) w wr)) (fun v15 _ => l - (intOf v15).toNat)
  case atStart => exact ⟨0, Nat.zero_le _, rfl, HG, Lib.hid (Kept.refl _ _)⟩
  case round =>
    obtain ⟨i, hi, rfl, HGi, HKi⟩ := hrel
    clear k0
    by_cases hil : i < l
    · have hd1 : decide ((i : Int) < (l : Int)) = true := by simp; omega
      have hd2 : decide (i < l) = true := by simp; omega
      have hic : (i + 1) * c ≤ l * c := Nat.mul_le_mul_right c hil
      rw [Nat.add_mul, Nat.one_mul, ← HL.out, ← begTo_len s c L i] at hic
      have HIC := Lib.hid hic
      have HLL := Lib.hid (begTo_len s c L i)
      have HE : Hid (begTo s c L (i + 1) = begIn s c (begTo s c L i) i 2) := Lib.hid rfl
      generalize begTo s c L i = M at *
      clear hic
      go_wp2
      go_loopw [18] (fun v18 wr => ∃ k : Nat, k ≤ 2 ∧ v18 = .int .i64 (k : Int) ∧ Hid (GrAt wr q p h G a t l m b c g z (begIn s c M i k)) ∧ Hid (Kept (fun j => j = G) w wr)) (fun v18 _ => 2 - (intOf v18).toNat)
      case atStart => exact ⟨0, Nat.zero_le _, rfl, HGi, HKi⟩
      case round =>
        obtain ⟨k, hk, rfl, HGk, HKk⟩ := hrel
        by_cases hk2 : k < 2
        · have hd3 : decide ((k : Int) < 2) = true := by simp; omega
          have hd4 : decide (k < 2) = true := by simp; omega
          obtain ⟨n, hn⟩ : ∃ n, n = i * c + k := ⟨_, rfl⟩
          have hnL : n < (begIn s c M i k).length := by rw [begIn_len, hn]; have := HIC.out; omega
          have CF := Lib.hid (gfirst_any s HS.out i k (by omega) (by omega) wr (HQ.out _ HKk.out))
          have HX := Lib.hid (fB_ok s i k)
          have HB2 : Hid (begIn s c M i (k + 1) = (begIn s c M i k).set n (fB s i k)) := Lib.hid (by rw [begIn, hn])
          have HMl := Lib.hid (show (begIn s c M i k).length ≤ 4194304 by rw [begIn_len, HLL.out]; exact HLm.out)
          have HNL := Lib.hid hnL
          have HN := Lib.hid hn.symm
          clear hn hnL
          generalize fB s i k = x at *
          go_wp2_with (refine wpList_value_want rfl _ (so_run rfl rfl rfl) ?_)
          refine CF.out.mono ?_
          rintro e w2 ⟨rfl, hb⟩
          have CS := Lib.hid (gstore_any (HGk.out.step hb) (by omega) (by omega) i k n hil (by omega) HN.out HNL.out HMl.out HX.out)
          have HK2 := Lib.hid (HKk.out.trans (Kept.of_below (M := fun j => j = G) hb) fun _ _ h => h)
          clear CF hb HGk HKk
          go_wp2_with fail
          refine CS.out.mono ?_
          rintro e w3 ⟨rfl, hg, hkk⟩
          rw [← HB2.out] at hg
          have HG3 := Lib.hid hg
          have HK3 := Lib.hid (HK2.out.trans hkk fun _ _ h => h)
          clear CS hg hkk HK2
          go_wp2
          go_roundw
          case rel => exact ⟨k + 1, by omega, by go_num, HG3, HK3⟩
          case measure => simp [intOf]; omega
        · obtain rfl : k = 2 := by omega
          go_wp2
          go_roundw
          case rel => exact ⟨i + 1, by omega, by go_num, Lib.hid (by rw [HE.out]; exact HGk.out), HKk⟩
          case measure => simp [intOf]; omega
    · obtain rfl : i = l := by omega
      have hd1 : decide ((i : Int) < (i : Int)) = false := by simp
      go_wp2
      go_ret
      exact ⟨rfl, HGi.out, HKi.out⟩
end
end Go.Proofs.YtfoodaobiknihaaGreatDoor

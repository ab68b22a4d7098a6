/- The document's Reckoned by its contract: the constants that are known. No condition. -/
import Derived.Test.YtdgfdgdekocodaaDoorShComp
import Derived.Test.YtdgfdgdekocodaaDoorRtBitsV
namespace Go.Proofs.YtdgfdgdekocodaaDoor
open Go.RowKit Sha

theorem size72r : (Tryd.prog.info? 31).map (·.size) = some 72 := by kernel_rfl
/-- the i-th number's first 32 bits behind its root's point are those of C, for all i below m -/
def chkBits (t : Nat) (P C : List Nat) (m : Nat) : Bool := (List.range m).all fun i => decide (C.getD i 0 < 4294967296) && (List.range 40).any fun W => decide ((4294967296 * W + C.getD i 0) ^ t ≤ 4294967296 ^ t * P.getD i 0) && decide (4294967296 ^ t * P.getD i 0 < (4294967296 * W + C.getD i 0 + 1) ^ t)
theorem chk_is {t m : Nat} {P C : List Nat} (h : chkBits t P C m = true) (i : Nat) (hi : i < m) : IsBits t (P.getD i 0) (C.getD i 0) := by
  have h1 := List.all_eq_true.1 h i (List.mem_range.2 hi)
  simp only [Bool.and_eq_true, decide_eq_true_eq, List.any_eq_true] at h1
  obtain ⟨h2, W, _, h3, h4⟩ := h1
  exact ⟨h2, W, h3, h4⟩
def P64 : List Nat := [2, 3, 5, 7, 11, 13, 17, 19, 23, 29, 31, 37, 41, 43, 47, 53, 59, 61, 67, 71, 73, 79, 83, 89, 97, 101, 103, 107, 109, 113, 127, 131, 137, 139, 149, 151, 157, 163, 167, 173, 179, 181, 191, 193, 197, 199, 211, 223, 227, 229, 233, 239, 241, 251, 257, 263, 269, 271, 277, 281, 283, 293, 307, 311]
theorem first64 : firstP 64 = P64 := by kernel_rfl
theorem kk_bits : chkBits 3 P64 kk 64 = true := by kernel_rfl
theorem hh_bits : chkBits 2 P64 hh 8 = true := by kernel_rfl
theorem p64_lt : ∀ x ∈ P64, x ≤ 1300 := by decide
theorem p64_getD (i : Nat) : P64.getD i 0 ≤ 1300 := by
  rw [List.getD_eq_getElem?_getD]
  by_cases hi : i < P64.length
  · rw [List.getElem?_eq_getElem hi]; exact p64_lt _ (List.getElem_mem hi)
  · rw [List.getElem?_eq_none (by omega)]; decide
theorem int_read {w : World} {B : Nat} {A : Option Addr} {l : List Nat} (h : Reads w B A (ints l)) (i : Nat) (hi : i < l.length) : ∃ b off, A = some ⟨b, off, none⟩ ∧ b < B ∧ w.cell? ⟨b, off + i, none⟩ = some (.int .i64 (l.getD i 0 : Nat)) := by
  obtain ⟨b, off, e, hb, hc⟩ := h i (by rw [ints_length]; exact hi)
  refine ⟨b, off, e, hb, ?_⟩
  rw [hc, int_at, List.getD_eq_getElem?_getD, List.getElem?_eq_getElem hi]
  rfl
def allF : List Nat := kk ++ hh
def partF (i : Nat) : List Nat := allF.take i ++ List.replicate (72 - i) 0
theorem partF_length (i : Nat) (h : i ≤ 72) : (partF i).length = 72 := by
  have : allF.length = 72 := rfl
  simp [partF, this]; omega
theorem partF_set (i : Nat) (h : i < 72) : (partF i).set i (allF.getD i 0) = partF (i + 1) := by
  have hl : allF.length = 72 := rfl
  have e : List.replicate (72 - i) 0 = 0 :: List.replicate (72 - (i + 1)) 0 := by
    rw [show 72 - i = 72 - (i + 1) + 1 by omega, List.replicate_succ]
  have ht : (allF.take i).length = i := by rw [List.length_take]; omega
  unfold partF
  rw [e, List.set_append_right _ _ (by omega), ht, Nat.sub_self, List.set_cons_zero, List.take_succ_eq_append_getElem (by omega : i < allF.length), List.append_assoc]
  rw [List.getD_eq_getElem?_getD, List.getElem?_eq_getElem (by omega : i < allF.length)]
  rfl
theorem partF_all : partF 72 = kk ++ hh := by
  have hl : allF.length = 72 := rfl
  unfold partF
  rw [← hl, List.take_length, Nat.sub_self]; simp [allF]
theorem allF_k (i : Nat) (h : i < 64) : allF.getD i 0 = kk.getD i 0 := by
  unfold allF
  rw [List.getD_eq_getElem?_getD, List.getElem?_append_left (show i < kk.length from h), ← List.getD_eq_getElem?_getD]
theorem allF_h (i : Nat) : allF.getD (64 + i) 0 = hh.getD i 0 := by
  unfold allF
  rw [List.getD_eq_getElem?_getD, List.getElem?_append_right (show kk.length ≤ 64 + i from Nat.le_add_right 64 i), show 64 + i - kk.length = i from Nat.add_sub_cancel_left 64 i, ← List.getD_eq_getElem?_getD]

set_option maxRecDepth 20000 in
set_option maxHeartbeats 4000000 in
theorem reck_any (w : World) : Calls Tryd.prog 9 #[] w fun e w' => e = .returned (.agg (wd (kk ++ hh))) ∧ Below w.heap.size w w' := by
  have HP := Lib.hid partF_all
  rw [← partF_all]
  have hz := (zero_of_info (P := Tryd.prog) (t := 31) (v := .agg (wd (partF 0))) (n := 72) (by kernel_rfl)).1
  go_enter Tryd.func9, Tryd.ntmps9
  go_wp2_with fail
  refine (first_any 64 (by omega) _).mono ?_
  rintro e w1 ⟨v, rfl, hown, hb1⟩
  rw [first64] at hown
  obtain ⟨A, c, rfl, k1, k2, k3⟩ := own_form hown
  have hrd := Reads.of_own hown
  clear k1 k2 k3
  have R0 : RowAt w1 w.heap.size 31 (wd (partF 0)) := (RowAt.new w 31 (Array.replicate 72 (.int .u32 0))).below hb1 (by simp)
  have hB : Below w.heap.size w w1 := ((Below.refl _ w).alloc (Nat.le_refl _) _).trans (hb1.mono (by simp))
  have hsz : w.heap.size + 1 ≤ w1.heap.size := by have := hb1.size; simpa using this
  have H0 := Lib.hid R0
  have HB := Lib.hid hB
  have HR := Lib.hid hrd
  clear R0 hB hb1 hrd hown
  go_wp2
  generalize hW : World.alloc _ _ = w2
  have R1 : RowAt w2 w1.heap.size 31 (wd (partF 0)) := by subst hW; exact RowAt.new _ _ _
  have hb2 : Below w1.heap.size w1 w2 := by subst hW; exact (Below.refl _ _).alloc (Nat.le_refl _) _
  have H1 := Lib.hid R1
  have H02 := Lib.hid (H0.out.below hb2 (by omega))
  have HB2 := Lib.hid (HB.out.trans (hb2.mono (by omega)))
  have HR2 := Lib.hid ((HR.out.below hb2))
  obtain ⟨B, hBdef⟩ : ∃ B, B = w1.heap.size := ⟨_, rfl⟩
  rw [← hBdef] at H1 HR2 ⊢
  have hB0 : w.heap.size < B := by omega
  clear hW R1 hb2 H0 HB HR hsz hBdef
  go_loopg [3] 64 (fun g v3 wr => ∃ i : Nat, i + g = 64 ∧ v3 = .int .i64 (i : Int) ∧ RowAt wr B 31 (wd (partF i)) ∧ Below B w2 wr)
  case atStart => exact ⟨0, rfl, rfl, H1.out, Below.refl _ _⟩
  case round =>
    obtain ⟨i, hi, rfl, Rr, hbr⟩ := hrel
    have HRr := Lib.hid Rr
    have HBr := Lib.hid hbr
    by_cases h : i < 64
    · obtain ⟨g2, rfl⟩ : ∃ g2, gk = g2 + 1 := ⟨gk - 1, by omega⟩
      obtain ⟨b, off, rfl, hbB, hc⟩ := int_read HR2.out i h
      have hc2 := (hbr.cell (p := ⟨b, off + i, none⟩) hbB).trans hc
      have CB := Lib.hid fun (W : World) => bits_any (P64.getD i 0) 3 (p64_getD i) (by omega) (by omega) W
      have HI := Lib.hid fun (c : Nat) (hc : IsBits 3 (P64.getD i 0) c) => bits_one hc (chk_is kk_bits i h)
      have HS := Lib.hid (partF_set i (by omega))
      have HK := Lib.hid (allF_k i h)
      have HJ := Lib.hid (And.intro hi h)
      have hlen := partF_length i (by omega)
      have hdt : decide ((i : Int) < 64) = true := by simp; omega
      have n2 : (i : Int) < 64 := by omega
      have n3 : i < 64 := by omega
      clear hc Rr hbr hi h
      generalize P64.getD i 0 = p at *
      go_wp2_with fail
      refine (CB.out _).mono ?_
      rintro e w3 ⟨cc, rfl, hib, hb3⟩
      have hcc := HI.out cc hib
      have hcb : cc < 4294967296 := hib.1
      have hvc : IntKind.u32.wrap (cc : Int) = (cc : Int) := by rw [IntKind.wrap_u32]; omega
      have R3 := HRr.out.below hb3 HRr.out.lt
      have ck := (R3.cell i).trans (wd_at _ i (by have := HJ.out.2; omega))
      have fk := R3.frozen i
      have HB3 := Lib.hid (HBr.out.trans (hb3.mono (by have := HRr.out.lt; omega)))
      have HR3 := Lib.hid R3
      have HCC := Lib.hid (And.intro hcc hcb)
      clear hb3 hib hcc R3 hlen
      generalize (partF i).getD i 0 = old at *
      go_wp2
      go_roundg g2
      case measure => omega
      case rel =>
        obtain ⟨j1, j2⟩ := HJ.out
        refine ⟨i + 1, by omega, by go_num, ?_, HB3.out.setCell (Nat.le_refl _) _⟩
        rw [← HS.out, HK.out, ← HCC.out.1, ← wd_set]
        exact HR3.out.setCell i _
    · obtain rfl : i = 64 := by omega
      have hdt : decide (((64 : Nat) : Int) < 64) = false := by simp
      clear Rr hbr h hi
      go_wp2
      go_loopg [4] 8 (fun g v4 wr => ∃ i : Nat, i + g = 8 ∧ v4 = .int .i64 (i : Int) ∧ RowAt wr B 31 (wd (partF (64 + i))) ∧ Below B w2 wr)
      case atStart => exact ⟨0, rfl, rfl, HRr.out, HBr.out⟩
      case round =>
        clear HRr HBr
        obtain ⟨i, hi, rfl, Rr, hbr⟩ := hrel
        have HRr := Lib.hid Rr
        have HBr := Lib.hid hbr
        by_cases h : i < 8
        · obtain ⟨g2, rfl⟩ : ∃ g2, gk = g2 + 1 := ⟨gk - 1, by omega⟩
          have h64 : i < P64.length := by show i < 64; omega
          obtain ⟨b, off, rfl, hbB, hc⟩ := int_read HR2.out i h64
          have hc2 := (hbr.cell (p := ⟨b, off + i, none⟩) hbB).trans hc
          have CB := Lib.hid fun (W : World) => bits_any (P64.getD i 0) 2 (p64_getD i) (by omega) (by omega) W
          have HI := Lib.hid fun (c : Nat) (hc : IsBits 2 (P64.getD i 0) c) => bits_one hc (chk_is hh_bits i h)
          have HS := Lib.hid (partF_set (64 + i) (by omega))
          have HK := Lib.hid (allF_h i)
          have HJ := Lib.hid (And.intro hi h)
          have hlen := partF_length (64 + i) (by omega)
          have hdt : decide ((i : Int) < 8) = true := by simp; omega
          have n2 : (i : Int) < 64 := by omega
          have n3 : i < 8 := by omega
          clear hc Rr hbr hi h h64
          generalize P64.getD i 0 = p at *
          go_wp2_with fail
          refine (CB.out _).mono ?_
          rintro e w3 ⟨cc, rfl, hib, hb3⟩
          have hcc := HI.out cc hib
          have hcb : cc < 4294967296 := hib.1
          have hvc : IntKind.u32.wrap (cc : Int) = (cc : Int) := by rw [IntKind.wrap_u32]; omega
          have R3 := HRr.out.below hb3 HRr.out.lt
          have ck := (R3.cell (64 + i)).trans (wd_at _ (64 + i) (by have := HJ.out.2; omega))
          have fk := R3.frozen (64 + i)
          have HB3 := Lib.hid (HBr.out.trans (hb3.mono (by have := HRr.out.lt; omega)))
          have HR3 := Lib.hid R3
          have HCC := Lib.hid (And.intro hcc hcb)
          clear hb3 hib hcc R3 hlen
          generalize (partF (64 + i)).getD (64 + i) 0 = old at *
          go_wp2
          go_roundg g2
          case measure => omega
          case rel =>
            obtain ⟨j1, j2⟩ := HJ.out
            refine ⟨i + 1, by omega, by go_num, ?_, HB3.out.setCell (Nat.le_refl _) _⟩
            rw [show 64 + (i + 1) = 64 + i + 1 from rfl, ← HS.out, HK.out, ← HCC.out.1, ← wd_set]
            exact HR3.out.setCell (64 + i) _
        · obtain rfl : i = 8 := by omega
          have hdt : decide (((8 : Nat) : Int) < 8) = false := by simp
          have hs72 : (wd (partF (64 + 8))).size = 72 := by rw [wd_size]; exact partF_length 72 (by omega)
          have HS := Lib.hid hs72
          have H0q := Lib.hid (H02.out.below hbr hB0)
          clear Rr hbr h hi hs72
          go_wp2_with (first
            | refine wpList_load_row rfl 31 (.tmp 2) rfl B rfl 31 (wd (partF (64 + 8))) (0, 0) _ HRr.out Tryd.underlying31 rfl (by rw [HS.out]; exact size72r) ?_
            | refine wpList_store_row rfl 31 (.tmp 0) (.tmp 32) rfl w.heap.size (wd (partF (64 + 8))) rfl rfl 31 _ H0q.out (by rw [HS.out]; exact size72r) (by rw [HS.out, wd_size]; exact partF_length 0 (by omega)) (wd_one _) ?_)
          have hR := H0q.out.setRow (wd (partF (64 + 8)))
          refine bodyPost_ret (v := .agg (wd (partF 72))) (results_cell_row rfl _ _ w.heap.size 31 (wd (partF 72)) (0, 0) _ rfl hR Tryd.underlying31 rfl (by have := HS.out; rw [this]; exact size72r)) rfl ⟨rfl, ?_⟩
          exact below_setRow (HB2.out.trans (HBr.out.mono (by omega))) (by omega) _
end Go.Proofs.YtdgfdgdekocodaaDoor

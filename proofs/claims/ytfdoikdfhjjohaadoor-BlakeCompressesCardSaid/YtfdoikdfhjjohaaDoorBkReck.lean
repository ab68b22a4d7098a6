/- The document's Reckoned by its contract: the words that a state begins with. No condition. -/
import Derived.Test.YtfdoikdfhjjohaaDoorBkAt
import Derived.Test.YtfdoikdfhjjohaaDoorRtBits64
namespace Go.Proofs.YtfdoikdfhjjohaaDoor
set_option maxRecDepth 50000
open Go.RowKit Bl

/-- the i-th number's first 64 bits behind its root's point are those of C, for all i below m -/
def chkBits64 (t : Nat) (P C : List Nat) (m : Nat) : Bool := (List.range m).all fun i => decide (C.getD i 0 < 18446744073709551616) && (List.range 10).any fun W => decide ((18446744073709551616 * W + C.getD i 0) ^ t ≤ 18446744073709551616 ^ t * P.getD i 0) && decide (18446744073709551616 ^ t * P.getD i 0 < (18446744073709551616 * W + C.getD i 0 + 1) ^ t)
theorem chk_is64 {t m : Nat} {P C : List Nat} (h : chkBits64 t P C m = true) (i : Nat) (hi : i < m) : IsBits64 t (P.getD i 0) (C.getD i 0) := by
  have h1 := List.all_eq_true.1 h i (List.mem_range.2 hi)
  simp only [Bool.and_eq_true, decide_eq_true_eq, List.any_eq_true] at h1
  obtain ⟨h2, W, _, h3, h4⟩ := h1
  exact ⟨h2, W, h3, h4⟩
def P8 : List Nat := [2, 3, 5, 7, 11, 13, 17, 19]
theorem first8 : firstP 8 = P8 := by kernel_rfl
theorem iv_bits : chkBits64 2 P8 iv 8 = true := by kernel_rfl
theorem p8_lt : ∀ x ∈ P8, x ≤ 1300 := by decide
theorem p8_getD (i : Nat) : P8.getD i 0 ≤ 1300 := by
  rw [List.getD_eq_getElem?_getD]
  by_cases hi : i < P8.length
  · rw [List.getElem?_eq_getElem hi]; exact p8_lt _ (List.getElem_mem hi)
  · rw [List.getElem?_eq_none (by omega)]; decide
theorem int_read8 {w : World} {B : Nat} {A : Option Addr} {l : List Nat} (h : Reads w B A (ints l)) (i : Nat) (hi : i < l.length) : ∃ b off, A = some ⟨b, off, none⟩ ∧ b < B ∧ w.cell? ⟨b, off + i, none⟩ = some (.int .i64 (l.getD i 0 : Nat)) := by
  obtain ⟨b, off, e, hb, hc⟩ := h i (by rw [ints_length]; exact hi)
  refine ⟨b, off, e, hb, ?_⟩
  rw [hc, int_at, List.getD_eq_getElem?_getD, List.getElem?_eq_getElem hi]
  rfl
def partI (i : Nat) : List Nat := iv.take i ++ List.replicate (8 - i) 0
theorem partI_length (i : Nat) (h : i ≤ 8) : (partI i).length = 8 := by
  have : iv.length = 8 := rfl
  simp [partI, this]; omega
theorem partI_set (i : Nat) (h : i < 8) : (partI i).set i (iv.getD i 0) = partI (i + 1) := by
  have hl : iv.length = 8 := rfl
  have e : List.replicate (8 - i) 0 = 0 :: List.replicate (8 - (i + 1)) 0 := by
    rw [show 8 - i = 8 - (i + 1) + 1 by omega, List.replicate_succ]
  have ht : (iv.take i).length = i := by rw [List.length_take]; omega
  unfold partI
  rw [e, List.set_append_right _ _ (by omega), ht, Nat.sub_self, List.set_cons_zero, List.take_succ_eq_append_getElem (by omega : i < iv.length), List.append_assoc]
  rw [List.getD_eq_getElem?_getD, List.getElem?_eq_getElem (by omega : i < iv.length)]
  rfl
theorem partI_all : partI 8 = iv := rfl
theorem q_fixed8 : (Tryd.prog.info? 29).map (·.size) = some 8 := by kernel_rfl

set_option maxHeartbeats 4000000 in
theorem reck_any (w : World) : Calls Tryd.prog 9 #[] w fun e w' => e = .returned (.agg (wq iv)) ∧ Below w.heap.size w w' := by
  have HP := Lib.hid partI_all
  rw [← partI_all]
  go_enter Tryd.func9, Tryd.ntmps9
  go_wp2_with fail
  refine (first_any 8 (by omega) _).mono ?_
  rintro e w1 ⟨v, rfl, hown, hb1⟩
  rw [first8] at hown
  obtain ⟨A, c, rfl, k1, k2, k3⟩ := own_form hown
  have hrd := Reads.of_own hown
  clear k1 k2 k3
  have R0 : RowAt w1 w.heap.size 29 (wq (partI 0)) := (RowAt.new w 29 (wq (partI 0))).below hb1 (by simp)
  have hB : Below w.heap.size w w1 := ((Below.refl _ w).alloc (Nat.le_refl _) _).trans (hb1.mono (by simp))
  have hsz : w.heap.size + 1 ≤ w1.heap.size := by have := hb1.size; simpa using this
  have H0 := Lib.hid R0
  have HB := Lib.hid hB
  have HR := Lib.hid hrd
  clear R0 hB hb1 hrd hown
  go_wp2
  generalize hW : World.alloc _ _ = w2
  have R1 : RowAt w2 w1.heap.size 29 (wq (partI 0)) := by subst hW; exact RowAt.new _ _ _
  have hb2 : Below w1.heap.size w1 w2 := by subst hW; exact (Below.refl _ _).alloc (Nat.le_refl _) _
  have H1 := Lib.hid R1
  have H02 := Lib.hid (H0.out.below hb2 (by omega))
  have HB2 := Lib.hid (HB.out.trans (hb2.mono (by omega)))
  have HR2 := Lib.hid ((HR.out.below hb2))
  obtain ⟨B, hBdef⟩ : ∃ B, B = w1.heap.size := ⟨_, rfl⟩
  rw [← hBdef] at H1 HR2 ⊢
  have hB0 : w.heap.size < B := by omega
  clear hW R1 hb2 H0 HB HR hsz hBdef
  go_loopg [3] 8 (fun g v3 wr => ∃ i : Nat, i + g = 8 ∧ v3 = .int .i64 (i : Int) ∧ RowAt wr B 29 (wq (partI i)) ∧ Below B w2 wr)
  case atStart => exact ⟨0, rfl, rfl, H1.out, Below.refl _ _⟩
  case round =>
    obtain ⟨i, hi, rfl, Rr, hbr⟩ := hrel
    have HRr := Lib.hid Rr
    have HBr := Lib.hid hbr
    by_cases h : i < 8
    · obtain ⟨g2, rfl⟩ : ∃ g2, gk = g2 + 1 := ⟨gk - 1, by omega⟩
      obtain ⟨b, off, rfl, hbB, hc⟩ := int_read8 HR2.out i h
      have hc2 := (hbr.cell (p := ⟨b, off + i, none⟩) hbB).trans hc
      have CB := Lib.hid fun (W : World) => bits_any64 (P8.getD i 0) 2 (p8_getD i) (by omega) (by omega) W
      have HI := Lib.hid fun (c : Nat) (hc : IsBits64 2 (P8.getD i 0) c) => bits_one64 hc (chk_is64 iv_bits i h)
      have HS := Lib.hid (partI_set i (by omega))
      have HJ := Lib.hid (And.intro hi h)
      have hlen := partI_length i (by omega)
      have hdt : decide ((i : Int) < 8) = true := by simp; omega
      have n2 : (i : Int) < 8 := by omega
      clear hc Rr hbr hi
      generalize P8.getD i 0 = p at *
      go_wp2_with fail
      refine (CB.out _).mono ?_
      rintro e w3 ⟨cc, rfl, hib, hb3⟩
      have hcc := HI.out cc hib
      have hcb : cc < 18446744073709551616 := hib.1
      have R3 := HRr.out.below hb3 HRr.out.lt
      have ck := (R3.cell i).trans (wq_at _ i (by have := HJ.out.2; omega))
      have fk := R3.frozen i
      have HB3 := Lib.hid (HBr.out.trans (hb3.mono (by have := HRr.out.lt; omega)))
      have HR3 := Lib.hid R3
      have HCC := Lib.hid (And.intro hcc hcb)
      clear hb3 hib hcc R3 hlen
      generalize (partI i).getD i 0 = old at *
      go_wp2
      go_roundg g2
      case measure => omega
      case rel =>
        obtain ⟨j1, j2⟩ := HJ.out
        refine ⟨i + 1, by omega, by go_num, ?_, HB3.out.setCell (Nat.le_refl _) _⟩
        rw [← HS.out, ← HCC.out.1, ← wq_set]
        exact HR3.out.setCell i _
    · obtain rfl : i = 8 := by omega
      have hdt : decide (((8 : Nat) : Int) < 8) = false := by simp
      have hs8 : (wq (partI 8)).size = 8 := by rw [wq_size]; exact partI_length 8 (by omega)
      have HS := Lib.hid hs8
      have H0q := Lib.hid (H02.out.below hbr hB0)
      clear Rr hbr h hi hs8
      go_wp2_with (first
        | refine wpList_load_row rfl 29 (.tmp 2) rfl B rfl 29 (wq (partI 8)) (0, 0) _ HRr.out Tryd.underlying29 rfl (by rw [HS.out]; exact q_fixed8) ?_
        | refine wpList_store_row rfl 29 (.tmp 0) (.tmp 16) rfl w.heap.size (wq (partI 8)) rfl rfl 29 _ H0q.out (by rw [HS.out]; exact q_fixed8) (by rw [HS.out, wq_size]; exact partI_length 0 (by omega)) (wq_one _) ?_)
      have hR := H0q.out.setRow (wq (partI 8))
      refine bodyPost_ret (v := .agg (wq (partI 8))) (results_cell_row rfl _ _ w.heap.size 29 (wq (partI 8)) (0, 0) _ rfl hR Tryd.underlying29 rfl (by have := HS.out; rw [this]; exact q_fixed8)) rfl ⟨rfl, ?_⟩
      exact below_setRow (HB2.out.trans (HBr.out.mono (by omega))) (by omega) _
end Go.Proofs.YtfdoikdfhjjohaaDoor

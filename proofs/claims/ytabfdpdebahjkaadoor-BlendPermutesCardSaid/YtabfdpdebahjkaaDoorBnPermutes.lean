/- The law BlendPermutes by the calls' contracts. Condition: the package's tables read as they were laid. -/
import Derived.Test.YtabfdpdebahjkaaDoorBnAwake
import Derived.Test.YtabfdpdebahjkaaDoorBnSame
namespace Go.Proofs.YtabfdpdebahjkaaDoor
set_option maxRecDepth 50000
open Go.RowKit Rot Bb Bn

set_option maxHeartbeats 3200000 in
theorem permutes28_any {v : List Nat} (hv : v.length = 16) (ho : okw v) (w : World) (ht : TAt w) : Calls Tryd.prog 3 #[.agg (wq v)] w fun e w' => e = .returned (.bool true) ∧ Below w.heap.size w w' := by
  have HTT := Lib.hid ht
  have HR := Lib.hid (RowAt.new w 23 (wq v))
  have HB := Lib.hid ((Below.refl _ w).alloc (Nat.le_refl _) (.cells (wq v) 23))
  have CA := Lib.hid awake28_any
  have HSV : Hid ((wq v).size = 16) := Lib.hid (by rw [wq_size]; exact hv)
  have HVL : Hid ((perm v).length = 16) := Lib.hid (by rw [perm_length]; exact hv)
  have HVO := Lib.hid (perm_ok ho)
  have CPM := Lib.hid fun w (ht : TAt w) => permute_any v hv ho w ht.1
  have CRP : Hid (∀ w : World, Calls Tryd.prog 10 #[.agg (wq v)] w fun e w' => ∃ x, e = .returned x ∧ Is (.agg (wq (perm v))) x w' ∧ Below w.heap.size w w') := Lib.hid fun w => (rpermute_any v hv ho w).mono fun e w' h => ⟨_, h.1, rfl, h.2⟩
  obtain ⟨Q0, hQ0⟩ : ∃ q : Q, q = ⟨v.getD 0 0, v.getD 1 0, v.getD 2 0, v.getD 3 0⟩ := ⟨_, rfl⟩
  have hq : Q0.ok := by rw [hQ0]; exact ⟨ho.at_ 0, ho.at_ 1, ho.at_ 2, ho.at_ 3⟩
  have CQ := Lib.hid fun w => quarter_any Q0 hq w
  have CRQ : Hid (∀ w : World, Calls Tryd.prog 8 #[.agg (wq Q0.list)] w fun e w' => ∃ x, e = .returned x ∧ Is (.agg (wq (quarter Q0).list)) x w' ∧ Below w.heap.size w w') := Lib.hid fun w => (rquarter_any Q0 hq w).mono fun e w' h => ⟨_, h.1, rfl, h.2⟩
  have hqo := quarter_ok hq
  generalize quarter Q0 = Q1 at *
  have HC : Hid (∀ (w' : World) (b : Nat), RowAt w' b 23 (wq v) → w'.cell? ⟨b, 0, none⟩ = some (.int .u64 ((v.getD 0 0 : Nat) : Int)) ∧ w'.cell? ⟨b, 1, none⟩ = some (.int .u64 ((v.getD 1 0 : Nat) : Int)) ∧ w'.cell? ⟨b, 2, none⟩ = some (.int .u64 ((v.getD 2 0 : Nat) : Int)) ∧ w'.cell? ⟨b, 3, none⟩ = some (.int .u64 ((v.getD 3 0 : Nat) : Int))) := Lib.hid fun w' b h =>
    ⟨(h.cell 0).trans (wq_at v 0 (by omega)), (h.cell 1).trans (wq_at v 1 (by omega)), (h.cell 2).trans (wq_at v 2 (by omega)), (h.cell 3).trans (wq_at v 3 (by omega))⟩
  subst hQ0
  clear hv ho ht hq
  generalize v.getD 0 0 = va at *
  generalize v.getD 1 0 = vb at *
  generalize v.getD 2 0 = vc at *
  generalize v.getD 3 0 = vd at *
  obtain ⟨qa, qb, qc, qd⟩ := Q1
  obtain ⟨k1, k2, k3, k4⟩ := hqo
  simp only [Q.list] at CQ CRQ k1 k2 k3 k4
  have HQO : Hid (okw [qa, qb, qc, qd]) := Lib.hid fun x hx => by
    simp only [List.mem_cons, List.not_mem_nil, or_false] at hx
    rcases hx with rfl | rfl | rfl | rfl
    · exact k1
    · exact k2
    · exact k3
    · exact k4
  clear k1 k2 k3 k4
  generalize perm v = V at *
  obtain ⟨b1, hb1⟩ : ∃ b, b = w.heap.size := ⟨_, rfl⟩
  rw [← hb1] at HR
  go_enter Tryd.func3, Tryd.ntmps3
  go_wp2_with fail
  rw [← hb1]
  refine (CA.out _ (HTT.out.next HB.out)).mono ?_
  rintro e w2 ⟨rfl, hb2⟩
  have HR2 := Lib.hid (HR.out.below hb2 HR.out.lt)
  have B2 := Lib.hid (below_step HB.out hb2)
  clear hb2 HR HB CA hb1
  obtain ⟨c0, c1, c2, c3⟩ := HC.out w2 b1 HR2.out
  go_wp2_with fail
  refine (CQ.out _).mono ?_
  rintro e w3 ⟨rfl, rfl⟩
  clear c0 c1 c2 c3 CQ
  have HF : Hid (∀ w' : World, Below w2.heap.size w2 w' → RowAt w' b1 23 (wq v) ∧ w'.cell? ⟨b1, 0, none⟩ = some (.int .u64 (va : Int)) ∧ w'.cell? ⟨b1, 1, none⟩ = some (.int .u64 (vb : Int)) ∧ w'.cell? ⟨b1, 2, none⟩ = some (.int .u64 (vc : Int)) ∧ w'.cell? ⟨b1, 3, none⟩ = some (.int .u64 (vd : Int))) := Lib.hid fun w' hb => ⟨HR2.out.below hb HR2.out.lt, HC.out w' b1 (HR2.out.below hb HR2.out.lt)⟩
  have CP : Hid (∀ w' : World, Below w2.heap.size w2 w' → Calls Tryd.prog 9 #[.agg (wq v)] w' fun e w3 => ∃ x, e = .returned x ∧ Is (.agg (wq V)) x w3 ∧ Below w'.heap.size w' w3) := Lib.hid fun w' hb => (CPM.out w' (HTT.out.next (B2.out.trans (hb.mono B2.out.size)))).mono fun e w' h => ⟨_, h.1, rfl, h.2⟩
  clear HC HR2 CPM HTT
  go_wp2
  refine wp_region_text [Is (.int .u64 (qa : Nat)), Is (.int .u64 (qb : Nat)), Is (.int .u64 (qc : Nat)), Is (.int .u64 (qd : Nat)), Is (.agg (wq [qa, qb, qc, qd])), Is (.pointer (some ⟨b1, 0, none⟩)), Is (.int .u64 (va : Nat)), Is (.pointer (some ⟨b1, 1, none⟩)), Is (.int .u64 (vb : Nat)), Is (.pointer (some ⟨b1, 2, none⟩)), Is (.int .u64 (vc : Nat)), Is (.pointer (some ⟨b1, 3, none⟩)), Is (.int .u64 (vd : Nat)), Is (.agg (wq [va, vb, vc, vd])), Is (.agg (wq [qa, qb, qc, qd])), Is (.bool true), Is (.bool true), Is (.agg (wq v)), Is (.agg (wq V)), Is (.agg (wq v)), Is (.agg (wq V)), Is (.bool true), Is (.bool true), Is (.bool true)] (by kernel_rfl) (by kernel_rfl) rfl ⟨stable_is _, stable_is _, stable_is _, stable_is _, stable_is _, stable_is _, stable_is _, stable_is _, stable_is _, stable_is _, stable_is _, stable_is _, stable_is _, stable_is _, stable_is _, stable_is _, stable_is _, stable_is _, stable_is _, stable_is _, stable_is _, stable_is _, stable_is _, stable_is _, trivial⟩ ⟨?_, ?_, ?_, ?_, ?_, ?_, ?_, ?_, ?_, ?_, ?_, ?_, ?_, ?_, ?_, ?_, ?_, ?_, ?_, ?_, ?_, ?_, ?_, ?_, trivial⟩ ?_
  · intro a w C
    exact part_on (wanted_free rfl _) (op_move (.inl rfl) (C.was 3 (by kernel_rfl)))
  · intro a w C
    exact part_on (wanted_free rfl _) (op_move (.inl rfl) (C.was 4 (by kernel_rfl)))
  · intro a w C
    exact part_on (wanted_free rfl _) (op_move (.inl rfl) (C.was 5 (by kernel_rfl)))
  · intro a w C
    exact part_on (wanted_free rfl _) (op_move (.inl rfl) (C.was 6 (by kernel_rfl)))
  · intro a w C
    exact part_on (wanted_free rfl _) (op_value (bd4_run rfl (C.on (j := 0) (by kernel_rfl) rfl rfl) (C.on (j := 1) (by kernel_rfl) rfl rfl) (C.on (j := 2) (by kernel_rfl) rfl rfl) (C.on (j := 3) (by kernel_rfl) rfl rfl)) rfl)
  · intro a w C
    exact part_on (wanted_free rfl _) (op_value (ix16_run (i := 0) rfl (C.was 1 (by kernel_rfl)) rfl (by decide)) rfl)
  · intro a w C
    exact part_on (wanted_free rfl _) (op_value (ld_run rfl (C.on (j := 5) (by kernel_rfl) rfl rfl) (HF.out _ C.below).2.1) rfl)
  · intro a w C
    exact part_on (wanted_free rfl _) (op_value (ix16_run (i := 1) rfl (C.was 1 (by kernel_rfl)) rfl (by decide)) rfl)
  · intro a w C
    exact part_on (wanted_free rfl _) (op_value (ld_run rfl (C.on (j := 7) (by kernel_rfl) rfl rfl) (HF.out _ C.below).2.2.1) rfl)
  · intro a w C
    exact part_on (wanted_free rfl _) (op_value (ix16_run (i := 2) rfl (C.was 1 (by kernel_rfl)) rfl (by decide)) rfl)
  · intro a w C
    exact part_on (wanted_free rfl _) (op_value (ld_run rfl (C.on (j := 9) (by kernel_rfl) rfl rfl) (HF.out _ C.below).2.2.2.1) rfl)
  · intro a w C
    exact part_on (wanted_free rfl _) (op_value (ix16_run (i := 3) rfl (C.was 1 (by kernel_rfl)) rfl (by decide)) rfl)
  · intro a w C
    exact part_on (wanted_free rfl _) (op_value (ld_run rfl (C.on (j := 11) (by kernel_rfl) rfl rfl) (HF.out _ C.below).2.2.2.2) rfl)
  · intro a w C
    exact part_on (wanted_free rfl _) (op_value (bd4_run rfl (C.on (j := 6) (by kernel_rfl) rfl rfl) (C.on (j := 8) (by kernel_rfl) rfl rfl) (C.on (j := 10) (by kernel_rfl) rfl rfl) (C.on (j := 12) (by kernel_rfl) rfl rfl)) rfl)
  · intro a w C
    exact part_on (wanted_free rfl _) (op_call1 rfl (reg_enters Tryd.func8 (by kernel_rfl) (by kernel_rfl)) (C.on (j := 13) (by kernel_rfl) rfl rfl) (CRQ.out _))
  · intro a w C
    exact part_on (wanted_free rfl _) (op_value (four_run HQO.out _ rfl _ _ _ rfl (C.on (j := 4) (by kernel_rfl) rfl rfl) (C.on (j := 14) (by kernel_rfl) rfl rfl)) rfl)
  · intro a w C
    exact part_on (wanted_free rfl _) (op_move (.inl rfl) (C.on (j := 15) (by kernel_rfl) rfl rfl))
  · intro a w C
    exact part_on (wanted_on (j := 16) rfl rfl rfl (C.on (j := 16) (by kernel_rfl) rfl rfl)) (op_value (load16_run rfl (C.was 1 (by kernel_rfl)) (HF.out _ C.below).1 HSV.out) rfl)
  · intro a w C
    exact part_on (wanted_on (j := 16) rfl rfl rfl (C.on (j := 16) (by kernel_rfl) rfl rfl)) (op_call1 rfl (reg_enters Tryd.func9 (by kernel_rfl) (by kernel_rfl)) (C.on (j := 17) (by kernel_rfl) rfl rfl) (CP.out _ C.below))
  · intro a w C
    exact part_on (wanted_on (j := 16) rfl rfl rfl (C.on (j := 16) (by kernel_rfl) rfl rfl)) (op_value (load16_run rfl (C.was 1 (by kernel_rfl)) (HF.out _ C.below).1 HSV.out) rfl)
  · intro a w C
    exact part_on (wanted_on (j := 16) rfl rfl rfl (C.on (j := 16) (by kernel_rfl) rfl rfl)) (op_call1 rfl (reg_enters Tryd.func10 (by kernel_rfl) (by kernel_rfl)) (C.on (j := 19) (by kernel_rfl) rfl rfl) (CRP.out _))
  · intro a w C
    exact part_on (wanted_on (j := 16) rfl rfl rfl (C.on (j := 16) (by kernel_rfl) rfl rfl)) (op_value (sixteen_run HVO.out _ HVL.out _ _ _ rfl (C.on (j := 18) (by kernel_rfl) rfl rfl) (C.on (j := 20) (by kernel_rfl) rfl rfl)) rfl)
  · intro a w C
    exact part_on (wanted_free rfl _) (op_pick (k := true) rfl (C.on (j := 16) (by kernel_rfl) rfl rfl) (C.on (j := 21) (by kernel_rfl) rfl rfl))
  · intro a w C
    exact part_on (wanted_free rfl _) (op_move (.inr rfl) (C.on (j := 22) (by kernel_rfl) rfl rfl))
  rintro wF hbF _ rfl _ rfl _ rfl _ rfl _ rfl _ rfl _ rfl _ rfl _ rfl _ rfl _ rfl _ rfl _ rfl _ rfl _ rfl _ rfl _ rfl _ rfl _ rfl _ rfl _ rfl _ rfl _ rfl _ rfl
  simp only [Fin, setAt, Exit.then, List.setIfInBounds_toArray, List.set_cons_succ, List.set_cons_zero]
  go_wp2
  go_ret
  exact ⟨rfl, B2.out.trans (hbF.mono B2.out.size)⟩
end Go.Proofs.YtabfdpdebahjkaaDoor

/- The law BlendTurns by the calls' contracts. Condition: the package's tables read as they were laid. -/
import Derived.Test.YtabfdpdebahjkaaDoorBnAwake
namespace Go.Proofs.YtabfdpdebahjkaaDoor
set_option maxRecDepth 50000
open Go.RowKit Rot Bb Bn

/-- two new blocks -/
theorem two_new (w : World) (x y : List Nat) : RowAt ((w.alloc (.cells (wq x) 32)).alloc (.cells (wq y) 32)) w.heap.size 32 (wq x) ∧
    RowAt ((w.alloc (.cells (wq x) 32)).alloc (.cells (wq y) 32)) (w.heap.size + 1) 32 (wq y) ∧
    Below w.heap.size w ((w.alloc (.cells (wq x) 32)).alloc (.cells (wq y) 32)) := by
  refine ⟨(RowAt.new w _ _).alloc _, ?_, ((Below.refl _ w).alloc (Nat.le_refl _) _).alloc (by simp) _⟩
  have h := RowAt.new (w.alloc (.cells (wq x) 32)) 32 (wq y)
  rw [World.size_alloc] at h; exact h
set_option maxHeartbeats 3200000 in
theorem turns28_any {x y : List Nat} (hx : okb x) (hy : okb y) (w : World) (ht : TAt w) : Calls Tryd.prog 5 #[.agg (wq x), .agg (wq y)] w fun e w' => e = .returned (.bool true) ∧ Below w.heap.size w w' := by
  have HTT := Lib.hid ht
  have H2 := Lib.hid (two_new w x y)
  have CA := Lib.hid awake28_any
  have HXO := Lib.hid hx
  have HYO := Lib.hid hy
  have HSX : Hid ((wq x).size = 128) := Lib.hid (by rw [wq_size]; exact hx.1)
  have HSY : Hid ((wq y).size = 128) := Lib.hid (by rw [wq_size]; exact hy.1)
  have HMO := Lib.hid (mix_ok hx hy)
  have HZO := Lib.hid zb_ok
  have HMS := Lib.hid (mix_swap y x)
  have HMX := Lib.hid (mix_same x)
  have HM1 := Lib.hid (xB_one (mix_ok hx hy))
  clear hx hy ht
  obtain ⟨b2, hb2⟩ : ∃ b, b = w.heap.size := ⟨_, rfl⟩
  obtain ⟨b3, hb3⟩ : ∃ b, b = w.heap.size + 1 := ⟨_, rfl⟩
  have HR2 : Hid (RowAt ((w.alloc (.cells (wq x) 32)).alloc (.cells (wq y) 32)) b2 32 (wq x)) := Lib.hid (by rw [hb2]; exact H2.out.1)
  have HR3 : Hid (RowAt ((w.alloc (.cells (wq x) 32)).alloc (.cells (wq y) 32)) b3 32 (wq y)) := Lib.hid (by rw [hb3]; exact H2.out.2.1)
  go_enter Tryd.func5, Tryd.ntmps5
  go_wp2_with fail
  rw [← hb3, ← hb2]
  refine (CA.out _ (HTT.out.next H2.out.2.2)).mono ?_
  rintro e w2 ⟨rfl, hb⟩
  have HX2 := Lib.hid (HR2.out.below hb HR2.out.lt)
  have HY2 := Lib.hid (HR3.out.below hb HR3.out.lt)
  have B2 := Lib.hid (below_step H2.out.2.2 hb)
  clear hb HR2 HR3 CA hb2 hb3 H2
  have HF : Hid (∀ w' : World, Below w2.heap.size w2 w' → RowAt w' b2 32 (wq x) ∧ RowAt w' b3 32 (wq y)) := Lib.hid fun w' hb => ⟨HX2.out.below hb HX2.out.lt, HY2.out.below hb HY2.out.lt⟩
  have CM : Hid (∀ w' : World, Below w2.heap.size w2 w' → Calls Tryd.prog 12 #[.agg (wq x), .agg (wq y)] w' fun e w3 => ∃ u, e = .returned u ∧ Is (.agg (wq (mix x y))) u w3 ∧ Below w'.heap.size w' w3) := Lib.hid fun w' hb => (mix_any HXO.out HYO.out w' (HTT.out.next (B2.out.trans (hb.mono B2.out.size)))).mono fun e w' h => ⟨_, h.1, rfl, h.2⟩
  have CMS : Hid (∀ w' : World, Below w2.heap.size w2 w' → Calls Tryd.prog 12 #[.agg (wq y), .agg (wq x)] w' fun e w3 => ∃ u, e = .returned u ∧ Is (.agg (wq (mix y x))) u w3 ∧ Below w'.heap.size w' w3) := Lib.hid fun w' hb => (mix_any HYO.out HXO.out w' (HTT.out.next (B2.out.trans (hb.mono B2.out.size)))).mono fun e w' h => ⟨_, h.1, rfl, h.2⟩
  have CXX : Hid (∀ w' : World, Below w2.heap.size w2 w' → Calls Tryd.prog 12 #[.agg (wq x), .agg (wq x)] w' fun e w3 => ∃ u, e = .returned u ∧ Is (.agg (wq (mix x x))) u w3 ∧ Below w'.heap.size w' w3) := Lib.hid fun w' hb => (mix_any HXO.out HXO.out w' (HTT.out.next (B2.out.trans (hb.mono B2.out.size)))).mono fun e w' h => ⟨_, h.1, rfl, h.2⟩
  have CO : Hid (∀ w' : World, Below w2.heap.size w2 w' → Calls Tryd.prog 15 #[.agg (wq x), .agg (wq y), .slice none 0 0] w' fun e w3 => ∃ u, e = .returned u ∧ Is (.agg (wq (xB [mix x y]))) u w3 ∧ Below w'.heap.size w' w3) := Lib.hid fun w' hb => (over_any HXO.out HYO.out (l := []) (by simp) none 0 w' Reads.nil_ (by simp) (HTT.out.next (B2.out.trans (hb.mono B2.out.size)))).mono fun e w' h => ⟨_, h.1, rfl, h.2⟩
  rw [HMS.out] at CMS
  rw [HMX.out] at CXX
  rw [HM1.out] at CO
  generalize mix x y = m at *
  clear HX2 HY2 HTT
  go_wp2
  refine wp_region_text [Is (.agg (wq x)), Is (.agg (wq y)), Is (.agg (wq m)), Is (.agg (wq y)), Is (.agg (wq x)), Is (.agg (wq m)), Is (.bool true), Is (.bool true), Is (.agg (wq x)), Is (.agg (wq x)), Is (.agg (wq zb)), Is (.agg (wq zb)), Is (.bool true), Is (.bool true), Is (.bool true), Is (.agg (wq x)), Is (.agg (wq y)), Is (.agg (wq m)), Is (.agg (wq x)), Is (.agg (wq y)), Is (.agg (wq m)), Is (.bool true), Is (.bool true), Is (.bool true)] (by kernel_rfl) (by kernel_rfl) rfl ⟨stable_is _, stable_is _, stable_is _, stable_is _, stable_is _, stable_is _, stable_is _, stable_is _, stable_is _, stable_is _, stable_is _, stable_is _, stable_is _, stable_is _, stable_is _, stable_is _, stable_is _, stable_is _, stable_is _, stable_is _, stable_is _, stable_is _, stable_is _, stable_is _, trivial⟩ ⟨?_, ?_, ?_, ?_, ?_, ?_, ?_, ?_, ?_, ?_, ?_, ?_, ?_, ?_, ?_, ?_, ?_, ?_, ?_, ?_, ?_, ?_, ?_, ?_, trivial⟩ ?_
  · intro a w C
    exact part_on (wanted_free rfl _) (op_value (bload_run rfl (C.was 2 (by kernel_rfl)) (HF.out _ C.below).1 HSX.out) rfl)
  · intro a w C
    exact part_on (wanted_free rfl _) (op_value (bload_run rfl (C.was 3 (by kernel_rfl)) (HF.out _ C.below).2 HSY.out) rfl)
  · intro a w C
    exact part_on (wanted_free rfl _) (op_call2 rfl (reg_enters Tryd.func12 (by kernel_rfl) (by kernel_rfl)) (C.on (j := 0) (by kernel_rfl) rfl rfl) (C.on (j := 1) (by kernel_rfl) rfl rfl) (CM.out _ C.below))
  · intro a w C
    exact part_on (wanted_free rfl _) (op_value (bload_run rfl (C.was 3 (by kernel_rfl)) (HF.out _ C.below).2 HSY.out) rfl)
  · intro a w C
    exact part_on (wanted_free rfl _) (op_value (bload_run rfl (C.was 2 (by kernel_rfl)) (HF.out _ C.below).1 HSX.out) rfl)
  · intro a w C
    exact part_on (wanted_free rfl _) (op_call2 rfl (reg_enters Tryd.func12 (by kernel_rfl) (by kernel_rfl)) (C.on (j := 3) (by kernel_rfl) rfl rfl) (C.on (j := 4) (by kernel_rfl) rfl rfl) (CMS.out _ C.below))
  · intro a w C
    exact part_on (wanted_free rfl _) (op_value (beql_run _ HMO.out HMO.out (k := true) (by simp) _ _ _ rfl (C.on (j := 2) (by kernel_rfl) rfl rfl) (C.on (j := 5) (by kernel_rfl) rfl rfl)) rfl)
  · intro a w C
    exact part_on (wanted_free rfl _) (op_move (.inl rfl) (C.on (j := 6) (by kernel_rfl) rfl rfl))
  · intro a w C
    exact part_on (wanted_on (j := 7) rfl rfl rfl (C.on (j := 7) (by kernel_rfl) rfl rfl)) (op_value (bload_run rfl (C.was 2 (by kernel_rfl)) (HF.out _ C.below).1 HSX.out) rfl)
  · intro a w C
    exact part_on (wanted_on (j := 7) rfl rfl rfl (C.on (j := 7) (by kernel_rfl) rfl rfl)) (op_value (bload_run rfl (C.was 2 (by kernel_rfl)) (HF.out _ C.below).1 HSX.out) rfl)
  · intro a w C
    exact part_on (wanted_on (j := 7) rfl rfl rfl (C.on (j := 7) (by kernel_rfl) rfl rfl)) (op_call2 rfl (reg_enters Tryd.func12 (by kernel_rfl) (by kernel_rfl)) (C.on (j := 8) (by kernel_rfl) rfl rfl) (C.on (j := 9) (by kernel_rfl) rfl rfl) (CXX.out _ C.below))
  · intro a w C
    exact part_on (wanted_on (j := 7) rfl rfl rfl (C.on (j := 7) (by kernel_rfl) rfl rfl)) (op_value (bbuild_run _ _ rfl) rfl)
  · intro a w C
    exact part_on (wanted_on (j := 7) rfl rfl rfl (C.on (j := 7) (by kernel_rfl) rfl rfl)) (op_value (beql_run _ HZO.out HZO.out (k := true) (by simp) _ _ _ rfl (C.on (j := 10) (by kernel_rfl) rfl rfl) (C.on (j := 11) (by kernel_rfl) rfl rfl)) rfl)
  · intro a w C
    exact part_on (wanted_free rfl _) (op_pick (k := true) rfl (C.on (j := 7) (by kernel_rfl) rfl rfl) (C.on (j := 12) (by kernel_rfl) rfl rfl))
  · intro a w C
    exact part_on (wanted_free rfl _) (op_move (.inl rfl) (C.on (j := 13) (by kernel_rfl) rfl rfl))
  · intro a w C
    exact part_on (wanted_on (j := 14) rfl rfl rfl (C.on (j := 14) (by kernel_rfl) rfl rfl)) (op_value (bload_run rfl (C.was 2 (by kernel_rfl)) (HF.out _ C.below).1 HSX.out) rfl)
  · intro a w C
    exact part_on (wanted_on (j := 14) rfl rfl rfl (C.on (j := 14) (by kernel_rfl) rfl rfl)) (op_value (bload_run rfl (C.was 3 (by kernel_rfl)) (HF.out _ C.below).2 HSY.out) rfl)
  · intro a w C
    exact part_on (wanted_on (j := 14) rfl rfl rfl (C.on (j := 14) (by kernel_rfl) rfl rfl)) (op_call3 rfl (reg_enters Tryd.func15 (by kernel_rfl) (by kernel_rfl)) (C.on (j := 15) (by kernel_rfl) rfl rfl) (C.on (j := 16) (by kernel_rfl) rfl rfl) rfl (CO.out _ C.below))
  · intro a w C
    exact part_on (wanted_on (j := 14) rfl rfl rfl (C.on (j := 14) (by kernel_rfl) rfl rfl)) (op_value (bload_run rfl (C.was 2 (by kernel_rfl)) (HF.out _ C.below).1 HSX.out) rfl)
  · intro a w C
    exact part_on (wanted_on (j := 14) rfl rfl rfl (C.on (j := 14) (by kernel_rfl) rfl rfl)) (op_value (bload_run rfl (C.was 3 (by kernel_rfl)) (HF.out _ C.below).2 HSY.out) rfl)
  · intro a w C
    exact part_on (wanted_on (j := 14) rfl rfl rfl (C.on (j := 14) (by kernel_rfl) rfl rfl)) (op_call2 rfl (reg_enters Tryd.func12 (by kernel_rfl) (by kernel_rfl)) (C.on (j := 18) (by kernel_rfl) rfl rfl) (C.on (j := 19) (by kernel_rfl) rfl rfl) (CM.out _ C.below))
  · intro a w C
    exact part_on (wanted_on (j := 14) rfl rfl rfl (C.on (j := 14) (by kernel_rfl) rfl rfl)) (op_value (beql_run _ HMO.out HMO.out (k := true) (by simp) _ _ _ rfl (C.on (j := 17) (by kernel_rfl) rfl rfl) (C.on (j := 20) (by kernel_rfl) rfl rfl)) rfl)
  · intro a w C
    exact part_on (wanted_free rfl _) (op_pick (k := true) rfl (C.on (j := 14) (by kernel_rfl) rfl rfl) (C.on (j := 21) (by kernel_rfl) rfl rfl))
  · intro a w C
    exact part_on (wanted_free rfl _) (op_move (.inr rfl) (C.on (j := 22) (by kernel_rfl) rfl rfl))
  rintro wF hbF _ rfl _ rfl _ rfl _ rfl _ rfl _ rfl _ rfl _ rfl _ rfl _ rfl _ rfl _ rfl _ rfl _ rfl _ rfl _ rfl _ rfl _ rfl _ rfl _ rfl _ rfl _ rfl _ rfl _ rfl
  simp only [Fin, setAt, Exit.then, List.setIfInBounds_toArray, List.set_cons_succ, List.set_cons_zero]
  go_wp2
  go_ret
  exact ⟨rfl, B2.out.trans (hbF.mono B2.out.size)⟩
end Go.Proofs.YtabfdpdebahjkaaDoor

/- The law BlendMixes by the calls' contracts. Condition: the package's tables read as they were laid. -/
import Derived.Test.YtabfdpdebahjkaaDoorBnTurns
namespace Go.Proofs.YtabfdpdebahjkaaDoor
set_option maxRecDepth 50000
open Go.RowKit Rot Bb Bn

set_option maxHeartbeats 3200000 in
theorem mixes28_any {x y : List Nat} (hx : okb x) (hy : okb y) {l : List (List Nat)} (ho : ∀ b ∈ l, okb b) (A : Option Addr) (c : Nat) (w : World) (hr : Reads w w.heap.size A (bcs l)) (ht : TAt w) : Calls Tryd.prog 4 #[.agg (wq x), .agg (wq y), .slice A l.length c] w fun e w' => e = .returned (.bool true) ∧ Below w.heap.size w w' := by
  have HTT := Lib.hid ht
  have H2 := Lib.hid (two_new w x y)
  have CA := Lib.hid awake28_any
  have HXO := Lib.hid hx
  have HYO := Lib.hid hy
  have HLO := Lib.hid ho
  have HRD := Lib.hid hr
  have HSX : Hid ((wq x).size = 128) := Lib.hid (by rw [wq_size]; exact hx.1)
  have HSY : Hid ((wq y).size = 128) := Lib.hid (by rw [wq_size]; exact hy.1)
  have HMO := Lib.hid (mix_ok hx hy)
  have HWO := Lib.hid (whole_ok hx)
  have CR := Lib.hid fun w => rmix_any hx hy w
  have CRW : Hid (∀ w : World, Calls Tryd.prog 14 #[.agg (wq x)] w fun e w' => ∃ u, e = .returned u ∧ Is (.agg (wq (whole x))) u w' ∧ Below w.heap.size w w') := Lib.hid fun w => (rwhole_any hx w).mono fun e w' h => ⟨_, h.1, rfl, h.2⟩
  have CWW := Lib.hid fun w (ht : TAt w) => whole_any hx w ht
  have CMM := Lib.hid fun w (ht : TAt w) => mix_any hx hy w ht
  have COO : Hid (∀ w : World, Reads w w.heap.size A (bcs l) → l.length ≤ 10 → TAt w → Calls Tryd.prog 15 #[.agg (wq x), .agg (wq y), .slice A l.length c] w fun e w' => e = .returned (.agg (wq (xB (mix x y :: l)))) ∧ Below w.heap.size w w') := Lib.hid fun w hr hl ht => over_any hx hy ho A c w hr (by omega) ht
  have HLA : Hid (∀ b ∈ mix x y :: l, okb b) := Lib.hid fun b hb => by
    rcases List.mem_cons.1 hb with rfl | hb
    · exact HMO.out
    · exact HLO.out b hb
  have hd : (l.length ≤ 10 ∧ decide ((l.length : Int) > 10) = false) ∨ (10 < l.length ∧ decide ((l.length : Int) > 10) = true) := by simp; omega
  clear hx hy ho ht hr
  generalize mix x y = m at *
  generalize whole x = wx at *
  obtain ⟨b3, hb3⟩ : ∃ b, b = w.heap.size := ⟨_, rfl⟩
  obtain ⟨b4, hb4⟩ : ∃ b, b = w.heap.size + 1 := ⟨_, rfl⟩
  have HR3 : Hid (RowAt ((w.alloc (.cells (wq x) 32)).alloc (.cells (wq y) 32)) b3 32 (wq x)) := Lib.hid (by rw [hb3]; exact H2.out.1)
  have HR4 : Hid (RowAt ((w.alloc (.cells (wq x) 32)).alloc (.cells (wq y) 32)) b4 32 (wq y)) := Lib.hid (by rw [hb4]; exact H2.out.2.1)
  go_enter Tryd.func4, Tryd.ntmps4
  go_wp2_with fail
  rw [← hb4, ← hb3]
  refine (CA.out _ (HTT.out.next H2.out.2.2)).mono ?_
  rintro e w2 ⟨rfl, hb⟩
  have HX2 := Lib.hid (HR3.out.below hb HR3.out.lt)
  have HY2 := Lib.hid (HR4.out.below hb HR4.out.lt)
  have B2 := Lib.hid (below_step H2.out.2.2 hb)
  clear hb HR3 HR4 CA hb3 hb4 H2
  rcases hd with ⟨hl, hdl⟩ | ⟨hl, hdl⟩
  · have HL10 := Lib.hid hl
    clear hl
    have hz := zero_b
    have HSM : Hid ((wq m).size = 128) := Lib.hid (by rw [wq_size]; exact HMO.out.1)
    go_wp2_with (first
      | refine wpList_value_want rfl _ (bload_run rfl rfl HX2.out HSX.out) ?_
      | refine wpList_value_want rfl _ (bload_run rfl rfl HY2.out HSY.out) ?_)
    refine (CR.out _).mono ?_
    rintro e w4 ⟨rfl, hb⟩
    have HX4 := Lib.hid (HX2.out.below hb HX2.out.lt)
    have HY4 := Lib.hid (HY2.out.below hb HY2.out.lt)
    have B4 := Lib.hid (B2.out.trans (hb.mono B2.out.size))
    clear hb CR HX2 HY2 B2
    have HN := Lib.hid (newb w4 m)
    have HX5 := Lib.hid (HX4.out.below HN.out.2 HX4.out.lt)
    have HY5 := Lib.hid (HY4.out.below HN.out.2 HY4.out.lt)
    have B3 := Lib.hid (B4.out.trans (HN.out.2.mono B4.out.size))
    obtain ⟨b7, hb7⟩ : ∃ b, b = w4.heap.size := ⟨_, rfl⟩
    go_wp2_with (refine wpList_store_row rfl 32 (.tmp 7) (.tmp 15) rfl w4.heap.size (wq m) rfl rfl 32 _ (RowAt.new _ _ _) (by rw [HSM.out]; exact b_size) (by rw [HSM.out]; rfl) (wq_one _) ?_)
    rw [← hb7] at HN HX5 HY5 B3 ⊢
    generalize World.setRow _ _ _ = w3 at *
    clear HX4 HY4 B4 hb7
    have HF : Hid (∀ w' : World, Below w3.heap.size w3 w' → RowAt w' b3 32 (wq x) ∧ RowAt w' b4 32 (wq y) ∧ RowAt w' b7 32 (wq m)) := Lib.hid fun w' hb => ⟨HX5.out.below hb HX5.out.lt, HY5.out.below hb HY5.out.lt, HN.out.1.below hb HN.out.1.lt⟩
    have HRL : Hid (∀ w' : World, Below w3.heap.size w3 w' → Reads w' w'.heap.size A (bcs l)) := Lib.hid fun w' hb => (HRD.out.below (B3.out.trans (hb.mono B3.out.size))).more (Nat.le_trans B3.out.size hb.size)
    have HLL : Hid (l.length ≤ 1000000) := Lib.hid (by have := HL10.out; omega)
    obtain ⟨z, hzz⟩ : ∃ z, z = xB (m :: l) := ⟨_, rfl⟩
    have HZO : Hid (okb z) := Lib.hid (by rw [hzz]; exact xB_ok _ HLA.out)
    have CXR : Hid (∀ (v : Value) (w : World), RdB (m :: l) v w → Calls Tryd.prog 16 #[v] w fun e w' => ∃ u, e = .returned u ∧ Is (.agg (wq z)) u w' ∧ Below w.heap.size w w') := Lib.hid fun v w h => by
      rw [hzz]; exact rxor_rd HLA.out (by have := HL10.out; simp; omega) h
    rw [← hzz] at COO
    have CM : Hid (∀ w' : World, Below w3.heap.size w3 w' → Calls Tryd.prog 12 #[.agg (wq x), .agg (wq y)] w' fun e w5 => ∃ u, e = .returned u ∧ Is (.agg (wq m)) u w5 ∧ Below w'.heap.size w' w5) := Lib.hid fun w' hb => (CMM.out w' (HTT.out.next (B3.out.trans (hb.mono B3.out.size)))).mono fun e w' h => ⟨_, h.1, rfl, h.2⟩
    have CW : Hid (∀ w' : World, Below w3.heap.size w3 w' → Calls Tryd.prog 13 #[.agg (wq x)] w' fun e w5 => ∃ u, e = .returned u ∧ Is (.agg (wq wx)) u w5 ∧ Below w'.heap.size w' w5) := Lib.hid fun w' hb => (CWW.out w' (HTT.out.next (B3.out.trans (hb.mono B3.out.size)))).mono fun e w' h => ⟨_, h.1, rfl, h.2⟩
    have CO : Hid (∀ w' : World, Below w3.heap.size w3 w' → Calls Tryd.prog 15 #[.agg (wq x), .agg (wq y), .slice A l.length c] w' fun e w5 => ∃ u, e = .returned u ∧ Is (.agg (wq z)) u w5 ∧ Below w'.heap.size w' w5) := Lib.hid fun w' hb => (COO.out w' (HRL.out w' hb) HL10.out (HTT.out.next (B3.out.trans (hb.mono B3.out.size)))).mono fun e w' h => ⟨_, h.1, rfl, h.2⟩
    clear HX5 HY5 HN HRD HTT CMM CWW COO hzz
    simp only [Act.put]
    refine wp_region_text [Is (.agg (wq x)), Is (.agg (wq y)), Is (.agg (wq m)), Is (.agg (wq m)), Is (.bool true), Is (.bool true), Is (.agg (wq x)), Is (.agg (wq wx)), Is (.agg (wq x)), Is (.agg (wq wx)), Is (.bool true), Is (.bool true), Is (.bool true), Is (.agg (wq x)), Is (.agg (wq y)), Is (.slice A l.length c), Is (.agg (wq z)), Is (.agg (wq m)), OneB m, Is (.slice A l.length c), RdB (m :: l), Is (.agg (wq z)), Is (.bool true), Is (.bool true), Is (.bool true)] (by kernel_rfl) (by kernel_rfl) rfl ⟨stable_is _, stable_is _, stable_is _, stable_is _, stable_is _, stable_is _, stable_is _, stable_is _, stable_is _, stable_is _, stable_is _, stable_is _, stable_is _, stable_is _, stable_is _, stable_is _, stable_is _, stable_is _, stable_oneb _, stable_is _, stable_rdb _, stable_is _, stable_is _, stable_is _, stable_is _, trivial⟩ ⟨?_, ?_, ?_, ?_, ?_, ?_, ?_, ?_, ?_, ?_, ?_, ?_, ?_, ?_, ?_, ?_, ?_, ?_, ?_, ?_, ?_, ?_, ?_, ?_, ?_, trivial⟩ ?_
    · intro a w C
      exact part_on (wanted_free rfl _) (op_value (bload_run rfl (C.was 3 (by kernel_rfl)) (HF.out _ C.below).1 HSX.out) rfl)
    · intro a w C
      exact part_on (wanted_free rfl _) (op_value (bload_run rfl (C.was 4 (by kernel_rfl)) (HF.out _ C.below).2.1 HSY.out) rfl)
    · intro a w C
      exact part_on (wanted_free rfl _) (op_call2 rfl (reg_enters Tryd.func12 (by kernel_rfl) (by kernel_rfl)) (C.on (j := 0) (by kernel_rfl) rfl rfl) (C.on (j := 1) (by kernel_rfl) rfl rfl) (CM.out _ C.below))
    · intro a w C
      exact part_on (wanted_free rfl _) (op_value (bload_run rfl (C.was 7 (by kernel_rfl)) (HF.out _ C.below).2.2 HSM.out) rfl)
    · intro a w C
      exact part_on (wanted_free rfl _) (op_value (beql_run _ HMO.out HMO.out (k := true) (by simp) _ _ _ rfl (C.on (j := 2) (by kernel_rfl) rfl rfl) (C.on (j := 3) (by kernel_rfl) rfl rfl)) rfl)
    · intro a w C
      exact part_on (wanted_free rfl _) (op_move (.inl rfl) (C.on (j := 4) (by kernel_rfl) rfl rfl))
    · intro a w C
      exact part_on (wanted_on (j := 5) rfl rfl rfl (C.on (j := 5) (by kernel_rfl) rfl rfl)) (op_value (bload_run rfl (C.was 3 (by kernel_rfl)) (HF.out _ C.below).1 HSX.out) rfl)
    · intro a w C
      exact part_on (wanted_on (j := 5) rfl rfl rfl (C.on (j := 5) (by kernel_rfl) rfl rfl)) (op_call1 rfl (reg_enters Tryd.func13 (by kernel_rfl) (by kernel_rfl)) (C.on (j := 6) (by kernel_rfl) rfl rfl) (CW.out _ C.below))
    · intro a w C
      exact part_on (wanted_on (j := 5) rfl rfl rfl (C.on (j := 5) (by kernel_rfl) rfl rfl)) (op_value (bload_run rfl (C.was 3 (by kernel_rfl)) (HF.out _ C.below).1 HSX.out) rfl)
    · intro a w C
      exact part_on (wanted_on (j := 5) rfl rfl rfl (C.on (j := 5) (by kernel_rfl) rfl rfl)) (op_call1 rfl (reg_enters Tryd.func14 (by kernel_rfl) (by kernel_rfl)) (C.on (j := 8) (by kernel_rfl) rfl rfl) (CRW.out _))
    · intro a w C
      exact part_on (wanted_on (j := 5) rfl rfl rfl (C.on (j := 5) (by kernel_rfl) rfl rfl)) (op_value (beql_run _ HWO.out HWO.out (k := true) (by simp) _ _ _ rfl (C.on (j := 7) (by kernel_rfl) rfl rfl) (C.on (j := 9) (by kernel_rfl) rfl rfl)) rfl)
    · intro a w C
      exact part_on (wanted_free rfl _) (op_pick (k := true) rfl (C.on (j := 5) (by kernel_rfl) rfl rfl) (C.on (j := 10) (by kernel_rfl) rfl rfl))
    · intro a w C
      exact part_on (wanted_free rfl _) (op_move (.inl rfl) (C.on (j := 11) (by kernel_rfl) rfl rfl))
    · intro a w C
      exact part_on (wanted_on (j := 12) rfl rfl rfl (C.on (j := 12) (by kernel_rfl) rfl rfl)) (op_value (bload_run rfl (C.was 3 (by kernel_rfl)) (HF.out _ C.below).1 HSX.out) rfl)
    · intro a w C
      exact part_on (wanted_on (j := 12) rfl rfl rfl (C.on (j := 12) (by kernel_rfl) rfl rfl)) (op_value (bload_run rfl (C.was 4 (by kernel_rfl)) (HF.out _ C.below).2.1 HSY.out) rfl)
    · intro a w C
      exact part_on (wanted_on (j := 12) rfl rfl rfl (C.on (j := 12) (by kernel_rfl) rfl rfl)) (op_move (.inl rfl) (C.was 2 (by kernel_rfl)))
    · intro a w C
      exact part_on (wanted_on (j := 12) rfl rfl rfl (C.on (j := 12) (by kernel_rfl) rfl rfl)) (op_call3 rfl (reg_enters Tryd.func15 (by kernel_rfl) (by kernel_rfl)) (C.on (j := 13) (by kernel_rfl) rfl rfl) (C.on (j := 14) (by kernel_rfl) rfl rfl) (C.on (j := 15) (by kernel_rfl) rfl rfl) (CO.out _ C.below))
    · intro a w C
      exact part_on (wanted_on (j := 12) rfl rfl rfl (C.on (j := 12) (by kernel_rfl) rfl rfl)) (op_value (bload_run rfl (C.was 7 (by kernel_rfl)) (HF.out _ C.below).2.2 HSM.out) rfl)
    · intro a w C
      exact part_on (wanted_on (j := 12) rfl rfl rfl (C.on (j := 12) (by kernel_rfl) rfl rfl)) (op_made (build_one_run HMO.out.1 rfl (C.on (j := 17) (by kernel_rfl) rfl rfl)) ⟨_, rfl, RowAt.new _ _ _⟩ ((Below.refl _ _).alloc (Nat.le_refl _) _))
    · intro a w C
      exact part_on (wanted_on (j := 12) rfl rfl rfl (C.on (j := 12) (by kernel_rfl) rfl rfl)) (op_move (.inl rfl) (C.was 2 (by kernel_rfl)))
    · intro a w C
      obtain ⟨g, e0, h0⟩ : OneB m _ _ := (C.on (j := 18) (by kernel_rfl) rfl rfl)
      obtain ⟨v', w', hr, hd, hb⟩ := app_one (c := c) HMO.out h0 HLO.out (HRL.out _ C.below) HLL.out _
      exact part_on (wanted_on (j := 12) rfl rfl rfl (C.on (j := 12) (by kernel_rfl) rfl rfl)) (op_made (op_append rfl e0 (C.on (j := 19) (by kernel_rfl) rfl rfl) hr) hd hb)
    · intro a w C
      exact part_on (wanted_on (j := 12) rfl rfl rfl (C.on (j := 12) (by kernel_rfl) rfl rfl)) (op_call1 rfl (reg_enters Tryd.func16 (by kernel_rfl) (by kernel_rfl)) rfl (CXR.out _ _ (C.on (j := 20) (by kernel_rfl) rfl rfl)))
    · intro a w C
      exact part_on (wanted_on (j := 12) rfl rfl rfl (C.on (j := 12) (by kernel_rfl) rfl rfl)) (op_value (beql_run _ HZO.out HZO.out (k := true) (by simp) _ _ _ rfl (C.on (j := 16) (by kernel_rfl) rfl rfl) (C.on (j := 21) (by kernel_rfl) rfl rfl)) rfl)
    · intro a w C
      exact part_on (wanted_free rfl _) (op_pick (k := true) rfl (C.on (j := 12) (by kernel_rfl) rfl rfl) (C.on (j := 22) (by kernel_rfl) rfl rfl))
    · intro a w C
      exact part_on (wanted_free rfl _) (op_move (.inr rfl) (C.on (j := 23) (by kernel_rfl) rfl rfl))
    rintro wF hbF _ rfl _ rfl _ rfl _ rfl _ rfl _ rfl _ rfl _ rfl _ rfl _ rfl _ rfl _ rfl _ rfl _ rfl _ rfl _ rfl _ rfl _ rfl x34 hx34 _ rfl x36 hx36 _ rfl _ rfl _ rfl _ rfl
    simp only [Fin, setAt, Exit.then, List.setIfInBounds_toArray, List.set_cons_succ, List.set_cons_zero]
    go_wp2
    go_ret
    exact ⟨rfl, B3.out.trans (hbF.mono B3.out.size)⟩
  · clear hl
    go_wp2
    go_ret
    exact ⟨rfl, B2.out⟩
end Go.Proofs.YtabfdpdebahjkaaDoor

/- holds, Load and Store of package grid by their contracts. Conditions: those typed. -/
import Derived.Test.YtpampgkhjcfeaaaDoorGdOps

namespace Go.Proofs.YtpampgkhjcfeaaaDoor
set_option maxRecDepth 50000
open Go.RowKit Bb

theorem holds_nil (x y : Int) (w : World) : Calls Tryd.prog 22 #[.pointer none, sov x y] w fun e w' => e = .returned (.bool false) ∧ Below w.heap.size w w' := by
  have HB := Lib.hid (one_box w (.cells (soc x y) 34))
  go_enter Tryd.func22, Tryd.ntmps22
  go_wp2
  refine wp_region_text [Is (.pointer none), Is (.bool false), Is (.bool false), Is undef, Is undef, Is undef, Is undef, Is undef, Is undef, Is undef, Is undef, Is undef, Is (.bool false), Is (.bool false), Is undef, Is undef, Is undef, Is undef, Is undef, Is undef, Is undef, Is undef, Is undef, Is (.bool false), Is (.bool false)] (by kernel_rfl) (by kernel_rfl) rfl ⟨stable_is _, stable_is _, stable_is _, stable_is _, stable_is _, stable_is _, stable_is _, stable_is _, stable_is _, stable_is _, stable_is _, stable_is _, stable_is _, stable_is _, stable_is _, stable_is _, stable_is _, stable_is _, stable_is _, stable_is _, stable_is _, stable_is _, stable_is _, stable_is _, stable_is _, trivial⟩ ⟨?_, ?_, ?_, ?_, ?_, ?_, ?_, ?_, ?_, ?_, ?_, ?_, ?_, ?_, ?_, ?_, ?_, ?_, ?_, ?_, ?_, ?_, ?_, ?_, ?_, trivial⟩ ?_
  · intro a w C
    exact part_on (wanted_free rfl _) (op_move (.inl rfl) (C.was 0 (by kernel_rfl)))
  · intro a w C
    exact part_on (wanted_free rfl _) (op_bin rfl (C.on (j := 0) (by kernel_rfl) rfl rfl) rfl rfl (by simp [go_sem]) rfl)
  · intro a w C
    exact part_on (wanted_free rfl _) (op_move (.inl rfl) (C.on (j := 1) (by kernel_rfl) rfl rfl))
  · intro a w C
    exact part_off (wanted_off (j := 2) rfl rfl rfl (C.on (j := 2) (by kernel_rfl) rfl rfl)) rfl
  · intro a w C
    exact part_off (wanted_off (j := 2) rfl rfl rfl (C.on (j := 2) (by kernel_rfl) rfl rfl)) rfl
  · intro a w C
    exact part_off (wanted_off (j := 2) rfl rfl rfl (C.on (j := 2) (by kernel_rfl) rfl rfl)) rfl
  · intro a w C
    exact part_off (wanted_off (j := 2) rfl rfl rfl (C.on (j := 2) (by kernel_rfl) rfl rfl)) rfl
  · intro a w C
    exact part_off (wanted_off (j := 2) rfl rfl rfl (C.on (j := 2) (by kernel_rfl) rfl rfl)) rfl
  · intro a w C
    exact part_off (wanted_off (j := 2) rfl rfl rfl (C.on (j := 2) (by kernel_rfl) rfl rfl)) rfl
  · intro a w C
    exact part_off (wanted_off (j := 2) rfl rfl rfl (C.on (j := 2) (by kernel_rfl) rfl rfl)) rfl
  · intro a w C
    exact part_off (wanted_off (j := 2) rfl rfl rfl (C.on (j := 2) (by kernel_rfl) rfl rfl)) rfl
  · intro a w C
    exact part_off (wanted_off (j := 2) rfl rfl rfl (C.on (j := 2) (by kernel_rfl) rfl rfl)) rfl
  · intro a w C
    exact part_on (wanted_free rfl _) (op_pick (k := false) rfl (C.on (j := 2) (by kernel_rfl) rfl rfl) rfl)
  · intro a w C
    exact part_on (wanted_free rfl _) (op_move (.inl rfl) (C.on (j := 12) (by kernel_rfl) rfl rfl))
  · intro a w C
    exact part_off (wanted_off (j := 13) rfl rfl rfl (C.on (j := 13) (by kernel_rfl) rfl rfl)) rfl
  · intro a w C
    exact part_off (wanted_off (j := 13) rfl rfl rfl (C.on (j := 13) (by kernel_rfl) rfl rfl)) rfl
  · intro a w C
    exact part_off (wanted_off (j := 13) rfl rfl rfl (C.on (j := 13) (by kernel_rfl) rfl rfl)) rfl
  · intro a w C
    exact part_off (wanted_off (j := 13) rfl rfl rfl (C.on (j := 13) (by kernel_rfl) rfl rfl)) rfl
  · intro a w C
    exact part_off (wanted_off (j := 13) rfl rfl rfl (C.on (j := 13) (by kernel_rfl) rfl rfl)) rfl
  · intro a w C
    exact part_off (wanted_off (j := 13) rfl rfl rfl (C.on (j := 13) (by kernel_rfl) rfl rfl)) rfl
  · intro a w C
    exact part_off (wanted_off (j := 13) rfl rfl rfl (C.on (j := 13) (by kernel_rfl) rfl rfl)) rfl
  · intro a w C
    exact part_off (wanted_off (j := 13) rfl rfl rfl (C.on (j := 13) (by kernel_rfl) rfl rfl)) rfl
  · intro a w C
    exact part_off (wanted_off (j := 13) rfl rfl rfl (C.on (j := 13) (by kernel_rfl) rfl rfl)) rfl
  · intro a w C
    exact part_on (wanted_free rfl _) (op_pick (k := false) rfl (C.on (j := 13) (by kernel_rfl) rfl rfl) rfl)
  · intro a w C
    exact part_on (wanted_free rfl _) (op_move (.inr rfl) (C.on (j := 23) (by kernel_rfl) rfl rfl))
  rintro wF hbF _ rfl _ rfl _ rfl _ rfl _ rfl _ rfl _ rfl _ rfl _ rfl _ rfl _ rfl _ rfl _ rfl _ rfl _ rfl _ rfl _ rfl _ rfl _ rfl _ rfl _ rfl _ rfl _ rfl _ rfl _ rfl
  simp only [Fin, setAt, Exit.then, List.setIfInBounds_toArray, List.set_cons_succ, List.set_cons_zero]
  have HBF := Lib.hid (below_step HB.out hbF)
  clear hbF HB
  go_wp2
  go_ret
  exact ⟨rfl, HBF.out⟩
set_option maxHeartbeats 1600000 in
theorem holds_no {w : World} {q p a t l m b c g z : Nat} (hG : GrRow w q p a t l m b c g z) (hl : l ≤ 16777215) (x y : Int) (h : inB x 0 ((l : Int) - 1) = false) : Calls Tryd.prog 22 #[.pointer (some ⟨q, 0, none⟩), sov x y] w fun e w' => e = .returned (.bool false) ∧ Below w.heap.size w w' := by
  have HB := Lib.hid (one_box w (.cells (soc x y) 34))
  have HS := Lib.hid (RowAt.new w 34 (soc x y))
  have HG := Lib.hid (hG.step (one_box w (.cells (soc x y) 34)))
  have C1 := Lib.hid (within_at h)
  clear hG h
  go_enter Tryd.func22, Tryd.ntmps22
  go_wp2
  refine wp_region_text [Is (.pointer (some ⟨q, 0, none⟩)), Is (.bool true), Is (.bool true), Is (.pointer (some ⟨w.heap.size, 0 + 0, none⟩)), Is (.int .i64 x), Is (.pointer (some ⟨q, 0, none⟩)), Is (.pointer (some ⟨q, 0, none⟩)), Is (.pointer (some ⟨q, 0 + 1, none⟩)), Is (.pointer (some ⟨q, 0 + 1 + 2, none⟩)), Is (.int .i64 (l : Int)), Is (.int .i64 ((l : Int) - 1)), Is (.bool false), Is (.bool false), Is (.bool false), Is undef, Is undef, Is undef, Is undef, Is undef, Is undef, Is undef, Is undef, Is undef, Is (.bool false), Is (.bool false)] (by kernel_rfl) (by kernel_rfl) rfl ⟨stable_is _, stable_is _, stable_is _, stable_is _, stable_is _, stable_is _, stable_is _, stable_is _, stable_is _, stable_is _, stable_is _, stable_is _, stable_is _, stable_is _, stable_is _, stable_is _, stable_is _, stable_is _, stable_is _, stable_is _, stable_is _, stable_is _, stable_is _, stable_is _, stable_is _, trivial⟩ ⟨?_, ?_, ?_, ?_, ?_, ?_, ?_, ?_, ?_, ?_, ?_, ?_, ?_, ?_, ?_, ?_, ?_, ?_, ?_, ?_, ?_, ?_, ?_, ?_, ?_, trivial⟩ ?_
  · intro a w C
    exact part_on (wanted_free rfl _) (op_move (.inl rfl) (C.was 0 (by kernel_rfl)))
  · intro a w C
    exact part_on (wanted_free rfl _) (op_bin rfl (C.on (j := 0) (by kernel_rfl) rfl rfl) rfl rfl (by simp [go_sem]) rfl)
  · intro a w C
    exact part_on (wanted_free rfl _) (op_move (.inl rfl) (C.on (j := 1) (by kernel_rfl) rfl rfl))
  · intro a w C
    exact part_on (wanted_on (j := 2) rfl rfl rfl (C.on (j := 2) (by kernel_rfl) rfl rfl)) (op_value (sof_run (k := 0) rfl (by decide) (C.was 3 (by kernel_rfl))) rfl)
  · intro a w C
    exact part_on (wanted_on (j := 2) rfl rfl rfl (C.on (j := 2) (by kernel_rfl) rfl rfl)) (op_value (int_run rfl (C.on (j := 3) (by kernel_rfl) rfl rfl) (HS.out.step C.below |> so_cells).1) rfl)
  · intro a w C
    exact part_on (wanted_on (j := 2) rfl rfl rfl (C.on (j := 2) (by kernel_rfl) rfl rfl)) (op_move (.inl rfl) (C.was 0 (by kernel_rfl)))
  · intro a w C
    exact part_on (wanted_on (j := 2) rfl rfl rfl (C.on (j := 2) (by kernel_rfl) rfl rfl)) (op_value (nil_run rfl (C.on (j := 5) (by kernel_rfl) rfl rfl)) rfl)
  · intro a w C
    exact part_on (wanted_on (j := 2) rfl rfl rfl (C.on (j := 2) (by kernel_rfl) rfl rfl)) (op_value (grf_run (k := 1) rfl (by decide) (C.on (j := 6) (by kernel_rfl) rfl rfl)) rfl)
  · intro a w C
    exact part_on (wanted_on (j := 2) rfl rfl rfl (C.on (j := 2) (by kernel_rfl) rfl rfl)) (op_value (spf_all (k := 2) rfl (by decide) (C.on (j := 7) (by kernel_rfl) rfl rfl)) rfl)
  · intro a w C
    exact part_on (wanted_on (j := 2) rfl rfl rfl (C.on (j := 2) (by kernel_rfl) rfl rfl)) (op_value (int_run rfl (C.on (j := 8) (by kernel_rfl) rfl rfl) (HG.out.step C.below).lanes) rfl)
  · intro a w C
    exact part_on (wanted_on (j := 2) rfl rfl rfl (C.on (j := 2) (by kernel_rfl) rfl rfl)) (op_bin rfl (C.on (j := 9) (by kernel_rfl) rfl rfl) rfl rfl (sub_run _ _ _ rfl (by omega) (by omega) _) rfl)
  · intro a w C
    exact part_on (wanted_on (j := 2) rfl rfl rfl (C.on (j := 2) (by kernel_rfl) rfl rfl)) (op_call3 rfl (reg_enters Tryd.func40 (by kernel_rfl) (by kernel_rfl)) (C.on (j := 4) (by kernel_rfl) rfl rfl) rfl (C.on (j := 10) (by kernel_rfl) rfl rfl) (calls_same (C1.out _)))
  · intro a w C
    exact part_on (wanted_free rfl _) (op_pick (k := true) rfl (C.on (j := 2) (by kernel_rfl) rfl rfl) (C.on (j := 11) (by kernel_rfl) rfl rfl))
  · intro a w C
    exact part_on (wanted_free rfl _) (op_move (.inl rfl) (C.on (j := 12) (by kernel_rfl) rfl rfl))
  · intro a w C
    exact part_off (wanted_off (j := 13) rfl rfl rfl (C.on (j := 13) (by kernel_rfl) rfl rfl)) rfl
  · intro a w C
    exact part_off (wanted_off (j := 13) rfl rfl rfl (C.on (j := 13) (by kernel_rfl) rfl rfl)) rfl
  · intro a w C
    exact part_off (wanted_off (j := 13) rfl rfl rfl (C.on (j := 13) (by kernel_rfl) rfl rfl)) rfl
  · intro a w C
    exact part_off (wanted_off (j := 13) rfl rfl rfl (C.on (j := 13) (by kernel_rfl) rfl rfl)) rfl
  · intro a w C
    exact part_off (wanted_off (j := 13) rfl rfl rfl (C.on (j := 13) (by kernel_rfl) rfl rfl)) rfl
  · intro a w C
    exact part_off (wanted_off (j := 13) rfl rfl rfl (C.on (j := 13) (by kernel_rfl) rfl rfl)) rfl
  · intro a w C
    exact part_off (wanted_off (j := 13) rfl rfl rfl (C.on (j := 13) (by kernel_rfl) rfl rfl)) rfl
  · intro a w C
    exact part_off (wanted_off (j := 13) rfl rfl rfl (C.on (j := 13) (by kernel_rfl) rfl rfl)) rfl
  · intro a w C
    exact part_off (wanted_off (j := 13) rfl rfl rfl (C.on (j := 13) (by kernel_rfl) rfl rfl)) rfl
  · intro a w C
    exact part_on (wanted_free rfl _) (op_pick (k := false) rfl (C.on (j := 13) (by kernel_rfl) rfl rfl) rfl)
  · intro a w C
    exact part_on (wanted_free rfl _) (op_move (.inr rfl) (C.on (j := 23) (by kernel_rfl) rfl rfl))
  rintro wF hbF _ rfl _ rfl _ rfl _ rfl _ rfl _ rfl _ rfl _ rfl _ rfl _ rfl _ rfl _ rfl _ rfl _ rfl _ rfl _ rfl _ rfl _ rfl _ rfl _ rfl _ rfl _ rfl _ rfl _ rfl _ rfl
  simp only [Fin, setAt, Exit.then, List.setIfInBounds_toArray, List.set_cons_succ, List.set_cons_zero]
  have HBF := Lib.hid (below_step HB.out hbF)
  clear hbF HB
  go_wp2
  go_ret
  exact ⟨rfl, HBF.out⟩
set_option maxHeartbeats 1600000 in
theorem holds_yes {w : World} {q p a t l m b c g z : Nat} (hG : GrRow w q p a t l m b c g z) (hl : l ≤ 16777215) (hc : c ≤ 4294967295) (x y : Int) (h : inB x 0 ((l : Int) - 1) = true) {k2 : Bool} (h2 : inB y 0 ((c : Int) - 1) = k2) : Calls Tryd.prog 22 #[.pointer (some ⟨q, 0, none⟩), sov x y] w fun e w' => e = .returned (.bool k2) ∧ Below w.heap.size w w' := by
  have HB := Lib.hid (one_box w (.cells (soc x y) 34))
  have HS := Lib.hid (RowAt.new w 34 (soc x y))
  have HG := Lib.hid (hG.step (one_box w (.cells (soc x y) 34)))
  have C1 := Lib.hid (within_at h)
  have C2 := Lib.hid (within_at h2)
  clear hG h h2
  go_enter Tryd.func22, Tryd.ntmps22
  go_wp2
  refine wp_region_text [Is (.pointer (some ⟨q, 0, none⟩)), Is (.bool true), Is (.bool true), Is (.pointer (some ⟨w.heap.size, 0 + 0, none⟩)), Is (.int .i64 x), Is (.pointer (some ⟨q, 0, none⟩)), Is (.pointer (some ⟨q, 0, none⟩)), Is (.pointer (some ⟨q, 0 + 1, none⟩)), Is (.pointer (some ⟨q, 0 + 1 + 2, none⟩)), Is (.int .i64 (l : Int)), Is (.int .i64 ((l : Int) - 1)), Is (.bool true), Is (.bool true), Is (.bool true), Is (.pointer (some ⟨w.heap.size, 0 + 1, none⟩)), Is (.int .i64 y), Is (.pointer (some ⟨q, 0, none⟩)), Is (.pointer (some ⟨q, 0, none⟩)), Is (.pointer (some ⟨q, 0 + 1, none⟩)), Is (.pointer (some ⟨q, 0 + 1 + 5, none⟩)), Is (.int .i64 (c : Int)), Is (.int .i64 ((c : Int) - 1)), Is (.bool k2), Is (.bool k2), Is (.bool k2)] (by kernel_rfl) (by kernel_rfl) rfl ⟨stable_is _, stable_is _, stable_is _, stable_is _, stable_is _, stable_is _, stable_is _, stable_is _, stable_is _, stable_is _, stable_is _, stable_is _, stable_is _, stable_is _, stable_is _, stable_is _, stable_is _, stable_is _, stable_is _, stable_is _, stable_is _, stable_is _, stable_is _, stable_is _, stable_is _, trivial⟩ ⟨?_, ?_, ?_, ?_, ?_, ?_, ?_, ?_, ?_, ?_, ?_, ?_, ?_, ?_, ?_, ?_, ?_, ?_, ?_, ?_, ?_, ?_, ?_, ?_, ?_, trivial⟩ ?_
  · intro a w C
    exact part_on (wanted_free rfl _) (op_move (.inl rfl) (C.was 0 (by kernel_rfl)))
  · intro a w C
    exact part_on (wanted_free rfl _) (op_bin rfl (C.on (j := 0) (by kernel_rfl) rfl rfl) rfl rfl (by simp [go_sem]) rfl)
  · intro a w C
    exact part_on (wanted_free rfl _) (op_move (.inl rfl) (C.on (j := 1) (by kernel_rfl) rfl rfl))
  · intro a w C
    exact part_on (wanted_on (j := 2) rfl rfl rfl (C.on (j := 2) (by kernel_rfl) rfl rfl)) (op_value (sof_run (k := 0) rfl (by decide) (C.was 3 (by kernel_rfl))) rfl)
  · intro a w C
    exact part_on (wanted_on (j := 2) rfl rfl rfl (C.on (j := 2) (by kernel_rfl) rfl rfl)) (op_value (int_run rfl (C.on (j := 3) (by kernel_rfl) rfl rfl) (HS.out.step C.below |> so_cells).1) rfl)
  · intro a w C
    exact part_on (wanted_on (j := 2) rfl rfl rfl (C.on (j := 2) (by kernel_rfl) rfl rfl)) (op_move (.inl rfl) (C.was 0 (by kernel_rfl)))
  · intro a w C
    exact part_on (wanted_on (j := 2) rfl rfl rfl (C.on (j := 2) (by kernel_rfl) rfl rfl)) (op_value (nil_run rfl (C.on (j := 5) (by kernel_rfl) rfl rfl)) rfl)
  · intro a w C
    exact part_on (wanted_on (j := 2) rfl rfl rfl (C.on (j := 2) (by kernel_rfl) rfl rfl)) (op_value (grf_run (k := 1) rfl (by decide) (C.on (j := 6) (by kernel_rfl) rfl rfl)) rfl)
  · intro a w C
    exact part_on (wanted_on (j := 2) rfl rfl rfl (C.on (j := 2) (by kernel_rfl) rfl rfl)) (op_value (spf_all (k := 2) rfl (by decide) (C.on (j := 7) (by kernel_rfl) rfl rfl)) rfl)
  · intro a w C
    exact part_on (wanted_on (j := 2) rfl rfl rfl (C.on (j := 2) (by kernel_rfl) rfl rfl)) (op_value (int_run rfl (C.on (j := 8) (by kernel_rfl) rfl rfl) (HG.out.step C.below).lanes) rfl)
  · intro a w C
    exact part_on (wanted_on (j := 2) rfl rfl rfl (C.on (j := 2) (by kernel_rfl) rfl rfl)) (op_bin rfl (C.on (j := 9) (by kernel_rfl) rfl rfl) rfl rfl (sub_run _ _ _ rfl (by omega) (by omega) _) rfl)
  · intro a w C
    exact part_on (wanted_on (j := 2) rfl rfl rfl (C.on (j := 2) (by kernel_rfl) rfl rfl)) (op_call3 rfl (reg_enters Tryd.func40 (by kernel_rfl) (by kernel_rfl)) (C.on (j := 4) (by kernel_rfl) rfl rfl) rfl (C.on (j := 10) (by kernel_rfl) rfl rfl) (calls_same (C1.out _)))
  · intro a w C
    exact part_on (wanted_free rfl _) (op_pick (k := true) rfl (C.on (j := 2) (by kernel_rfl) rfl rfl) (C.on (j := 11) (by kernel_rfl) rfl rfl))
  · intro a w C
    exact part_on (wanted_free rfl _) (op_move (.inl rfl) (C.on (j := 12) (by kernel_rfl) rfl rfl))
  · intro a w C
    exact part_on (wanted_on (j := 13) rfl rfl rfl (C.on (j := 13) (by kernel_rfl) rfl rfl)) (op_value (sof_run (k := 1) rfl (by decide) (C.was 3 (by kernel_rfl))) rfl)
  · intro a w C
    exact part_on (wanted_on (j := 13) rfl rfl rfl (C.on (j := 13) (by kernel_rfl) rfl rfl)) (op_value (int_run rfl (C.on (j := 14) (by kernel_rfl) rfl rfl) (HS.out.step C.below |> so_cells).2) rfl)
  · intro a w C
    exact part_on (wanted_on (j := 13) rfl rfl rfl (C.on (j := 13) (by kernel_rfl) rfl rfl)) (op_move (.inl rfl) (C.was 0 (by kernel_rfl)))
  · intro a w C
    exact part_on (wanted_on (j := 13) rfl rfl rfl (C.on (j := 13) (by kernel_rfl) rfl rfl)) (op_value (nil_run rfl (C.on (j := 16) (by kernel_rfl) rfl rfl)) rfl)
  · intro a w C
    exact part_on (wanted_on (j := 13) rfl rfl rfl (C.on (j := 13) (by kernel_rfl) rfl rfl)) (op_value (grf_run (k := 1) rfl (by decide) (C.on (j := 17) (by kernel_rfl) rfl rfl)) rfl)
  · intro a w C
    exact part_on (wanted_on (j := 13) rfl rfl rfl (C.on (j := 13) (by kernel_rfl) rfl rfl)) (op_value (spf_all (k := 5) rfl (by decide) (C.on (j := 18) (by kernel_rfl) rfl rfl)) rfl)
  · intro a w C
    exact part_on (wanted_on (j := 13) rfl rfl rfl (C.on (j := 13) (by kernel_rfl) rfl rfl)) (op_value (int_run rfl (C.on (j := 19) (by kernel_rfl) rfl rfl) (HG.out.step C.below).columns) rfl)
  · intro a w C
    exact part_on (wanted_on (j := 13) rfl rfl rfl (C.on (j := 13) (by kernel_rfl) rfl rfl)) (op_bin rfl (C.on (j := 20) (by kernel_rfl) rfl rfl) rfl rfl (sub_run _ _ _ rfl (by omega) (by omega) _) rfl)
  · intro a w C
    exact part_on (wanted_on (j := 13) rfl rfl rfl (C.on (j := 13) (by kernel_rfl) rfl rfl)) (op_call3 rfl (reg_enters Tryd.func40 (by kernel_rfl) (by kernel_rfl)) (C.on (j := 15) (by kernel_rfl) rfl rfl) rfl (C.on (j := 21) (by kernel_rfl) rfl rfl) (calls_same (C2.out _)))
  · intro a w C
    exact part_on (wanted_free rfl _) (op_pick (k := true) rfl (C.on (j := 13) (by kernel_rfl) rfl rfl) (C.on (j := 22) (by kernel_rfl) rfl rfl))
  · intro a w C
    exact part_on (wanted_free rfl _) (op_move (.inr rfl) (C.on (j := 23) (by kernel_rfl) rfl rfl))
  rintro wF hbF _ rfl _ rfl _ rfl _ rfl _ rfl _ rfl _ rfl _ rfl _ rfl _ rfl _ rfl _ rfl _ rfl _ rfl _ rfl _ rfl _ rfl _ rfl _ rfl _ rfl _ rfl _ rfl _ rfl _ rfl _ rfl
  simp only [Fin, setAt, Exit.then, List.setIfInBounds_toArray, List.set_cons_succ, List.set_cons_zero]
  have HBF := Lib.hid (below_step HB.out hbF)
  clear hbF HB
  go_wp2
  go_ret
  exact ⟨rfl, HBF.out⟩
theorem holds_any {w : World} {q p a t l m b c g z : Nat} (hG : GrRow w q p a t l m b c g z) (hl : l ≤ 16777215) (hc : c ≤ 4294967295) (x y : Int) {k : Bool} (h : inG l c x y = k) : Calls Tryd.prog 22 #[.pointer (some ⟨q, 0, none⟩), sov x y] w fun e w' => e = .returned (.bool k) ∧ Below w.heap.size w w' := by
  subst h
  unfold inG
  cases h : inB x 0 ((l : Int) - 1)
  · exact holds_no hG hl x y h
  · exact holds_yes hG hl hc x y h rfl
end Go.Proofs.YtpampgkhjcfeaaaDoor

/- Settled of package place, of one block, by its contract. Conditions: those typed. -/
import Derived.Test.YtgjaamiileoknaaPlApart
namespace Go.Proofs.Ytgjaamiileoknaa
set_option maxRecDepth 50000
open Go.RowKit

set_option maxHeartbeats 3200000 in
theorem settled_any (a t l m b c g z k x y d : Nat) (p s f : Nat) (hf : s * g = f) (hg : 1 ≤ g) (hgb : g ≤ 4294967296) (hfb : f ≤ 4294967296) (hs : s ≤ 3) (h : x = k ∨ y < f ∨ f + g ≤ y) (w : World) (hd : RowAt w d 35 (soc x y)) :
    Calls Try.prog 16 #[spv a t l m b c g z, tuv p s, .int .i64 (k : Int), .slice (some ⟨d, 0, none⟩) 1 1] w fun e w' => e = .returned (.bool true) ∧ Below w.heap.size w w' := by
  obtain ⟨v, hv⟩ : ∃ v, f + g = v := ⟨_, rfl⟩
  obtain ⟨u, hu⟩ : ∃ u, v = u + 1 := ⟨v - 1, by omega⟩
  have C1 := Lib.hid fun w => calls_is (column_is a t l m b c g z s 0 f (by omega) (by omega) w)
  have C2 := Lib.hid fun w => calls_is (column_is a t l m b c g z (s + 1) 0 v (by rw [Nat.succ_mul]; omega) (by omega) w)
  have HT := Lib.hid (tw_new a t l m b c g z (p : Int) (s : Int) w)
  have HB := Lib.hid (two_box w (.cells (spc a t l m b c g z) 29) (.cells (tuc p s) 25))
  have HD := Lib.hid (hd.step HB.out)
  clear hd hf
  go_enter Try.func16, Try.ntmps16
  go_wp2_with fail
  generalize World.alloc (World.alloc w _) _ = w2 at *
  have HC := HT.out.later
  clear HT
  generalize hr : w.heap.size + 1 = r at *
  generalize hq : w.heap.size = q at *
  refine wp_region_text [Is (.int .i64 (k : Int)), Is (spv a t l m b c g z), Is (.pointer (some ⟨r, 0 + 1, none⟩)), Is (.int .i64 (s : Int)), Is (.int .i64 (f : Int)), Is (spv a t l m b c g z), Is (.pointer (some ⟨r, 0 + 1, none⟩)), Is (.int .i64 (s : Int)), Is (.int .i64 ((s + 1 : Nat) : Int)), Is (.int .i64 (v : Int)), Is (.int .i64 (u : Int)), Is (.slice (some ⟨d, 0, none⟩) 1 1), Is (.bool true), Is (.bool true)] (by kernel_rfl) (by kernel_rfl) rfl ⟨stable_is _, stable_is _, stable_is _, stable_is _, stable_is _, stable_is _, stable_is _, stable_is _, stable_is _, stable_is _, stable_is _, stable_is _, stable_is _, stable_is _, trivial⟩ ⟨?_, ?_, ?_, ?_, ?_, ?_, ?_, ?_, ?_, ?_, ?_, ?_, ?_, ?_, trivial⟩ ?_
  · intro a w C
    exact part_on (wanted_free rfl _) (op_move (.inl rfl) (C.was 2 (by kernel_rfl)))
  · intro a w C
    exact part_on (wanted_free rfl _) (op_value (load_run rfl (C.was 4 (by kernel_rfl)) (HC.out w C.below).sh) rfl)
  · intro a w C
    exact part_on (wanted_free rfl _) (op_value (tuf_run (k := 1) rfl (by decide) (C.was 5 (by kernel_rfl))) rfl)
  · intro a w C
    exact part_on (wanted_free rfl _) (op_value (int_run rfl (C.on (j := 2) (by kernel_rfl) rfl rfl) (HC.out w C.below).s) rfl)
  · intro a w C
    exact part_on (wanted_free rfl _) (op_call3 rfl (reg_enters Try.func15 (by kernel_rfl) (by kernel_rfl)) (C.on (j := 1) (by kernel_rfl) rfl rfl) (C.on (j := 3) (by kernel_rfl) rfl rfl) rfl (C1.out w))
  · intro a w C
    exact part_on (wanted_free rfl _) (op_value (load_run rfl (C.was 4 (by kernel_rfl)) (HC.out w C.below).sh) rfl)
  · intro a w C
    exact part_on (wanted_free rfl _) (op_value (tuf_run (k := 1) rfl (by decide) (C.was 5 (by kernel_rfl))) rfl)
  · intro a w C
    exact part_on (wanted_free rfl _) (op_value (int_run rfl (C.on (j := 6) (by kernel_rfl) rfl rfl) (HC.out w C.below).s) rfl)
  · intro a w C
    exact part_on (wanted_free rfl _) (op_bin rfl (C.on (j := 7) (by kernel_rfl) rfl rfl) rfl rfl (add_run w _ _ _ (by omega) (by omega) (by omega)) rfl)
  · intro a w C
    exact part_on (wanted_free rfl _) (op_call3 rfl (reg_enters Try.func15 (by kernel_rfl) (by kernel_rfl)) (C.on (j := 5) (by kernel_rfl) rfl rfl) (C.on (j := 8) (by kernel_rfl) rfl rfl) rfl (C2.out w))
  · intro a w C
    exact part_on (wanted_free rfl _) (op_bin rfl (C.on (j := 9) (by kernel_rfl) rfl rfl) rfl rfl (sub_run w _ _ _ (by omega) (by omega) (by omega)) rfl)
  · intro a w C
    exact part_on (wanted_free rfl _) (op_move (.inl rfl) (C.was 3 (by kernel_rfl)))
  · intro a w C
    exact part_on (wanted_free rfl _) (op_call4 rfl (reg_enters Try.func24 (by kernel_rfl) (by kernel_rfl)) (C.on (j := 0) (by kernel_rfl) rfl rfl) (C.on (j := 4) (by kernel_rfl) rfl rfl) (C.on (j := 10) (by kernel_rfl) rfl rfl) (C.on (j := 11) (by kernel_rfl) rfl rfl) (calls_is (apart_any k f u x y d (by omega) w (HD.out.step C.below))))
  · intro a w C
    exact part_on (wanted_free rfl _) (op_move (.inr rfl) (C.on (j := 12) (by kernel_rfl) rfl rfl))
  rintro wF hbF _ rfl _ rfl _ rfl _ rfl _ rfl _ rfl _ rfl _ rfl _ rfl _ rfl _ rfl _ rfl _ rfl _ rfl
  simp only [Fin, setAt, Exit.then, List.setIfInBounds_toArray, List.set_cons_succ, List.set_cons_zero]
  subst hq
  have HBF := Lib.hid (HB.out.trans (hbF.mono HB.out.size))
  clear hbF HC HB
  go_wp2
  go_ret
  exact ⟨rfl, HBF.out⟩
end Go.Proofs.Ytgjaamiileoknaa

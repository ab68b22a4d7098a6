/- refers of package place by its contract. Conditions: those typed. -/
import Derived.Test.YtgjaamiileoknaaPlSpot
namespace Go.Proofs.Ytgjaamiileoknaa
set_option maxRecDepth 50000
open Go.RowKit

set_option maxHeartbeats 3200000 in
theorem refers_no (a t l m b c g z : Nat) (p s k i : Int) (hx : hasB t p s = false) (ht : t ≤ 4294967295) (w : World) :
    Calls Try.prog 22 #[spv a t l m b c g z, tuv p s, .int .i64 k, .int .i64 i] w fun e w' => e = .returned (.bool false) ∧ Below w.heap.size w w' := by
  have CH := Lib.hid (has_is a t l m b c g z ht p s _ hx)
  have HT := Lib.hid (tw_new a t l m b c g z p s w)
  have HB := Lib.hid (two_box w (.cells (spc a t l m b c g z) 29) (.cells (tuc p s) 25))
  clear hx
  go_enter Try.func22, Try.ntmps22
  go_wp2_with fail
  generalize World.alloc (World.alloc w _) _ = w2 at *
  have HC := HT.out.later
  clear HT
  generalize hr : w.heap.size + 1 = r at *
  generalize hq : w.heap.size = q at *
  refine wp_region_text [Is (spv a t l m b c g z), Is (tuv p s), Is (.bool false), Is (.bool false), Is undef, Is undef, Is undef, Is undef, Is undef, Is (.bool false), Is (.bool false), Is undef, Is undef, Is undef, Is undef, Is undef, Is undef, Is undef, Is undef, Is undef, Is undef, Is undef, Is (.bool false), Is (.bool false)] (by kernel_rfl) (by kernel_rfl) rfl ⟨stable_is _, stable_is _, stable_is _, stable_is _, stable_is _, stable_is _, stable_is _, stable_is _, stable_is _, stable_is _, stable_is _, stable_is _, stable_is _, stable_is _, stable_is _, stable_is _, stable_is _, stable_is _, stable_is _, stable_is _, stable_is _, stable_is _, stable_is _, stable_is _, trivial⟩ ⟨?_, ?_, ?_, ?_, ?_, ?_, ?_, ?_, ?_, ?_, ?_, ?_, ?_, ?_, ?_, ?_, ?_, ?_, ?_, ?_, ?_, ?_, ?_, ?_, trivial⟩ ?_
  · intro a w C
    exact part_on (wanted_free rfl _) (op_value (load_run rfl (C.was 4 (by kernel_rfl)) (HC.out w C.below).sh) rfl)
  · intro a w C
    exact part_on (wanted_free rfl _) (op_value (load_run rfl (C.was 5 (by kernel_rfl)) (HC.out w C.below).tu) rfl)
  · intro a w C
    exact part_on (wanted_free rfl _) (op_call2 rfl (reg_enters Try.func30 (by kernel_rfl) (by kernel_rfl)) (C.on (j := 0) (by kernel_rfl) rfl rfl) (C.on (j := 1) (by kernel_rfl) rfl rfl) (CH.out w))
  · intro a w C
    exact part_on (wanted_free rfl _) (op_move (.inl rfl) (C.on (j := 2) (by kernel_rfl) rfl rfl))
  · intro a w C
    exact part_off (wanted_off (j := 3) rfl rfl rfl (C.on (j := 3) (by kernel_rfl) rfl rfl)) rfl
  · intro a w C
    exact part_off (wanted_off (j := 3) rfl rfl rfl (C.on (j := 3) (by kernel_rfl) rfl rfl)) rfl
  · intro a w C
    exact part_off (wanted_off (j := 3) rfl rfl rfl (C.on (j := 3) (by kernel_rfl) rfl rfl)) rfl
  · intro a w C
    exact part_off (wanted_off (j := 3) rfl rfl rfl (C.on (j := 3) (by kernel_rfl) rfl rfl)) rfl
  · intro a w C
    exact part_off (wanted_off (j := 3) rfl rfl rfl (C.on (j := 3) (by kernel_rfl) rfl rfl)) rfl
  · intro a w C
    exact part_on (wanted_free rfl _) (op_pick (k := false) rfl (C.on (j := 3) (by kernel_rfl) rfl rfl) rfl)
  · intro a w C
    exact part_on (wanted_free rfl _) (op_move (.inl rfl) (C.on (j := 9) (by kernel_rfl) rfl rfl))
  · intro a w C
    exact part_off (wanted_off (j := 10) rfl rfl rfl (C.on (j := 10) (by kernel_rfl) rfl rfl)) rfl
  · intro a w C
    exact part_off (wanted_off (j := 10) rfl rfl rfl (C.on (j := 10) (by kernel_rfl) rfl rfl)) rfl
  · intro a w C
    exact part_off (wanted_off (j := 10) rfl rfl rfl (C.on (j := 10) (by kernel_rfl) rfl rfl)) rfl
  · intro a w C
    exact part_off (wanted_off (j := 10) rfl rfl rfl (C.on (j := 10) (by kernel_rfl) rfl rfl)) rfl
  · intro a w C
    exact part_off (wanted_off (j := 10) rfl rfl rfl (C.on (j := 10) (by kernel_rfl) rfl rfl)) rfl
  · intro a w C
    exact part_off (wanted_off (j := 10) rfl rfl rfl (C.on (j := 10) (by kernel_rfl) rfl rfl)) rfl
  · intro a w C
    exact part_off (wanted_off (j := 10) rfl rfl rfl (C.on (j := 10) (by kernel_rfl) rfl rfl)) rfl
  · intro a w C
    exact part_off (wanted_off (j := 10) rfl rfl rfl (C.on (j := 10) (by kernel_rfl) rfl rfl)) rfl
  · intro a w C
    exact part_off (wanted_off (j := 10) rfl rfl rfl (C.on (j := 10) (by kernel_rfl) rfl rfl)) rfl
  · intro a w C
    exact part_off (wanted_off (j := 10) rfl rfl rfl (C.on (j := 10) (by kernel_rfl) rfl rfl)) rfl
  · intro a w C
    exact part_off (wanted_off (j := 10) rfl rfl rfl (C.on (j := 10) (by kernel_rfl) rfl rfl)) rfl
  · intro a w C
    exact part_on (wanted_free rfl _) (op_pick (k := false) rfl (C.on (j := 10) (by kernel_rfl) rfl rfl) rfl)
  · intro a w C
    exact part_on (wanted_free rfl _) (op_move (.inr rfl) (C.on (j := 22) (by kernel_rfl) rfl rfl))
  rintro wF hbF _ rfl _ rfl _ rfl _ rfl _ rfl _ rfl _ rfl _ rfl _ rfl _ rfl _ rfl _ rfl _ rfl _ rfl _ rfl _ rfl _ rfl _ rfl _ rfl _ rfl _ rfl _ rfl _ rfl _ rfl
  simp only [Fin, setAt, Exit.then, List.setIfInBounds_toArray, List.set_cons_succ, List.set_cons_zero]
  subst hq
  have HBF := Lib.hid (HB.out.trans (hbF.mono HB.out.size))
  clear hbF HC HB
  go_wp2
  go_ret
  exact ⟨rfl, HBF.out⟩

set_option maxHeartbeats 3200000 in
theorem refers_lane (a t l m b c g z : Nat) (p s k i : Int) (hx : hasB t p s = true) (hy : inB k 0 ((l : Int) - 1) = false) (ht : t ≤ 4294967295) (hl : l ≤ 4294967295) (w : World) :
    Calls Try.prog 22 #[spv a t l m b c g z, tuv p s, .int .i64 k, .int .i64 i] w fun e w' => e = .returned (.bool false) ∧ Below w.heap.size w w' := by
  have CH := Lib.hid (has_is a t l m b c g z ht p s _ hx)
  have CL := Lib.hid (within_is k 0 _ _ hy)
  have HT := Lib.hid (tw_new a t l m b c g z p s w)
  have HB := Lib.hid (two_box w (.cells (spc a t l m b c g z) 29) (.cells (tuc p s) 25))
  clear hx hy
  go_enter Try.func22, Try.ntmps22
  go_wp2_with fail
  generalize World.alloc (World.alloc w _) _ = w2 at *
  have HC := HT.out.later
  clear HT
  generalize hr : w.heap.size + 1 = r at *
  generalize hq : w.heap.size = q at *
  refine wp_region_text [Is (spv a t l m b c g z), Is (tuv p s), Is (.bool true), Is (.bool true), Is (.int .i64 k), Is (.pointer (some ⟨q, 0 + 2, none⟩)), Is (.int .i64 (l : Int)), Is (.int .i64 ((l : Int) - 1)), Is (.bool false), Is (.bool false), Is (.bool false), Is undef, Is undef, Is undef, Is undef, Is undef, Is undef, Is undef, Is undef, Is undef, Is undef, Is undef, Is (.bool false), Is (.bool false)] (by kernel_rfl) (by kernel_rfl) rfl ⟨stable_is _, stable_is _, stable_is _, stable_is _, stable_is _, stable_is _, stable_is _, stable_is _, stable_is _, stable_is _, stable_is _, stable_is _, stable_is _, stable_is _, stable_is _, stable_is _, stable_is _, stable_is _, stable_is _, stable_is _, stable_is _, stable_is _, stable_is _, stable_is _, trivial⟩ ⟨?_, ?_, ?_, ?_, ?_, ?_, ?_, ?_, ?_, ?_, ?_, ?_, ?_, ?_, ?_, ?_, ?_, ?_, ?_, ?_, ?_, ?_, ?_, ?_, trivial⟩ ?_
  · intro a w C
    exact part_on (wanted_free rfl _) (op_value (load_run rfl (C.was 4 (by kernel_rfl)) (HC.out w C.below).sh) rfl)
  · intro a w C
    exact part_on (wanted_free rfl _) (op_value (load_run rfl (C.was 5 (by kernel_rfl)) (HC.out w C.below).tu) rfl)
  · intro a w C
    exact part_on (wanted_free rfl _) (op_call2 rfl (reg_enters Try.func30 (by kernel_rfl) (by kernel_rfl)) (C.on (j := 0) (by kernel_rfl) rfl rfl) (C.on (j := 1) (by kernel_rfl) rfl rfl) (CH.out w))
  · intro a w C
    exact part_on (wanted_free rfl _) (op_move (.inl rfl) (C.on (j := 2) (by kernel_rfl) rfl rfl))
  · intro a w C
    exact part_on (wanted_on (j := 3) rfl rfl rfl (C.on (j := 3) (by kernel_rfl) rfl rfl)) (op_move (.inl rfl) (C.was 2 (by kernel_rfl)))
  · intro a w C
    exact part_on (wanted_on (j := 3) rfl rfl rfl (C.on (j := 3) (by kernel_rfl) rfl rfl)) (op_value (spf_run (k := 2) rfl (by decide) (C.was 4 (by kernel_rfl))) rfl)
  · intro a w C
    exact part_on (wanted_on (j := 3) rfl rfl rfl (C.on (j := 3) (by kernel_rfl) rfl rfl)) (op_value (int_run rfl (C.on (j := 5) (by kernel_rfl) rfl rfl) (HC.out w C.below).l) rfl)
  · intro a w C
    exact part_on (wanted_on (j := 3) rfl rfl rfl (C.on (j := 3) (by kernel_rfl) rfl rfl)) (op_bin rfl (C.on (j := 6) (by kernel_rfl) rfl rfl) rfl rfl (sub_run w _ _ _ rfl (by omega) (by omega)) rfl)
  · intro a w C
    exact part_on (wanted_on (j := 3) rfl rfl rfl (C.on (j := 3) (by kernel_rfl) rfl rfl)) (op_call3 rfl (reg_enters Try.func26 (by kernel_rfl) (by kernel_rfl)) (C.on (j := 4) (by kernel_rfl) rfl rfl) rfl (C.on (j := 7) (by kernel_rfl) rfl rfl) (CL.out w))
  · intro a w C
    exact part_on (wanted_free rfl _) (op_pick (k := true) rfl (C.on (j := 3) (by kernel_rfl) rfl rfl) (C.on (j := 8) (by kernel_rfl) rfl rfl))
  · intro a w C
    exact part_on (wanted_free rfl _) (op_move (.inl rfl) (C.on (j := 9) (by kernel_rfl) rfl rfl))
  · intro a w C
    exact part_off (wanted_off (j := 10) rfl rfl rfl (C.on (j := 10) (by kernel_rfl) rfl rfl)) rfl
  · intro a w C
    exact part_off (wanted_off (j := 10) rfl rfl rfl (C.on (j := 10) (by kernel_rfl) rfl rfl)) rfl
  · intro a w C
    exact part_off (wanted_off (j := 10) rfl rfl rfl (C.on (j := 10) (by kernel_rfl) rfl rfl)) rfl
  · intro a w C
    exact part_off (wanted_off (j := 10) rfl rfl rfl (C.on (j := 10) (by kernel_rfl) rfl rfl)) rfl
  · intro a w C
    exact part_off (wanted_off (j := 10) rfl rfl rfl (C.on (j := 10) (by kernel_rfl) rfl rfl)) rfl
  · intro a w C
    exact part_off (wanted_off (j := 10) rfl rfl rfl (C.on (j := 10) (by kernel_rfl) rfl rfl)) rfl
  · intro a w C
    exact part_off (wanted_off (j := 10) rfl rfl rfl (C.on (j := 10) (by kernel_rfl) rfl rfl)) rfl
  · intro a w C
    exact part_off (wanted_off (j := 10) rfl rfl rfl (C.on (j := 10) (by kernel_rfl) rfl rfl)) rfl
  · intro a w C
    exact part_off (wanted_off (j := 10) rfl rfl rfl (C.on (j := 10) (by kernel_rfl) rfl rfl)) rfl
  · intro a w C
    exact part_off (wanted_off (j := 10) rfl rfl rfl (C.on (j := 10) (by kernel_rfl) rfl rfl)) rfl
  · intro a w C
    exact part_off (wanted_off (j := 10) rfl rfl rfl (C.on (j := 10) (by kernel_rfl) rfl rfl)) rfl
  · intro a w C
    exact part_on (wanted_free rfl _) (op_pick (k := false) rfl (C.on (j := 10) (by kernel_rfl) rfl rfl) rfl)
  · intro a w C
    exact part_on (wanted_free rfl _) (op_move (.inr rfl) (C.on (j := 22) (by kernel_rfl) rfl rfl))
  rintro wF hbF _ rfl _ rfl _ rfl _ rfl _ rfl _ rfl _ rfl _ rfl _ rfl _ rfl _ rfl _ rfl _ rfl _ rfl _ rfl _ rfl _ rfl _ rfl _ rfl _ rfl _ rfl _ rfl _ rfl _ rfl
  simp only [Fin, setAt, Exit.then, List.setIfInBounds_toArray, List.set_cons_succ, List.set_cons_zero]
  subst hq
  have HBF := Lib.hid (HB.out.trans (hbF.mono HB.out.size))
  clear hbF HC HB
  go_wp2
  go_ret
  exact ⟨rfl, HBF.out⟩

set_option maxHeartbeats 3200000 in
theorem refers_walk (a t l m b c g z : Nat) (p s k i f : Int) (hf : firN p s = f) (x : Bool) (hx : hasB t p s = true) (hy : inB k 0 ((l : Int) - 1) = true) (hz : inB i f ((g : Int) - 1) = x) (ht : t ≤ 4294967295) (hl : l ≤ 4294967295) (hg : g ≤ 4294967295) (w : World) :
    Calls Try.prog 22 #[spv a t l m b c g z, tuv p s, .int .i64 k, .int .i64 i] w fun e w' => e = .returned (.bool x) ∧ Below w.heap.size w w' := by
  have CH := Lib.hid (has_is a t l m b c g z ht p s _ hx)
  have CL := Lib.hid (within_is k 0 _ _ hy)
  have CI := Lib.hid (within_is i f _ _ hz)
  have CF := Lib.hid (first_is a t l m b c g z p s f hf)
  have HT := Lib.hid (tw_new a t l m b c g z p s w)
  have HB := Lib.hid (two_box w (.cells (spc a t l m b c g z) 29) (.cells (tuc p s) 25))
  clear hx hy hz hf
  go_enter Try.func22, Try.ntmps22
  go_wp2_with fail
  generalize World.alloc (World.alloc w _) _ = w2 at *
  have HC := HT.out.later
  clear HT
  generalize hr : w.heap.size + 1 = r at *
  generalize hq : w.heap.size = q at *
  refine wp_region_text [Is (spv a t l m b c g z), Is (tuv p s), Is (.bool true), Is (.bool true), Is (.int .i64 k), Is (.pointer (some ⟨q, 0 + 2, none⟩)), Is (.int .i64 (l : Int)), Is (.int .i64 ((l : Int) - 1)), Is (.bool true), Is (.bool true), Is (.bool true), Is (.int .i64 i), Is (spv a t l m b c g z), Is (.pointer (some ⟨r, 0 + 0, none⟩)), Is (.int .i64 p), Is (.pointer (some ⟨r, 0 + 1, none⟩)), Is (.int .i64 s), Is (.int .i64 f), Is (.pointer (some ⟨q, 0 + 6, none⟩)), Is (.int .i64 (g : Int)), Is (.int .i64 ((g : Int) - 1)), Is (.bool x), Is (.bool x), Is (.bool x)] (by kernel_rfl) (by kernel_rfl) rfl ⟨stable_is _, stable_is _, stable_is _, stable_is _, stable_is _, stable_is _, stable_is _, stable_is _, stable_is _, stable_is _, stable_is _, stable_is _, stable_is _, stable_is _, stable_is _, stable_is _, stable_is _, stable_is _, stable_is _, stable_is _, stable_is _, stable_is _, stable_is _, stable_is _, trivial⟩ ⟨?_, ?_, ?_, ?_, ?_, ?_, ?_, ?_, ?_, ?_, ?_, ?_, ?_, ?_, ?_, ?_, ?_, ?_, ?_, ?_, ?_, ?_, ?_, ?_, trivial⟩ ?_
  · intro a w C
    exact part_on (wanted_free rfl _) (op_value (load_run rfl (C.was 4 (by kernel_rfl)) (HC.out w C.below).sh) rfl)
  · intro a w C
    exact part_on (wanted_free rfl _) (op_value (load_run rfl (C.was 5 (by kernel_rfl)) (HC.out w C.below).tu) rfl)
  · intro a w C
    exact part_on (wanted_free rfl _) (op_call2 rfl (reg_enters Try.func30 (by kernel_rfl) (by kernel_rfl)) (C.on (j := 0) (by kernel_rfl) rfl rfl) (C.on (j := 1) (by kernel_rfl) rfl rfl) (CH.out w))
  · intro a w C
    exact part_on (wanted_free rfl _) (op_move (.inl rfl) (C.on (j := 2) (by kernel_rfl) rfl rfl))
  · intro a w C
    exact part_on (wanted_on (j := 3) rfl rfl rfl (C.on (j := 3) (by kernel_rfl) rfl rfl)) (op_move (.inl rfl) (C.was 2 (by kernel_rfl)))
  · intro a w C
    exact part_on (wanted_on (j := 3) rfl rfl rfl (C.on (j := 3) (by kernel_rfl) rfl rfl)) (op_value (spf_run (k := 2) rfl (by decide) (C.was 4 (by kernel_rfl))) rfl)
  · intro a w C
    exact part_on (wanted_on (j := 3) rfl rfl rfl (C.on (j := 3) (by kernel_rfl) rfl rfl)) (op_value (int_run rfl (C.on (j := 5) (by kernel_rfl) rfl rfl) (HC.out w C.below).l) rfl)
  · intro a w C
    exact part_on (wanted_on (j := 3) rfl rfl rfl (C.on (j := 3) (by kernel_rfl) rfl rfl)) (op_bin rfl (C.on (j := 6) (by kernel_rfl) rfl rfl) rfl rfl (sub_run w _ _ _ rfl (by omega) (by omega)) rfl)
  · intro a w C
    exact part_on (wanted_on (j := 3) rfl rfl rfl (C.on (j := 3) (by kernel_rfl) rfl rfl)) (op_call3 rfl (reg_enters Try.func26 (by kernel_rfl) (by kernel_rfl)) (C.on (j := 4) (by kernel_rfl) rfl rfl) rfl (C.on (j := 7) (by kernel_rfl) rfl rfl) (CL.out w))
  · intro a w C
    exact part_on (wanted_free rfl _) (op_pick (k := true) rfl (C.on (j := 3) (by kernel_rfl) rfl rfl) (C.on (j := 8) (by kernel_rfl) rfl rfl))
  · intro a w C
    exact part_on (wanted_free rfl _) (op_move (.inl rfl) (C.on (j := 9) (by kernel_rfl) rfl rfl))
  · intro a w C
    exact part_on (wanted_on (j := 10) rfl rfl rfl (C.on (j := 10) (by kernel_rfl) rfl rfl)) (op_move (.inl rfl) (C.was 3 (by kernel_rfl)))
  · intro a w C
    exact part_on (wanted_on (j := 10) rfl rfl rfl (C.on (j := 10) (by kernel_rfl) rfl rfl)) (op_value (load_run rfl (C.was 4 (by kernel_rfl)) (HC.out w C.below).sh) rfl)
  · intro a w C
    exact part_on (wanted_on (j := 10) rfl rfl rfl (C.on (j := 10) (by kernel_rfl) rfl rfl)) (op_value (tuf_run (k := 0) rfl (by decide) (C.was 5 (by kernel_rfl))) rfl)
  · intro a w C
    exact part_on (wanted_on (j := 10) rfl rfl rfl (C.on (j := 10) (by kernel_rfl) rfl rfl)) (op_value (int_run rfl (C.on (j := 13) (by kernel_rfl) rfl rfl) (HC.out w C.below).p) rfl)
  · intro a w C
    exact part_on (wanted_on (j := 10) rfl rfl rfl (C.on (j := 10) (by kernel_rfl) rfl rfl)) (op_value (tuf_run (k := 1) rfl (by decide) (C.was 5 (by kernel_rfl))) rfl)
  · intro a w C
    exact part_on (wanted_on (j := 10) rfl rfl rfl (C.on (j := 10) (by kernel_rfl) rfl rfl)) (op_value (int_run rfl (C.on (j := 15) (by kernel_rfl) rfl rfl) (HC.out w C.below).s) rfl)
  · intro a w C
    exact part_on (wanted_on (j := 10) rfl rfl rfl (C.on (j := 10) (by kernel_rfl) rfl rfl)) (op_call3 rfl (reg_enters Try.func31 (by kernel_rfl) (by kernel_rfl)) (C.on (j := 12) (by kernel_rfl) rfl rfl) (C.on (j := 14) (by kernel_rfl) rfl rfl) (C.on (j := 16) (by kernel_rfl) rfl rfl) (CF.out w))
  · intro a w C
    exact part_on (wanted_on (j := 10) rfl rfl rfl (C.on (j := 10) (by kernel_rfl) rfl rfl)) (op_value (spf_run (k := 6) rfl (by decide) (C.was 4 (by kernel_rfl))) rfl)
  · intro a w C
    exact part_on (wanted_on (j := 10) rfl rfl rfl (C.on (j := 10) (by kernel_rfl) rfl rfl)) (op_value (int_run rfl (C.on (j := 18) (by kernel_rfl) rfl rfl) (HC.out w C.below).g) rfl)
  · intro a w C
    exact part_on (wanted_on (j := 10) rfl rfl rfl (C.on (j := 10) (by kernel_rfl) rfl rfl)) (op_bin rfl (C.on (j := 19) (by kernel_rfl) rfl rfl) rfl rfl (sub_run w _ _ _ rfl (by omega) (by omega)) rfl)
  · intro a w C
    exact part_on (wanted_on (j := 10) rfl rfl rfl (C.on (j := 10) (by kernel_rfl) rfl rfl)) (op_call3 rfl (reg_enters Try.func26 (by kernel_rfl) (by kernel_rfl)) (C.on (j := 11) (by kernel_rfl) rfl rfl) (C.on (j := 17) (by kernel_rfl) rfl rfl) (C.on (j := 20) (by kernel_rfl) rfl rfl) (CI.out w))
  · intro a w C
    exact part_on (wanted_free rfl _) (op_pick (k := true) rfl (C.on (j := 10) (by kernel_rfl) rfl rfl) (C.on (j := 21) (by kernel_rfl) rfl rfl))
  · intro a w C
    exact part_on (wanted_free rfl _) (op_move (.inr rfl) (C.on (j := 22) (by kernel_rfl) rfl rfl))
  rintro wF hbF _ rfl _ rfl _ rfl _ rfl _ rfl _ rfl _ rfl _ rfl _ rfl _ rfl _ rfl _ rfl _ rfl _ rfl _ rfl _ rfl _ rfl _ rfl _ rfl _ rfl _ rfl _ rfl _ rfl _ rfl
  simp only [Fin, setAt, Exit.then, List.setIfInBounds_toArray, List.set_cons_succ, List.set_cons_zero]
  subst hq
  have HBF := Lib.hid (HB.out.trans (hbF.mono HB.out.size))
  clear hbF HC HB
  go_wp2
  go_ret
  exact ⟨rfl, HBF.out⟩

theorem refers_any (a t l m b c g z : Nat) (p s k i : Int) (ht : t ≤ 4294967295) (hl : l ≤ 4294967295) (hg : g ≤ 4294967295) (x : Bool) (hx : reB t l g p s k i = x) (w : World) :
    Calls Try.prog 22 #[spv a t l m b c g z, tuv p s, .int .i64 k, .int .i64 i] w fun e w' => e = .returned (.bool x) ∧ Below w.heap.size w w' := by
  unfold reB at hx
  cases h1 : hasB t p s
  · rw [h1, Bool.false_and] at hx
    subst hx
    exact refers_no a t l m b c g z p s k i h1 ht w
  · cases h2 : inB k 0 ((l : Int) - 1)
    · rw [h1, h2, Bool.false_and, Bool.and_false] at hx
      subst hx
      exact refers_lane a t l m b c g z p s k i h1 h2 ht hl w
    · rw [h1, h2, Bool.true_and, Bool.true_and] at hx
      exact refers_walk a t l m b c g z p s k i _ rfl x h1 h2 hx ht hl hg w
end Go.Proofs.Ytgjaamiileoknaa

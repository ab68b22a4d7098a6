/- The document's Join and Part of layer 17; chapter 17's example. Conditions: those typed. -/
import Derived.Test.YtjknpbaegnkdnaaCrPart
import Derived.Laws.OwnMore
import Derived.Deep.OwnRows
namespace Go.Proofs.Ytjknpbaegnkdnaa
set_option maxRecDepth 50000
open Go.RowKit Sx

section
variable {P : Program} {p : Value → World → Prop} {o : Oper} {a : Act} {w : World} {Q : Exit → Act → World → Prop}
theorem op_call0 {f : FuncId} {ts : Array TypeId} (ho : o.op = .call { callee := .value (.func f), args := #[], argTypes := ts }) (he : ∀ (args : Array Value) (w : World), (callFunc f args).run P w = .ok (.enter f args) w)
    (hc : Calls P f #[] w fun e w' => ∃ v, e = .returned v ∧ p v w' ∧ Below w.heap.size w w') : Does P p o a w Q := op_call ho he hc
theorem op_call3 {f : FuncId} {x y z : Operand} {ts : Array TypeId} {v1 v2 v3 : Value} (ho : o.op = .call { callee := .value (.func f), args := #[x, y, z], argTypes := ts }) (he : ∀ (args : Array Value) (w : World), (callFunc f args).run P w = .ok (.enter f args) w)
    (hx : a.eval x = v1) (hy : a.eval y = v2) (hz : a.eval z = v3) (hc : Calls P f #[v1, v2, v3] w fun e w' => ∃ v, e = .returned v ∧ p v w' ∧ Below w.heap.size w w') : Does P p o a w Q := by
  subst hx; subst hy; subst hz
  exact op_call ho he hc
end

theorem rcrypt_any (w : World) : Calls Try.prog 14 #[] w fun e w' => e = .returned (.string cryptS) ∧ w' = w := by
  go_enter Try.func14, Try.ntmps14
  go_wp2
  go_ret
  exact ⟨rfl, rfl⟩

set_option maxHeartbeats 800000 in
theorem rjoin_any (s t : ByteArray) (w : World) :
    Calls Try.prog 8 #[.string s, .string t] w fun e w' => e = .returned (.tuple #[.string (jnL s t), .int .i64 (jnE s t)]) ∧ Below w.heap.size w w' := by
  by_cases hb : s.size = 16 ∧ t.size = 23
  case neg =>
    obtain ⟨hE, hL⟩ := jn_bad hb
    have HE := Lib.hid hE
    have HL := Lib.hid hL
    have hh : ((s.size : Int) == 16) = false ∧ ((s.size : Int) != 16) = true ∨ ((s.size : Int) == 16) = true ∧ ((s.size : Int) != 16) = false ∧ ((t.size : Int) == 23) = false ∧ ((t.size : Int) != 23) = true := by simp; omega
    clear hE hL hb
    rcases hh with ⟨d0, d1⟩ | ⟨d0, d1, d2, d3⟩
    all_goals
      go_enter Try.func8, Try.ntmps8
      go_wp2
      go_ret2
      exact ⟨by rw [HE.out, HL.out]; rfl, Below.refl _ _⟩
  obtain ⟨hE, hL⟩ := jn_good hb.1 hb.2
  have HE := Lib.hid hE
  have HL := Lib.hid hL
  have d0 : ((s.size : Int) == 16) = true := by simp; omega
  have d1 : ((s.size : Int) != 16) = false := by simp; omega
  have d2 : ((t.size : Int) == 23) = true := by simp; omega
  have d3 : ((t.size : Int) != 23) = false := by simp; omega
  have z1 : (tx (enc (tl cryptS) (tl s))).size ≤ 22 := by rw [tx_size, enc_length, tl_length, hb.1]; decide
  have z2 : (tx (enc (tl cryptS) (tl t))).size ≤ 31 := by rw [tx_size, enc_length, tl_length, hb.2]; decide
  have C1 := Lib.hid (fun w => rencode_any cryptS s crypt_size (by omega) w)
  have C2 := Lib.hid (fun w => rencode_any cryptS t crypt_size (by omega) w)
  have CC := Lib.hid rcrypt_any
  clear hE hL
  generalize tx (enc (tl cryptS) (tl s)) = E1 at *
  generalize tx (enc (tl cryptS) (tl t)) = E2 at *
  go_enter Try.func8, Try.ntmps8
  go_wp2_with fail
  refine (CC.out w).mono ?_
  rintro e w' ⟨rfl, hw⟩
  obtain rfl := hw
  go_wp2_with fail
  refine (C1.out _).mono ?_
  rintro e w1 ⟨rfl, hb⟩
  have B1 := Lib.hid hb
  clear hb
  go_wp2_with fail
  refine (CC.out w1).mono ?_
  rintro e w' ⟨rfl, hw⟩
  obtain rfl := hw
  go_wp2_with fail
  refine (C2.out _).mono ?_
  rintro e w2 ⟨rfl, hb⟩
  have B2 := Lib.hid (below_step B1.out hb)
  clear hb
  go_wp2
  go_ret2
  exact ⟨by rw [HE.out, HL.out]; rfl, B2.out⟩

theorem crhd2_run {w : World} {s H : ByteArray} {ev : Operand → Value} {x : Operand} {o : Oper} (hop : o.op = .slice 9 x none (some (.const (.int .i64 22))) none) (hx : ev x = .string s) (hr : (Instr.sliceAt 9 (.string s) none (some (.int .i64 22)) none).run Try.prog w = .ok (.string H) w) (hc : ev (.const (.int .i64 22)) = .int .i64 22) : (execOp ev o).run Try.prog w = .ok (.value (.string H)) w := crhd_run hop hx hc hr
theorem crtl2_run {w : World} {s T : ByteArray} {ev : Operand → Value} {x : Operand} {o : Oper} (hop : o.op = .slice 9 x (some (.const (.int .i64 22))) none none) (hx : ev x = .string s) (hr : (Instr.sliceAt 9 (.string s) (some (.int .i64 22)) none none).run Try.prog w = .ok (.string T) w) (hc : ev (.const (.int .i64 22)) = .int .i64 22) : (execOp ev o).run Try.prog w = .ok (.value (.string T)) w := crtl_run hop hx hc hr

set_option maxHeartbeats 3200000 in
theorem rpart_any (s : ByteArray) (w : World) :
    Calls Try.prog 10 #[.string s] w fun e w' => e = .returned (.tuple #[.string (ptA s), .string (ptB s), .int .i64 (ptE s)]) ∧ Below w.heap.size w w' := by
  by_cases h : s.size = 53
  case neg =>
    obtain ⟨h1, h2, h3⟩ := pt_size h
    have HW := Lib.hid (pt_size h)
    have d0 : ((s.size : Int) == 53) = false := by simp; omega
    have d1 : ((s.size : Int) != 53) = true := by simp; omega
    clear h h1 h2 h3
    go_enter Try.func10, Try.ntmps10
    go_wp2
    go_ret3
    exact ⟨by rw [HW.out.1, HW.out.2.1, HW.out.2.2]; rfl, Below.refl _ _⟩
  have d0 : ((s.size : Int) == 53) = true := by simp; omega
  have d1 : ((s.size : Int) != 53) = false := by simp; omega
  have SH := Lib.hid (hd_run h)
  have ST := Lib.hid (tl_run h)
  have CC : Hid (∀ w : World, Calls Try.prog 14 #[] w fun e w' => ∃ v, e = .returned v ∧ Is (.string cryptS) v w' ∧ Below w.heap.size w w') := Lib.hid fun w => (rcrypt_any w).mono fun e w' he => ⟨_, he.1, rfl, by rw [he.2]; exact Below.refl _ _⟩
  have CD1 : Hid (∀ w : World, Calls Try.prog 17 #[.string cryptS, .string (hdS s)] w fun e w' => ∃ v, e = .returned v ∧ Is (.tuple #[.string (tx (decL (tl cryptS) (tl (hdS s)))), .int .i64 (decE (tl cryptS) (tl (hdS s)))]) v w' ∧ Below w.heap.size w w') := Lib.hid fun w => by
    refine (rdecode_any cryptS (hdS s) crypt_fine (by rw [← tl_length, hd_size h]; decide) w).mono ?_
    rintro e w' ⟨rfl, hb⟩
    exact ⟨_, rfl, rfl, hb⟩
  have CD2 : Hid (∀ w : World, Calls Try.prog 17 #[.string cryptS, .string (tlS s)] w fun e w' => ∃ v, e = .returned v ∧ Is (.tuple #[.string (tx (decL (tl cryptS) (tl (tlS s)))), .int .i64 (decE (tl cryptS) (tl (tlS s)))]) v w' ∧ Below w.heap.size w w') := Lib.hid fun w => by
    refine (rdecode_any cryptS (tlS s) crypt_fine (by rw [← tl_length, tl_size h]; decide) w).mono ?_
    rintro e w' ⟨rfl, hb⟩
    exact ⟨_, rfl, rfl, hb⟩
  have W1 := Lib.hid (@pt_first s h)
  have W2 := Lib.hid (@pt_second s h)
  have W3 := Lib.hid (@pt_good s h)
  clear h
  generalize hdS s = H at *
  generalize tlS s = T at *
  generalize tx (decL (tl cryptS) (tl H)) = X1 at *
  generalize tx (decL (tl cryptS) (tl T)) = X2 at *
  generalize decE (tl cryptS) (tl H) = Z1 at *
  generalize decE (tl cryptS) (tl T) = Z2 at *
  go_enter Try.func10, Try.ntmps10
  go_wp2_with fail
  by_cases hx : Z1 = 0
  case neg =>
    have HW := Lib.hid (W1.out hx)
    have z1 : (Z1 == 0) = false := by simpa using hx
    have z2 : (Z1 != 0) = true := by simpa using hx
    clear hx
    refine wp_region_text [Is (.string cryptS), Is (.string s), Is (.string H), Is (.tuple #[.string X1, .int .i64 Z1]), Is (.tuple #[.string X1, .int .i64 Z1]), Is (.string X1), Is (.int .i64 Z1), Is (.string X1), Is (.int .i64 Z1)] (by kernel_rfl) (by kernel_rfl) rfl ⟨stable_is _, stable_is _, stable_is _, stable_is _, stable_is _, stable_is _, stable_is _, stable_is _, stable_is _, trivial⟩ ⟨?_, ?_, ?_, ?_, ?_, ?_, ?_, ?_, ?_, trivial⟩ ?_
    · intro a w C
      exact part_on (wanted_free rfl _) (op_call0 rfl (reg_enters Try.func14 (by kernel_rfl) (by kernel_rfl))  (CC.out w))
    · intro a w C
      exact part_on (wanted_free rfl _) (op_move (.inl rfl) (C.was 0 (by kernel_rfl)))
    · intro a w C
      exact part_on (wanted_free rfl _) (op_value (crhd2_run rfl (C.on (j := 1) (by kernel_rfl) rfl rfl) (SH.out w) rfl) rfl)
    · intro a w C
      exact part_on (wanted_free rfl _) (op_call2 rfl (reg_enters Try.func17 (by kernel_rfl) (by kernel_rfl)) (C.on (j := 0) (by kernel_rfl) rfl rfl) (C.on (j := 2) (by kernel_rfl) rfl rfl) (CD1.out w))
    · intro a w C
      exact part_on (wanted_free rfl _) (op_move (.inl rfl) (C.on (j := 3) (by kernel_rfl) rfl rfl))
    · intro a w C
      exact part_on (wanted_free rfl _) (op_value (crext_run rfl (C.on (j := 4) (by kernel_rfl) rfl rfl) rfl) rfl)
    · intro a w C
      exact part_on (wanted_free rfl _) (op_value (crext_run rfl (C.on (j := 4) (by kernel_rfl) rfl rfl) rfl) rfl)
    · intro a w C
      exact part_on (wanted_free rfl _) (op_move (.inr rfl) (C.on (j := 5) (by kernel_rfl) rfl rfl))
    · intro a w C
      exact part_on (wanted_free rfl _) (op_move (.inr rfl) (C.on (j := 6) (by kernel_rfl) rfl rfl))
    rintro wF hbF _ rfl _ rfl _ rfl _ rfl _ rfl _ rfl _ rfl _ rfl _ rfl
    simp only [Fin, setAt, Exit.then, List.setIfInBounds_toArray, List.set_cons_succ, List.set_cons_zero]
    go_wp2
    go_ret3
    exact ⟨by rw [HW.out.1, HW.out.2.1, HW.out.2.2]; rfl, hbF⟩
  subst hx
  by_cases hy : Z2 = 0
  case neg =>
    have HW := Lib.hid (W2.out rfl hy)
    have z1 : (Z2 == 0) = false := by simpa using hy
    have z2 : (Z2 != 0) = true := by simpa using hy
    clear hy
    refine wp_region_text [Is (.string cryptS), Is (.string s), Is (.string H), Is (.tuple #[.string X1, .int .i64 0]), Is (.tuple #[.string X1, .int .i64 0]), Is (.string X1), Is (.int .i64 0), Is (.string X1), Is (.int .i64 0)] (by kernel_rfl) (by kernel_rfl) rfl ⟨stable_is _, stable_is _, stable_is _, stable_is _, stable_is _, stable_is _, stable_is _, stable_is _, stable_is _, trivial⟩ ⟨?_, ?_, ?_, ?_, ?_, ?_, ?_, ?_, ?_, trivial⟩ ?_
    · intro a w C
      exact part_on (wanted_free rfl _) (op_call0 rfl (reg_enters Try.func14 (by kernel_rfl) (by kernel_rfl))  (CC.out w))
    · intro a w C
      exact part_on (wanted_free rfl _) (op_move (.inl rfl) (C.was 0 (by kernel_rfl)))
    · intro a w C
      exact part_on (wanted_free rfl _) (op_value (crhd2_run rfl (C.on (j := 1) (by kernel_rfl) rfl rfl) (SH.out w) rfl) rfl)
    · intro a w C
      exact part_on (wanted_free rfl _) (op_call2 rfl (reg_enters Try.func17 (by kernel_rfl) (by kernel_rfl)) (C.on (j := 0) (by kernel_rfl) rfl rfl) (C.on (j := 2) (by kernel_rfl) rfl rfl) (CD1.out w))
    · intro a w C
      exact part_on (wanted_free rfl _) (op_move (.inl rfl) (C.on (j := 3) (by kernel_rfl) rfl rfl))
    · intro a w C
      exact part_on (wanted_free rfl _) (op_value (crext_run rfl (C.on (j := 4) (by kernel_rfl) rfl rfl) rfl) rfl)
    · intro a w C
      exact part_on (wanted_free rfl _) (op_value (crext_run rfl (C.on (j := 4) (by kernel_rfl) rfl rfl) rfl) rfl)
    · intro a w C
      exact part_on (wanted_free rfl _) (op_move (.inr rfl) (C.on (j := 5) (by kernel_rfl) rfl rfl))
    · intro a w C
      exact part_on (wanted_free rfl _) (op_move (.inr rfl) (C.on (j := 6) (by kernel_rfl) rfl rfl))
    rintro wF hbF _ rfl _ rfl _ rfl _ rfl _ rfl _ rfl _ rfl _ rfl _ rfl
    simp only [Fin, setAt, Exit.then, List.setIfInBounds_toArray, List.set_cons_succ, List.set_cons_zero]
    have B1 := Lib.hid hbF
    clear hbF
    go_wp2_with fail
    refine wp_region_text [Is (.string cryptS), Is (.string s), Is (.string T), Is (.tuple #[.string X2, .int .i64 Z2]), Is (.tuple #[.string X2, .int .i64 Z2]), Is (.string X2), Is (.int .i64 Z2), Is (.string X2), Is (.int .i64 Z2)] (by kernel_rfl) (by kernel_rfl) rfl ⟨stable_is _, stable_is _, stable_is _, stable_is _, stable_is _, stable_is _, stable_is _, stable_is _, stable_is _, trivial⟩ ⟨?_, ?_, ?_, ?_, ?_, ?_, ?_, ?_, ?_, trivial⟩ ?_
    · intro a w C
      exact part_on (wanted_free rfl _) (op_call0 rfl (reg_enters Try.func14 (by kernel_rfl) (by kernel_rfl))  (CC.out w))
    · intro a w C
      exact part_on (wanted_free rfl _) (op_move (.inl rfl) (C.was 0 (by kernel_rfl)))
    · intro a w C
      exact part_on (wanted_free rfl _) (op_value (crtl2_run rfl (C.on (j := 1) (by kernel_rfl) rfl rfl) (ST.out w) rfl) rfl)
    · intro a w C
      exact part_on (wanted_free rfl _) (op_call2 rfl (reg_enters Try.func17 (by kernel_rfl) (by kernel_rfl)) (C.on (j := 0) (by kernel_rfl) rfl rfl) (C.on (j := 2) (by kernel_rfl) rfl rfl) (CD2.out w))
    · intro a w C
      exact part_on (wanted_free rfl _) (op_move (.inl rfl) (C.on (j := 3) (by kernel_rfl) rfl rfl))
    · intro a w C
      exact part_on (wanted_free rfl _) (op_value (crext_run rfl (C.on (j := 4) (by kernel_rfl) rfl rfl) rfl) rfl)
    · intro a w C
      exact part_on (wanted_free rfl _) (op_value (crext_run rfl (C.on (j := 4) (by kernel_rfl) rfl rfl) rfl) rfl)
    · intro a w C
      exact part_on (wanted_free rfl _) (op_move (.inr rfl) (C.on (j := 5) (by kernel_rfl) rfl rfl))
    · intro a w C
      exact part_on (wanted_free rfl _) (op_move (.inr rfl) (C.on (j := 6) (by kernel_rfl) rfl rfl))
    rintro wF hbF _ rfl _ rfl _ rfl _ rfl _ rfl _ rfl _ rfl _ rfl _ rfl
    simp only [Fin, setAt, Exit.then, List.setIfInBounds_toArray, List.set_cons_succ, List.set_cons_zero]
    go_wp2
    go_ret3
    exact ⟨by rw [HW.out.1, HW.out.2.1, HW.out.2.2]; rfl, below_step B1.out hbF⟩
  · subst hy
    have HW := Lib.hid (W3.out rfl rfl)
    refine wp_region_text [Is (.string cryptS), Is (.string s), Is (.string H), Is (.tuple #[.string X1, .int .i64 0]), Is (.tuple #[.string X1, .int .i64 0]), Is (.string X1), Is (.int .i64 0), Is (.string X1), Is (.int .i64 0)] (by kernel_rfl) (by kernel_rfl) rfl ⟨stable_is _, stable_is _, stable_is _, stable_is _, stable_is _, stable_is _, stable_is _, stable_is _, stable_is _, trivial⟩ ⟨?_, ?_, ?_, ?_, ?_, ?_, ?_, ?_, ?_, trivial⟩ ?_
    · intro a w C
      exact part_on (wanted_free rfl _) (op_call0 rfl (reg_enters Try.func14 (by kernel_rfl) (by kernel_rfl))  (CC.out w))
    · intro a w C
      exact part_on (wanted_free rfl _) (op_move (.inl rfl) (C.was 0 (by kernel_rfl)))
    · intro a w C
      exact part_on (wanted_free rfl _) (op_value (crhd2_run rfl (C.on (j := 1) (by kernel_rfl) rfl rfl) (SH.out w) rfl) rfl)
    · intro a w C
      exact part_on (wanted_free rfl _) (op_call2 rfl (reg_enters Try.func17 (by kernel_rfl) (by kernel_rfl)) (C.on (j := 0) (by kernel_rfl) rfl rfl) (C.on (j := 2) (by kernel_rfl) rfl rfl) (CD1.out w))
    · intro a w C
      exact part_on (wanted_free rfl _) (op_move (.inl rfl) (C.on (j := 3) (by kernel_rfl) rfl rfl))
    · intro a w C
      exact part_on (wanted_free rfl _) (op_value (crext_run rfl (C.on (j := 4) (by kernel_rfl) rfl rfl) rfl) rfl)
    · intro a w C
      exact part_on (wanted_free rfl _) (op_value (crext_run rfl (C.on (j := 4) (by kernel_rfl) rfl rfl) rfl) rfl)
    · intro a w C
      exact part_on (wanted_free rfl _) (op_move (.inr rfl) (C.on (j := 5) (by kernel_rfl) rfl rfl))
    · intro a w C
      exact part_on (wanted_free rfl _) (op_move (.inr rfl) (C.on (j := 6) (by kernel_rfl) rfl rfl))
    rintro wF hbF _ rfl _ rfl _ rfl _ rfl _ rfl _ rfl _ rfl _ rfl _ rfl
    simp only [Fin, setAt, Exit.then, List.setIfInBounds_toArray, List.set_cons_succ, List.set_cons_zero]
    have B1 := Lib.hid hbF
    clear hbF
    go_wp2_with fail
    refine wp_region_text [Is (.string cryptS), Is (.string s), Is (.string T), Is (.tuple #[.string X2, .int .i64 0]), Is (.tuple #[.string X2, .int .i64 0]), Is (.string X2), Is (.int .i64 0), Is (.string X2), Is (.int .i64 0)] (by kernel_rfl) (by kernel_rfl) rfl ⟨stable_is _, stable_is _, stable_is _, stable_is _, stable_is _, stable_is _, stable_is _, stable_is _, stable_is _, trivial⟩ ⟨?_, ?_, ?_, ?_, ?_, ?_, ?_, ?_, ?_, trivial⟩ ?_
    · intro a w C
      exact part_on (wanted_free rfl _) (op_call0 rfl (reg_enters Try.func14 (by kernel_rfl) (by kernel_rfl))  (CC.out w))
    · intro a w C
      exact part_on (wanted_free rfl _) (op_move (.inl rfl) (C.was 0 (by kernel_rfl)))
    · intro a w C
      exact part_on (wanted_free rfl _) (op_value (crtl2_run rfl (C.on (j := 1) (by kernel_rfl) rfl rfl) (ST.out w) rfl) rfl)
    · intro a w C
      exact part_on (wanted_free rfl _) (op_call2 rfl (reg_enters Try.func17 (by kernel_rfl) (by kernel_rfl)) (C.on (j := 0) (by kernel_rfl) rfl rfl) (C.on (j := 2) (by kernel_rfl) rfl rfl) (CD2.out w))
    · intro a w C
      exact part_on (wanted_free rfl _) (op_move (.inl rfl) (C.on (j := 3) (by kernel_rfl) rfl rfl))
    · intro a w C
      exact part_on (wanted_free rfl _) (op_value (crext_run rfl (C.on (j := 4) (by kernel_rfl) rfl rfl) rfl) rfl)
    · intro a w C
      exact part_on (wanted_free rfl _) (op_value (crext_run rfl (C.on (j := 4) (by kernel_rfl) rfl rfl) rfl) rfl)
    · intro a w C
      exact part_on (wanted_free rfl _) (op_move (.inr rfl) (C.on (j := 5) (by kernel_rfl) rfl rfl))
    · intro a w C
      exact part_on (wanted_free rfl _) (op_move (.inr rfl) (C.on (j := 6) (by kernel_rfl) rfl rfl))
    rintro wF hbF _ rfl _ rfl _ rfl _ rfl _ rfl _ rfl _ rfl _ rfl _ rfl
    simp only [Fin, setAt, Exit.then, List.setIfInBounds_toArray, List.set_cons_succ, List.set_cons_zero]
    go_wp2
    go_ret3
    exact ⟨by rw [HW.out.1, HW.out.2.1, HW.out.2.2]; rfl, below_step B1.out hbF⟩

/-- a code that was made -/
def CrP : Value → World → Prop := fun x w => ∃ d b, x = .pointer (some ⟨d, 0, none⟩) ∧ CrRow w d b
theorem stable_crp : Stable CrP := fun _ _ _ ⟨d, b, e, h⟩ hb => ⟨d, b, e, h.below hb⟩
theorem zeros_does {w : World} {o : Oper} {a : Act} {Q : Exit → Act → World → Prop} {l c : Operand} (n : Nat) (hn : n ≤ 1000) (ho : o.op = .makeSlice 35 l c) (hl : a.eval l = .int .i64 (n : Int)) (hc : a.eval c = .int .i64 (n : Int)) : Does Try.prog (Owns (List.replicate n 0)) o a w Q := by
  obtain ⟨i0, hi, hz0, hz1, hz2⟩ := info_parts fd_info_u8
  have hrun := run_make (P := Try.prog) w 35 5 i0 (.int .u8 0) Try.underlying35 hi hz0 .i64 .i64 n n (by omega) (by omega) (by rw [hz2]; omega) (by omega)
  rw [hz1, Nat.mul_one] at hrun
  simp only [Int.toNat_natCast] at hrun
  unfold Does Oper.wp
  simp only [execOp, ho, hl, hc, Sem.run_bind, hrun, Result.andThen, Sem.run_pure]
  refine ⟨_, rfl, ⟨w.heap.size, n, by simp [cs], .inr ⟨w.heap.size, n, _, rfl, Nat.le_refl _, heap_alloc_new w _, Nat.le_refl _, by unfold maxLen; omega, by rw [size_madeCells, Nat.mul_one], ?_⟩⟩, (Below.refl _ _).alloc (Nat.le_refl _) _⟩
  show List.take (n * 1) (madeCells #[.int .u8 0] n).toList = _
  rw [toList_madeCells_one, List.take_replicate, Nat.mul_one, Nat.min_self]
  simp [cs]

/-- 53 points -/
def dots : ByteArray := ⟨#[46, 46, 46, 46, 46, 46, 46, 46, 46, 46, 46, 46, 46, 46, 46, 46, 46, 46, 46, 46, 46, 46, 46, 46, 46, 46, 46, 46, 46, 46, 46, 46, 46, 46, 46, 46, 46, 46, 46, 46, 46, 46, 46, 46, 46, 46, 46, 46, 46, 46, 46, 46, 46]⟩
theorem dots_list : dots.toList = List.replicate 53 46 := by rw [ByteArray.toList_eq]; rfl
theorem dots_are : jnE (tx (List.replicate 16 0)) (tx (List.replicate 23 0)) = 0 ∧ jnL (tx (List.replicate 16 0)) (tx (List.replicate 23 0)) = dots := by decide +kernel

set_option maxHeartbeats 1600000 in
theorem awake17_any (w : World) : Calls Try.prog 5 #[] w fun e w' => e = .returned (.bool true) ∧ Below w.heap.size w w' := by
  have CN : Hid (∀ w : World, Calls Try.prog 6 #[] w fun e w' => ∃ v, e = .returned v ∧ CrP v w' ∧ Below w.heap.size w w') := Lib.hid fun w => by
    refine (cnew_any w).mono ?_
    rintro e w' ⟨⟨d, b, rfl, h⟩, hb⟩
    exact ⟨_, rfl, ⟨d, b, rfl, h⟩, hb⟩
  have CJ : Hid (∀ (d b : Nat) (w : World), CrRow w d b → Calls Try.prog 7 #[.pointer (some ⟨d, 0, none⟩), .string (tx (List.replicate 16 0)), .string (tx (List.replicate 23 0))] w fun e w' => ∃ v, e = .returned v ∧ Is (.tuple #[.string dots, .int .i64 0]) v w' ∧ Below w.heap.size w w') := Lib.hid fun d b w h => by
    refine (cjoin_any d b _ _ w h).mono ?_
    rintro e w' ⟨rfl, hb⟩
    exact ⟨_, rfl, by rw [dots_are.1, dots_are.2]; rfl, hb⟩
  go_enter Try.func5, Try.ntmps5
  go_wp2_with fail
  refine wp_region_text [CrP, Owns (List.replicate 16 0), Is (.string (tx (List.replicate 16 0))), Owns (List.replicate 23 0), Is (.string (tx (List.replicate 23 0))), Is (.tuple #[.string dots, .int .i64 0]), Is (.tuple #[.string dots, .int .i64 0]), Is (.string dots), Is (.int .i64 0), Is (.string dots), Is (.int .i64 0)] (by kernel_rfl) (by kernel_rfl) rfl ⟨stable_crp, stable_owns _, stable_is _, stable_owns _, stable_is _, stable_is _, stable_is _, stable_is _, stable_is _, stable_is _, stable_is _, trivial⟩ ⟨?_, ?_, ?_, ?_, ?_, ?_, ?_, ?_, ?_, ?_, ?_, trivial⟩ ?_
  · intro a w C
    exact part_on (wanted_free rfl _) (op_call0 rfl (reg_enters Try.func6 (by kernel_rfl) (by kernel_rfl)) (CN.out w))
  · intro a w C
    exact part_on (wanted_free rfl _) (zeros_does 16 (by decide) rfl rfl rfl)
  · intro a w C
    obtain ⟨B, n, ho⟩ : Owns _ _ _ := (C.on (j := 1) (by kernel_rfl) rfl rfl)
    exact part_on (wanted_free rfl _) (op_conv rfl rfl (conv_text w ho) rfl)
  · intro a w C
    exact part_on (wanted_free rfl _) (zeros_does 23 (by decide) rfl rfl rfl)
  · intro a w C
    obtain ⟨B, n, ho⟩ : Owns _ _ _ := (C.on (j := 3) (by kernel_rfl) rfl rfl)
    exact part_on (wanted_free rfl _) (op_conv rfl rfl (conv_text w ho) rfl)
  · intro a w C
    obtain ⟨d, b, e0, h0⟩ : CrP _ _ := (C.on (j := 0) (by kernel_rfl) rfl rfl)
    exact part_on (wanted_free rfl _) (op_call3 rfl (reg_enters Try.func7 (by kernel_rfl) (by kernel_rfl)) e0 (C.on (j := 2) (by kernel_rfl) rfl rfl) (C.on (j := 4) (by kernel_rfl) rfl rfl) (CJ.out d b w h0))
  · intro a w C
    exact part_on (wanted_free rfl _) (op_move (.inl rfl) (C.on (j := 5) (by kernel_rfl) rfl rfl))
  · intro a w C
    exact part_on (wanted_free rfl _) (op_value (crext_run rfl (C.on (j := 6) (by kernel_rfl) rfl rfl) rfl) rfl)
  · intro a w C
    exact part_on (wanted_free rfl _) (op_value (crext_run rfl (C.on (j := 6) (by kernel_rfl) rfl rfl) rfl) rfl)
  · intro a w C
    exact part_on (wanted_free rfl _) (op_move (.inr rfl) (C.on (j := 7) (by kernel_rfl) rfl rfl))
  · intro a w C
    exact part_on (wanted_free rfl _) (op_move (.inr rfl) (C.on (j := 8) (by kernel_rfl) rfl rfl))
  rintro wF hbF x4 hx4 x5 hx5 _ rfl x7 hx7 _ rfl _ rfl _ rfl _ rfl _ rfl _ rfl _ rfl
  simp only [Fin, setAt, Exit.then, List.setIfInBounds_toArray, List.set_cons_succ, List.set_cons_zero]
  have HD := Lib.hid dots_list
  go_wp2
  go_ret
  exact ⟨by rw [HD.out]; rfl, hbF⟩
end Go.Proofs.Ytjknpbaegnkdnaa

/- Part of package crypt64 by its contract. Conditions: those typed. -/
import Derived.Test.YtjknpbaegnkdnaaCrCode
namespace Go.Proofs.Ytjknpbaegnkdnaa
set_option maxRecDepth 50000
open Go.RowKit Sx

theorem crhd_run {w : World} {s H : ByteArray} {ev : Operand → Value} {x y : Operand} {o : Oper} (hop : o.op = .slice 9 x none (some y) none) (hx : ev x = .string s) (hy : ev y = .int .i64 22) (hr : (Instr.sliceAt 9 (.string s) none (some (.int .i64 22)) none).run Try.prog w = .ok (.string H) w) : (execOp ev o).run Try.prog w = .ok (.value (.string H)) w := by
  simp [execOp, hop, hx, hy, hr]
theorem crtl_run {w : World} {s T : ByteArray} {ev : Operand → Value} {x y : Operand} {o : Oper} (hop : o.op = .slice 9 x (some y) none none) (hx : ev x = .string s) (hy : ev y = .int .i64 22) (hr : (Instr.sliceAt 9 (.string s) (some (.int .i64 22)) none none).run Try.prog w = .ok (.string T) w) : (execOp ev o).run Try.prog w = .ok (.value (.string T)) w := by
  simp [execOp, hop, hx, hy, hr]
theorem crext_run {w : World} {vs : Array Value} {v : Value} {k : Nat} {ev : Operand → Value} {x : Operand} {o : Oper} (hop : o.op = .extract x k) (hx : ev x = .tuple vs) (hv : vs[k]? = some v) : (execOp ev o).run Try.prog w = .ok (.value v) w := by
  simp [execOp, hop, hx, Instr.extract, hv]
theorem hd_run {s : ByteArray} (h : s.size = 53) (w : World) : (Instr.sliceAt 9 (.string s) none (some (.int .i64 22)) none).run Try.prog w = .ok (.string (hdS s)) w := by
  simp [Instr.sliceAt, Instr.slice, Instr.sliceBounds, Instr.sliceBound, asIntOf, run_underlying Try.underlying9, h, hdS]
theorem tl_run {s : ByteArray} (h : s.size = 53) (w : World) : (Instr.sliceAt 9 (.string s) (some (.int .i64 22)) none none).run Try.prog w = .ok (.string (tlS s)) w := by
  simp [Instr.sliceAt, Instr.slice, Instr.sliceBounds, Instr.sliceBound, asIntOf, run_underlying Try.underlying9, h, tlS]

theorem crlett (b : Nat) (w : World) : (Calls Try.prog 15 #[.pointer (some ⟨b, 0, none⟩), .int .i64 16] w fun e w' => e = .returned (.int .i64 22) ∧ w' = w) ∧ (Calls Try.prog 15 #[.pointer (some ⟨b, 0, none⟩), .int .i64 23] w fun e w' => e = .returned (.int .i64 31) ∧ w' = w) :=
  ⟨letters_any b 16 w, letters_any b 23 w⟩

set_option maxHeartbeats 1600000 in
theorem cpart_size (d b : Nat) (s : ByteArray) (w : World) (hC : CrRow w d b) (h : s.size ≠ 53) :
    Calls Try.prog 9 #[.pointer (some ⟨d, 0, none⟩), .string s] w fun e w' => e = .returned (.tuple #[.string ⟨#[]⟩, .string ⟨#[]⟩, .int .i64 9]) ∧ w' = w := by
  have c0 := hC.cells
  have L1 := Lib.hid (crlett b)
  have d0 : ((s.size : Int) == 53) = false := by simp; omega
  have d1 : ((s.size : Int) != 53) = true := by simp; omega
  clear hC h
  go_enter Try.func9, Try.ntmps9
  go_wp2_with fail
  refine (L1.out w).1.mono ?_
  rintro e w' ⟨rfl, hw⟩
  obtain rfl := hw
  go_wp2_with fail
  refine (L1.out _).2.mono ?_
  rintro e w' ⟨rfl, hw⟩
  obtain rfl := hw
  go_wp2
  go_ret3
  exact ⟨rfl, rfl⟩

set_option maxHeartbeats 3200000 in
theorem cpart_some (d b : Nat) (s : ByteArray) (w : World) (hC : CrRow w d b) (h : s.size = 53) :
    Calls Try.prog 9 #[.pointer (some ⟨d, 0, none⟩), .string s] w fun e w' => e = .returned (.tuple #[.string (ptA s), .string (ptB s), .int .i64 (ptE s)]) ∧ Below w.heap.size w w' := by
  have c0 := hC.cells
  have HR := Lib.hid hC
  have L1 := Lib.hid (crlett b)
  have d0 : ((s.size : Int) == 53) = true := by simp; omega
  have d1 : ((s.size : Int) != 53) = false := by simp; omega
  have SH := Lib.hid (hd_run h)
  have ST := Lib.hid (tl_run h)
  have CD1 : Hid (∀ w : World, Cdr w b (tl cryptS) → Calls Try.prog 16 #[.pointer (some ⟨b, 0, none⟩), .string (hdS s)] w fun e w' => ∃ v, e = .returned v ∧ Is (.tuple #[.string (tx (decL (tl cryptS) (tl (hdS s)))), .int .i64 (decE (tl cryptS) (tl (hdS s)))]) v w' ∧ Below w.heap.size w w') := Lib.hid fun w hC => by
    refine (decode_any b (tl cryptS) (hdS s) w hC crypt_fine (by rw [← tl_length, hd_size h]; decide)).mono ?_
    rintro e w' ⟨rfl, hb⟩
    exact ⟨_, rfl, rfl, hb⟩
  have CD2 : Hid (∀ w : World, Cdr w b (tl cryptS) → Calls Try.prog 16 #[.pointer (some ⟨b, 0, none⟩), .string (tlS s)] w fun e w' => ∃ v, e = .returned v ∧ Is (.tuple #[.string (tx (decL (tl cryptS) (tl (tlS s)))), .int .i64 (decE (tl cryptS) (tl (tlS s)))]) v w' ∧ Below w.heap.size w w') := Lib.hid fun w hC => by
    refine (decode_any b (tl cryptS) (tlS s) w hC crypt_fine (by rw [← tl_length, tl_size h]; decide)).mono ?_
    rintro e w' ⟨rfl, hb⟩
    exact ⟨_, rfl, rfl, hb⟩
  have W1 := Lib.hid (@pt_first s h)
  have W2 := Lib.hid (@pt_second s h)
  have W3 := Lib.hid (@pt_good s h)
  clear h hC
  generalize hdS s = H at *
  generalize tlS s = T at *
  generalize tx (decL (tl cryptS) (tl H)) = X1 at *
  generalize tx (decL (tl cryptS) (tl T)) = X2 at *
  generalize decE (tl cryptS) (tl H) = Z1 at *
  generalize decE (tl cryptS) (tl T) = Z2 at *
  go_enter Try.func9, Try.ntmps9
  go_wp2_with fail
  refine (L1.out w).1.mono ?_
  rintro e w' ⟨rfl, hw⟩
  obtain rfl := hw
  go_wp2_with fail
  refine (L1.out _).2.mono ?_
  rintro e w' ⟨rfl, hw⟩
  obtain rfl := hw
  go_wp2_with fail
  by_cases hx : Z1 = 0
  case neg =>
    have HW := Lib.hid (W1.out hx)
    have z1 : (Z1 == 0) = false := by simpa using hx
    have z2 : (Z1 != 0) = true := by simpa using hx
    clear hx
    refine wp_region_text [Is (.pointer (some ⟨d, 0, none⟩)), Is (.pointer (some ⟨d, 0, none⟩)), Is (.pointer (some ⟨d, 0, none⟩)), Is (.pointer (some ⟨b, 0, none⟩)), Is (.string s), Is (.int .i64 22), Is (.string H), Is (.tuple #[.string X1, .int .i64 Z1]), Is (.tuple #[.string X1, .int .i64 Z1]), Is (.string X1), Is (.int .i64 Z1), Is (.string X1), Is (.int .i64 Z1)] (by kernel_rfl) (by kernel_rfl) rfl ⟨stable_is _, stable_is _, stable_is _, stable_is _, stable_is _, stable_is _, stable_is _, stable_is _, stable_is _, stable_is _, stable_is _, stable_is _, stable_is _, trivial⟩ ⟨?_, ?_, ?_, ?_, ?_, ?_, ?_, ?_, ?_, ?_, ?_, ?_, ?_, trivial⟩ ?_
    · intro a w C
      exact part_on (wanted_free rfl _) (op_move (.inl rfl) (C.was 0 (by kernel_rfl)))
    · intro a w C
      exact part_on (wanted_free rfl _) (op_value (crnil_run rfl (C.on (j := 0) (by kernel_rfl) rfl rfl)) rfl)
    · intro a w C
      exact part_on (wanted_free rfl _) (op_value (crfield_run rfl (C.on (j := 1) (by kernel_rfl) rfl rfl)) rfl)
    · intro a w C
      exact part_on (wanted_free rfl _) (op_value (crload_run rfl (C.on (j := 2) (by kernel_rfl) rfl rfl) ((HR.out.below C.below).cells)) rfl)
    · intro a w C
      exact part_on (wanted_free rfl _) (op_move (.inl rfl) (C.was 1 (by kernel_rfl)))
    · intro a w C
      exact part_on (wanted_free rfl _) (op_move (.inl rfl) (C.was 7 (by kernel_rfl)))
    · intro a w C
      exact part_on (wanted_free rfl _) (op_value (crhd_run rfl (C.on (j := 4) (by kernel_rfl) rfl rfl) (C.on (j := 5) (by kernel_rfl) rfl rfl) (SH.out w)) rfl)
    · intro a w C
      exact part_on (wanted_free rfl _) (op_call2 rfl (reg_enters Try.func16 (by kernel_rfl) (by kernel_rfl)) (C.on (j := 3) (by kernel_rfl) rfl rfl) (C.on (j := 6) (by kernel_rfl) rfl rfl) (CD1.out w (HR.out.below C.below).cod))
    · intro a w C
      exact part_on (wanted_free rfl _) (op_move (.inl rfl) (C.on (j := 7) (by kernel_rfl) rfl rfl))
    · intro a w C
      exact part_on (wanted_free rfl _) (op_value (crext_run rfl (C.on (j := 8) (by kernel_rfl) rfl rfl) rfl) rfl)
    · intro a w C
      exact part_on (wanted_free rfl _) (op_value (crext_run rfl (C.on (j := 8) (by kernel_rfl) rfl rfl) rfl) rfl)
    · intro a w C
      exact part_on (wanted_free rfl _) (op_move (.inr rfl) (C.on (j := 9) (by kernel_rfl) rfl rfl))
    · intro a w C
      exact part_on (wanted_free rfl _) (op_move (.inr rfl) (C.on (j := 10) (by kernel_rfl) rfl rfl))
    rintro wF hbF _ rfl _ rfl _ rfl _ rfl _ rfl _ rfl _ rfl _ rfl _ rfl _ rfl _ rfl _ rfl _ rfl
    simp only [Fin, setAt, Exit.then, List.setIfInBounds_toArray, List.set_cons_succ, List.set_cons_zero]
    go_wp2
    go_ret3
    exact ⟨by rw [HW.out.1, HW.out.2.1, HW.out.2.2]; rfl, hbF⟩
  subst hx
  by_cases hy : Z2 = 0
  case neg =>
    have HW := Lib.hid (W2.out rfl hy)
    have z1 : (Z2 == 0) = false := by simpa using hy
    have z2 : (Z2 != 0) = true := by simpa using hy
    clear hy
    refine wp_region_text [Is (.pointer (some ⟨d, 0, none⟩)), Is (.pointer (some ⟨d, 0, none⟩)), Is (.pointer (some ⟨d, 0, none⟩)), Is (.pointer (some ⟨b, 0, none⟩)), Is (.string s), Is (.int .i64 22), Is (.string H), Is (.tuple #[.string X1, .int .i64 0]), Is (.tuple #[.string X1, .int .i64 0]), Is (.string X1), Is (.int .i64 0), Is (.string X1), Is (.int .i64 0)] (by kernel_rfl) (by kernel_rfl) rfl ⟨stable_is _, stable_is _, stable_is _, stable_is _, stable_is _, stable_is _, stable_is _, stable_is _, stable_is _, stable_is _, stable_is _, stable_is _, stable_is _, trivial⟩ ⟨?_, ?_, ?_, ?_, ?_, ?_, ?_, ?_, ?_, ?_, ?_, ?_, ?_, trivial⟩ ?_
    · intro a w C
      exact part_on (wanted_free rfl _) (op_move (.inl rfl) (C.was 0 (by kernel_rfl)))
    · intro a w C
      exact part_on (wanted_free rfl _) (op_value (crnil_run rfl (C.on (j := 0) (by kernel_rfl) rfl rfl)) rfl)
    · intro a w C
      exact part_on (wanted_free rfl _) (op_value (crfield_run rfl (C.on (j := 1) (by kernel_rfl) rfl rfl)) rfl)
    · intro a w C
      exact part_on (wanted_free rfl _) (op_value (crload_run rfl (C.on (j := 2) (by kernel_rfl) rfl rfl) ((HR.out.below C.below).cells)) rfl)
    · intro a w C
      exact part_on (wanted_free rfl _) (op_move (.inl rfl) (C.was 1 (by kernel_rfl)))
    · intro a w C
      exact part_on (wanted_free rfl _) (op_move (.inl rfl) (C.was 7 (by kernel_rfl)))
    · intro a w C
      exact part_on (wanted_free rfl _) (op_value (crhd_run rfl (C.on (j := 4) (by kernel_rfl) rfl rfl) (C.on (j := 5) (by kernel_rfl) rfl rfl) (SH.out w)) rfl)
    · intro a w C
      exact part_on (wanted_free rfl _) (op_call2 rfl (reg_enters Try.func16 (by kernel_rfl) (by kernel_rfl)) (C.on (j := 3) (by kernel_rfl) rfl rfl) (C.on (j := 6) (by kernel_rfl) rfl rfl) (CD1.out w (HR.out.below C.below).cod))
    · intro a w C
      exact part_on (wanted_free rfl _) (op_move (.inl rfl) (C.on (j := 7) (by kernel_rfl) rfl rfl))
    · intro a w C
      exact part_on (wanted_free rfl _) (op_value (crext_run rfl (C.on (j := 8) (by kernel_rfl) rfl rfl) rfl) rfl)
    · intro a w C
      exact part_on (wanted_free rfl _) (op_value (crext_run rfl (C.on (j := 8) (by kernel_rfl) rfl rfl) rfl) rfl)
    · intro a w C
      exact part_on (wanted_free rfl _) (op_move (.inr rfl) (C.on (j := 9) (by kernel_rfl) rfl rfl))
    · intro a w C
      exact part_on (wanted_free rfl _) (op_move (.inr rfl) (C.on (j := 10) (by kernel_rfl) rfl rfl))
    rintro wF hbF _ rfl _ rfl _ rfl _ rfl _ rfl _ rfl _ rfl _ rfl _ rfl _ rfl _ rfl _ rfl _ rfl
    simp only [Fin, setAt, Exit.then, List.setIfInBounds_toArray, List.set_cons_succ, List.set_cons_zero]
    have HR1 := Lib.hid (HR.out.below hbF)
    have B1 := Lib.hid hbF
    clear hbF HR
    go_wp2_with fail
    refine wp_region_text [Is (.pointer (some ⟨d, 0, none⟩)), Is (.pointer (some ⟨d, 0, none⟩)), Is (.pointer (some ⟨d, 0, none⟩)), Is (.pointer (some ⟨b, 0, none⟩)), Is (.string s), Is (.int .i64 22), Is (.string T), Is (.tuple #[.string X2, .int .i64 Z2]), Is (.tuple #[.string X2, .int .i64 Z2]), Is (.string X2), Is (.int .i64 Z2), Is (.string X2), Is (.int .i64 Z2)] (by kernel_rfl) (by kernel_rfl) rfl ⟨stable_is _, stable_is _, stable_is _, stable_is _, stable_is _, stable_is _, stable_is _, stable_is _, stable_is _, stable_is _, stable_is _, stable_is _, stable_is _, trivial⟩ ⟨?_, ?_, ?_, ?_, ?_, ?_, ?_, ?_, ?_, ?_, ?_, ?_, ?_, trivial⟩ ?_
    · intro a w C
      exact part_on (wanted_free rfl _) (op_move (.inl rfl) (C.was 0 (by kernel_rfl)))
    · intro a w C
      exact part_on (wanted_free rfl _) (op_value (crnil_run rfl (C.on (j := 0) (by kernel_rfl) rfl rfl)) rfl)
    · intro a w C
      exact part_on (wanted_free rfl _) (op_value (crfield_run rfl (C.on (j := 1) (by kernel_rfl) rfl rfl)) rfl)
    · intro a w C
      exact part_on (wanted_free rfl _) (op_value (crload_run rfl (C.on (j := 2) (by kernel_rfl) rfl rfl) ((HR1.out.below C.below).cells)) rfl)
    · intro a w C
      exact part_on (wanted_free rfl _) (op_move (.inl rfl) (C.was 1 (by kernel_rfl)))
    · intro a w C
      exact part_on (wanted_free rfl _) (op_move (.inl rfl) (C.was 7 (by kernel_rfl)))
    · intro a w C
      exact part_on (wanted_free rfl _) (op_value (crtl_run rfl (C.on (j := 4) (by kernel_rfl) rfl rfl) (C.on (j := 5) (by kernel_rfl) rfl rfl) (ST.out w)) rfl)
    · intro a w C
      exact part_on (wanted_free rfl _) (op_call2 rfl (reg_enters Try.func16 (by kernel_rfl) (by kernel_rfl)) (C.on (j := 3) (by kernel_rfl) rfl rfl) (C.on (j := 6) (by kernel_rfl) rfl rfl) (CD2.out w (HR1.out.below C.below).cod))
    · intro a w C
      exact part_on (wanted_free rfl _) (op_move (.inl rfl) (C.on (j := 7) (by kernel_rfl) rfl rfl))
    · intro a w C
      exact part_on (wanted_free rfl _) (op_value (crext_run rfl (C.on (j := 8) (by kernel_rfl) rfl rfl) rfl) rfl)
    · intro a w C
      exact part_on (wanted_free rfl _) (op_value (crext_run rfl (C.on (j := 8) (by kernel_rfl) rfl rfl) rfl) rfl)
    · intro a w C
      exact part_on (wanted_free rfl _) (op_move (.inr rfl) (C.on (j := 9) (by kernel_rfl) rfl rfl))
    · intro a w C
      exact part_on (wanted_free rfl _) (op_move (.inr rfl) (C.on (j := 10) (by kernel_rfl) rfl rfl))
    rintro wF hbF _ rfl _ rfl _ rfl _ rfl _ rfl _ rfl _ rfl _ rfl _ rfl _ rfl _ rfl _ rfl _ rfl
    simp only [Fin, setAt, Exit.then, List.setIfInBounds_toArray, List.set_cons_succ, List.set_cons_zero]
    go_wp2
    go_ret3
    exact ⟨by rw [HW.out.1, HW.out.2.1, HW.out.2.2]; rfl, below_step B1.out hbF⟩
  · subst hy
    have HW := Lib.hid (W3.out rfl rfl)
    refine wp_region_text [Is (.pointer (some ⟨d, 0, none⟩)), Is (.pointer (some ⟨d, 0, none⟩)), Is (.pointer (some ⟨d, 0, none⟩)), Is (.pointer (some ⟨b, 0, none⟩)), Is (.string s), Is (.int .i64 22), Is (.string H), Is (.tuple #[.string X1, .int .i64 0]), Is (.tuple #[.string X1, .int .i64 0]), Is (.string X1), Is (.int .i64 0), Is (.string X1), Is (.int .i64 0)] (by kernel_rfl) (by kernel_rfl) rfl ⟨stable_is _, stable_is _, stable_is _, stable_is _, stable_is _, stable_is _, stable_is _, stable_is _, stable_is _, stable_is _, stable_is _, stable_is _, stable_is _, trivial⟩ ⟨?_, ?_, ?_, ?_, ?_, ?_, ?_, ?_, ?_, ?_, ?_, ?_, ?_, trivial⟩ ?_
    · intro a w C
      exact part_on (wanted_free rfl _) (op_move (.inl rfl) (C.was 0 (by kernel_rfl)))
    · intro a w C
      exact part_on (wanted_free rfl _) (op_value (crnil_run rfl (C.on (j := 0) (by kernel_rfl) rfl rfl)) rfl)
    · intro a w C
      exact part_on (wanted_free rfl _) (op_value (crfield_run rfl (C.on (j := 1) (by kernel_rfl) rfl rfl)) rfl)
    · intro a w C
      exact part_on (wanted_free rfl _) (op_value (crload_run rfl (C.on (j := 2) (by kernel_rfl) rfl rfl) ((HR.out.below C.below).cells)) rfl)
    · intro a w C
      exact part_on (wanted_free rfl _) (op_move (.inl rfl) (C.was 1 (by kernel_rfl)))
    · intro a w C
      exact part_on (wanted_free rfl _) (op_move (.inl rfl) (C.was 7 (by kernel_rfl)))
    · intro a w C
      exact part_on (wanted_free rfl _) (op_value (crhd_run rfl (C.on (j := 4) (by kernel_rfl) rfl rfl) (C.on (j := 5) (by kernel_rfl) rfl rfl) (SH.out w)) rfl)
    · intro a w C
      exact part_on (wanted_free rfl _) (op_call2 rfl (reg_enters Try.func16 (by kernel_rfl) (by kernel_rfl)) (C.on (j := 3) (by kernel_rfl) rfl rfl) (C.on (j := 6) (by kernel_rfl) rfl rfl) (CD1.out w (HR.out.below C.below).cod))
    · intro a w C
      exact part_on (wanted_free rfl _) (op_move (.inl rfl) (C.on (j := 7) (by kernel_rfl) rfl rfl))
    · intro a w C
      exact part_on (wanted_free rfl _) (op_value (crext_run rfl (C.on (j := 8) (by kernel_rfl) rfl rfl) rfl) rfl)
    · intro a w C
      exact part_on (wanted_free rfl _) (op_value (crext_run rfl (C.on (j := 8) (by kernel_rfl) rfl rfl) rfl) rfl)
    · intro a w C
      exact part_on (wanted_free rfl _) (op_move (.inr rfl) (C.on (j := 9) (by kernel_rfl) rfl rfl))
    · intro a w C
      exact part_on (wanted_free rfl _) (op_move (.inr rfl) (C.on (j := 10) (by kernel_rfl) rfl rfl))
    rintro wF hbF _ rfl _ rfl _ rfl _ rfl _ rfl _ rfl _ rfl _ rfl _ rfl _ rfl _ rfl _ rfl _ rfl
    simp only [Fin, setAt, Exit.then, List.setIfInBounds_toArray, List.set_cons_succ, List.set_cons_zero]
    have HR1 := Lib.hid (HR.out.below hbF)
    have B1 := Lib.hid hbF
    clear hbF HR
    go_wp2_with fail
    refine wp_region_text [Is (.pointer (some ⟨d, 0, none⟩)), Is (.pointer (some ⟨d, 0, none⟩)), Is (.pointer (some ⟨d, 0, none⟩)), Is (.pointer (some ⟨b, 0, none⟩)), Is (.string s), Is (.int .i64 22), Is (.string T), Is (.tuple #[.string X2, .int .i64 0]), Is (.tuple #[.string X2, .int .i64 0]), Is (.string X2), Is (.int .i64 0), Is (.string X2), Is (.int .i64 0)] (by kernel_rfl) (by kernel_rfl) rfl ⟨stable_is _, stable_is _, stable_is _, stable_is _, stable_is _, stable_is _, stable_is _, stable_is _, stable_is _, stable_is _, stable_is _, stable_is _, stable_is _, trivial⟩ ⟨?_, ?_, ?_, ?_, ?_, ?_, ?_, ?_, ?_, ?_, ?_, ?_, ?_, trivial⟩ ?_
    · intro a w C
      exact part_on (wanted_free rfl _) (op_move (.inl rfl) (C.was 0 (by kernel_rfl)))
    · intro a w C
      exact part_on (wanted_free rfl _) (op_value (crnil_run rfl (C.on (j := 0) (by kernel_rfl) rfl rfl)) rfl)
    · intro a w C
      exact part_on (wanted_free rfl _) (op_value (crfield_run rfl (C.on (j := 1) (by kernel_rfl) rfl rfl)) rfl)
    · intro a w C
      exact part_on (wanted_free rfl _) (op_value (crload_run rfl (C.on (j := 2) (by kernel_rfl) rfl rfl) ((HR1.out.below C.below).cells)) rfl)
    · intro a w C
      exact part_on (wanted_free rfl _) (op_move (.inl rfl) (C.was 1 (by kernel_rfl)))
    · intro a w C
      exact part_on (wanted_free rfl _) (op_move (.inl rfl) (C.was 7 (by kernel_rfl)))
    · intro a w C
      exact part_on (wanted_free rfl _) (op_value (crtl_run rfl (C.on (j := 4) (by kernel_rfl) rfl rfl) (C.on (j := 5) (by kernel_rfl) rfl rfl) (ST.out w)) rfl)
    · intro a w C
      exact part_on (wanted_free rfl _) (op_call2 rfl (reg_enters Try.func16 (by kernel_rfl) (by kernel_rfl)) (C.on (j := 3) (by kernel_rfl) rfl rfl) (C.on (j := 6) (by kernel_rfl) rfl rfl) (CD2.out w (HR1.out.below C.below).cod))
    · intro a w C
      exact part_on (wanted_free rfl _) (op_move (.inl rfl) (C.on (j := 7) (by kernel_rfl) rfl rfl))
    · intro a w C
      exact part_on (wanted_free rfl _) (op_value (crext_run rfl (C.on (j := 8) (by kernel_rfl) rfl rfl) rfl) rfl)
    · intro a w C
      exact part_on (wanted_free rfl _) (op_value (crext_run rfl (C.on (j := 8) (by kernel_rfl) rfl rfl) rfl) rfl)
    · intro a w C
      exact part_on (wanted_free rfl _) (op_move (.inr rfl) (C.on (j := 9) (by kernel_rfl) rfl rfl))
    · intro a w C
      exact part_on (wanted_free rfl _) (op_move (.inr rfl) (C.on (j := 10) (by kernel_rfl) rfl rfl))
    rintro wF hbF _ rfl _ rfl _ rfl _ rfl _ rfl _ rfl _ rfl _ rfl _ rfl _ rfl _ rfl _ rfl _ rfl
    simp only [Fin, setAt, Exit.then, List.setIfInBounds_toArray, List.set_cons_succ, List.set_cons_zero]
    go_wp2
    go_ret3
    exact ⟨by rw [HW.out.1, HW.out.2.1, HW.out.2.2]; rfl, below_step B1.out hbF⟩

theorem cpart_any (d b : Nat) (s : ByteArray) (w : World) (hC : CrRow w d b) :
    Calls Try.prog 9 #[.pointer (some ⟨d, 0, none⟩), .string s] w fun e w' => e = .returned (.tuple #[.string (ptA s), .string (ptB s), .int .i64 (ptE s)]) ∧ Below w.heap.size w w' := by
  by_cases h : s.size = 53
  · exact cpart_some d b s w hC h
  · refine (cpart_size d b s w hC h).mono ?_
    rintro e w' ⟨rfl, rfl⟩
    obtain ⟨h1, h2, h3⟩ := pt_size h
    exact ⟨by rw [h1, h2, h3], Below.refl _ _⟩
end Go.Proofs.Ytjknpbaegnkdnaa

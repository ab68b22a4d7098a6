/- Which parameters of Argon2 may be, and their shape, by the contracts of may and Of of package shape. Conditions: the parameters are ints. -/
import Derived.Test.YtnbdmkgldjhcaaaDoorSz
import Derived.Deep.QuietTactic
import Derived.BigQuiet
import Derived.StillTailTactics
namespace Go.Proofs.YtnbdmkgldjhcaaaDoor
set_option maxRecDepth 50000
open Go.RowKit

/-- parameters, as a value -/
abbrev pav (a t m l z : Int) : Value := .agg #[.int .i64 a, .int .i64 t, .int .i64 m, .int .i64 l, .int .i64 z]
/-- a shape, as a value -/
abbrev spv (a t l m b c g z : Nat) : Value := .agg #[.int .i64 (a : Int), .int .i64 (t : Int), .int .i64 (l : Int), .int .i64 (m : Int), .int .i64 (b : Int), .int .i64 (c : Int), .int .i64 (g : Int), .int .i64 (z : Int)]
/-- no shape -/
abbrev spz : Value := .agg #[.int .i64 0, .int .i64 0, .int .i64 0, .int .i64 0, .int .i64 0, .int .i64 0, .int .i64 0, .int .i64 0]
/-- a turn -/
abbrev tuv (p s : Int) : Value := .agg #[.int .i64 p, .int .i64 s]
/-- may the parameters be? -/
def mayB (a t m l z : Int) : Bool := (a == 1 || (a == 2 || a == 3)) && (inB t 1 4294967295 && (inB l 1 16777215 && (inB m (8 * l) 4294967295 && inB z 4 1024)))
theorem may_yes {a t m l z : Int} (h : mayB a t m l z = true) : (a = 1 ∨ a = 2 ∨ a = 3) ∧ inB t 1 4294967295 = true ∧ inB l 1 16777215 = true ∧ inB m (8 * l) 4294967295 = true ∧ inB z 4 1024 = true := by
  unfold mayB at h
  simp only [Bool.and_eq_true, Bool.or_eq_true, beq_iff_eq] at h
  exact h
theorem two_read (a b : Int) (w : World) : Reads (w.alloc (.cells #[.int .i64 a, .int .i64 b] 3)) (w.heap.size + 1) (some ⟨w.heap.size, 0, none⟩) (i64s [a, b]) := fun k hk =>
  ⟨w.heap.size, 0, rfl, by omega, by
    match k, hk with
    | 0, _ => simp [i64s]
    | 1, _ => simp [i64s]⟩

theorem may_kind (a t m l z : Int) (h : ¬ (a = 1 ∨ a = 2 ∨ a = 3)) (w : World) : Calls Tryd.prog 18 #[pav a t m l z] w fun e w' => e = .returned (.bool (mayB a t m l z)) ∧ Below w.heap.size w w' := by
  have H := Lib.hid (show mayB a t m l z = false by
    unfold mayB
    have : (a == 1 || (a == 2 || a == 3)) = false := by simp; omega
    rw [this]; rfl)
  have h1 : ¬ a = 1 := by omega
  have h2 : ¬ a = 2 := by omega
  have h3 : ¬ a = 3 := by omega
  clear h
  go_enter Tryd.func18, Tryd.ntmps18
  go_wp2
  go_ret
  exact ⟨by rw [H.out]; rfl, (Below.refl _ _).alloc (Nat.le_refl _) _⟩

theorem within_at {n a b : Int} {r : Bool} (h : inB n a b = r) (w : World) : Calls Tryd.prog 21 #[.int .i64 n, .int .i64 a, .int .i64 b] w fun e w' => e = .returned (.bool r) ∧ w = w' := h ▸ within_any n a b w

set_option maxHeartbeats 1600000 in
theorem may_fits (a t m l z : Int) (h : a = 1 ∨ a = 2 ∨ a = 3) (w : World) : Calls Tryd.prog 18 #[pav a t m l z] w fun e w' => e = .returned (.bool (mayB a t m l z)) ∧ Below w.heap.size w w' := by
  have H : mayB a t m l z = (inB t 1 4294967295 && (inB l 1 16777215 && (inB m (8 * l) 4294967295 && inB z 4 1024))) := by
    unfold mayB
    have : (a == 1 || (a == 2 || a == 3)) = true := by simp; omega
    rw [this, Bool.true_and]
  rw [H]
  clear H
  have HB := Lib.hid ((Below.refl w.heap.size w).alloc (Nat.le_refl _) (.cells #[.int .i64 a, .int .i64 t, .int .i64 m, .int .i64 l, .int .i64 z] 23))
  have C1 := Lib.hid (@within_at t 1 4294967295 _ rfl)
  have C2 := Lib.hid (@within_at l 1 16777215 _ rfl)
  have C3 := Lib.hid (@within_at m (8 * l) 4294967295 _ rfl)
  have C4 := Lib.hid (@within_at z 4 1024 _ rfl)
  have hl : inB l 1 16777215 = true → 1 ≤ l ∧ l ≤ 16777215 := in_true _ _ _
  generalize inB t 1 4294967295 = b1 at *
  generalize inB l 1 16777215 = b2 at *
  generalize inB m (8 * l) 4294967295 = b3 at *
  generalize inB z 4 1024 = b4 at *
  rcases h with rfl | rfl | rfl
  all_goals
    cases b1
    · clear hl
      go_enter Tryd.func18, Tryd.ntmps18
      go_wp2_with fail
      refine (C1.out _).mono ?_
      rintro e w' ⟨rfl, rfl⟩
      go_wp2
      go_ret
      exact ⟨rfl, HB.out⟩
    · cases b2
      · clear hl
        go_enter Tryd.func18, Tryd.ntmps18
        go_wp2_with fail
        refine (C1.out _).mono ?_
        rintro e w' ⟨rfl, rfl⟩
        go_wp2_with fail
        refine (C2.out _).mono ?_
        rintro e w' ⟨rfl, rfl⟩
        go_wp2
        go_ret
        exact ⟨rfl, HB.out⟩
      · obtain ⟨hl1, hl2⟩ := hl rfl
        clear hl
        cases b3
        · go_enter Tryd.func18, Tryd.ntmps18
          go_wp2_with fail
          refine (C1.out _).mono ?_
          rintro e w' ⟨rfl, rfl⟩
          go_wp2_with fail
          refine (C2.out _).mono ?_
          rintro e w' ⟨rfl, rfl⟩
          go_wp2_with fail
          refine (C3.out _).mono ?_
          rintro e w' ⟨rfl, rfl⟩
          go_wp2
          go_ret
          exact ⟨rfl, HB.out⟩
        · go_enter Tryd.func18, Tryd.ntmps18
          go_wp2_with fail
          refine (C1.out _).mono ?_
          rintro e w' ⟨rfl, rfl⟩
          go_wp2_with fail
          refine (C2.out _).mono ?_
          rintro e w' ⟨rfl, rfl⟩
          go_wp2_with fail
          refine (C3.out _).mono ?_
          rintro e w' ⟨rfl, rfl⟩
          go_wp2_with fail
          refine (C4.out _).mono ?_
          rintro e w' ⟨rfl, rfl⟩
          go_wp2
          go_ret
          exact ⟨rfl, HB.out⟩
theorem may_any (a t m l z : Int) (w : World) : Calls Tryd.prog 18 #[pav a t m l z] w fun e w' => e = .returned (.bool (mayB a t m l z)) ∧ Below w.heap.size w w' := by
  by_cases h : a = 1 ∨ a = 2 ∨ a = 3
  · exact may_fits a t m l z h w
  · exact may_kind a t m l z h w
end Go.Proofs.YtnbdmkgldjhcaaaDoor

/- A piece's blocks: what is at fault, At, Get, Set, Clean, by their contracts. Conditions: those typed. -/
import Derived.Test.YtohmkhmanidljaaDoorArRel
import Derived.Deep.MidRow
namespace Go.Proofs.YtohmkhmanidljaaDoor
set_option maxRecDepth 50000
open Go.RowKit Bb

section
variable {w : World} {p a g n : Nat} {live : Bool} {v : Value} {l : List (List Nat)}
theorem fault_nil (i : Int) (w : World) : Calls Tryd.prog 51 #[.pointer none, .int .i64 i] w fun e w' => e = .returned (.int .i64 11) ∧ w' = w := by
  go_enter Tryd.func51, Tryd.ntmps51
  go_wp2
  go_ret
  exact ⟨rfl, rfl⟩
theorem fault_out (hP : PceAt w p a n live v) (i : Int) (hi : i < 0 ∨ (n : Int) ≤ i) : Calls Tryd.prog 51 #[.pointer (some ⟨p, 0, none⟩), .int .i64 i] w fun e w' => e = .returned (.int .i64 11) ∧ w' = w := by
  obtain ⟨x0, x1, x2, x3, f0, f1, f2, f3⟩ := hP.at_
  clear hP
  have hh : decide (i < 0) = true ∨ decide (i < 0) = false ∧ decide ((n : Int) ≤ i) = true := by simp; omega
  rcases hh with d1 | ⟨d1, d2⟩
  all_goals
    go_enter Tryd.func51, Tryd.ntmps51
    go_wp2
    go_ret
    exact ⟨rfl, rfl⟩
theorem fault_in (hP : PceAt w p a n live v) (i : Nat) (hi : i < n) : Calls Tryd.prog 51 #[.pointer (some ⟨p, 0, none⟩), .int .i64 (i : Int)] w fun e w' => e = .returned (.int .i64 (if live then 0 else 12)) ∧ w' = w := by
  obtain ⟨x0, x1, x2, x3, f0, f1, f2, f3⟩ := hP.at_
  clear hP
  have d1 : decide ((i : Int) < 0) = false := by simp
  have d2 : decide ((n : Int) ≤ (i : Int)) = false := by simp; omega
  have d3 : decide (n ≤ i) = false := by simp; omega
  cases live
  all_goals
    go_enter Tryd.func51, Tryd.ntmps51
    go_wp2
    go_ret
    exact ⟨rfl, rfl⟩

/-- what is at fault, as a number; 0: nothing -/
def faN (n : Nat) (live : Bool) (i : Int) : Int := if i < 0 ∨ (n : Int) ≤ i then 11 else if live then 0 else 12
theorem fault_any (hP : PceAt w p a n live v) (i : Int) : Calls Tryd.prog 51 #[.pointer (some ⟨p, 0, none⟩), .int .i64 i] w fun e w' => e = .returned (.int .i64 (faN n live i)) ∧ w' = w := by
  by_cases h : i < 0 ∨ (n : Int) ≤ i
  · rw [show faN n live i = 11 from if_pos h]; exact fault_out hP i h
  · rw [show faN n live i = if live then 0 else 12 from if_neg h]
    obtain ⟨k, rfl⟩ := Int.eq_ofNat_of_zero_le (show 0 ≤ i by omega)
    exact fault_in hP k (by omega)
theorem fa_ok {i : Nat} (hi : i < n) : faN n true (i : Int) = 0 := by
  unfold faN; rw [if_neg (by omega)]; rfl

theorem at_nil (i : Int) (w : World) : Calls Tryd.prog 41 #[.pointer none, .int .i64 i] w fun e w' => e = .returned (.pointer none) ∧ w' = w := by
  have C := Lib.hid (fault_nil i w)
  go_enter Tryd.func41, Tryd.ntmps41
  go_wp2_with fail
  refine C.out.mono ?_; rintro e w' ⟨rfl, rfl⟩
  go_wp2
  go_ret
  exact ⟨rfl, rfl⟩
theorem at_bad (hP : PceAt w p a n live v) (i : Int) (hi : faN n live i ≠ 0) : Calls Tryd.prog 41 #[.pointer (some ⟨p, 0, none⟩), .int .i64 i] w fun e w' => e = .returned (.pointer none) ∧ w' = w := by
  have C := Lib.hid (fault_any hP i)
  clear hP
  generalize faN n live i = z at *
  have d1 : (z != 0) = true := by simpa using hi
  have d2 : (z == 0) = false := by simpa using hi
  clear hi
  go_enter Tryd.func41, Tryd.ntmps41
  go_wp2_with fail
  refine C.out.mono ?_; rintro e w' ⟨rfl, rfl⟩
  go_wp2
  go_ret
  exact ⟨rfl, rfl⟩
theorem at_any (hP : LiveAt w p a g l) (i : Nat) (hi : i < l.length) : Calls Tryd.prog 41 #[.pointer (some ⟨p, 0, none⟩), .int .i64 (i : Int)] w fun e w' => e = .returned (.pointer (some ⟨g, i * 128, none⟩)) ∧ w' = w := by
  have C := Lib.hid (fault_any hP.row i)
  rw [fa_ok hi] at C
  obtain ⟨x0, x1, x2, x3, f0, f1, f2, f3⟩ := hP.row.at_
  clear hP
  have hi0 : (0 : Int) ≤ (i : Int) := by omega
  have hi1 : (i : Int) < (l.length : Int) := by omega
  go_enter Tryd.func41, Tryd.ntmps41
  go_wp2_with fail
  refine C.out.mono ?_; rintro e w' ⟨rfl, rfl⟩
  go_wp2
  go_ret
  exact ⟨by first | rfl | simp, rfl⟩
end
end Go.Proofs.YtohmkhmanidljaaDoor

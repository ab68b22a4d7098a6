/- A shape's methods by their contracts: First, Column, Before, Place, Has. Conditions: those typed. -/
import Derived.Test.YtnbdmkgldjhcaaaDoorSpRow
namespace Go.Proofs.YtnbdmkgldjhcaaaDoor
set_option maxRecDepth 50000
open Go.RowKit

/-- the first index that is filled -/
def firN (p s : Int) : Int := if p = 0 ∧ s = 0 then 2 else 0
theorem one_box (w : World) (o : Obj) : Below w.heap.size w (w.alloc o) := (Below.refl _ _).alloc (Nat.le_refl _) _
theorem two_box (w : World) (o o' : Obj) : Below w.heap.size w ((w.alloc o).alloc o') := (one_box w o).alloc (by rw [World.size_alloc]; omega) _

/-- the column ahead -/
def befN (c j : Nat) : Int := if j = 0 then (c : Int) - 1 else (j : Int) - 1
/-- is it a turn? -/
def hasB (t : Nat) (p s : Int) : Bool := inB p 0 ((t : Int) - 1) && inB s 0 3
theorem sphas_any (a t l m b c g z : Nat) (ht : t ≤ 4294967295) (p s : Int) (w : World) : Calls Tryd.prog 7 #[spv a t l m b c g z, tuv p s] w fun e w' => e = .returned (.bool (hasB t p s)) ∧ Below w.heap.size w w' := by
  have HB := Lib.hid (two_box w (.cells (spc a t l m b c g z) 28) (.cells (tuc p s) 25))
  have C1 := Lib.hid (@within_at p 0 ((t : Int) - 1) _ rfl)
  have C2 := Lib.hid (@within_at s 0 3 _ rfl)
  unfold hasB
  generalize inB p 0 ((t : Int) - 1) = b1 at *
  generalize inB s 0 3 = b2 at *
  cases b1
  · go_enter Tryd.func7, Tryd.ntmps7
    go_wp2_with fail
    refine (C1.out _).mono ?_
    rintro e w' ⟨rfl, rfl⟩
    go_wp2
    go_ret
    exact ⟨rfl, HB.out⟩
  · go_enter Tryd.func7, Tryd.ntmps7
    go_wp2_with fail
    refine (C1.out _).mono ?_
    rintro e w' ⟨rfl, rfl⟩
    go_wp2_with fail
    refine (C2.out _).mono ?_
    rintro e w' ⟨rfl, rfl⟩
    go_wp2
    go_ret
    exact ⟨rfl, HB.out⟩
end Go.Proofs.YtnbdmkgldjhcaaaDoor

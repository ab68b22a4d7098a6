/- The shapes that Of answers; the chapter's example. Conditions: those typed. -/
import Derived.Test.YtnbdmkgldjhcaaaDoorSpOf
import Derived.Test.YtnbdmkgldjhcaaaDoorSpSmall
namespace Go.Proofs.YtnbdmkgldjhcaaaDoor
set_option maxRecDepth 50000
open Go.RowKit

/-- the shape of parameters that may be -/
theorem of_good {a t m l z : Nat} (hM : Mok a t m l z) : ∃ b c g : Nat, 2 ≤ g ∧ c = 4 * g ∧ b = l * c ∧ b ≤ m ∧ g = m / (4 * l) ∧ ∀ w : World, Calls Tryd.prog 6 #[pav a t m l z] w fun e w' => e = .returned (.tuple #[spv a t l m b c g z, .int .i64 0]) ∧ Below w.heap.size w w' := by
  have hl : 1 ≤ l := hM.2.2.2.1
  have hm : 8 * l ≤ m := hM.2.2.2.2.2.1
  have hg : 2 ≤ m / (4 * l) := (Nat.le_div_iff_mul_le (by omega)).2 (by omega)
  have hb : m / (4 * l) * (4 * l) = l * (4 * (m / (4 * l))) := by
    rw [Nat.mul_comm, Nat.mul_comm 4 l, Nat.mul_assoc]
  have hbm : l * (4 * (m / (4 * l))) ≤ m := by rw [← hb]; exact Nat.div_mul_le_self _ _
  refine ⟨l * (4 * (m / (4 * l))), 4 * (m / (4 * l)), m / (4 * l), hg, rfl, rfl, hbm, rfl, fun w => ?_⟩
  refine of_walk a t m l z (4 * l) _ _ _ hM rfl hb ?_ ?_ w
  · exact Nat.mul_div_cancel_left _ (by omega)
  · rw [← hb]; exact Nat.mul_div_cancel _ (by omega)

end Go.Proofs.YtnbdmkgldjhcaaaDoor

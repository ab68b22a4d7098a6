/- Little32, Big32, Little64, Big64 of package words and the document's Of32, Of64, Turned, by their contracts. Conditions: the words fit their kind, the slices are of at most a million cells. -/
import Derived.Test.YtnmhcmjpcamoeaaDoorLaid
import Derived.LoopTactic
import Derived.IntWalk
import Derived.Lib.Hide
import Derived.Outline
namespace Go.Proofs.YtnmhcmjpcamoeaaDoor
set_option maxRecDepth 50000
open Go.RowKit

def ups (i : Nat) : Nat := i
def downs (n i : Nat) : Nat := n - 1 - i
theorem low_ups (n : Nat) : Orders 24 ups n := low_any n
theorem div_next (x i : Nat) : x / 2 ^ (8 * i) / 256 = x / 2 ^ (8 * (i + 1)) := by
  rw [Nat.div_div_eq_div_mul, Nat.mul_add, Nat.pow_add]
theorem div_le_self' (x i : Nat) : x / 2 ^ (8 * i) ≤ x := Nat.div_le_self _ _

end Go.Proofs.YtnmhcmjpcamoeaaDoor

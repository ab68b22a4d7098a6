/- The document's Permute of package blend by its contract. Conditions: those typed. -/
import Derived.Test.YtfoodaobiknihaaDoorBn
namespace Go.Proofs.YtfoodaobiknihaaDoor
set_option maxRecDepth 50000
open Go.RowKit Rot Bn
def pls (i : Nat) : Nat → List Nat
  | 0 => [0, 0, 0, 0]
  | k + 1 => (pls i k).set k (pt i k)
def wds (v : List Nat) (i : Nat) : Nat → List Nat
  | 0 => [0, 0, 0, 0]
  | k + 1 => (wds v i k).set k (v.getD (pt i k) 0)
def puts (v : List Nat) (i : Nat) (q : List Nat) : Nat → List Nat
  | 0 => v
  | k + 1 => (puts v i q k).set (pt i k) (q.getD k 0)
theorem pls_length (i : Nat) : ∀ k, (pls i k).length = 4
  | 0 => rfl
  | k + 1 => by rw [pls, List.length_set, pls_length i k]
theorem wds_length (v : List Nat) (i : Nat) : ∀ k, (wds v i k).length = 4
  | 0 => rfl
  | k + 1 => by rw [wds, List.length_set, wds_length v i k]
theorem puts_length (v : List Nat) (i : Nat) (q : List Nat) : ∀ k, (puts v i q k).length = v.length
  | 0 => rfl
  | k + 1 => by rw [puts, List.length_set, puts_length v i q k]
theorem pls_four (i k : Nat) (hi : i < 8) (hk : k < 4) : (pls i 4).getD k 0 = pt i k := by
  have h : ∀ i, i < 8 → ∀ k, k < 4 → (pls i 4).getD k 0 = pt i k := by decide
  exact h i hi k hk
theorem wds_four (v : List Nat) (i : Nat) : wds v i 4 = (take4 v i).list := rfl
theorem puts_four (v : List Nat) (i : Nat) (q : Q) : puts v i q.list 4 = put4 v i q := rfl
section
variable {w wr wr' : World} {v p q : List Nat} {b4 b5 : Nat}
end
end Go.Proofs.YtfoodaobiknihaaDoor

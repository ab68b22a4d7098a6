/- What package eks makes, on words told by their places. Pure. -/
import Derived.Test.YtglmfagmlfjceaaCiPure
namespace Go.Proofs.Ytglmfagmlfjceaa.Ci

/-- words expanded by no salt and a key, and by no salt and the salt as the key, so often -/
def ekTo (g : Nat → Nat) (salt key : ByteArray) : Nat → Nat → Nat
  | 0 => g
  | n + 1 => exB (exB (ekTo g salt key n) ⟨#[]⟩ key) ⟨#[]⟩ salt
theorem ekTo_ok {g : Nat → Nat} (h : Ok g) (salt key : ByteArray) : ∀ n, Ok (ekTo g salt key n)
  | 0 => h
  | n + 1 => exB_ok (exB_ok (ekTo_ok h salt key n) _ _) _ _
/-- two words encrypted so often -/
def enTo (g : Nat → Nat) (l r : Nat) : Nat → Nat × Nat
  | 0 => (l, r)
  | k + 1 => (enL g (enTo g l r k).1 (enTo g l r k).2, enR g (enTo g l r k).1 (enTo g l r k).2)
theorem enTo_lt {g : Nat → Nat} (hg : Ok g) (l r : Nat) (hl : l < 4294967296) (hr : r < 4294967296) : ∀ k, (enTo g l r k).1 < 4294967296 ∧ (enTo g l r k).2 < 4294967296
  | 0 => ⟨hl, hr⟩
  | k + 1 => by
    obtain ⟨h1, h2⟩ := enTo_lt hg l r hl hr k
    exact en_lt g hg _ _ h1 h2
/-- the word in the place j of words x, two by two encrypted so often -/
def sq (g : Nat → Nat) (x : Nat → Nat) (t j : Nat) : Nat := if j % 2 = 0 then (enTo g (x j) (x (j + 1)) t).1 else (enTo g (x (j - 1)) (x j) t).2
theorem sq_even (g x : Nat → Nat) (t k : Nat) : sq g x t (2 * k) = (enTo g (x (2 * k)) (x (2 * k + 1)) t).1 := by
  unfold sq; rw [if_pos (by omega)]
theorem sq_odd (g x : Nat → Nat) (t k : Nat) : sq g x t (2 * k + 1) = (enTo g (x (2 * k)) (x (2 * k + 1)) t).2 := by
  unfold sq; rw [if_neg (by omega)]; rfl
/-- the first n places' words -/
def sqL (g x : Nat → Nat) (t n : Nat) : List Nat := (List.range n).map (sq g x t)
theorem sqL_length (g x : Nat → Nat) (t n : Nat) : (sqL g x t n).length = n := by simp [sqL]
theorem sqL_at (g x : Nat → Nat) (t n i : Nat) (h : i < n) : (sqL g x t n)[i]? = some (sq g x t i) := by simp [sqL, h]
theorem sqL_next (g x : Nat → Nat) (t k : Nat) : sqL g x t (2 * (k + 1)) = sqL g x t (2 * k) ++ [(enTo g (x (2 * k)) (x (2 * k + 1)) t).1, (enTo g (x (2 * k)) (x (2 * k + 1)) t).2] := by
  unfold sqL
  rw [show 2 * (k + 1) = 2 * k + 1 + 1 by omega, List.range_succ, List.range_succ, List.map_append, List.map_append, List.append_assoc]
  simp [sq_even, sq_odd]
end Go.Proofs.Ytglmfagmlfjceaa.Ci

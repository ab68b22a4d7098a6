/- The laws PiDigits and PiWords, out of what the package's calls answer. Conditions: those typed; what the calls answer is asked as PiOk. -/
import Derived.Test.YtglmfagmlfjceaaPiTab
import Derived.Test.YtglmfagmlfjceaaLaid
import Derived.Deep.LoopGhost
import Derived.WalkMore
namespace Go.Proofs.Ytglmfagmlfjceaa
set_option maxRecDepth 50000
open Go.RowKit Pi16

/-- the first d digits of word i -/
def wordTo (i : Nat) : Nat → Nat
  | 0 => 0
  | k + 1 => 16 * wordTo i k + piD (8 * i + k)
def wordN (i : Nat) : Nat := wordTo i 8
theorem piD_lt (i : Nat) : piD i < 16 := Nat.mod_lt _ (by decide)
theorem wordTo_lt (i : Nat) : ∀ k, wordTo i k < 16 ^ k
  | 0 => by simp [wordTo]
  | k + 1 => by
    have h1 := wordTo_lt i k
    have h2 := piD_lt (8 * i + k)
    rw [wordTo, Nat.pow_succ]
    omega
theorem wordN_lt (i : Nat) : wordN i < 4294967296 := wordTo_lt i 8
/-- some words one behind the other -/
def wordsL (a : Nat) : Nat → List Nat
  | 0 => []
  | n + 1 => wordsL a n ++ [wordN (a + n)]
theorem wordsL_length (a : Nat) : ∀ n, (wordsL a n).length = n
  | 0 => rfl
  | n + 1 => by rw [wordsL, List.length_append, wordsL_length a n]; rfl
theorem wordsL_at (a k : Nat) : ∀ n, (h : k < n) → (wordsL a n)[k]'(by rw [wordsL_length]; exact h) = wordN (a + k)
  | n + 1, h => by
    simp only [wordsL]
    by_cases hk : k < n
    · rw [List.getElem_append_left (by rw [wordsL_length]; exact hk)]
      exact wordsL_at a k n hk
    · obtain rfl : k = n := by omega
      rw [List.getElem_append_right (by rw [wordsL_length]; exact Nat.le_refl _)]
      simp
theorem w_first : wordN 0 = 608135816 := by kernel_rfl
theorem w_last : wordN 1041 = 985887462 := by kernel_rfl
theorem d_first : piD 0 = 2 := by kernel_rfl
theorem bstep {a b c : World} (h : Below a.heap.size a b) (k : Below b.heap.size b c) : Below a.heap.size a c := h.trans (k.mono h.size)
theorem u32is (x : Int) (a : Nat) (h : x = (a : Int)) (hb : a < 4294967296) : IntKind.u32.wrap x = (a : Int) := by
  have e : IntKind.u32.wrap (a : Int) = (a : Int) % 4294967296 := by simp [IntKind.wrap, IntKind.bits, IntKind.signed]
  rw [h, e]; omega

end Go.Proofs.Ytglmfagmlfjceaa

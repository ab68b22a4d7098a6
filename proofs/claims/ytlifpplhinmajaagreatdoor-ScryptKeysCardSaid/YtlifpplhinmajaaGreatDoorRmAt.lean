/- Which row is what behind a mixing, as plain mathematics. No condition but those typed. -/
import Derived.Test.YtlifpplhinmajaaGreatDoorPu
namespace Go.Proofs.YtlifpplhinmajaaGreatDoor.Rm
open Sl Sf Bb

theorem F_at {r : Nat} {v : List Nat} {first : Nat} {X : List (List Nat)} {N : Nat} (hf : first + N ≤ X.length) : ∀ i, i ≤ N → ∀ j, (F r v first X i).getD j [] = if first ≤ j ∧ j < first + i then V r v (j - first) else X.getD j []
  | 0, _, j => by rw [if_neg (by omega)]; rfl
  | i + 1, hi, j => by
    rw [F, setl_at _ _ _ _ _ (by rw [F_length]; omega), F_at hf i (by omega) j]
    by_cases e : first + i = j
    · rw [if_pos e, if_pos (by omega)]
      congr 1
      omega
    · rw [if_neg e]
      by_cases h : first ≤ j ∧ j < first + i
      · rw [if_pos h, if_pos (by omega)]
      · rw [if_neg h, if_neg (by omega)]
theorem F_row {r : Nat} {v : List Nat} {first : Nat} {X : List (List Nat)} {N : Nat} (hf : first + N ≤ X.length) (j : Nat) (hj : j < N) : (F r v first X N).getD (first + j) [] = V r v j := by
  rw [F_at hf N (Nat.le_refl _), if_pos (by omega)]
  congr 1
  omega
theorem Z_good2 {r N first : Nat} {g : List Nat → Nat} {Y : List (List Nat)} {v : List Nat} (h1 : 1 ≤ r) (hl : v.length = 32 * r) (ho : okw v) (hY : ∀ j, j < N → (Y.getD (first + j) []).length = 32 * r ∧ okw (Y.getD (first + j) [])) (hN : 0 < N) : ∀ i, (Z r N first g Y v i).length = 32 * r ∧ okw (Z r N first g Y v i)
  | 0 => ⟨hl, ho⟩
  | i + 1 => by
    have h := Z_good2 (g := g) h1 hl ho hY hN i
    have hp := pk_lt (Z r N first g Y v i) g hN
    have hy := hY (pk N (Z r N first g Y v i) g) hp
    have hxl : (xr (Z r N first g Y v i) (Y.getD (first + pk N (Z r N first g Y v i) g) []) 0 (32 * r)).length = 32 * r := by rw [xr_length]; exact h.1
    exact ⟨mxr_length h1 hxl, mxr_ok (xr_ok h.2 hy.2 0 _)⟩
/-- a row, mixed: by way of what it is mixed to again and again -/
def rowMix (r N : Nat) (g : List Nat → Nat) (x : List Nat) : List Nat := Z r N 0 g ((List.range N).map (V r x)) (V r x N) N
theorem Z_same {r N first first' : Nat} {g : List Nat → Nat} {Y Y' : List (List Nat)} {v : List Nat} (hN : 0 < N) (h : ∀ j, j < N → Y.getD (first + j) [] = Y'.getD (first' + j) []) : ∀ i, Z r N first g Y v i = Z r N first' g Y' v i
  | 0 => rfl
  | i + 1 => by
    rw [Z, Z, Z_same hN h i, h _ (pk_lt _ g hN)]
theorem range_row (f : Nat → List Nat) (N j : Nat) (hj : j < N) : ((List.range N).map f).getD j [] = f j := by
  rw [List.getD_eq_getElem?_getD, List.getElem?_map, List.getElem?_range hj]; rfl
theorem Z_row {r N first : Nat} {g : List Nat → Nat} {x : List Nat} {X : List (List Nat)} (hN : 0 < N) (hf : first + N ≤ X.length) : Z r N first g (F r x first X N) (V r x N) N = rowMix r N g x :=
  Z_same hN (fun j hj => by rw [F_row hf j hj, Nat.zero_add, range_row _ _ _ hj]) N
theorem mixX_row {r k N first : Nat} {g : List Nat → Nat} {X : List (List Nat)} (hN : 0 < N) (hk : k < X.length) (hf : first + N ≤ X.length) : (mixX r k N first g X).getD k [] = rowMix r N g (X.getD k []) := by
  unfold mixX
  rw [setl_at _ _ _ _ _ (by rw [F_length]; exact hk), if_pos rfl, Z_row hN hf]
theorem mixX_other {r k N first : Nat} {g : List Nat → Nat} {X : List (List Nat)} (hk : k < X.length) (hf : first + N ≤ X.length) {j : Nat} (hj : k ≠ j) (hj2 : j < first) : (mixX r k N first g X).getD j [] = X.getD j [] := by
  unfold mixX
  rw [setl_at _ _ _ _ _ (by rw [F_length]; exact hk), if_neg hj, F_at hf N (Nat.le_refl _), if_neg (by omega)]
theorem rowMix_good {r N : Nat} {g : List Nat → Nat} {x : List Nat} (h1 : 1 ≤ r) (hN : 0 < N) (hl : x.length = 32 * r) (ho : okw x) : (rowMix r N g x).length = 32 * r ∧ okw (rowMix r N g x) := by
  refine Z_good2 h1 (V_good h1 hl ho N).1 (V_good h1 hl ho N).2 (fun j hj => ?_) hN N
  rw [Nat.zero_add, range_row _ _ _ hj]
  exact V_good h1 hl ho j
/-- so many rows, from the first on, are mixed, one behind the other -/
def mixT (r N p : Nat) (g : List Nat → Nat) (X : List (List Nat)) : Nat → List (List Nat)
  | 0 => X
  | k + 1 => mixX r k N p g (mixT r N p g X k)
theorem mixT_length (r N p : Nat) (g : List Nat → Nat) (X : List (List Nat)) : ∀ k, (mixT r N p g X k).length = X.length
  | 0 => rfl
  | k + 1 => by rw [mixT, mixX_length, mixT_length r N p g X k]
theorem mixT_at {r N p : Nat} {g : List Nat → Nat} {X : List (List Nat)} (hN : 0 < N) (hf : p + N ≤ X.length) : ∀ k, k ≤ p → ∀ j, j < p → (mixT r N p g X k).getD j [] = if j < k then rowMix r N g (X.getD j []) else X.getD j []
  | 0, _, j, _ => by rw [if_neg (by omega)]; rfl
  | k + 1, hk, j, hj => by
    have hl := mixT_length r N p g X k
    have ih := mixT_at (r := r) (g := g) hN hf k (by omega) j hj
    rw [mixT]
    by_cases e : k = j
    · subst e
      rw [mixX_row hN (by omega) (by omega), ih, if_neg (by omega), if_pos (by omega)]
    · rw [mixX_other (by omega) (by omega) e hj, ih]
      by_cases h : j < k
      · rw [if_pos h, if_pos (by omega)]
      · rw [if_neg h, if_neg (by omega)]
/-- so many rows, from the first on, are other ones -/
def putT (f : Nat → List Nat) (X : List (List Nat)) : Nat → List (List Nat)
  | 0 => X
  | k + 1 => (putT f X k).set k (f k)
theorem putT_length (f : Nat → List Nat) (X : List (List Nat)) : ∀ k, (putT f X k).length = X.length
  | 0 => rfl
  | k + 1 => by rw [putT, List.length_set, putT_length f X k]
theorem putT_at (f : Nat → List Nat) (X : List (List Nat)) : ∀ k, k ≤ X.length → ∀ j, (putT f X k).getD j [] = if j < k then f j else X.getD j []
  | 0, _, j => by rw [if_neg (by omega)]; rfl
  | k + 1, hk, j => by
    rw [putT, setl_at _ _ _ _ _ (by rw [putT_length]; omega), putT_at f X k (by omega) j]
    by_cases e : k = j
    · subst e; rw [if_pos rfl, if_pos (by omega)]
    · rw [if_neg e]
      by_cases h : j < k
      · rw [if_pos h, if_pos (by omega)]
      · rw [if_neg h, if_neg (by omega)]
end Go.Proofs.YtlifpplhinmajaaGreatDoor.Rm

/- What a block refers to, in numbers: it is one of the shape's, it is settled, it is not the block itself. Conditions: those typed. -/
import Derived.Test.YtgjaamiileoknaaPlOf
namespace Go.Proofs.Ytgjaamiileoknaa
set_option maxRecDepth 50000
open Go.RowKit

theorem re_yes {t l g : Nat} {p s k i : Int} (h : reB t l g p s k i = true) : 0 ≤ p ∧ p < t ∧ 0 ≤ s ∧ s ≤ 3 ∧ 0 ≤ k ∧ k < l ∧ firN p s ≤ i ∧ i < g := by
  unfold reB hasB at h
  simp only [Bool.and_eq_true] at h
  obtain ⟨⟨h1, h2⟩, h3, h4⟩ := h
  have h1 := in_true _ _ _ h1
  have h2 := in_true _ _ _ h2
  have h3 := in_true _ _ _ h3
  have h4 := in_true _ _ _ h4
  omega
theorem fir_zero {p s i : Int} (h : firN p s ≤ i) : 0 ≤ i ∧ (p = 0 ∧ s = 0 → 2 ≤ i) := by
  unfold firN at h
  split at h
  · exact ⟨by omega, fun _ => h⟩
  · rename_i hn
    exact ⟨h, fun hp => absurd hp hn⟩

/-- numbers that a block that refers has -/
structure Ref (t l c g p s k i : Nat) : Prop where
  g2 : 2 ≤ g
  cg : c = 4 * g
  pt : p < t
  s3 : s ≤ 3
  kl : k < l
  ig : i < g
  two : p = 0 → s = 0 → 2 ≤ i
theorem ref_of {t l c g : Nat} {p s k i : Int} (h : reB t l g p s k i = true) (hg : 2 ≤ g) (hc : c = 4 * g) : ∃ p' s' k' i' : Nat, p = (p' : Int) ∧ s = (s' : Int) ∧ k = (k' : Int) ∧ i = (i' : Int) ∧ Ref t l c g p' s' k' i' := by
  obtain ⟨h1, h2, h3, h4, h5, h6, h7, h8⟩ := re_yes h
  obtain ⟨h9, h10⟩ := fir_zero h7
  obtain ⟨p, rfl⟩ := Int.eq_ofNat_of_zero_le h1
  obtain ⟨s, rfl⟩ := Int.eq_ofNat_of_zero_le h3
  obtain ⟨k, rfl⟩ := Int.eq_ofNat_of_zero_le h5
  obtain ⟨i, rfl⟩ := Int.eq_ofNat_of_zero_le h9
  exact ⟨p, s, k, i, rfl, rfl, rfl, rfl, hg, hc, by omega, by omega, by omega, by omega, fun hp hs => by have := h10 ⟨by omega, by omega⟩; omega⟩

section
variable {t l c g p s k i : Nat}
theorem Ref.times (R : Ref t l c g p s k i) : s * g ≤ 3 * g ∧ (s + 1) * g = s * g + g ∧ (s = 0 → s * g = 0) ∧ (s = 3 → s * g = 3 * g) ∧ (1 ≤ s → g ≤ s * g) ∧ (s ≤ 2 → s * g ≤ 2 * g) := by
  refine ⟨Nat.mul_le_mul_right _ R.s3, Nat.succ_mul s g, fun h => by rw [h, Nat.zero_mul], fun h => by rw [h], fun h => ?_, fun h => Nat.mul_le_mul_right _ h⟩
  have := Nat.mul_le_mul_right g h
  omega
/-- how many there are -/
theorem Ref.area (R : Ref t l c g p s k i) (O : Bool) (hO : p = 0 → s = 0 → O = true) : ∃ A : Nat, arI (bsN c g p s) i O = (A : Int) ∧ 1 ≤ A ∧ A ≤ c ∧ A + (if O then 1 else if i = 0 then 1 else 0) = bsN c g p s + (if O then i else 0) := by
  obtain ⟨h1, h2, h3, h4, h5, h6⟩ := R.times
  have hg := R.g2
  have hc := R.cg
  have hs := R.s3
  have hi := R.ig
  have h2' := R.two
  unfold bsN arI
  generalize s * g = x at *
  by_cases hp : p = 0
  · rw [if_pos hp]
    cases O
    · have hs0 : ¬ s = 0 := fun h => by have := hO hp h; cases this
      have h5 := h5 (by omega)
      by_cases h0 : i = 0
      · exact ⟨x - 1, by simp [h0]; omega, by omega, by omega, by simp [h0]; omega⟩
      · exact ⟨x, by simp [h0], by omega, by omega, by simp [h0]⟩
    · have hx : 1 ≤ x + i - 1 := by
        by_cases hs0 : s = 0
        · have := h2' hp hs0; omega
        · have := h5 (by omega); omega
      exact ⟨x + i - 1, by simp; omega, hx, by omega, by simp; omega⟩
  · rw [if_neg hp]
    cases O
    · by_cases h0 : i = 0
      · exact ⟨c - g - 1, by simp [h0]; omega, by omega, by omega, by simp [h0]; omega⟩
      · exact ⟨c - g, by simp [h0], by omega, by omega, by simp [h0]⟩
    · exact ⟨c - g + i - 1, by simp; omega, by omega, by omega, by simp; omega⟩
/-- which it is -/
def colN (c g p s y : Nat) : Nat := if c ≤ frN g p s + y then frN g p s + y - c else frN g p s + y
theorem Ref.from_le (R : Ref t l c g p s k i) : frN g p s ≤ 3 * g := by
  obtain ⟨h1, h2, h3, h4, h5, h6⟩ := R.times
  have hs := R.s3
  unfold frN
  by_cases h : p = 0 ∨ s = 3
  · rw [if_pos h]; omega
  · rw [if_neg h]
    have := h6 (by omega)
    omega
theorem Ref.spot (R : Ref t l c g p s k i) (O : Bool) (A y : Nat) (hy : y < A) (hA : A + (if O then 1 else if i = 0 then 1 else 0) = bsN c g p s + (if O then i else 0)) :
    colN c g p s y < c ∧ (O = true → colN c g p s y ≠ s * g + i) ∧ (O = false → colN c g p s y < s * g ∨ s * g + g ≤ colN c g p s y) ∧ (p = 0 → colN c g p s y < s * g + i) := by
  obtain ⟨h1, h2, h3, h4, h5, h6⟩ := R.times
  have hg := R.g2
  have hc := R.cg
  have hs := R.s3
  have hi := R.ig
  unfold colN
  have hF : frN g p s = if p = 0 ∨ s = 3 then 0 else s * g + g := by unfold frN; rw [h2]
  unfold bsN at hA
  generalize s * g = x at *
  generalize frN g p s = F at *
  by_cases hp : p = 0
  · rw [if_pos hp] at hA
    rw [if_pos (.inl hp)] at hF
    cases O <;> by_cases hi0 : i = 0 <;> simp [hi0] at hA <;> split <;> simp <;> omega
  · rw [if_neg hp] at hA
    by_cases h3 : s = 3
    · have h4 := h4 h3
      rw [if_pos (.inr h3)] at hF
      cases O <;> by_cases hi0 : i = 0 <;> simp [hi0] at hA <;> split <;> simp <;> omega
    · have h6 := h6 (by omega)
      rw [if_neg (by omega)] at hF
      cases O <;> by_cases hi0 : i = 0 <;> simp [hi0] at hA <;> split <;> simp <;> omega
end
end Go.Proofs.Ytgjaamiileoknaa

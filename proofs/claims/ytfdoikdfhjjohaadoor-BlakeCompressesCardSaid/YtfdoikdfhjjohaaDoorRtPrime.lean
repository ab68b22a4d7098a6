/- Primes as plain numbers: no Go in sight. No condition but those typed. -/
namespace Go.Proofs.YtfdoikdfhjjohaaDoor
set_option maxRecDepth 50000

/-- is it a prime: 2 or more, and no number from 2 on, whose square is not above it, divides it -/
def isP (n : Nat) : Bool := decide (2 ≤ n) && (List.range n).all fun d => decide (d < 2) || decide (n < d * d) || decide (n % d ≠ 0)
/-- the primes below x, rising -/
def primesTo (x : Nat) : List Nat := (List.range x).filter isP
/-- the first n primes (of 200) -/
def firstP (n : Nat) : List Nat := (primesTo 1224).take n

theorem isP_yes {n : Nat} (h : 2 ≤ n) (hd : ∀ d, 2 ≤ d → d * d ≤ n → n % d ≠ 0) : isP n = true := by
  unfold isP
  simp only [Bool.and_eq_true, decide_eq_true_eq, List.all_eq_true, List.mem_range, Bool.or_eq_true]
  refine ⟨h, fun d _ => ?_⟩
  by_cases h1 : d < 2
  · exact .inl (.inl h1)
  · by_cases h2 : n < d * d
    · exact .inl (.inr h2)
    · exact .inr (hd d (by omega) (by omega))
theorem sq_ge {d : Nat} (h : 2 ≤ d) : d < d * d := by
  have := Nat.mul_le_mul h (Nat.le_refl d)
  omega
theorem isP_no {n d : Nat} (h1 : 2 ≤ d) (h2 : d * d ≤ n) (h3 : n % d = 0) : isP n = false := by
  unfold isP
  rw [Bool.and_eq_false_iff]
  refine .inr (List.all_eq_false.2 ⟨d, ?_, ?_⟩)
  · have := sq_ge h1; simp; omega
  · simp; omega
theorem isP_low {n : Nat} (h : n < 2) : isP n = false := by unfold isP; simp; omega
theorem isP_two {n : Nat} (h : isP n = true) : 2 ≤ n := by unfold isP at h; simp at h; exact h.1
theorem isP_false {n : Nat} (h : 2 ≤ n) (hp : isP n = false) : ∃ d, 2 ≤ d ∧ d * d ≤ n ∧ n % d = 0 := by
  unfold isP at hp
  rw [Bool.and_eq_false_iff] at hp
  rcases hp with hp | hp
  · simp at hp; omega
  · obtain ⟨d, _, hd⟩ := List.all_eq_false.1 hp
    simp at hd
    exact ⟨d, by omega, by omega, by omega⟩
/-- each number from 2 on has a prime that divides it -/
theorem has_prime : ∀ d : Nat, 2 ≤ d → ∃ p, isP p = true ∧ p ≤ d ∧ d % p = 0 := by
  intro d
  induction d using Nat.strongRecOn with
  | ind d ih =>
    intro h
    cases hp : isP d with
    | true => exact ⟨d, hp, Nat.le_refl _, Nat.mod_self d⟩
    | false =>
      obtain ⟨e, h1, h2, h3⟩ := isP_false h hp
      have := sq_ge h1
      obtain ⟨p, p1, p2, p3⟩ := ih e (by omega) h1
      exact ⟨p, p1, by omega, Nat.mod_eq_zero_of_dvd (Nat.dvd_trans (Nat.dvd_of_mod_eq_zero p3) (Nat.dvd_of_mod_eq_zero h3))⟩

theorem primesTo_yes {x : Nat} (h : isP x = true) : primesTo (x + 1) = primesTo x ++ [x] := by
  unfold primesTo; rw [List.range_succ, List.filter_append]; simp [h]
theorem primesTo_no {x : Nat} (h : isP x = false) : primesTo (x + 1) = primesTo x := by
  unfold primesTo; rw [List.range_succ, List.filter_append]; simp [h]
theorem primesTo_two : primesTo 2 = [] := by decide
theorem mem_primesTo {x p : Nat} : p ∈ primesTo x ↔ p < x ∧ isP p = true := by unfold primesTo; simp
theorem primesTo_prefix {x y : Nat} (h : x ≤ y) : primesTo x <+: primesTo y := by
  induction y with
  | zero => obtain rfl : x = 0 := by omega
            exact List.prefix_refl _
  | succ y ih =>
    by_cases hx : x = y + 1
    · subst hx; exact List.prefix_refl _
    · refine List.IsPrefix.trans (ih (by omega)) ?_
      cases hp : isP y with
      | true => rw [primesTo_yes hp]; exact List.prefix_append _ _
      | false => rw [primesTo_no hp]; exact List.prefix_refl _
/-- the same, quicker, of a number below 1296 -/
def fastP (n : Nat) : Bool := decide (2 ≤ n) && (List.range 36).all fun d => decide (d < 2) || decide (n < d * d) || decide (n % d ≠ 0)
theorem isP_fast {n : Nat} (h : n < 1296) : isP n = fastP n := by
  cases hp : fastP n with
  | true =>
    unfold fastP at hp
    simp only [Bool.and_eq_true, decide_eq_true_eq, List.all_eq_true, List.mem_range, Bool.or_eq_true] at hp
    refine isP_yes hp.1 fun d h1 h2 => ?_
    have hd : d < 36 := by
      rcases Nat.lt_or_ge d 36 with h3 | h3
      · exact h3
      · have := Nat.mul_le_mul h3 h3; omega
    rcases hp.2 d hd with (h3 | h3) | h3
    · omega
    · omega
    · exact h3
  | false =>
    unfold fastP at hp
    rw [Bool.and_eq_false_iff] at hp
    rcases hp with hp | hp
    · exact isP_low (by simpa using hp)
    · obtain ⟨d, _, hd⟩ := List.all_eq_false.1 hp
      simp at hd
      exact isP_no (d := d) (by omega) (by omega) (by omega)
theorem many_fast : 200 ≤ ((List.range 1224).filter fastP).length := by decide +kernel
theorem many : 200 ≤ (primesTo 1224).length := by
  have e : primesTo 1224 = (List.range 1224).filter fastP := List.filter_congr fun x hx => isP_fast (by have := List.mem_range.1 hx; omega)
  rw [e]; exact many_fast
theorem first_is {x n : Nat} (hx : x ≤ 1224) (hn : (primesTo x).length = n) : primesTo x = firstP n := by
  unfold firstP
  rw [← hn]
  exact List.prefix_iff_eq_take.1 (primesTo_prefix hx)
theorem firstP_length {n : Nat} (h : n ≤ 200) : (firstP n).length = n := by
  have := many
  unfold firstP
  rw [List.length_take]; omega
/-- while there are too few, what is looked at is below 1224 -/
theorem below_many {x n : Nat} (hx : x ≤ 1224) (hn : n ≤ 200) (h : (primesTo x).length < n) : x < 1224 := by
  have := many
  rcases Nat.lt_or_ge x 1224 with h1 | h1
  · exact h1
  · obtain rfl : x = 1224 := by omega
    omega
theorem rising {x i j : Nat} (hij : i ≤ j) (hj : j < (primesTo x).length) : (primesTo x)[i]'(by omega) ≤ (primesTo x)[j] := by
  have hs : (primesTo x).Pairwise (· < ·) := List.Pairwise.filter _ List.pairwise_lt_range
  rcases Nat.lt_or_ge i j with h | h
  · exact Nat.le_of_lt (List.pairwise_iff_getElem.1 hs i j (by omega) hj h)
  · obtain rfl : i = j := by omega
    exact Nat.le_refl _
theorem prime_at {x i : Nat} (hi : i < (primesTo x).length) : isP (primesTo x)[i] = true ∧ 2 ≤ (primesTo x)[i] ∧ (primesTo x)[i] < x := by
  have := mem_primesTo.1 (List.getElem_mem hi)
  exact ⟨this.2, isP_two this.2, this.1⟩
/-- what no prime divides that was looked at, all others being too great, is a prime -/
theorem prime_by {x i : Nat} (hx : 2 ≤ x) (h : ∀ j, (hj : j < (primesTo x).length) → j < i → x % (primesTo x)[j] ≠ 0) (hend : ∀ hi : i < (primesTo x).length, x < (primesTo x)[i] * (primesTo x)[i]) : isP x = true := by
  cases hp : isP x with
  | true => rfl
  | false =>
    exfalso
    obtain ⟨d, h1, h2, h3⟩ := isP_false hx hp
    obtain ⟨p, p1, p2, p3⟩ := has_prime d h1
    have hpp : p * p ≤ x := Nat.le_trans (Nat.mul_le_mul p2 p2) h2
    have hpx : p < x := by have := sq_ge (isP_two p1); omega
    have hdv : x % p = 0 := Nat.mod_eq_zero_of_dvd (Nat.dvd_trans (Nat.dvd_of_mod_eq_zero p3) (Nat.dvd_of_mod_eq_zero h3))
    obtain ⟨j, hj, hjp⟩ := List.getElem_of_mem (mem_primesTo.2 ⟨hpx, p1⟩)
    rcases Nat.lt_or_ge j i with hji | hji
    · exact h j hj hji (by rw [hjp]; exact hdv)
    · have hr := rising hji hj
      have := hend (by omega)
      rw [hjp] at hr
      have := Nat.mul_le_mul hr hr
      omega
end Go.Proofs.YtfdoikdfhjjohaaDoor

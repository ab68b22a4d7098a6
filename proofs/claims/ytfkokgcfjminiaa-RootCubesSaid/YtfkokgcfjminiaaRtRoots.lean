/- The steps of the roots, bit by bit, as plain numbers: no Go in sight. No condition but those typed. -/
namespace Go.Proofs.Ytfkokgcfjminiaa

/-- behind k rounds: what came in is (R*R + L), R is its root, L what is left, A what is still to come -/
def SqInv (n k A R L : Nat) : Prop := A < 18446744073709551616 ∧ R < 2 ^ k ∧ L ≤ 2 * R ∧ (R * R + L) * 18446744073709551616 + A = n * 4398046511104 * 4 ^ k

theorem sq_start (n : Nat) (hn : n ≤ 1048576) : SqInv n 0 (n * 4398046511104) 0 0 := ⟨by omega, by simp, by omega, by simp⟩
theorem sq_bound {n k A R L : Nat} (h : SqInv n k A R L) (hk : k ≤ 75) : R < 37778931862957161709568 ∧ L < 75557863725914323419136 ∧ A < 18446744073709551616 := by
  obtain ⟨h1, h2, h3, _⟩ := h
  have := Nat.pow_le_pow_right (n := 2) (by omega) hk
  have e : (2 : Nat) ^ 75 = 37778931862957161709568 := by decide
  omega
theorem sq_sum (R L p A A' T : Nat) (hA : A * 4 = p * 18446744073709551616 + A') (h : (R * R + L) * 18446744073709551616 + A = T) : ((R * R + L) * 4 + p) * 18446744073709551616 + A' = T * 4 := by
  rw [← h, Nat.add_mul _ A 4, hA, Nat.add_mul ((R * R + L) * 4) p, Nat.mul_right_comm, Nat.add_assoc]
theorem sq_take {n k A R L : Nat} (h : SqInv n k A R L) (ht : R * 4 + 1 ≤ L * 4 + A / 4611686018427387904) :
    SqInv n (k + 1) (A * 4 % 18446744073709551616) (R * 2 + 1) (L * 4 + A / 4611686018427387904 - (R * 4 + 1)) := by
  obtain ⟨h1, h2, h3, h4⟩ := h
  refine ⟨by omega, by rw [Nat.pow_succ]; omega, by omega, ?_⟩
  have h5 := sq_sum R L (A / 4611686018427387904) A (A * 4 % 18446744073709551616) _ (by omega) h4
  rw [show n * 4398046511104 * 4 ^ (k + 1) = n * 4398046511104 * 4 ^ k * 4 from by rw [Nat.pow_succ]; exact (Nat.mul_assoc _ _ _).symm, ← h5]
  have e : (R * 2 + 1) * (R * 2 + 1) = R * R * 4 + R * 4 + 1 := by
    rw [Nat.add_mul, Nat.mul_add]; simp [Nat.mul_assoc, Nat.mul_left_comm, Nat.mul_comm]; omega
  rw [e]
  congr 2
  omega
theorem sq_leave {n k A R L : Nat} (h : SqInv n k A R L) (ht : ¬ R * 4 + 1 ≤ L * 4 + A / 4611686018427387904) :
    SqInv n (k + 1) (A * 4 % 18446744073709551616) (R * 2) (L * 4 + A / 4611686018427387904) := by
  obtain ⟨h1, h2, h3, h4⟩ := h
  refine ⟨by omega, by rw [Nat.pow_succ]; omega, by omega, ?_⟩
  have h5 := sq_sum R L (A / 4611686018427387904) A (A * 4 % 18446744073709551616) _ (by omega) h4
  rw [show n * 4398046511104 * 4 ^ (k + 1) = n * 4398046511104 * 4 ^ k * 4 from by rw [Nat.pow_succ]; exact (Nat.mul_assoc _ _ _).symm, ← h5]
  have e : (R * 2) * (R * 2) = R * R * 4 := by
    simp [Nat.mul_assoc, Nat.mul_left_comm, Nat.mul_comm]
  rw [e]
  congr 2
  omega
theorem sq_end {n A R L : Nat} (h : SqInv n 75 A R L) : R * R ≤ n * 340282366920938463463374607431768211456 ∧ n * 340282366920938463463374607431768211456 < (R + 1) * (R + 1) := by
  obtain ⟨h1, h2, h3, h4⟩ := h
  have e : (4 : Nat) ^ 75 = 1427247692705959881058285969449495136382746624 := by decide
  rw [e] at h4
  have e : (R + 1) * (R + 1) = R * R + 2 * R + 1 := by rw [Nat.add_mul, Nat.mul_add]; omega
  rw [e]
  generalize R * R = Q at *
  omega

theorem sq_taken {n k A A' p R L X Y Z M V : Nat} (h : SqInv n k A R L) (hp : p = A / 4611686018427387904 ∧ A' = A * 4 % 18446744073709551616) (e1 : X = L * 4 + p) (e2 : Y = R * 4 + 1) (ht : Y ≤ X) (e3 : Z = R * 2) (e4 : M = Z + 1) (e5 : V + Y = X) : SqInv n (k + 1) A' M V := by
  obtain ⟨rfl, rfl⟩ := hp
  have S := sq_take h (by omega)
  rw [show M = R * 2 + 1 from by omega, show V = L * 4 + A / 4611686018427387904 - (R * 4 + 1) from by omega]
  exact S
theorem sq_left {n k A A' p R L X Y Z : Nat} (h : SqInv n k A R L) (hp : p = A / 4611686018427387904 ∧ A' = A * 4 % 18446744073709551616) (e1 : X = L * 4 + p) (e2 : Y = R * 4 + 1) (ht : ¬ Y ≤ X) (e3 : Z = R * 2) : SqInv n (k + 1) A' Z X := by
  obtain ⟨rfl, rfl⟩ := hp
  subst e1; subst e2; subst e3
  exact sq_leave h ht

/-- the first i bits of the root: 39 in all -/
def CbInv (n i R : Nat) : Prop := (∃ q, R = q * 2 ^ (39 - i)) ∧ R < 549755813888 ∧ R * R * R ≤ n * 79228162514264337593543950336 ∧ n * 79228162514264337593543950336 < (R + 2 ^ (39 - i)) * (R + 2 ^ (39 - i)) * (R + 2 ^ (39 - i))
theorem cb_start (n : Nat) (hn : n ≤ 1048576) : CbInv n 0 0 := by
  refine ⟨⟨0, by simp⟩, by omega, by omega, ?_⟩
  have e : (2 : Nat) ^ (39 - 0) = 549755813888 := by decide
  rw [e]; omega
theorem cb_pow {i : Nat} (hi : i < 39) : 2 ^ (39 - i) = 2 ^ (38 - i) * 2 := by
  rw [← Nat.pow_succ]; congr 1; omega
theorem cb_bit {n i R : Nat} (h : CbInv n i R) (hi : i < 39) : R ||| 2 ^ (38 - i) = R + 2 ^ (38 - i) ∧ R + 2 ^ (38 - i) < 549755813888 := by
  obtain ⟨⟨q, rfl⟩, hb, _, _⟩ := h
  have hp := cb_pow hi
  have hq : q < 2 ^ i := by
    refine Nat.lt_of_mul_lt_mul_right (a := 2 ^ (39 - i)) ?_
    rw [← Nat.pow_add, show i + (39 - i) = 39 from by omega]
    exact hb
  constructor
  · have h2 := Nat.two_pow_add_eq_or_of_lt (i := 39 - i) (b := 2 ^ (38 - i)) (by rw [hp]; have := Nat.two_pow_pos (38 - i); omega) q
    rw [Nat.mul_comm] at h2
    exact h2.symm
  · have h3 : (q + 1) * 2 ^ (39 - i) ≤ 2 ^ i * 2 ^ (39 - i) := Nat.mul_le_mul_right _ hq
    rw [← Nat.pow_add, show i + (39 - i) = 39 from by omega, show (2 : Nat) ^ 39 = 549755813888 from by decide, Nat.add_mul] at h3
    have := Nat.two_pow_pos (38 - i)
    omega
theorem cb_take {n i R : Nat} (h : CbInv n i R) (hi : i < 39) (ht : (R + 2 ^ (38 - i)) * (R + 2 ^ (38 - i)) * (R + 2 ^ (38 - i)) ≤ n * 79228162514264337593543950336) : CbInv n (i + 1) (R + 2 ^ (38 - i)) := by
  have hb := (cb_bit h hi).2
  have hp := cb_pow hi
  obtain ⟨⟨q, hq⟩, _, h3, h4⟩ := h
  have e1 : 39 - (i + 1) = 38 - i := by omega
  refine ⟨⟨q * 2 + 1, ?_⟩, hb, ht, ?_⟩
  · rw [hq, hp, e1, Nat.add_mul, Nat.one_mul, ← Nat.mul_assoc, Nat.mul_right_comm]
  · rw [e1]
    rw [hp, Nat.mul_two, ← Nat.add_assoc] at h4
    exact h4
theorem cb_leave {n i R : Nat} (h : CbInv n i R) (hi : i < 39) (ht : ¬ (R + 2 ^ (38 - i)) * (R + 2 ^ (38 - i)) * (R + 2 ^ (38 - i)) ≤ n * 79228162514264337593543950336) : CbInv n (i + 1) R := by
  have hp := cb_pow hi
  obtain ⟨⟨q, hq⟩, h2, h3, h4⟩ := h
  have e1 : 39 - (i + 1) = 38 - i := by omega
  refine ⟨⟨q * 2, ?_⟩, h2, h3, ?_⟩
  · rw [hq, hp, e1, ← Nat.mul_assoc, Nat.mul_right_comm]
  · rw [e1]; omega
theorem cb_end {n R : Nat} (h : CbInv n 39 R) : R < 549755813888 ∧ R * R * R ≤ n * 79228162514264337593543950336 ∧ n * 79228162514264337593543950336 < (R + 1) * (R + 1) * (R + 1) := by
  obtain ⟨_, h2, h3, h4⟩ := h
  exact ⟨h2, h3, h4⟩
theorem cube_bound {x : Nat} (h : x < 549755813888) : x * x < 302231454903657293676544 ∧ x * x * x < 166153499473114484112975882535043072 := by
  have h1 : x * x ≤ 549755813887 * 549755813887 := Nat.mul_le_mul (by omega) (by omega)
  have h2 : x * x * x ≤ 549755813887 * 549755813887 * 549755813887 := Nat.mul_le_mul h1 (by omega)
  omega

/-- there is one root alone -/
theorem sq_one {a b N : Nat} (h1 : a * a ≤ N) (h2 : N < (b + 1) * (b + 1)) : a ≤ b := by
  apply Nat.le_of_not_lt
  intro h
  have := Nat.mul_le_mul (show b + 1 ≤ a from h) (show b + 1 ≤ a from h)
  omega
theorem cb_one {a b N : Nat} (h1 : a * a * a ≤ N) (h2 : N < (b + 1) * (b + 1) * (b + 1)) : a ≤ b := by
  apply Nat.le_of_not_lt
  intro h
  have := Nat.mul_le_mul (Nat.mul_le_mul (show b + 1 ≤ a from h) (show b + 1 ≤ a from h)) (show b + 1 ≤ a from h)
  omega
end Go.Proofs.Ytfkokgcfjminiaa

/- Digits of pi to the base 16, as plain mathematics: what sums of fractions, each cut off, come to, and that what is cut off reaches no digit up to place 8,335. No condition. -/
import Derived.WalkKit
namespace Go.Proofs.Ytglmfagmlfjceaa.Pi16
set_option maxRecDepth 50000

/-- the sum of g over the first n numbers -/
def sumTo (g : Nat → Nat) : Nat → Nat
  | 0 => 0
  | n + 1 => sumTo g n + g n
theorem sumTo_congr {g h : Nat → Nat} : ∀ n, (∀ k, k < n → g k = h k) → sumTo g n = sumTo h n
  | 0, _ => rfl
  | n + 1, e => by rw [sumTo, sumTo, sumTo_congr n fun k hk => e k (by omega), e n (by omega)]
theorem sumTo_add (g : Nat → Nat) (a : Nat) : ∀ b, sumTo g (a + b) = sumTo g a + sumTo (fun k => g (a + k)) b
  | 0 => rfl
  | b + 1 => by
    rw [← Nat.add_assoc, sumTo, sumTo_add g a b, sumTo, Nat.add_assoc]
/-- sixteen to N times the sum, each fraction cut off -/
def ser (f N : Nat) : Nat := sumTo (fun k => 16 ^ (N - k) / (8 * k + f)) (N + 1)
theorem sumTo_step (f N : Nat) : ∀ n, n ≤ N + 1 → 16 * sumTo (fun k => 16 ^ (N - k) / (8 * k + f)) n ≤ sumTo (fun k => 16 ^ (N + 1 - k) / (8 * k + f)) n ∧
    sumTo (fun k => 16 ^ (N + 1 - k) / (8 * k + f)) n ≤ 16 * sumTo (fun k => 16 ^ (N - k) / (8 * k + f)) n + 15 * n
  | 0, _ => by simp [sumTo]
  | n + 1, h => by
    obtain ⟨h1, h2⟩ := sumTo_step f N n (by omega)
    have e : 16 ^ (N + 1 - n) = 16 * 16 ^ (N - n) := by
      rw [show N + 1 - n = (N - n) + 1 by omega, Nat.pow_succ, Nat.mul_comm]
    have k1 : 16 * (16 ^ (N - n) / (8 * n + f)) ≤ 16 * 16 ^ (N - n) / (8 * n + f) := Nat.mul_div_le_mul_div_assoc _ _ _
    have k2 : 16 * 16 ^ (N - n) / (8 * n + f) ≤ 16 * (16 ^ (N - n) / (8 * n + f)) + 15 := by
      rcases Nat.eq_zero_or_pos (8 * n + f) with h0 | hp
      · rw [h0]; simp
      · have hx := Nat.div_add_mod (16 ^ (N - n)) (8 * n + f)
        have hr := Nat.mod_lt (16 ^ (N - n)) hp
        generalize 16 ^ (N - n) / (8 * n + f) = q at *
        generalize 16 ^ (N - n) % (8 * n + f) = r at *
        generalize 16 ^ (N - n) = x at *
        generalize 8 * n + f = m at *
        apply Nat.le_of_lt_succ
        rw [Nat.div_lt_iff_lt_mul hp, Nat.succ_eq_add_one, show 16 * q + 15 + 1 = 16 * (q + 1) by omega, Nat.mul_assoc, Nat.add_mul, Nat.one_mul]
        rw [Nat.mul_comm q m]
        omega
    simp only [sumTo]
    rw [e]
    omega
theorem ser_step (f N : Nat) (hf : 0 < f) : 16 * ser f N ≤ ser f (N + 1) ∧ ser f (N + 1) ≤ 16 * ser f N + 15 * (N + 1) := by
  obtain ⟨h1, h2⟩ := sumTo_step f N (N + 1) (Nat.le_refl _)
  have e : ser f (N + 1) = sumTo (fun k => 16 ^ (N + 1 - k) / (8 * k + f)) (N + 1) := by
    unfold ser
    rw [sumTo]
    have : 16 ^ (N + 1 - (N + 1)) / (8 * (N + 1) + f) = 0 := by
      rw [Nat.sub_self, Nat.pow_zero]
      exact Nat.div_eq_of_lt (by omega)
    rw [this, Nat.add_zero]
  rw [e]
  exact ⟨h1, h2⟩
/-- what is cut off on the way: never more than c times the power -/
theorem ser_far (f N c : Nat) (hf : 0 < f) : ∀ d, N + d < c → 16 ^ d * ser f N ≤ ser f (N + d) ∧ ser f (N + d) + c ≤ 16 ^ d * (ser f N + c)
  | 0, _ => by simp
  | d + 1, h => by
    obtain ⟨h1, h2⟩ := ser_far f N c hf d (by omega)
    obtain ⟨h3, h4⟩ := ser_step f (N + d) hf
    rw [Nat.pow_succ, Nat.mul_comm (16 ^ d) 16, Nat.mul_assoc, Nat.mul_assoc, ← Nat.add_assoc]
    generalize 16 ^ d * ser f N = a at *
    generalize 16 ^ d * (ser f N + c) = b at *
    omega

/-- the digit, by four sums modulo sixteen to fifteen -/
def dig (s1 s4 s5 s6 : Nat) : Nat :=
  (4 * (s1 % 1152921504606846976) + 2 * (1152921504606846976 - s4 % 1152921504606846976) + 1152921504606846976 - s5 % 1152921504606846976 + 1152921504606846976 - s6 % 1152921504606846976) % 1152921504606846976 / 72057594037927936

/-- digits of numbers that lie near each other, away from where a digit turns -/
theorem near (y X q r e K : Int) (hy : y = K * q + r) (h1 : y - X ≤ e) (h2 : X - y ≤ e) (h3 : e ≤ r) (h4 : r + e < K) : X / K = q := by
  have hK : 0 < K := by omega
  have : X = (r + (X - y)) + K * q := by omega
  rw [this, Int.add_mul_ediv_left _ _ (by omega), Int.ediv_eq_zero_of_lt (by omega) (by omega), Int.zero_add]
theorem dig_int (s1 s4 s5 s6 : Nat) : ((dig s1 s4 s5 s6 : Nat) : Int) = ((4 * (s1 : Int) - (2 * (s4 : Int) + (s5 : Int) + (s6 : Int))) / 72057594037927936) % 16 := by
  unfold dig
  omega
/-- one place: E times what is reckoned there is near what is reckoned far behind it -/
theorem place (E c W t1 t4 t5 t6 s1 s4 s5 s6 : Nat) (hE : 0 < E) (hW : 4 * t1 = 2 * t4 + t5 + t6 + W)
    (a1 : E * s1 ≤ t1) (a4 : E * s4 ≤ t4) (a5 : E * s5 ≤ t5) (a6 : E * s6 ≤ t6)
    (b1 : t1 + c ≤ E * (s1 + c)) (b4 : t4 + c ≤ E * (s4 + c)) (b5 : t5 + c ≤ E * (s5 + c)) (b6 : t6 + c ≤ E * (s6 + c))
    (g1 : 4 * c ≤ W / E % 72057594037927936) (g2 : W / E % 72057594037927936 + 4 * c < 72057594037927936) :
    dig s1 s4 s5 s6 = W / E / 72057594037927936 % 16 := by
  have hy := Nat.div_add_mod W E
  have hr := Nat.mod_lt W hE
  have hq := Nat.div_add_mod (W / E) 72057594037927936
  generalize W / E = y at *
  generalize hz : y / 72057594037927936 = q at *
  generalize y % 72057594037927936 = r at *
  have p1 : (E : Int) * (4 * (s1 : Int)) = 4 * ((E * s1 : Nat) : Int) := by rw [Int.natCast_mul, Int.mul_left_comm]
  have p4 : (E : Int) * (2 * (s4 : Int)) = 2 * ((E * s4 : Nat) : Int) := by rw [Int.natCast_mul, Int.mul_left_comm]
  have p5 : (E : Int) * (s5 : Int) = ((E * s5 : Nat) : Int) := by rw [Int.natCast_mul]
  have p6 : (E : Int) * (s6 : Int) = ((E * s6 : Nat) : Int) := by rw [Int.natCast_mul]
  have py : (E : Int) * (y : Int) = ((E * y : Nat) : Int) := by rw [Int.natCast_mul]
  have pc : (E : Int) * (4 * (c : Int)) = 4 * ((E * c : Nat) : Int) := by rw [Int.natCast_mul, Int.mul_left_comm]
  rw [Nat.mul_add] at b1 b4 b5 b6
  have u : (E : Int) * ((y : Int) - (4 * (s1 : Int) - (2 * (s4 : Int) + (s5 : Int) + (s6 : Int)))) ≤ (E : Int) * (4 * (c : Int)) := by
    rw [Int.mul_sub, Int.mul_sub, Int.mul_add, Int.mul_add, p1, p4, p5, p6, py, pc]
    generalize E * s1 = m1 at *
    generalize E * s4 = m4 at *
    generalize E * s5 = m5 at *
    generalize E * s6 = m6 at *
    generalize E * y = my at *
    generalize E * c = mc at *
    clear g1 g2 p1 p4 p5 p6 py pc
    omega
  have v : (E : Int) * ((4 * (s1 : Int) - (2 * (s4 : Int) + (s5 : Int) + (s6 : Int))) - (y : Int)) < (E : Int) * (4 * (c : Int) + 1) := by
    rw [Int.mul_sub, Int.mul_sub, Int.mul_add, Int.mul_add, Int.mul_add, p1, p4, p5, p6, py, pc, Int.mul_one]
    generalize E * s1 = m1 at *
    generalize E * s4 = m4 at *
    generalize E * s5 = m5 at *
    generalize E * s6 = m6 at *
    generalize E * y = my at *
    generalize E * c = mc at *
    clear g1 g2 p1 p4 p5 p6 py pc
    omega
  have u1 := Int.le_of_mul_le_mul_left u (by omega)
  have v1 := Int.lt_of_mul_lt_mul_left v (by omega)
  have h := near (y : Int) (4 * (s1 : Int) - (2 * (s4 : Int) + (s5 : Int) + (s6 : Int))) (q : Int) (r : Int) (4 * (c : Int)) 72057594037927936 (by omega) u1 (by omega) (by omega) (by omega)
  have hd := dig_int s1 s4 s5 s6
  rw [h] at hd
  omega
end Go.Proofs.Ytglmfagmlfjceaa.Pi16

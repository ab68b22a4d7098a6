/- The digit out of four sums of 64 bits behind the point, as plain mathematics. No condition. -/
import Derived.Test.YtggdfmapddpafaaPiBig
namespace Go.Proofs.Ytggdfmapddpafaa.Pi16
set_option maxRecDepth 50000

/-- the digit, by four sums modulo two to sixty-four -/
def dig64 (s1 s4 s5 s6 : Nat) : Nat :=
  ((((4 * (s1 % 18446744073709551616) % 18446744073709551616 + (18446744073709551616 - 2 * (s4 % 18446744073709551616) % 18446744073709551616)) % 18446744073709551616 + (18446744073709551616 - s5 % 18446744073709551616)) % 18446744073709551616
    + (18446744073709551616 - s6 % 18446744073709551616)) % 18446744073709551616) / 1152921504606846976
theorem dig64_int (s1 s4 s5 s6 : Nat) : ((dig64 s1 s4 s5 s6 : Nat) : Int) = ((4 * (s1 : Int) - (2 * (s4 : Int) + (s5 : Int) + (s6 : Int))) / 1152921504606846976) % 16 := by
  unfold dig64
  omega
/-- one place: E times what is reckoned there is near what is reckoned far behind it -/
theorem place64 (E c W t1 t4 t5 t6 s1 s4 s5 s6 : Nat) (hE : 0 < E) (hW : 4 * t1 = 2 * t4 + t5 + t6 + W)
    (a1 : E * s1 ≤ t1) (a4 : E * s4 ≤ t4) (a5 : E * s5 ≤ t5) (a6 : E * s6 ≤ t6)
    (b1 : t1 + c ≤ E * (s1 + c)) (b4 : t4 + c ≤ E * (s4 + c)) (b5 : t5 + c ≤ E * (s5 + c)) (b6 : t6 + c ≤ E * (s6 + c))
    (g1 : 4 * c ≤ W / E % 1152921504606846976) (g2 : W / E % 1152921504606846976 + 4 * c < 1152921504606846976) :
    dig64 s1 s4 s5 s6 = W / E / 1152921504606846976 % 16 := by
  have hy := Nat.div_add_mod W E
  have hr := Nat.mod_lt W hE
  have hq := Nat.div_add_mod (W / E) 1152921504606846976
  generalize W / E = y at *
  generalize hz : y / 1152921504606846976 = q at *
  generalize y % 1152921504606846976 = r at *
  have p1 : (E : Int) * (4 * (s1 : Int)) = 4 * ((E * s1 : Nat) : Int) := by rw [Int.natCast_mul, Int.mul_left_comm]
  have p4 : (E : Int) * (2 * (s4 : Int)) = 2 * ((E * s4 : Nat) : Int) := by rw [Int.natCast_mul, Int.mul_left_comm]
  have p5 : (E : Int) * (s5 : Int) = ((E * s5 : Nat) : Int) := by rw [Int.natCast_mul]
  have p6 : (E : Int) * (s6 : Int) = ((E * s6 : Nat) : Int) := by rw [Int.natCast_mul]
  have py : (E : Int) * (y : Int) = ((E * y : Nat) : Int) := by rw [Int.natCast_mul]
  have pc : (E : Int) * (4 * (c : Int)) = 4 * ((E * c : Nat) : Int) := by rw [Int.natCast_mul, Int.mul_left_comm]
  rw [Nat.mul_add] at b1 b4 b5 b6
  have u : (E : Int) * ((y : Int) - (4 * (s1 : Int) - (2 * (s4 : Int) + (s5 : Int) + (s6 : Int)))) ≤ (E : Int) * (4 * (c : Int)) := by
    rw [Int.mul_sub, Int.mul_sub, Int.mul_add, Int.mul_add, p1, p4, p5, p6, py, pc]
    generalize E * s1 = m1 at *
    generalize E * s4 = m4 at *
    generalize E * s5 = m5 at *
    generalize E * s6 = m6 at *
    generalize E * y = my at *
    generalize E * c = mc at *
    clear g1 g2 p1 p4 p5 p6 py pc
    omega
  have v : (E : Int) * ((4 * (s1 : Int) - (2 * (s4 : Int) + (s5 : Int) + (s6 : Int))) - (y : Int)) < (E : Int) * (4 * (c : Int) + 1) := by
    rw [Int.mul_sub, Int.mul_sub, Int.mul_add, Int.mul_add, Int.mul_add, p1, p4, p5, p6, py, pc, Int.mul_one]
    generalize E * s1 = m1 at *
    generalize E * s4 = m4 at *
    generalize E * s5 = m5 at *
    generalize E * s6 = m6 at *
    generalize E * y = my at *
    generalize E * c = mc at *
    clear g1 g2 p1 p4 p5 p6 py pc
    omega
  have u1 := Int.le_of_mul_le_mul_left u (by omega)
  have v1 := Int.lt_of_mul_lt_mul_left v (by omega)
  have h := near (y : Int) (4 * (s1 : Int) - (2 * (s4 : Int) + (s5 : Int) + (s6 : Int))) (q : Int) (r : Int) (4 * (c : Int)) 1152921504606846976 (by omega) u1 (by omega) (by omega) (by omega)
  have hd := dig64_int s1 s4 s5 s6
  rw [h] at hd
  omega
/-- THE DIGITS: four sums of fractions, each cut off sixteen places behind, tell the digit -/
theorem dig64_pi (i : Nat) (h : i < 8336) : dig64 (ser 1 (i + 16)) (ser 4 (i + 16)) (ser 5 (i + 16)) (ser 6 (i + 16)) = piD i := by
  have hok := ok_at i h
  unfold okAt at hok
  rw [Bool.and_eq_true] at hok
  have k1 := Nat.le_of_ble_eq_true hok.1
  have k2 := Nat.le_of_ble_eq_true hok.2
  have e16 : wl / 16 ^ (8432 - i) = wl / 16 ^ (8431 - i) / 16 := by
    rw [Nat.div_div_eq_div_mul, ← Nat.pow_succ, show (8431 - i).succ = 8432 - i by omega]
  rw [e16] at k1 k2
  have g1 : 4 * 8448 ≤ wl / 16 ^ (8431 - i) % 1152921504606846976 := by omega
  have g2 : wl / 16 ^ (8431 - i) % 1152921504606846976 + 4 * 8448 < 1152921504606846976 := by omega
  have e : i + 16 + (8431 - i) = 8447 := by omega
  have F := fun f (hf : 0 < f) => ser_far f (i + 16) 8448 hf (8431 - i) (by omega)
  have f1 := F 1 (by decide)
  have f4 := F 4 (by decide)
  have f5 := F 5 (by decide)
  have f6 := F 6 (by decide)
  rw [e, ← far_ser] at f1 f4 f5 f6
  have hp := place64 (16 ^ (8431 - i)) 8448 wl _ _ _ _ _ _ _ _ (Nat.pos_of_ne_zero (by simp)) far_all f1.1 f4.1 f5.1 f6.1 f1.2 f4.2 f5.2 f6.2 g1 g2
  rw [hp, Nat.div_div_eq_div_mul]
  unfold piD
  rw [show (1152921504606846976 : Nat) = 16 ^ 15 from rfl, ← Nat.pow_add, show 8431 - i + 15 = 8446 - i by omega]
end Go.Proofs.Ytggdfmapddpafaa.Pi16

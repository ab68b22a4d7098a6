/- The document's digits of pi by its own contracts: powers, parts, sums. Conditions: those typed. -/
import Derived.Test.YtggdfmapddpafaaPiBig
import Derived.Test.YtggdfmapddpafaaChecked
import Derived.Lib.Hide
import Derived.LoopTactic
import Derived.IntWalk
import Derived.Outline
import Derived.Deep.LoopGhost
import Derived.WalkMore
namespace Go.Proofs.Ytggdfmapddpafaa
set_option maxRecDepth 50000
open Go.RowKit Pi16

theorem u64w (a : Nat) (h : a < 18446744073709551616) : IntKind.u64.wrap (a : Int) = (a : Int) := by
  have e : IntKind.u64.wrap (a : Int) = (a : Int) % 18446744073709551616 := by simp [IntKind.wrap, IntKind.bits, IntKind.signed]
  rw [e]; omega
theorem mul_small {a b m : Nat} (ha : a < m) (hb : b < m) (hm : m ≤ 1048576) : a * b < 1099511627776 :=
  Nat.lt_of_lt_of_le (Nat.mul_lt_mul_of_lt_of_lt ha hb) (Nat.mul_le_mul hm hm)
/-- one step of a power by squares -/
theorem pow_step (o b m N : Nat) : ((if N % 2 = 1 then o * b % m else o) * (b * b % m) ^ (N / 2)) % m = o * b ^ N % m := by
  have h2 : (b * b % m) ^ (N / 2) % m = (b * b) ^ (N / 2) % m := (Nat.pow_mod _ _ _).symm
  have hN := Nat.div_add_mod N 2
  rw [Nat.mul_mod, h2, ← Nat.mul_mod, ← Nat.pow_two, ← Nat.pow_mul]
  by_cases h : N % 2 = 1
  · rw [if_pos h, Nat.mul_mod, Nat.mod_mod, ← Nat.mul_mod, Nat.mul_assoc, ← Nat.pow_succ', show (2 * (N / 2)).succ = N by omega]
  · rw [if_neg h, show 2 * (N / 2) = N by omega]
set_option maxHeartbeats 1600000 in
theorem power_any (n m : Nat) (hn : n ≤ 1000000) (hm0 : 1 ≤ m) (hm : m ≤ 1048576) (w : World) : Calls Try.prog 19 #[.int .i64 (n : Int), .int .u64 (m : Int)] w fun e w' => e = .returned (.int .u64 ((16 ^ n % m : Nat) : Int)) ∧ w' = w := by
  obtain ⟨R, hR⟩ : ∃ R, R = 16 ^ n % m := ⟨_, rfl⟩
  rw [← hR]
  have HR := Lib.hid hR
  clear hR
  have m1 : (m : Int) ≠ 0 := by omega
  go_enter Try.func19, Try.ntmps19
  go_wp2
  clear m1
  go_loopg [0, 5, 6] (n + 1) (fun g v0 v5 v6 wr => ∃ N o b : Nat, N < g ∧ N ≤ n ∧ v0 = .int .i64 (N : Int) ∧ v5 = .int .u64 (o : Int) ∧ v6 = .int .u64 (b : Int) ∧ o < m ∧ b < m ∧ Hid (o * b ^ N % m = R) ∧ wr = w)
  case atStart =>
    refine ⟨n, 1 % m, 16 % m, by omega, Nat.le_refl _, rfl, by rw [Int.natCast_emod]; rfl, by rw [Int.natCast_emod]; rfl, Nat.mod_lt _ (by omega), Nat.mod_lt _ (by omega), Lib.hid ?_, rfl⟩
    rw [Nat.mul_mod, Nat.mod_mod, ← Nat.mul_mod, Nat.one_mul, ← Nat.pow_mod, HR.out]
  case round =>
    obtain ⟨N, o, b, hg, hNn, rfl, rfl, rfl, ho, hb, HI, rfl⟩ := hrel
    by_cases h : 0 < N
    · obtain ⟨g2, rfl⟩ : ∃ g2, gk = g2 + 1 := ⟨gk - 1, by omega⟩
      have HS := Lib.hid (pow_step o b m N)
      have l1 := mul_small ho hb hm
      have l2 := mul_small hb hb hm
      obtain ⟨p, hp⟩ : ∃ p, p = o * b := ⟨_, rfl⟩
      obtain ⟨q, hq⟩ : ∃ q, q = b * b := ⟨_, rfl⟩
      rw [← hp] at l1
      rw [← hq] at l2
      have p1 : (o : Int) * (b : Int) = (p : Int) := by rw [hp, Int.natCast_mul]
      have p2 : (b : Int) * (b : Int) = (q : Int) := by rw [hq, Int.natCast_mul]
      have p3 := u64w p (by omega)
      have p4 := u64w q (by omega)
      obtain ⟨p', hp'⟩ : ∃ p', p' = p % m := ⟨_, rfl⟩
      obtain ⟨q', hq'⟩ : ∃ q', q' = q % m := ⟨_, rfl⟩
      have r1 : (p : Int) % (m : Int) = (p' : Int) := by rw [hp', Int.natCast_emod]
      have r2 : (q : Int) % (m : Int) = (q' : Int) := by rw [hq', Int.natCast_emod]
      have r3 : p' < m := by rw [hp']; exact Nat.mod_lt _ (by omega)
      have r4 : q' < m := by rw [hq']; exact Nat.mod_lt _ (by omega)
      have m1 : (m : Int) ≠ 0 := by omega
      obtain ⟨N2, hN2⟩ : ∃ N2, N2 = N / 2 := ⟨_, rfl⟩
      have d1 : (N : Int) / 2 = (N2 : Int) := by rw [hN2]; rfl
      rw [← hp, ← hq, ← hp', ← hq', ← hN2] at HS
      have HJ := Lib.hid (show N2 < N ∧ N2 < g2 from by omega)
      have hNp : (0 : Int) < (N : Int) := by omega
      have hNp2 : (0 : Int) ≤ (N : Int) := by omega
      by_cases hodd : N % 2 = 1
      · have d2 : (N : Int) % 2 = 1 := by omega
        rw [if_pos hodd] at HS
        clear hp hq hp' hq' hN2 hodd l1 l2
        go_wp2
        go_roundg g2
        case measure => omega
        case rel =>
          obtain ⟨j1, j2⟩ := HJ.out
          exact ⟨N2, p', q', j2, by omega, rfl, by rw [r1], by rw [r2], r3, r4, Lib.hid (by rw [HS.out]; exact HI.out), rfl⟩
      · have d2 : (N : Int) % 2 = 0 := by omega
        rw [if_neg hodd] at HS
        clear hp hq hp' hq' hN2 hodd l1 l2
        go_wp2
        go_roundg g2
        case measure => omega
        case rel =>
          obtain ⟨j1, j2⟩ := HJ.out
          exact ⟨N2, o, q', j2, by omega, rfl, rfl, by rw [r2], ho, r4, Lib.hid (by rw [HS.out]; exact HI.out), rfl⟩
    · obtain rfl : N = 0 := by omega
      have hoR : o = R := by have := HI.out; rw [Nat.pow_zero, Nat.mul_one, Nat.mod_eq_of_lt ho] at this; exact this
      go_wp2
      go_ret
      exact ⟨by rw [← hoR]; rfl, rfl⟩

set_option maxHeartbeats 1600000 in
theorem part_any (a m : Nat) (ha : a < m) (hm : m ≤ 1048576) (w : World) : Calls Try.prog 18 #[.int .u64 (a : Int), .int .u64 (m : Int)] w fun e w' => e = .returned (.int .u64 ((1152921504606846976 * a / m : Nat) : Int)) ∧ w' = w := by
  obtain ⟨R, hR⟩ : ∃ R, R = 1152921504606846976 * a / m := ⟨_, rfl⟩
  rw [← hR]
  have HR := Lib.hid hR
  clear hR
  go_enter Try.func18, Try.ntmps18
  go_wp2
  go_loopg [0, 5, 6] 60 (fun g v0 v5 v6 wr => ∃ i x o : Nat, i + g = 60 ∧ v0 = .int .u64 (x : Int) ∧ v5 = .int .u64 (o : Int) ∧ v6 = .int .i64 (i : Int) ∧ x < m ∧ o < 2 ^ i ∧ Hid (2 ^ i * a = o * m + x) ∧ wr = w)
  case atStart => exact ⟨0, a, 0, by omega, rfl, rfl, rfl, ha, by decide, Lib.hid (by simp), rfl⟩
  case round =>
    obtain ⟨i, x, o, hi, rfl, rfl, rfl, hx, ho, HI, rfl⟩ := hrel
    by_cases h : i < 60
    · obtain ⟨g2, rfl⟩ : ∃ g2, gk = g2 + 1 := ⟨gk - 1, by omega⟩
      have hpow : 2 ^ i ≤ 576460752303423488 := Nat.pow_le_pow_right (n := 2) (by decide) (show i ≤ 59 by omega)
      have hob : o < 576460752303423488 := by omega
      have ho2 : 2 * o + 1 < 2 ^ (i + 1) := by rw [Nat.pow_succ]; omega
      have hd : decide ((i : Int) < 60) = true := by simp; omega
      have HH : Hid (2 ^ (i + 1) * a = 2 * o * m + 2 * x) := Lib.hid (by
        have := HI.out
        rw [Nat.pow_succ, Nat.mul_assoc, Nat.mul_left_comm, this, Nat.mul_add, Nat.mul_assoc])
      have HO := Lib.hid (And.intro ho2 hi)
      clear hpow ho2 ho HI
      by_cases hge : m ≤ 2 * x
      · have g1 : (m : Int) ≤ 2 * (x : Int) := by omega
        clear hi
        go_wp2
        go_roundg g2
        case measure => omega
        case rel =>
          obtain ⟨k1, k2⟩ := HO.out
          refine ⟨i + 1, 2 * x - m, 2 * o + 1, by omega, by congr 1; omega, by congr 1, by go_num, by omega, k1, Lib.hid ?_, rfl⟩
          rw [HH.out, Nat.add_mul, Nat.one_mul]; omega
      · have g1 : 2 * (x : Int) < (m : Int) := by omega
        clear hi
        go_wp2
        go_roundg g2
        case measure => omega
        case rel =>
          obtain ⟨k1, k2⟩ := HO.out
          exact ⟨i + 1, 2 * x, 2 * o, by omega, by congr 1, by congr 1, by go_num, by omega, by omega, HH, rfl⟩
    · obtain rfl : i = 60 := by omega
      have hoR : o = R := by
        have h1 := HI.out
        rw [HR.out, show 1152921504606846976 = 2 ^ 60 from rfl, h1, Nat.mul_comm o m, Nat.mul_add_div (by omega), Nat.div_eq_of_lt hx, Nat.add_zero]
      clear ho HI hi
      go_wp2
      go_ret
      exact ⟨by rw [← hoR]; rfl, rfl⟩
end Go.Proofs.Ytggdfmapddpafaa

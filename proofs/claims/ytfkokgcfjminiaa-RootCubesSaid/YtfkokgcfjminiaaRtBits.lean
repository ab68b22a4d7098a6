/- RootSquares's and RootCubes's bodies: they return true, and old memory is as it was. No condition. -/
import Derived.Test.YtfkokgcfjminiaaRtAwake
import Derived.Test.YtfkokgcfjminiaaRtIs
namespace Go.Proofs.Ytfkokgcfjminiaa
open Go.RowKit

theorem pow_two_is (x : Nat) : x ^ 2 = x * x := Nat.pow_two x
theorem pow_three_is (x : Nat) : x ^ 3 = x * x * x := by rw [Nat.pow_succ, Nat.pow_two]
theorem next_part {a b M : Nat} (h : b < M) : a * M + b + 1 ≤ (a + 1) * M := by
  rw [Nat.add_mul, Nat.one_mul, Nat.add_assoc]
  exact Nat.add_le_add_left h _
theorem square_facts {n rh rl : Nat} (hn : n ≤ 1048576) (h : rl < 18446744073709551616) (h1 : (rh * 18446744073709551616 + rl) * (rh * 18446744073709551616 + rl) ≤ n * 340282366920938463463374607431768211456)
    (h2 : n * 340282366920938463463374607431768211456 < (rh * 18446744073709551616 + rl + 1) * (rh * 18446744073709551616 + rl + 1)) :
    rh ≤ 2000 ∧ (∀ k, k < rh → (k + 1) ^ 2 ≤ n) ∧ n < (rh + 1) ^ 2 ∧ (65536 ^ 4 * rh + rl) ^ 2 ≤ 65536 ^ 8 * n ∧ 65536 ^ 8 * n < (65536 ^ 4 * rh + rl + 1) ^ 2 := by
  have a1 : (rh * 18446744073709551616) * (rh * 18446744073709551616) ≤ n * 340282366920938463463374607431768211456 := Nat.le_trans (Nat.mul_le_mul (Nat.le_add_right _ _) (Nat.le_add_right _ _)) h1
  rw [Nat.mul_mul_mul_comm] at a1
  have a2 : rh * rh ≤ n := Nat.le_of_mul_le_mul_right a1 (by decide)
  have a3 : n * 340282366920938463463374607431768211456 < ((rh + 1) * 18446744073709551616) * ((rh + 1) * 18446744073709551616) := Nat.lt_of_lt_of_le h2 (Nat.mul_le_mul (next_part h) (next_part h))
  rw [Nat.mul_mul_mul_comm] at a3
  have a4 : n < (rh + 1) * (rh + 1) := Nat.lt_of_mul_lt_mul_right a3
  refine ⟨?_, fun k hk => ?_, ?_, ?_, ?_⟩
  · have := sq_one a2 (b := 1024) (by omega)
    omega
  · rw [pow_two_is]
    exact Nat.le_trans (Nat.mul_le_mul (show k + 1 ≤ rh from hk) (show k + 1 ≤ rh from hk)) a2
  · rw [pow_two_is]; exact a4
  · rw [pow_two_is, Nat.mul_comm (65536 ^ 4), Nat.mul_comm (65536 ^ 8)]; exact h1
  · rw [pow_two_is, Nat.mul_comm (65536 ^ 4), Nat.mul_comm (65536 ^ 8)]; exact h2
theorem cube_facts {n q c : Nat} (hn : n ≤ 1048576) (h : c < 4294967296) (h1 : (q * 4294967296 + c) * (q * 4294967296 + c) * (q * 4294967296 + c) ≤ n * 79228162514264337593543950336)
    (h2 : n * 79228162514264337593543950336 < (q * 4294967296 + c + 1) * (q * 4294967296 + c + 1) * (q * 4294967296 + c + 1)) :
    q ≤ 2000 ∧ (∀ k, k < q → (k + 1) ^ 3 ≤ n) ∧ n < (q + 1) ^ 3 ∧ (65536 ^ 2 * q + c) ^ 3 ≤ 65536 ^ 6 * n ∧ 65536 ^ 6 * n < (65536 ^ 2 * q + c + 1) ^ 3 := by
  have e : ∀ x : Nat, (x * 4294967296) * (x * 4294967296) * (x * 4294967296) = x * x * x * 79228162514264337593543950336 := fun x => by
    rw [Nat.mul_mul_mul_comm x _ x, Nat.mul_mul_mul_comm (x * x)]
  have a1 : (q * 4294967296) * (q * 4294967296) * (q * 4294967296) ≤ n * 79228162514264337593543950336 := Nat.le_trans (Nat.mul_le_mul (Nat.mul_le_mul (Nat.le_add_right _ _) (Nat.le_add_right _ _)) (Nat.le_add_right _ _)) h1
  rw [e] at a1
  have a2 : q * q * q ≤ n := Nat.le_of_mul_le_mul_right a1 (by decide)
  have a3 : n * 79228162514264337593543950336 < ((q + 1) * 4294967296) * ((q + 1) * 4294967296) * ((q + 1) * 4294967296) := Nat.lt_of_lt_of_le h2 (Nat.mul_le_mul (Nat.mul_le_mul (next_part h) (next_part h)) (next_part h))
  rw [e] at a3
  have a4 : n < (q + 1) * (q + 1) * (q + 1) := Nat.lt_of_mul_lt_mul_right a3
  refine ⟨?_, fun k hk => ?_, ?_, ?_, ?_⟩
  · have := cb_one a2 (b := 102) (by omega)
    omega
  · rw [pow_three_is]
    exact Nat.le_trans (Nat.mul_le_mul (Nat.mul_le_mul (show k + 1 ≤ q from hk) (show k + 1 ≤ q from hk)) (show k + 1 ≤ q from hk)) a2
  · rw [pow_three_is]; exact a4
  · rw [pow_three_is, Nat.mul_comm (65536 ^ 2), Nat.mul_comm (65536 ^ 6)]; exact h1
  · rw [pow_three_is, Nat.mul_comm (65536 ^ 2), Nat.mul_comm (65536 ^ 6)]; exact h2

theorem square_is (n : Nat) (hn : n ≤ 1048576) (w : World) : Calls Try.prog 10 #[.int .i64 (n : Int)] w fun e w' => ∃ s : Nat, e = .returned (.tuple #[.int .u64 (s : Int), .int .i64 0]) ∧
    Hid (s < 18446744073709551616 ∧ ∀ w, Calls Try.prog 11 #[.int .i64 (n : Int), .int .i64 2, .int .i64 4, .int .u64 (s : Int)] w fun e w' => e = .returned (.bool true) ∧ Below w.heap.size w w') ∧ Below w.heap.size w w' := by
  refine (square_good n hn w).mono ?_
  rintro e w' ⟨rh, rl, rfl, h1, h2, h3, hb⟩
  obtain ⟨f1, f2, f3, f4, f5⟩ := square_facts hn h1 h2 h3
  exact ⟨rl, rfl, ⟨h1, fun w => is_true n 2 4 8 rh rl hn (by omega) (by omega) (by omega) rfl f1 h1 f2 f3 f4 f5 w⟩, hb⟩
theorem cube_is (n : Nat) (hn : n ≤ 1048576) (w : World) : Calls Try.prog 12 #[.int .i64 (n : Int)] w fun e w' => ∃ s : Nat, e = .returned (.tuple #[.int .u32 (s : Int), .int .i64 0]) ∧
    Hid (s < 4294967296 ∧ ∀ w, Calls Try.prog 11 #[.int .i64 (n : Int), .int .i64 3, .int .i64 2, .int .u64 (s : Int)] w fun e w' => e = .returned (.bool true) ∧ Below w.heap.size w w') ∧ Below w.heap.size w w' := by
  refine (cube_good n hn w).mono ?_
  rintro e w' ⟨q, c, rfl, h1, h2, h3, hb⟩
  obtain ⟨f1, f2, f3, f4, f5⟩ := cube_facts hn h1 h2 h3
  exact ⟨c, rfl, ⟨h1, fun w => is_true n 3 2 6 q c hn (by omega) (by omega) (by omega) rfl f1 (by omega) f2 f3 f4 f5 w⟩, hb⟩

set_option maxHeartbeats 800000 in
theorem squares_any (n : Int) (w : World) : Calls Try.prog 4 #[.int .i64 n] w fun e w' => e = .returned (.bool true) ∧ Below w.heap.size w w' := by
  by_cases hg : 0 ≤ n ∧ n ≤ 1048576
  · obtain ⟨m, rfl⟩ : ∃ m : Nat, n = (m : Int) := ⟨n.toNat, by omega⟩
    have hm : m ≤ 1048576 := by omega
    have S := Lib.hid fun w => square_is m hm w
    go_enter Try.func4, Try.ntmps4
    go_wp2_with (go_at_call 7; refine (awake_any _).mono ?_; rintro e w1 ⟨rfl, hb⟩)
    refine (S.out _).mono ?_
    rintro e w2 ⟨s, rfl, H, hb2⟩
    have hb3 := step_trans hb hb2
    have hs := H.out.1
    clear hb hb2
    go_wp2_with fail
    refine (H.out.2 _).mono ?_
    rintro e w3 ⟨rfl, hb4⟩
    have hb5 := step_trans hb3 hb4
    clear hb3 hb4
    go_wp2
    go_ret
    exact ⟨rfl, hb5⟩
  · have P := Lib.hid fun w => square_bad n hg w
    have hn : n < 0 ∨ 0 ≤ n ∧ 1048576 < n := by omega
    clear hg
    rcases hn with h | ⟨h, h2⟩
    all_goals
      go_enter Try.func4, Try.ntmps4
      go_wp2_with (go_at_call 7; refine (awake_any _).mono ?_; rintro e w1 ⟨rfl, hb⟩)
      refine (P.out _).mono ?_
      rintro e w' ⟨rfl, rfl⟩
      go_wp2
      go_ret
      exact ⟨rfl, hb⟩

set_option maxHeartbeats 800000 in
theorem cubes_any (n : Int) (w : World) : Calls Try.prog 5 #[.int .i64 n] w fun e w' => e = .returned (.bool true) ∧ Below w.heap.size w w' := by
  by_cases hg : 0 ≤ n ∧ n ≤ 1048576
  · obtain ⟨m, rfl⟩ : ∃ m : Nat, n = (m : Int) := ⟨n.toNat, by omega⟩
    have hm : m ≤ 1048576 := by omega
    have S := Lib.hid fun w => cube_is m hm w
    go_enter Try.func5, Try.ntmps5
    go_wp2_with (go_at_call 7; refine (awake_any _).mono ?_; rintro e w1 ⟨rfl, hb⟩)
    refine (S.out _).mono ?_
    rintro e w2 ⟨s, rfl, H, hb2⟩
    have hb3 := step_trans hb hb2
    have hs := H.out.1
    clear hb hb2
    go_wp2_with fail
    refine (H.out.2 _).mono ?_
    rintro e w3 ⟨rfl, hb4⟩
    have hb5 := step_trans hb3 hb4
    clear hb3 hb4
    go_wp2
    go_ret
    exact ⟨rfl, hb5⟩
  · have P := Lib.hid fun w => cube_bad n hg w
    have hn : n < 0 ∨ 0 ≤ n ∧ 1048576 < n := by omega
    clear hg
    rcases hn with h | ⟨h, h2⟩
    all_goals
      go_enter Try.func5, Try.ntmps5
      go_wp2_with (go_at_call 7; refine (awake_any _).mono ?_; rintro e w1 ⟨rfl, hb⟩)
      refine (P.out _).mono ?_
      rintro e w' ⟨rfl, rfl⟩
      go_wp2
      go_ret
      exact ⟨rfl, hb⟩
end Go.Proofs.Ytfkokgcfjminiaa

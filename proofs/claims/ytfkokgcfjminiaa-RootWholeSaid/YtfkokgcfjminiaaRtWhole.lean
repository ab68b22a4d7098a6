/- RootWhole's body: it returns true, and old memory is as it was. No condition. -/
import Derived.Test.YtfkokgcfjminiaaRtAwake
namespace Go.Proofs.Ytfkokgcfjminiaa
open Go.RowKit

theorem whole_square {n rh rl : Nat} (h : rl < 18446744073709551616) (h1 : (rh * 18446744073709551616 + rl) * (rh * 18446744073709551616 + rl) ≤ n * n * 340282366920938463463374607431768211456)
    (h2 : n * n * 340282366920938463463374607431768211456 < (rh * 18446744073709551616 + rl + 1) * (rh * 18446744073709551616 + rl + 1)) : rl = 0 := by
  have e : (n * 18446744073709551616) * (n * 18446744073709551616) = n * n * 340282366920938463463374607431768211456 := by
    rw [Nat.mul_mul_mul_comm]
  have e1 := sq_one h1 (b := n * 18446744073709551616) (by
    rw [← e, Nat.add_mul, Nat.mul_add]; omega)
  have e2 := sq_one (a := n * 18446744073709551616) (by rw [e]; exact Nat.le_refl _) h2
  omega
theorem whole_cube {n q c : Nat} (h : c < 4294967296) (h1 : (q * 4294967296 + c) * (q * 4294967296 + c) * (q * 4294967296 + c) ≤ n * n * n * 79228162514264337593543950336)
    (h2 : n * n * n * 79228162514264337593543950336 < (q * 4294967296 + c + 1) * (q * 4294967296 + c + 1) * (q * 4294967296 + c + 1)) : c = 0 := by
  have e : (n * 4294967296) * (n * 4294967296) * (n * 4294967296) = n * n * n * 79228162514264337593543950336 := by
    rw [Nat.mul_mul_mul_comm n _ n, Nat.mul_mul_mul_comm (n * n)]
  have hlt : ∀ x : Nat, x * x * x < (x + 1) * (x + 1) * (x + 1) := fun x =>
    Nat.lt_of_le_of_lt (Nat.mul_le_mul_right x (Nat.mul_le_mul (Nat.le_succ x) (Nat.le_succ x))) (Nat.mul_lt_mul_of_pos_left (Nat.lt_succ_self x) (Nat.mul_pos (Nat.succ_pos x) (Nat.succ_pos x)))
  have e1 := cb_one h1 (b := n * 4294967296) (by rw [← e]; exact hlt _)
  have e2 := cb_one (a := n * 4294967296) (by rw [e]; exact Nat.le_refl _) h2
  omega
theorem square_whole (n : Nat) (hn : n ≤ 1000) (w : World) : Calls Try.prog 10 #[.int .i64 ((n * n : Nat) : Int)] w fun e w' => e = .returned (.tuple #[.int .u64 0, .int .i64 0]) ∧ Below w.heap.size w w' := by
  have hb : n * n ≤ 1000 * 1000 := Nat.mul_le_mul hn hn
  refine (square_good (n * n) (by omega) w).mono ?_
  rintro e w' ⟨rh, rl, rfl, h1, h2, h3, hb⟩
  obtain rfl := whole_square h1 h2 h3
  exact ⟨rfl, hb⟩
theorem cube_whole (n : Nat) (hn : n ≤ 100) (w : World) : Calls Try.prog 12 #[.int .i64 ((n * n * n : Nat) : Int)] w fun e w' => e = .returned (.tuple #[.int .u32 0, .int .i64 0]) ∧ Below w.heap.size w w' := by
  have hb : n * n * n ≤ 100 * 100 * 100 := Nat.mul_le_mul (Nat.mul_le_mul hn hn) hn
  refine (cube_good (n * n * n) (by omega) w).mono ?_
  rintro e w' ⟨q, c, rfl, h1, h2, h3, hb⟩
  obtain rfl := whole_cube h1 h2 h3
  exact ⟨rfl, hb⟩

set_option maxHeartbeats 800000 in
theorem whole_any (n : Int) (w : World) : Calls Try.prog 6 #[.int .i64 n] w fun e w' => e = .returned (.bool true) ∧ Below w.heap.size w w' := by
  by_cases h0 : n < 0
  · go_enter Try.func6, Try.ntmps6
    go_wp2_with (go_at_call 7; refine (awake_any _).mono ?_; rintro e w1 ⟨rfl, hb⟩)
    go_ret
    exact ⟨rfl, hb⟩
  · obtain ⟨m, rfl⟩ : ∃ m : Nat, n = (m : Int) := ⟨n.toNat, by omega⟩
    by_cases h1 : m ≤ 1000
    · have S := Lib.hid fun w => square_whole m h1 w
      have e2 : (m : Int) * (m : Int) = ((m * m : Nat) : Int) := (Int.natCast_mul _ _).symm
      have e3 : ((m * m : Nat) : Int) * (m : Int) = ((m * m * m : Nat) : Int) := (Int.natCast_mul _ _).symm
      have b2 : m * m ≤ 1000 * 1000 := Nat.mul_le_mul h1 h1
      have b3 : m * m * m ≤ 1000 * 1000 * 1000 := Nat.mul_le_mul b2 h1
      by_cases h2 : m ≤ 100
      · have C := Lib.hid fun w => cube_whole m h2 w
        generalize m * m * m = c at *
        generalize m * m = s at *
        go_enter Try.func6, Try.ntmps6
        go_wp2_with (go_at_call 7; refine (awake_any _).mono ?_; rintro e w1 ⟨rfl, hb⟩)
        refine (S.out _).mono ?_
        rintro e w2 ⟨rfl, hb2⟩
        have hb3 := step_trans hb hb2
        clear hb hb2
        go_wp2_with fail
        refine (C.out _).mono ?_
        rintro e w3 ⟨rfl, hb4⟩
        have hb5 := step_trans hb3 hb4
        clear hb3 hb4
        go_wp2
        go_ret
        exact ⟨rfl, hb5⟩
      · generalize m * m * m = c at *
        generalize m * m = s at *
        go_enter Try.func6, Try.ntmps6
        go_wp2_with (go_at_call 7; refine (awake_any _).mono ?_; rintro e w1 ⟨rfl, hb⟩)
        refine (S.out _).mono ?_
        rintro e w2 ⟨rfl, hb2⟩
        have hb3 := step_trans hb hb2
        clear hb hb2
        go_wp2_with fail
        go_ret
        exact ⟨rfl, hb3⟩
    · go_enter Try.func6, Try.ntmps6
      go_wp2_with (go_at_call 7; refine (awake_any _).mono ?_; rintro e w1 ⟨rfl, hb⟩)
      go_ret
      exact ⟨rfl, hb⟩
end Go.Proofs.Ytfkokgcfjminiaa

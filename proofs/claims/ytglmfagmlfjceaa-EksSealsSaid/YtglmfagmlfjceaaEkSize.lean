/- Within and Power of package size by their contracts. Condition: ints are ints. -/
import Derived.Test.YtglmfagmlfjceaaKit
import Derived.LoopTactic
import Derived.IntWalk
import Derived.Lib.Hide
namespace Go.Proofs.Ytglmfagmlfjceaa
set_option maxRecDepth 50000
open Go.RowKit

/-- is n from a to b? -/
def inB (n a b : Int) : Bool := decide (a ≤ n) && decide (n ≤ b)
theorem within_any (n a b : Int) (w : World) : Calls Try.prog 18 #[.int .i64 n, .int .i64 a, .int .i64 b] w fun e w' => e = .returned (.bool (inB n a b)) ∧ w' = w := by
  have h : inB n a b = (decide (a ≤ n) && decide (n ≤ b)) := rfl
  have H := Lib.hid h
  clear h
  by_cases h : a ≤ n
  all_goals
    go_enter Try.func18, Try.ntmps18
    go_wp2
    go_ret
    refine ⟨?_, rfl⟩
    rw [H.out]
    first
      | (simp [h]; done)
      | (simp; intro _; omega)
theorem within_yes (n a b : Int) (h : a ≤ n) (h2 : n ≤ b) (w : World) : Calls Try.prog 18 #[.int .i64 n, .int .i64 a, .int .i64 b] w fun e w' => e = .returned (.bool true) ∧ w' = w := by
  have e : inB n a b = true := by simp [inB, h, h2]
  exact e ▸ within_any n a b w
theorem within_no (n a b : Int) (h : n < a ∨ b < n) (w : World) : Calls Try.prog 18 #[.int .i64 n, .int .i64 a, .int .i64 b] w fun e w' => e = .returned (.bool false) ∧ w' = w := by
  have e : inB n a b = false := by unfold inB; simp; omega
  exact e ▸ within_any n a b w
theorem pow_le (k n : Nat) (h : k ≤ n) : 2 ^ k ≤ 2 ^ n := Nat.pow_le_pow_right (by omega) h
set_option maxHeartbeats 800000 in
theorem power_yes (m : Nat) (hm : m ≤ 62) (w : World) : Calls Try.prog 19 #[.int .i64 (m : Int)] w fun e w' => e = .returned (.tuple #[.int .i64 ((2 ^ m : Nat) : Int), .int .i64 0]) ∧ w' = w := by
  have hp : (1 : Int) * 2 ^ m = ((2 ^ m : Nat) : Int) := by rw [Int.one_mul, Int.natCast_pow]; rfl
  have hb := pow_le m 62 (by omega)
  have Hp := Lib.hid hp
  clear hp
  go_enter Try.func19, Try.ntmps19
  go_wp2
  go_ret2
  refine ⟨?_, rfl⟩
  have hz : (2 : Int) ^ m = ((2 ^ m : Nat) : Int) := by simp
  have hb2 : 2 ^ m ≤ 4611686018427387904 := hb
  rw [hz]
  generalize 2 ^ m = P at *
  have hw : wrap64 (P : Int) = (P : Int) := by unfold wrap64; omega
  rw [hw]
  rfl
end Go.Proofs.Ytglmfagmlfjceaa

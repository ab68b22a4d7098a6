/- The methods behind, atMost, less, times of package root's numbers of 128 bits, math/bits.Sub64 and Mul64, rooted, by their contracts. Conditions: words are words; what is typed there. -/
import Derived.Test.YtfkokgcfjminiaaKit
import Derived.LoopTactic
import Derived.IntWalk
import Derived.Lib.Hide
import Derived.Lib.Mul64
import Derived.Laws.Bits64b
import Derived.Deep.QuietTactic
import Derived.BigQuiet
import Derived.WalkSmall
namespace Go.Proofs.Ytfkokgcfjminiaa
open Go.RowKit

theorem or_four (a b : Nat) (ha : a * 4 < 18446744073709551616) (hb : b < 4) : bits .or .u64 ((a * 4 : Nat) : Int) (b : Int) = ((a * 4 + b : Nat) : Int) := by
  rw [bits_or_u64_nat _ _ ha (by omega)]
  have h := Nat.two_pow_add_eq_or_of_lt (i := 2) (b := b) (by omega) a
  rw [show (2 : Nat) ^ 2 = 4 from rfl, Nat.mul_comm] at h
  rw [h]
theorem or_two (a b : Nat) (ha : a * 2 < 18446744073709551616) (hb : b < 2) : bits .or .u64 ((a * 2 : Nat) : Int) (b : Int) = ((a * 2 + b : Nat) : Int) := by
  rw [bits_or_u64_nat _ _ ha (by omega)]
  have h := Nat.two_pow_add_eq_or_of_lt (i := 1) (b := b) (by omega) a
  rw [show (2 : Nat) ^ 1 = 2 from rfl, Nat.mul_comm] at h
  rw [h]
theorem wrap_four (l : Nat) : IntKind.u64.wrap ((l : Int) * 4) = ((l % 4611686018427387904 * 4 : Nat) : Int) := by rw [IntKind.wrap_u64]; omega
theorem wrap_two (l : Nat) : IntKind.u64.wrap ((l : Int) * 2) = ((l % 9223372036854775808 * 2 : Nat) : Int) := by rw [IntKind.wrap_u64]; omega

theorem ret_wide {a b c d : Int} (h1 : a = c) (h2 : b = d) : Ending.returned (.agg #[.int .u64 a, .int .u64 b]) = .returned (.agg #[.int .u64 c, .int .u64 d]) := by rw [h1, h2]

/-- two more bits behind -/
theorem behind_two (h l m : Nat) (hh : h < 2305843009213693952) (hl : l < 18446744073709551616) (hm : m < 4) (w : World) :
    Calls Try.prog 15 #[.agg #[.int .u64 (h : Int), .int .u64 (l : Int)], .int .i64 2, .int .u64 (m : Int)] w fun e w' => ∃ h' l' : Nat, e = .returned (.agg #[.int .u64 (h' : Int), .int .u64 (l' : Int)]) ∧
      h' < 18446744073709551616 ∧ l' < 18446744073709551616 ∧ h' * 18446744073709551616 + l' = (h * 18446744073709551616 + l) * 4 + m ∧ Below w.heap.size w w' := by
  have e1 : bits .or .u64 ((h : Int) * 4) ((l : Int) / 4611686018427387904) = ((h * 4 + l / 4611686018427387904 : Nat) : Int) := by
    have e := or_four h (l / 4611686018427387904) (by omega) (by omega)
    simpa using e
  have e2 : bits .or .u64 (IntKind.u64.wrap ((l : Int) * 4)) (m : Int) = ((l % 4611686018427387904 * 4 + m : Nat) : Int) := by
    rw [wrap_four]; exact or_four _ m (by omega) hm
  have E1 := Lib.hid e1
  have E2 := Lib.hid e2
  clear e1 e2
  go_enter Try.func15, Try.ntmps15
  go_wp2
  go_region
  go_wp2
  simp [bodyPost, results, Try.results15, go_sem]
  exact ⟨_, _, ⟨E1.out, E2.out⟩, by omega, by omega, by omega, (((Below.refl _ _).alloc (Nat.le_refl _) _).alloc (by simp) _).drew⟩

/-- one more bit, 0, behind -/
theorem behind_one (h l : Nat) (hh : h < 2305843009213693952) (hl : l < 18446744073709551616) (w : World) :
    Calls Try.prog 15 #[.agg #[.int .u64 (h : Int), .int .u64 (l : Int)], .int .i64 1, .int .u64 0] w fun e w' => ∃ h' l' : Nat, e = .returned (.agg #[.int .u64 (h' : Int), .int .u64 (l' : Int)]) ∧
      h' < 18446744073709551616 ∧ l' < 18446744073709551616 ∧ h' * 18446744073709551616 + l' = (h * 18446744073709551616 + l) * 2 ∧ Below w.heap.size w w' := by
  have e1 : bits .or .u64 ((h : Int) * 2) ((l : Int) / 9223372036854775808) = ((h * 2 + l / 9223372036854775808 : Nat) : Int) := by
    have e := or_two h (l / 9223372036854775808) (by omega) (by omega)
    simpa using e
  have e2 : bits .or .u64 (IntKind.u64.wrap ((l : Int) * 2)) 0 = ((l % 9223372036854775808 * 2 : Nat) : Int) := by
    rw [wrap_two]; exact or_two _ 0 (by omega) (by omega)
  have E1 := Lib.hid e1
  have E2 := Lib.hid e2
  clear e1 e2
  go_enter Try.func15, Try.ntmps15
  go_wp2
  go_region
  go_wp2
  simp [bodyPost, results, Try.results15, go_sem]
  exact ⟨h * 2 + l / 9223372036854775808, l % 9223372036854775808 * 2, ⟨E1.out, E2.out⟩, by omega, by omega, by omega, (((Below.refl _ _).alloc (Nat.le_refl _) _).alloc (by simp) _).drew⟩

/-- is one at most another one? -/
theorem atMost_any (xh xl yh yl : Nat) (hxl : xl < 18446744073709551616) (hyl : yl < 18446744073709551616) (w : World) :
    Calls Try.prog 16 #[.agg #[.int .u64 (xh : Int), .int .u64 (xl : Int)], .agg #[.int .u64 (yh : Int), .int .u64 (yl : Int)]] w fun e w' =>
      e = .returned (.bool (decide (xh * 18446744073709551616 + xl ≤ yh * 18446744073709551616 + yl))) ∧ Below w.heap.size w w' := by
  by_cases h1 : xh < yh
  · have e : decide (xh * 18446744073709551616 + xl ≤ yh * 18446744073709551616 + yl) = true := by rw [decide_eq_true_eq]; omega
    rw [e]
    clear e hxl hyl
    go_enter Try.func16, Try.ntmps16
    go_wp2
    go_ret
    exact ⟨rfl, ((Below.refl _ _).alloc (Nat.le_refl _) _).alloc (by simp) _⟩
  · by_cases h2 : xh = yh
    · subst h2
      by_cases h3 : xl ≤ yl
      · have e : decide (xh * 18446744073709551616 + xl ≤ xh * 18446744073709551616 + yl) = true := by rw [decide_eq_true_eq]; omega
        rw [e]
        clear e hxl hyl
        go_enter Try.func16, Try.ntmps16
        go_wp2
        go_ret
        exact ⟨rfl, ((Below.refl _ _).alloc (Nat.le_refl _) _).alloc (by simp) _⟩
      · have e : decide (xh * 18446744073709551616 + xl ≤ xh * 18446744073709551616 + yl) = false := by rw [decide_eq_false_iff_not]; omega
        rw [e]
        clear e hxl hyl
        go_enter Try.func16, Try.ntmps16
        go_wp2
        go_ret
        exact ⟨rfl, ((Below.refl _ _).alloc (Nat.le_refl _) _).alloc (by simp) _⟩
    · have e : decide (xh * 18446744073709551616 + xl ≤ yh * 18446744073709551616 + yl) = false := by rw [decide_eq_false_iff_not]; omega
      have h3 : ((xh : Int) == (yh : Int)) = false := by simp; omega
      rw [e]
      clear e hxl hyl h2
      go_enter Try.func16, Try.ntmps16
      go_wp2
      go_ret
      exact ⟨rfl, ((Below.refl _ _).alloc (Nat.le_refl _) _).alloc (by simp) _⟩

theorem atMost_yes (xh xl yh yl : Nat) (hxl : xl < 18446744073709551616) (hyl : yl < 18446744073709551616) (h : xh * 18446744073709551616 + xl ≤ yh * 18446744073709551616 + yl) (w : World) :
    Calls Try.prog 16 #[.agg #[.int .u64 (xh : Int), .int .u64 (xl : Int)], .agg #[.int .u64 (yh : Int), .int .u64 (yl : Int)]] w fun e w' => e = .returned (.bool true) ∧ Below w.heap.size w w' := by
  have C := atMost_any xh xl yh yl hxl hyl w
  rw [decide_eq_true h] at C
  exact C
theorem atMost_no (xh xl yh yl : Nat) (hxl : xl < 18446744073709551616) (hyl : yl < 18446744073709551616) (h : ¬ xh * 18446744073709551616 + xl ≤ yh * 18446744073709551616 + yl) (w : World) :
    Calls Try.prog 16 #[.agg #[.int .u64 (xh : Int), .int .u64 (xl : Int)], .agg #[.int .u64 (yh : Int), .int .u64 (yl : Int)]] w fun e w' => e = .returned (.bool false) ∧ Below w.heap.size w w' := by
  have C := atMost_any xh xl yh yl hxl hyl w
  rw [decide_eq_false h] at C
  exact C

/-- the model's entry for math/bits.Sub64, in its two ways -/
theorem sub_run (x y b : Nat) (hb : b ≤ 1) (w : World) : (callFunc 24 #[.int .u64 (x : Int), .int .u64 (y : Int), .int .u64 (b : Int)]).run Try.prog w =
    .ok (.value (.tuple #[.int .u64 (((x + 18446744073709551616 - y - b) % 18446744073709551616 : Nat) : Int), .int .u64 ((if x < y + b then 1 else 0 : Nat) : Int)])) w := by
  have hb' : b = 0 ∨ b = 1 := by omega
  rw [run_callFunc_extern Try.func24 (by kernel_rfl) (by kernel_rfl) (by kernel_rfl) (e := fun args => do
    let (x, y, b) ← Extern.MathBitsCarry.three "Sub64" args
    pure (Extern.MathBitsCarry.pair ((x + Extern.MathBitsCarry.m64 - y - b) % Extern.MathBitsCarry.m64) (if x < y + b then 1 else 0))) (by kernel_rfl)]
  rcases hb' with rfl | rfl <;> rfl
theorem sub_no (x y b d : Nat) (hx : x < 18446744073709551616) (hb : b ≤ 1) (h : x = y + b + d) (w : World) : (callFunc 24 #[.int .u64 (x : Int), .int .u64 (y : Int), .int .u64 (b : Int)]).run Try.prog w =
    .ok (.value (.tuple #[.int .u64 (d : Int), .int .u64 0])) w := by
  rw [sub_run x y b hb w, if_neg (by omega), show (x + 18446744073709551616 - y - b) % 18446744073709551616 = d from by omega]; rfl
theorem sub_yes (x y d : Nat) (hy : y < 18446744073709551616) (h : x + 18446744073709551616 = y + d) (hd : d < 18446744073709551616) (w : World) : (callFunc 24 #[.int .u64 (x : Int), .int .u64 (y : Int), .int .u64 0]).run Try.prog w =
    .ok (.value (.tuple #[.int .u64 (d : Int), .int .u64 1])) w := by
  have e := sub_run x y 0 (by omega) w
  rw [if_pos (by omega), show (x + 18446744073709551616 - y - 0) % 18446744073709551616 = d from by omega] at e
  exact e

/-- one with another one, not above it, taken away -/
theorem less_any (xh xl yh yl : Nat) (hxh : xh < 18446744073709551616) (hxl : xl < 18446744073709551616) (hyl : yl < 18446744073709551616) (h : yh * 18446744073709551616 + yl ≤ xh * 18446744073709551616 + xl) (w : World) :
    Calls Try.prog 17 #[.agg #[.int .u64 (xh : Int), .int .u64 (xl : Int)], .agg #[.int .u64 (yh : Int), .int .u64 (yl : Int)]] w fun e w' => ∃ h' l' : Nat, e = .returned (.agg #[.int .u64 (h' : Int), .int .u64 (l' : Int)]) ∧
      h' < 18446744073709551616 ∧ l' < 18446744073709551616 ∧ h' * 18446744073709551616 + l' + (yh * 18446744073709551616 + yl) = xh * 18446744073709551616 + xl ∧ Below w.heap.size w w' := by
  by_cases hc : yl ≤ xl
  · obtain ⟨d, hd⟩ : ∃ d, xl = yl + 0 + d := ⟨xl - yl, by omega⟩
    obtain ⟨g, hg⟩ : ∃ g, xh = yh + 0 + g := ⟨xh - yh, by omega⟩
    have s1 : ∀ w, (callFunc 24 #[.int .u64 (xl : Int), .int .u64 (yl : Int), .int .u64 0]).run Try.prog w = .ok (.value (.tuple #[.int .u64 (d : Int), .int .u64 0])) w := sub_no xl yl 0 d hxl (by omega) hd
    have s2 : ∀ w, (callFunc 24 #[.int .u64 (xh : Int), .int .u64 (yh : Int), .int .u64 0]).run Try.prog w = .ok (.value (.tuple #[.int .u64 (g : Int), .int .u64 0])) w := sub_no xh yh 0 g hxh (by omega) hg
    have H : Hid (g < 18446744073709551616 ∧ d < 18446744073709551616 ∧ g * 18446744073709551616 + d + (yh * 18446744073709551616 + yl) = xh * 18446744073709551616 + xl) := Lib.hid ⟨by omega, by omega, by omega⟩
    clear h hd hg hc hxh hxl hyl
    go_enter Try.func17, Try.ntmps17
    go_wp2
    simp [bodyPost, results, Try.results17, go_sem]
    exact ⟨g, d, ⟨rfl, rfl⟩, H.out.1, H.out.2.1, H.out.2.2, ((((Below.refl _ _).alloc (Nat.le_refl _) _).alloc (by simp) _).alloc (by simp; omega) _)⟩
  · obtain ⟨d, hd⟩ : ∃ d, xl + 18446744073709551616 = yl + d := ⟨xl + 18446744073709551616 - yl, by omega⟩
    obtain ⟨g, hg⟩ : ∃ g, xh = yh + 1 + g := ⟨xh - yh - 1, by omega⟩
    have s1 : ∀ w, (callFunc 24 #[.int .u64 (xl : Int), .int .u64 (yl : Int), .int .u64 0]).run Try.prog w = .ok (.value (.tuple #[.int .u64 (d : Int), .int .u64 1])) w := sub_yes xl yl d hyl hd (by omega)
    have s2 : ∀ w, (callFunc 24 #[.int .u64 (xh : Int), .int .u64 (yh : Int), .int .u64 1]).run Try.prog w = .ok (.value (.tuple #[.int .u64 (g : Int), .int .u64 0])) w := sub_no xh yh 1 g hxh (by omega) hg
    have H : Hid (g < 18446744073709551616 ∧ d < 18446744073709551616 ∧ g * 18446744073709551616 + d + (yh * 18446744073709551616 + yl) = xh * 18446744073709551616 + xl) := Lib.hid ⟨by omega, by omega, by omega⟩
    clear h hd hg hc hxh hxl hyl
    go_enter Try.func17, Try.ntmps17
    go_wp2
    simp [bodyPost, results, Try.results17, go_sem]
    exact ⟨g, d, ⟨rfl, rfl⟩, H.out.1, H.out.2.1, H.out.2.2, ((((Below.refl _ _).alloc (Nat.le_refl _) _).alloc (by simp) _).alloc (by simp; omega) _)⟩

theorem maskN (a : Nat) (ha : a < 18446744073709551616) : bits .and .u64 (a : Int) 4294967295 = ((a % 4294967296 : Nat) : Int) := by
  have h := bits_and_u64_nat a 4294967295 ha (by omega)
  have e : a &&& 4294967295 = a % 4294967296 := Nat.and_two_pow_sub_one_eq_mod a 32
  rw [e] at h
  exact h
theorem divN (a : Nat) : (a : Int) / 4294967296 = ((a / 4294967296 : Nat) : Int) := by omega
theorem mulN (a b : Nat) : (a : Int) * (b : Int) = ((a * b : Nat) : Int) := (Int.natCast_mul a b).symm
theorem addN (a b : Nat) : (a : Int) + (b : Int) = ((a + b : Nat) : Int) := (Int.natCast_add a b).symm
theorem wrapN (a : Nat) (ha : a < 18446744073709551616) : IntKind.u64.wrap (a : Int) = (a : Int) := by rw [IntKind.wrap_u64]; omega
theorem wrapM (a : Nat) : IntKind.u64.wrap (a : Int) = ((a % 18446744073709551616 : Nat) : Int) := by rw [IntKind.wrap_u64]; omega

set_option maxHeartbeats 1000000 in
theorem mul64_any (x y : Nat) (hx : x < 18446744073709551616) (hy : y < 18446744073709551616) (w : World) :
    Calls Try.prog 27 #[.int .u64 (x : Int), .int .u64 (y : Int)] w fun e w' => e = .returned (.tuple #[.int .u64 ((x * y / 18446744073709551616 : Nat) : Int), .int .u64 ((x * y % 18446744073709551616 : Nat) : Int)]) ∧ w = w' := by
  obtain ⟨bd, bt, bw, hhi⟩ := Lib.mul64_hi x y hx hy
  have ba := Lib.half_mul_le (a := x / 4294967296) (b := y / 4294967296) (by omega) (by omega)
  have bb := Lib.half_mul_le (a := x / 4294967296) (b := y % 4294967296) (by omega) (by omega)
  have bc := Lib.half_mul_le (a := x % 4294967296) (b := y / 4294967296) (by omega) (by omega)
  have ba' : x / 4294967296 * (y / 4294967296) < 18446744073709551616 := by omega
  have bb' : x / 4294967296 * (y % 4294967296) < 18446744073709551616 := by omega
  have bc' : x % 4294967296 * (y / 4294967296) < 18446744073709551616 := by omega
  have bh1 : x / 4294967296 * (y / 4294967296) + (x / 4294967296 * (y % 4294967296) + x % 4294967296 * (y % 4294967296) / 4294967296) / 4294967296 < 18446744073709551616 := by omega
  have bh : x / 4294967296 * (y / 4294967296) + (x / 4294967296 * (y % 4294967296) + x % 4294967296 * (y % 4294967296) / 4294967296) / 4294967296 + ((x / 4294967296 * (y % 4294967296) + x % 4294967296 * (y % 4294967296) / 4294967296) % 4294967296 + x % 4294967296 * (y / 4294967296)) / 4294967296 < 18446744073709551616 := by omega
  go_enter Try.func27, Try.ntmps27
  go_wp2
  simp only [maskN x hx, maskN y hy, divN, mulN, addN, wrapN _ bd, wrapN _ bb', wrapN _ bt, maskN _ bt, wrapN _ bc', wrapN _ bw, wrapN _ ba', wrapN _ bh1, wrapN _ bh, wrapM (x * y)]
  rw [hhi]
  go_ret2
  exact ⟨rfl, rfl⟩


/-- a product that has no more than 128 bits -/
theorem times_any (xh xl n : Nat) (hxl : xl < 18446744073709551616) (hn : n < 18446744073709551616) (h : (xh * 18446744073709551616 + xl) * n < 340282366920938463463374607431768211456) (w : World) :
    Calls Try.prog 23 #[.agg #[.int .u64 (xh : Int), .int .u64 (xl : Int)], .int .u64 (n : Int)] w fun e w' => ∃ h' l' : Nat, e = .returned (.agg #[.int .u64 (h' : Int), .int .u64 (l' : Int)]) ∧
      h' < 18446744073709551616 ∧ l' < 18446744073709551616 ∧ h' * 18446744073709551616 + l' = (xh * 18446744073709551616 + xl) * n ∧ Below w.heap.size w w' := by
  have C := mul64_any xl n hxl hn
  have e0 : (xh * 18446744073709551616 + xl) * n = xh * n * 18446744073709551616 + xl * n := by rw [Nat.add_mul, Nat.mul_right_comm]
  rw [e0] at h ⊢
  have hm : (xh : Int) * (n : Int) = ((xh * n : Nat) : Int) := (Int.natCast_mul _ _).symm
  generalize xh * n = p at *
  generalize xl * n = q at *
  have hq1 : q / 18446744073709551616 < 18446744073709551616 := by omega
  have hq2 : q % 18446744073709551616 < 18446744073709551616 := by omega
  have hq3 : q = q / 18446744073709551616 * 18446744073709551616 + q % 18446744073709551616 := by omega
  generalize q / 18446744073709551616 = a at *
  generalize q % 18446744073709551616 = b at *
  have hp : a + p < 18446744073709551616 := by omega
  have HC := Lib.hid C
  have H : Hid (a + p < 18446744073709551616 ∧ b < 18446744073709551616 ∧ (a + p) * 18446744073709551616 + b = p * 18446744073709551616 + q) := Lib.hid ⟨hp, hq2, by omega⟩
  clear C e0 h hq3 hxl hn hq2
  go_enter Try.func23, Try.ntmps23
  go_wp2_with fail
  refine (HC.out _).mono ?_
  rintro e w' ⟨rfl, rfl⟩
  go_wp2
  simp [bodyPost, results, Try.results23, go_sem]
  exact ⟨a + p, b, ⟨by go_num, rfl⟩, H.out.1, H.out.2.1, H.out.2.2, (((Below.refl _ _).alloc (Nat.le_refl _) _).alloc (by simp) _)⟩

/-- may the roots be asked for? -/
theorem rooted_any (n : Int) (w : World) : Calls Try.prog 14 #[.int .i64 n] w fun e w' => e = .returned (.bool (decide (0 ≤ n ∧ n ≤ 1048576))) ∧ w = w' := by
  by_cases h1 : 0 ≤ n
  · by_cases h2 : n ≤ 1048576
    · have e : decide (0 ≤ n ∧ n ≤ 1048576) = true := by simp [h1, h2]
      rw [e]; clear e
      go_enter Try.func14, Try.ntmps14
      go_wp2
      go_ret
      exact ⟨rfl, rfl⟩
    · have e : decide (0 ≤ n ∧ n ≤ 1048576) = false := by simp [h2]
      rw [e]; clear e
      go_enter Try.func14, Try.ntmps14
      go_wp2
      go_ret
      exact ⟨rfl, rfl⟩
  · have e : decide (0 ≤ n ∧ n ≤ 1048576) = false := by simp [h1]
    rw [e]; clear e
    go_enter Try.func14, Try.ntmps14
    go_wp2
    go_ret
    exact ⟨rfl, rfl⟩
end Go.Proofs.Ytfkokgcfjminiaa

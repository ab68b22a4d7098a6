/- The machine's words of 32 bits, into which bits come from the right. No condition but those typed. -/
import Derived.Test.YtjknpbaegnkdnaaSxPure
import Derived.Laws.BitsLemmas
import Derived.Laws.BitsAllLaws
namespace Go.Proofs.Ytjknpbaegnkdnaa
set_option maxRecDepth 50000
open Go.RowKit Sx
/-- the lowest 32 bits -/
def lo (v : Nat) : Nat := v % 4294967296
theorem lo_lt (v : Nat) : lo v < 4294967296 := Nat.mod_lt _ (by decide)
theorem lo_shl (v k : Nat) : lo v * 2 ^ k % 4294967296 = lo (v * 2 ^ k) := by unfold lo; rw [Nat.mod_mul_mod]
/-- so many bits more -/
theorem lo_or8 (v x : Nat) (hx : x < 256) : bits .or .u32 ((lo (v * 256) : Nat) : Int) (x : Int) = ((lo (v * 256 + x) : Nat) : Int) := by
  have e : lo (v * 256) = 256 * (v % 16777216) := by unfold lo; omega
  have e2 : lo (v * 256 + x) = 256 * (v % 16777216) + x := by unfold lo; omega
  rw [u32_or_nat _ _ (lo_lt _) (by omega), e, show (256 : Nat) * (v % 16777216) = 2 ^ 8 * (v % 16777216) from rfl, ← Nat.two_pow_add_eq_or_of_lt (show x < 2 ^ 8 from hx), e2]
theorem lo_or6 (v x : Nat) (hx : x < 64) : bits .or .u32 ((lo (v * 64) : Nat) : Int) (x : Int) = ((lo (v * 64 + x) : Nat) : Int) := by
  have e : lo (v * 64) = 64 * (v % 67108864) := by unfold lo; omega
  have e2 : lo (v * 64 + x) = 64 * (v % 67108864) + x := by unfold lo; omega
  rw [u32_or_nat _ _ (lo_lt _) (by omega), e, show (64 : Nat) * (v % 67108864) = 2 ^ 6 * (v % 67108864) from rfl, ← Nat.two_pow_add_eq_or_of_lt (show x < 2 ^ 6 from hx), e2]
/-- bits from a place on -/
theorem lo_div (v k m : Nat) (h : k + m ≤ 32) : lo v / 2 ^ k % 2 ^ m = v / 2 ^ k % 2 ^ m := by
  have e : (4294967296 : Nat) = 2 ^ k * (2 ^ m * 2 ^ (32 - k - m)) := by rw [← Nat.pow_add, ← Nat.pow_add, show k + (m + (32 - k - m)) = 32 by omega]
  unfold lo
  rw [e, Nat.mod_mul_right_div_self, Nat.mod_mul_right_mod]
end Go.Proofs.Ytjknpbaegnkdnaa

/- The document's Mixed: two bytes put together by exclusive or; and words.Xor's and the document's Xor's plain mathematics. Condition: both are bytes. -/
import Derived.Test.YtebocfbnamcnoaaDoorLaid
namespace Go.Proofs.YtebocfbnamcnoaaDoor
set_option maxRecDepth 50000
open Go.RowKit

def mixTo (a b : Nat) : Nat → Nat
  | 0 => 0
  | i + 1 => mixTo a b i + (if a / 2 ^ i % 2 ≠ b / 2 ^ i % 2 then 2 ^ i else 0)
theorem mixTo_eq (a b : Nat) : ∀ i, mixTo a b i = (a ^^^ b) % 2 ^ i
  | 0 => by simp [mixTo, Nat.mod_one]
  | i + 1 => by
    rw [mixTo, mixTo_eq a b i, Nat.mod_pow_succ, Nat.xor_div_two_pow]
    congr 1
    have h := Nat.xor_mod_two_pow (a := a / 2 ^ i) (b := b / 2 ^ i) (n := 1)
    rw [show (2 : Nat) ^ 1 = 2 from rfl] at h
    rw [h]
    have h1 : a / 2 ^ i % 2 = 0 ∨ a / 2 ^ i % 2 = 1 := by omega
    have h2 : b / 2 ^ i % 2 = 0 ∨ b / 2 ^ i % 2 = 1 := by omega
    rcases h1 with h1 | h1 <;> rcases h2 with h2 | h2 <;> simp [h1, h2]
theorem mixTo_le (a b i : Nat) : mixTo a b i < 2 ^ i := by rw [mixTo_eq]; exact Nat.mod_lt _ (Nat.two_pow_pos _)
theorem xor_lt (a b : Nat) (ha : a < 256) (hb : b < 256) : a ^^^ b < 256 := Nat.xor_lt_two_pow (n := 8) ha hb
theorem mix8 (a b : Nat) (ha : a < 256) (hb : b < 256) : mixTo a b 8 = a ^^^ b := by rw [mixTo_eq]; exact Nat.mod_eq_of_lt (xor_lt a b ha hb)

end Go.Proofs.YtebocfbnamcnoaaDoor

/- The document's Mixed: two bytes put together by exclusive or; and words.Xor's and the document's Xor's plain mathematics. Condition: both are bytes. -/
import Derived.Test.YtoknhmilhljadaaTwo
namespace Go.Proofs.Ytoknhmilhljadaa
open Go.RowKit

def mixTo (a b : Nat) : Nat → Nat
  | 0 => 0
  | i + 1 => mixTo a b i + (if a / 2 ^ i % 2 ≠ b / 2 ^ i % 2 then 2 ^ i else 0)
theorem mixTo_eq (a b : Nat) : ∀ i, mixTo a b i = (a ^^^ b) % 2 ^ i
  | 0 => by simp [mixTo, Nat.mod_one]
  | i + 1 => by
    rw [mixTo, mixTo_eq a b i, Nat.mod_pow_succ, Nat.xor_div_two_pow]
    congr 1
    have h := Nat.xor_mod_two_pow (a := a / 2 ^ i) (b := b / 2 ^ i) (n := 1)
    rw [show (2 : Nat) ^ 1 = 2 from rfl] at h
    rw [h]
    have h1 : a / 2 ^ i % 2 = 0 ∨ a / 2 ^ i % 2 = 1 := by omega
    have h2 : b / 2 ^ i % 2 = 0 ∨ b / 2 ^ i % 2 = 1 := by omega
    rcases h1 with h1 | h1 <;> rcases h2 with h2 | h2 <;> simp [h1, h2]
theorem mixTo_le (a b i : Nat) : mixTo a b i < 2 ^ i := by rw [mixTo_eq]; exact Nat.mod_lt _ (Nat.two_pow_pos _)
theorem xor_lt (a b : Nat) (ha : a < 256) (hb : b < 256) : a ^^^ b < 256 := Nat.xor_lt_two_pow (n := 8) ha hb
theorem mix8 (a b : Nat) (ha : a < 256) (hb : b < 256) : mixTo a b 8 = a ^^^ b := by rw [mixTo_eq]; exact Nat.mod_eq_of_lt (xor_lt a b ha hb)

set_option maxHeartbeats 1600000 in
theorem mixed_any (a b : Nat) (ha : a < 256) (hb : b < 256) (w : World) : Calls Try.prog 36 #[.int .u8 (a : Int), .int .u8 (b : Int)] w fun e w' => e = .returned (.int .u8 (a ^^^ b : Nat)) ∧ w = w' := by
  have h8 := mix8 a b ha hb
  have H8 := Lib.hid h8
  clear h8
  go_enter Try.func36, Try.ntmps36
  go_wp2
  go_loop [5, 6] (fun v i => ∃ k : Nat, k ≤ 8 ∧ i = .int .i64 k ∧ v = .int .i64 (mixTo a b k : Nat)) (fun _ i => 8 - (intOf i).toNat)
  case atStart => exact ⟨0, Nat.zero_le _, rfl, rfl⟩
  case round =>
    obtain ⟨k, hk, rfl, rfl⟩ := hrel
    by_cases hlt : k < 8
    · have hm := mixTo_le a b k
      have h2 : 2 ^ k ≤ 2 ^ 7 := Nat.pow_le_pow_right (by omega) (by omega)
      have hs : mixTo a b (k + 1) = mixTo a b k + (if a / 2 ^ k % 2 ≠ b / 2 ^ k % 2 then 2 ^ k else 0) := rfl
      have Hs := Lib.hid hs
      clear hs
      generalize mixTo a b k = y at *
      obtain ⟨p, hp⟩ : ∃ p, p = 2 ^ k := ⟨_, rfl⟩
      have hpz : (2 : Int) ^ k = (p : Int) := by rw [hp]; simp
      have hp1 : 1 ≤ p := by rw [hp]; exact Nat.two_pow_pos _
      have hp2 : p ≤ 128 := by rw [hp]; exact h2
      have hy2 : y < p := by rw [hp]; exact hm
      rw [← hp] at Hs
      clear hm h2 hp
      obtain ⟨qa, hqa⟩ : ∃ qa, qa = a / p := ⟨_, rfl⟩
      obtain ⟨qb, hqb⟩ : ∃ qb, qb = b / p := ⟨_, rfl⟩
      have hia : (a : Int) / (p : Int) = (qa : Int) := by rw [hqa]; simp
      have hib : (b : Int) / (p : Int) = (qb : Int) := by rw [hqb]; simp
      have hla : qa ≤ 255 := by rw [hqa]; exact Nat.le_trans (Nat.div_le_self _ _) (by omega)
      have hlb : qb ≤ 255 := by rw [hqb]; exact Nat.le_trans (Nat.div_le_self _ _) (by omega)
      rw [← hqa, ← hqb] at Hs
      clear hqa hqb
      by_cases hne : qa % 2 = qb % 2
      · have e1 : ((qa : Int) % 2 != (qb : Int) % 2) = false := by rw [bne_eq_false_iff_eq]; omega
        go_wp2
        go_round
        case rel => exact ⟨k + 1, by omega, by go_num, by rw [Hs.out, if_neg (fun h => h hne), Nat.add_zero]⟩
        case measure => simp [intOf]; omega
      · have e1 : ((qa : Int) % 2 != (qb : Int) % 2) = true := by rw [bne_iff_ne]; omega
        go_wp2
        go_round
        case rel => exact ⟨k + 1, by omega, by go_num, by rw [Hs.out, if_pos hne]; simp⟩
        case measure => simp [intOf]; omega
    · obtain rfl : k = 8 := by omega
      rw [H8.out]
      have hx := xor_lt a b ha hb
      go_wp2
      go_ret
      exact ⟨rfl, rfl⟩
end Go.Proofs.Ytoknhmilhljadaa

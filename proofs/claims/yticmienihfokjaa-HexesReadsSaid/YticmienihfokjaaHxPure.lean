/- Hexadecimal digits, purely: bytes as digits and back, words, a dash for no byte. No condition. -/
import Derived.Test.YticmienihfokjaaFdHeld
namespace Go.Proofs.Yticmienihfokjaa
set_option maxRecDepth 50000
open Go.RowKit

namespace Hx
/-- the letter of a digit -/
def hd (k : Nat) : UInt8 := UInt8.ofNat (if k < 10 then 48 + k else 87 + k)
/-- is a letter a digit, and which -/
def isd (b : UInt8) : Bool := (decide (48 ≤ b.toNat) && decide (b.toNat ≤ 57)) || (decide (97 ≤ b.toNat) && decide (b.toNat ≤ 102))
def dv (b : UInt8) : Nat := if b.toNat ≤ 57 then b.toNat - 48 else b.toNat - 87
/-- a digit's value, or none -/
def dn (b : UInt8) : Nat := if isd b then dv b else 0
theorem dn_of {b : UInt8} (h : isd b = true) : dn b = dv b := if_pos h
theorem dv_lt {b : UInt8} (h : isd b = true) : dv b < 16 := by
  simp [isd] at h; unfold dv; split <;> omega
theorem dn_lt (b : UInt8) : dn b < 16 := by
  unfold dn; split
  · exact dv_lt (by assumption)
  · decide
theorem hd_nat {k : Nat} (h : k < 16) : (hd k).toNat = if k < 10 then 48 + k else 87 + k := by
  unfold hd
  rw [UInt8.toNat_ofNat']
  split <;> omega
theorem isd_hd {k : Nat} (h : k < 16) : isd (hd k) = true := by
  simp only [isd, hd_nat h, Bool.or_eq_true, Bool.and_eq_true, decide_eq_true_eq]
  split <;> omega
theorem dv_hd {k : Nat} (h : k < 16) : dv (hd k) = k := by
  simp only [dv, hd_nat h]
  by_cases h1 : k < 10
  · rw [if_pos h1, if_pos (by omega)]; omega
  · rw [if_neg h1, if_neg (by omega)]; omega
theorem hd_dv {b : UInt8} (h : isd b = true) : hd (dv b) = b := by
  have h1 := dv_lt h
  apply UInt8.toNat.inj
  rw [hd_nat h1]
  simp [isd] at h
  unfold dv
  by_cases h2 : b.toNat ≤ 57
  · rw [if_pos h2, if_pos (by omega)]; omega
  · rw [if_neg h2, if_neg (by omega)]; omega

def two (b : UInt8) : List UInt8 := [hd (b.toNat / 16), hd (b.toNat % 16)]
/-- bytes as digits -/
def enc (l : List UInt8) : List UInt8 := l.flatMap two
def one (a b : UInt8) : UInt8 := UInt8.ofNat (16 * dn a + dn b)
theorem one_nat (a b : UInt8) : (one a b).toNat = 16 * dn a + dn b := by
  unfold one
  rw [UInt8.toNat_ofNat']
  have := dn_lt a
  have := dn_lt b
  omega
/-- digits as bytes, two by two -/
def dec : List UInt8 → List UInt8
  | a :: b :: r => one a b :: dec r
  | _ => []
theorem enc_nil : enc [] = [] := rfl
theorem enc_cons (b : UInt8) (l : List UInt8) : enc (b :: l) = two b ++ enc l := rfl
theorem enc_append (a b : List UInt8) : enc (a ++ b) = enc a ++ enc b := by simp [enc]
theorem enc_length : ∀ l, (enc l).length = 2 * l.length
  | [] => rfl
  | b :: l => by rw [enc_cons, List.length_append, enc_length l]; simp [two]; omega
theorem enc_isd : ∀ l, (enc l).all isd = true
  | [] => rfl
  | b :: l => by
    have h1 : b.toNat / 16 < 16 := by have := b.toNat_lt; omega
    rw [enc_cons, List.all_append, enc_isd l]
    simp [two, isd_hd h1, isd_hd (Nat.mod_lt b.toNat (show 0 < 16 by decide))]
theorem one_two (b : UInt8) : one (hd (b.toNat / 16)) (hd (b.toNat % 16)) = b := by
  have h1 : b.toNat / 16 < 16 := by have := b.toNat_lt; omega
  have h2 := Nat.mod_lt b.toNat (show 0 < 16 by decide)
  apply UInt8.toNat.inj
  rw [one_nat, dn_of (isd_hd h1), dn_of (isd_hd h2), dv_hd h1, dv_hd h2]
  omega
theorem dec_enc : ∀ l, dec (enc l) = l
  | [] => rfl
  | b :: l => by
    show one (hd (b.toNat / 16)) (hd (b.toNat % 16)) :: dec (enc l) = b :: l
    rw [one_two, dec_enc l]
theorem two_one {a b : UInt8} (ha : isd a = true) (hb : isd b = true) : two (one a b) = [a, b] := by
  have h1 := dv_lt ha
  have h2 := dv_lt hb
  unfold two
  rw [one_nat, dn_of ha, dn_of hb, show (16 * dv a + dv b) / 16 = dv a by omega, show (16 * dv a + dv b) % 16 = dv b by omega, hd_dv ha, hd_dv hb]
theorem enc_dec : ∀ l : List UInt8, l.all isd = true → l.length % 2 = 0 → enc (dec l) = l
  | [], _, _ => rfl
  | [_], _, h => by simp at h
  | a :: b :: r, h, h2 => by
    simp only [List.all_cons, Bool.and_eq_true] at h
    show two (one a b) ++ enc (dec r) = a :: b :: r
    rw [two_one h.1 h.2.1, enc_dec r h.2.2 (by simp at h2; omega)]
    rfl
theorem dec_length : ∀ l : List UInt8, (dec l).length = l.length / 2
  | [] => rfl
  | [_] => by simp [dec]
  | a :: b :: r => by simp only [dec, List.length_cons, dec_length r]; omega
theorem dec_append : ∀ (l r : List UInt8), l.length % 2 = 0 → dec (l ++ r) = dec l ++ dec r
  | [], _, _ => rfl
  | [_], _, h => by simp at h
  | a :: b :: l, r, h => by
    show one a b :: dec (l ++ r) = one a b :: dec l ++ dec r
    rw [dec_append l r (by simp at h; omega)]; rfl
theorem dec_odd (l : List UInt8) (a : UInt8) (h : l.length % 2 = 0) : dec (l ++ [a]) = dec l := by rw [dec_append l [a] h]; simp [dec]
theorem dec_even (l : List UInt8) (a b : UInt8) (h : l.length % 2 = 0) : dec (l ++ [a] ++ [b]) = dec l ++ [one a b] := by rw [List.append_assoc, dec_append l _ h]; rfl

/-- what Decode answers -/
def decE (s : ByteArray) : Int := if (tl s).all isd then (if s.size % 2 = 0 then 0 else 9) else 8
def decL (s : ByteArray) : List UInt8 := if decE s = 0 then dec (tl s) else []
theorem decE_good {s : ByteArray} (h : (tl s).all isd = true) (h2 : s.size % 2 = 0) : decE s = 0 := by unfold decE; rw [if_pos h, if_pos h2]
theorem decE_odd {s : ByteArray} (h : (tl s).all isd = true) (h2 : ¬ s.size % 2 = 0) : decE s = 9 := by unfold decE; rw [if_pos h, if_neg h2]
theorem decE_bad {s : ByteArray} (h : (tl s).all isd = false) : decE s = 8 := by unfold decE; rw [h]; rfl
theorem decL_good {s : ByteArray} (h : decE s = 0) : decL s = dec (tl s) := if_pos h
theorem decL_bad {s : ByteArray} (h : decE s ≠ 0) : decL s = [] := if_neg h
theorem decE_zero {s : ByteArray} (h : decE s = 0) : (tl s).all isd = true ∧ s.size % 2 = 0 := by
  unfold decE at h
  by_cases h1 : (tl s).all isd = true
  · rw [if_pos h1] at h
    by_cases h2 : s.size % 2 = 0
    · exact ⟨h1, h2⟩
    · rw [if_neg h2] at h; exact absurd h (by decide)
  · rw [if_neg h1] at h; exact absurd h (by decide)
theorem decL_length (s : ByteArray) : (decL s).length ≤ s.size / 2 := by
  unfold decL; split
  · rw [dec_length, tl_length]; exact Nat.le_refl _
  · exact Nat.zero_le _
theorem back {s : ByteArray} (h : decE s = 0) : enc (decL s) = tl s := by
  obtain ⟨h1, h2⟩ := decE_zero h
  rw [decL_good h, enc_dec _ h1 (by rw [tl_length]; exact h2)]
theorem there (l : List UInt8) : decE (tx (enc l)) = 0 ∧ decL (tx (enc l)) = l := by
  have h : decE (tx (enc l)) = 0 := decE_good (by rw [tl_tx]; exact enc_isd l) (by rw [tx_size, enc_length]; omega)
  exact ⟨h, by rw [decL_good h, tl_tx, dec_enc]⟩

/-- a dash for no byte -/
def dashL (l : List UInt8) : List UInt8 := if l = [] then [45] else enc l
def undE (s : ByteArray) : Int := if tl s = [] then 5 else if tl s = [45] then 0 else decE s
def undL (s : ByteArray) : List UInt8 := if tl s = [] then [] else if tl s = [45] then [] else decL s
theorem dash_there (l : List UInt8) : undE (tx (dashL l)) = 0 ∧ undL (tx (dashL l)) = l := by
  unfold dashL undE undL
  by_cases h : l = []
  · subst h
    rw [if_pos rfl, tl_tx]
    exact ⟨rfl, rfl⟩
  · rw [if_neg h, tl_tx]
    have h1 : enc l ≠ [] := fun e => by
      have := congrArg List.length e
      rw [enc_length] at this
      have := List.length_pos_iff.2 h
      simp at *; omega
    have h2 : enc l ≠ [45] := fun e => by
      have := congrArg List.length e
      rw [enc_length] at this
      simp at this; omega
    rw [if_neg h1, if_neg h2, if_neg h1, if_neg h2]
    exact there l
theorem dash_back {s : ByteArray} (h : undE s = 0) : dashL (undL s) = tl s := by
  unfold undE at h
  unfold undL
  by_cases h1 : tl s = []
  · rw [if_pos h1] at h; exact absurd h (by decide)
  · rw [if_neg h1] at h ⊢
    by_cases h2 : tl s = [45]
    · rw [if_pos h2, h2]; rfl
    · rw [if_neg h2] at h ⊢
      have h3 := back h
      unfold dashL
      rw [if_neg (fun e => h1 (by rw [← h3, e]; rfl)), h3]

/-- a word's eight digits; words with a blank between two, the first k of them -/
def w8 (x : Nat) : List UInt8 := [hd (x / 16 ^ 7 % 16), hd (x / 16 ^ 6 % 16), hd (x / 16 ^ 5 % 16), hd (x / 16 ^ 4 % 16), hd (x / 16 ^ 3 % 16), hd (x / 16 ^ 2 % 16), hd (x / 16 % 16), hd (x % 16)]
theorem w8_length (x : Nat) : (w8 x).length = 8 := rfl
def sep (k : Nat) : List UInt8 := if k = 0 then [] else [32]
def wl (xs : List Nat) : Nat → List UInt8
  | 0 => []
  | k + 1 => wl xs k ++ sep k ++ w8 (xs.getD k 0)
theorem wl_length (xs : List Nat) : ∀ k, (wl xs k).length ≤ 9 * k
  | 0 => Nat.zero_le _
  | k + 1 => by
    have := wl_length xs k
    have h2 : (sep k).length ≤ 1 := by unfold sep; split <;> simp
    simp only [wl, List.length_append, w8_length]
    omega
/-- a word turned to the left by so many digits -/
def up (x j : Nat) : Nat := x * 16 ^ j % 4294967296
theorem up_zero {x : Nat} (h : x < 4294967296) : up x 0 = x := by unfold up; omega
theorem up_lt (x j : Nat) : up x j < 4294967296 := Nat.mod_lt _ (by decide)
theorem up_next (x j : Nat) : up x j * 16 % 4294967296 = up x (j + 1) := by
  unfold up
  rw [Nat.pow_succ, ← Nat.mul_assoc, Nat.mod_mul_mod]
theorem up_top {x j : Nat} (h : x < 4294967296) (hj : j < 8) : (w8 x)[j]'(by rw [w8_length]; exact hj) = hd (up x j / 268435456) := by
  have e : ∀ y, y < 4294967296 → y / 268435456 < 16 := fun y hy => by omega
  unfold up
  match j, hj with
  | 0, _ => show hd _ = hd _; congr 1; omega
  | 1, _ => show hd _ = hd _; congr 1; omega
  | 2, _ => show hd _ = hd _; congr 1; omega
  | 3, _ => show hd _ = hd _; congr 1; omega
  | 4, _ => show hd _ = hd _; congr 1; omega
  | 5, _ => show hd _ = hd _; congr 1; omega
  | 6, _ => show hd _ = hd _; congr 1; omega
  | 7, _ => show hd _ = hd _; congr 1; omega
/-- the last k digits, one by one from the end -/
theorem low_next {x k : Nat} (hk : k < 8) : hd (x / 16 ^ k % 16) :: (w8 x).drop (8 - k) = (w8 x).drop (8 - (k + 1)) := by
  match k, hk with
  | 0, _ => simp [w8]
  | 1, _ => simp [w8]
  | 2, _ => simp [w8]
  | 3, _ => simp [w8]
  | 4, _ => simp [w8]
  | 5, _ => simp [w8]
  | 6, _ => simp [w8]
  | 7, _ => simp [w8]
end Hx
end Go.Proofs.Yticmienihfokjaa

/- A text of 8,336 hexadecimal digits held against the sum that the kernel reckoned: what its bytes stand for are the digits of pi. No condition. -/
import Derived.Test.YtglmfagmlfjceaaPiBig
namespace Go.Proofs.Ytglmfagmlfjceaa.Pi16
set_option maxRecDepth 50000

/-- what a byte stands for -/
def hexd (c : UInt8) : Nat := if 97 ≤ c.toNat then c.toNat - 97 + 10 else c.toNat - 48
/-- the number whose digits the bytes are; each step is reckoned ahead of the next one -/
def numF : List UInt8 → Nat → Nat
  | [], a => a
  | x :: xs, a => match 16 * a + hexd x with
    | 0 => numF xs 0
    | n + 1 => numF xs (n + 1)
theorem numF_cons (x : UInt8) (xs : List UInt8) (a : Nat) : numF (x :: xs) a = numF xs (16 * a + hexd x) := by
  rw [numF]
  split
  · next h => rw [h]
  · next n h => rw [h]
def okD (l : List UInt8) : Bool := l.all fun x => Nat.blt (hexd x) 16 && Nat.ble 48 x.toNat && Nat.blt x.toNat 103 && (Nat.blt x.toNat 58 || Nat.ble 97 x.toNat)
theorem numF_shape : ∀ (l : List UInt8) (a : Nat), (∀ x ∈ l, hexd x < 16) → numF l a / 16 ^ l.length = a ∧ ∀ i (h : i < l.length), numF l a / 16 ^ (l.length - 1 - i) % 16 = hexd l[i]
  | [], a, _ => ⟨by simp [numF], fun i h => absurd h (by simp)⟩
  | x :: xs, a, h => by
    have hx := h x (List.mem_cons_self ..)
    obtain ⟨h1, h2⟩ := numF_shape xs (16 * a + hexd x) fun y hy => h y (List.mem_cons_of_mem _ hy)
    rw [numF_cons]
    refine ⟨?_, fun i hi => ?_⟩
    · rw [List.length_cons, Nat.pow_succ, ← Nat.div_div_eq_div_mul, h1]
      omega
    · cases i with
      | zero =>
        rw [List.length_cons, Nat.add_sub_cancel, Nat.sub_zero, h1]
        show (16 * a + hexd x) % 16 = hexd x
        omega
      | succ i =>
        have hi' : i < xs.length := by simpa using hi
        have := h2 i hi'
        rw [List.length_cons, show xs.length + 1 - 1 - (i + 1) = xs.length - 1 - i by omega, this]
        rfl
theorem mod_dig (x a b : Nat) : x % 16 ^ (a + (b + 1)) / 16 ^ a % 16 = x / 16 ^ a % 16 := by
  rw [Nat.pow_add, Nat.mod_mul_right_div_self, Nat.pow_succ', Nat.mod_mul_right_mod]
/-- the whole check of a text -/
def chk (s : ByteArray) : Bool := Nat.beq s.data.toList.length 8336 && okD s.data.toList && Nat.beq (numF s.data.toList 0) (wl / 16 ^ 111 % 16 ^ 8336)
theorem chk_spec (s : ByteArray) (h : chk s = true) : s.size = 8336 ∧ ∀ i (hi : i < s.size), hexd s.data[i] = piD i ∧ s.data[i].toNat < 103 ∧ 48 ≤ s.data[i].toNat ∧ (s.data[i].toNat < 58 ∨ 97 ≤ s.data[i].toNat) := by
  unfold chk at h
  rw [Bool.and_eq_true, Bool.and_eq_true] at h
  obtain ⟨⟨h1, h2⟩, h3⟩ := h
  have hlen : s.data.toList.length = 8336 := Nat.eq_of_beq_eq_true h1
  have hnum := Nat.eq_of_beq_eq_true h3
  have hall : ∀ x ∈ s.data.toList, hexd x < 16 ∧ 48 ≤ x.toNat ∧ x.toNat < 103 ∧ (x.toNat < 58 ∨ 97 ≤ x.toNat) := fun x hx => by
    have := List.all_eq_true.1 h2 x hx
    simp only [Bool.and_eq_true, Bool.or_eq_true, Nat.blt, Nat.ble_eq] at this
    omega
  have hs : s.size = 8336 := by rw [← hlen, Array.length_toList]; rfl
  refine ⟨hs, fun i hi => ?_⟩
  have hil : i < s.data.toList.length := by rw [hlen]; omega
  have hel : s.data.toList[i] = s.data[i] := by simp
  have ha := hall _ (List.getElem_mem hil)
  have hd := (numF_shape s.data.toList 0 fun x hx => (hall x hx).1).2 i hil
  rw [hnum, hlen, hel] at hd
  rw [hel] at ha
  refine ⟨?_, ha.2.2.1, ha.2.1, ha.2.2.2⟩
  rw [← hd]
  unfold piD
  have e1 := mod_dig (wl / 16 ^ 111) (8336 - 1 - i) i
  rw [show 8336 - 1 - i + (i + 1) = 8336 by omega] at e1
  rw [e1, Nat.div_div_eq_div_mul, ← Nat.pow_add, show 111 + (8336 - 1 - i) = 8446 - i by omega]
end Go.Proofs.Ytglmfagmlfjceaa.Pi16

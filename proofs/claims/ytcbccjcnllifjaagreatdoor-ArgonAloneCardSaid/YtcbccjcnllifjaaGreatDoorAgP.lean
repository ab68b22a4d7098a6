/- Blocks as one number each, and Argon2's mixing run forward on them, number by number, so that the kernel may reckon it. No condition but those typed. BLAKE2b's sums run forward on numbers, so that the kernel may reckon them. No condition but those typed. Bytes as one number; BLAKE2b's sums and Argon2's long ones run forward on such numbers. Conditions: those typed. -/
import Derived.Test.YtcbccjcnllifjaaGreatDoorBn
import Derived.KernelRfl
import Derived.Test.YtcbccjcnllifjaaGreatDoorLy
import Derived.Test.YtcbccjcnllifjaaGreatDoorBm
namespace Go.Proofs.YtcbccjcnllifjaaGreatDoor
set_option maxRecDepth 50000
open Go.RowKit Bb Bn Rot
def fo (x : Nat) (k : Nat → Bool) : Bool := Nat.rec (motive := fun _ => Bool) (k 0) (fun n _ => k (n + 1)) x
theorem fo_eq (x : Nat) (k : Nat → Bool) : fo x k = k x := by cases x <;> rfl
def pk : List Nat → Nat
  | [] => 0
  | x :: l => x + 18446744073709551616 * pk l
def gw (B i : Nat) : Nat := (B >>> (64 * i)) % 18446744073709551616
theorem xor_parts {a b : Nat} (p q : Nat) (ha : a < 18446744073709551616) (hb : b < 18446744073709551616) : (a + 18446744073709551616 * p) ^^^ (b + 18446744073709551616 * q) = (a ^^^ b) + 18446744073709551616 * (p ^^^ q) := by
  have hab : a ^^^ b < 2 ^ 64 := Nat.xor_lt_two_pow ha hb
  have e : ∀ x y : Nat, x + 18446744073709551616 * y = 2 ^ 64 * y + x := fun x y => by omega
  rw [e, e, e]
  refine Nat.eq_of_testBit_eq fun j => ?_
  rw [Nat.testBit_xor, Nat.testBit_two_pow_mul_add _ ha, Nat.testBit_two_pow_mul_add _ hb, Nat.testBit_two_pow_mul_add _ hab]
  split
  · rw [Nat.testBit_xor]
  · rw [Nat.testBit_xor]
theorem shift_part (x p i : Nat) (hx : x < 18446744073709551616) : (x + 18446744073709551616 * p) >>> (64 * (i + 1)) = p >>> (64 * i) := by
  rw [Nat.shiftRight_eq_div_pow, Nat.shiftRight_eq_div_pow, show 64 * (i + 1) = 64 + 64 * i by omega, Nat.pow_add, ← Nat.div_div_eq_div_mul]
  congr 1
  omega
theorem gw_pk : ∀ {l : List Nat}, okw l → ∀ i, gw (pk l) i = l.getD i 0
  | [], _, i => by simp [gw, pk]
  | x :: l, h, 0 => by
    have hx := h x List.mem_cons_self
    show (x + 18446744073709551616 * pk l) >>> 0 % 18446744073709551616 = x
    rw [Nat.shiftRight_zero]; omega
  | x :: l, h, i + 1 => by
    have hx := h x List.mem_cons_self
    show (x + 18446744073709551616 * pk l) >>> (64 * (i + 1)) % 18446744073709551616 = l.getD i 0
    rw [shift_part x _ i hx]
    exact gw_pk (fun y hy => h y (List.mem_cons_of_mem _ hy)) i
theorem shl_part (d i : Nat) : d <<< (64 * (i + 1)) = 0 + 18446744073709551616 * (d <<< (64 * i)) := by
  rw [Nat.shiftLeft_eq, Nat.shiftLeft_eq, show 64 * (i + 1) = 64 + 64 * i by omega, Nat.pow_add, Nat.zero_add, ← Nat.mul_assoc, Nat.mul_comm d, Nat.mul_assoc]
theorem pk_set : ∀ {l : List Nat}, okw l → ∀ (i y : Nat), i < l.length → y < 18446744073709551616 → pk (l.set i y) = pk l ^^^ ((l.getD i 0 ^^^ y) <<< (64 * i))
  | [], _, _, _, hi, _ => absurd hi (by simp)
  | x :: l, h, 0, y, _, hy => by
    have hx := h x List.mem_cons_self
    show y + 18446744073709551616 * pk l = (x + 18446744073709551616 * pk l) ^^^ ((x ^^^ y) <<< 0)
    rw [Nat.shiftLeft_zero, show (x ^^^ y) = (x ^^^ y) + 18446744073709551616 * 0 by omega, xor_parts _ _ hx (Nat.xor_lt_two_pow (n := 64) hx hy), Nat.xor_zero, ← Nat.xor_assoc, Nat.xor_self, Nat.zero_xor]
  | x :: l, h, i + 1, y, hi, hy => by
    have hx := h x List.mem_cons_self
    show x + 18446744073709551616 * pk (l.set i y) = (x + 18446744073709551616 * pk l) ^^^ ((l.getD i 0 ^^^ y) <<< (64 * (i + 1)))
    rw [shl_part, xor_parts _ _ hx (by decide), Nat.xor_zero, pk_set (fun z hz => h z (List.mem_cons_of_mem _ hz)) i y (by simpa using hi) hy]
theorem pk_xor : ∀ {x y : List Nat}, okw x → okw y → x.length = y.length → pk (List.zipWith (· ^^^ ·) x y) = pk x ^^^ pk y
  | [], [], _, _, _ => rfl
  | [], _ :: _, _, _, h => by simp at h
  | _ :: _, [], _, _, h => by simp at h
  | a :: x, b :: y, hx, hy, h => by
    show (a ^^^ b) + 18446744073709551616 * pk (List.zipWith (· ^^^ ·) x y) = (a + 18446744073709551616 * pk x) ^^^ (b + 18446744073709551616 * pk y)
    rw [xor_parts _ _ (hx a List.mem_cons_self) (hy b List.mem_cons_self), pk_xor (fun z hz => hx z (List.mem_cons_of_mem _ hz)) (fun z hz => hy z (List.mem_cons_of_mem _ hz)) (by simpa using h)]
theorem pk_two {x y : List Nat} (hx : okb x) (hy : okb y) : pk (xB [x, y]) = pk x ^^^ pk y := by
  rw [← pk_xor hx.2 hy.2 (hx.1.trans hy.1.symm)]
  congr 1
  refine List.ext_getElem (by simp [xB, tb, hx.1, hy.1]) fun i h1 h2 => ?_
  have hi : i < 128 := by simpa [xB, tb] using h1
  simp [xB, tb, xw, List.getElem?_eq_getElem (show i < x.length by rw [hx.1]; exact hi), List.getElem?_eq_getElem (show i < y.length by rw [hy.1]; exact hi)]
def hfC (a b c d r s : Nat) (k : Nat → Nat → Nat → Nat → Bool) : Bool :=
  fo (prd a b) fun a => fo (rotl 64 (d ^^^ a) r) fun d => fo (prd c d) fun c => fo (rotl 64 (b ^^^ c) s) fun b => k a b c d
def qC (a b c d : Nat) (k : Nat → Nat → Nat → Nat → Bool) : Bool := hfC a b c d 32 40 fun a b c d => hfC a b c d 48 1 k
theorem qC_eq (a b c d : Nat) (k : Nat → Nat → Nat → Nat → Bool) : qC a b c d k = k (quarter ⟨a, b, c, d⟩).a (quarter ⟨a, b, c, d⟩).b (quarter ⟨a, b, c, d⟩).c (quarter ⟨a, b, c, d⟩).d := by
  simp only [qC, hfC, fo_eq]
  rfl
def p16 (v0 v1 v2 v3 v4 v5 v6 v7 v8 v9 v10 v11 v12 v13 v14 v15 : Nat) (k : Nat → Nat → Nat → Nat → Nat → Nat → Nat → Nat → Nat → Nat → Nat → Nat → Nat → Nat → Nat → Nat → Bool) : Bool :=
  qC v0 v4 v8 v12 fun v0 v4 v8 v12 => qC v1 v5 v9 v13 fun v1 v5 v9 v13 => qC v2 v6 v10 v14 fun v2 v6 v10 v14 => qC v3 v7 v11 v15 fun v3 v7 v11 v15 => qC v0 v5 v10 v15 fun v0 v5 v10 v15 => qC v1 v6 v11 v12 fun v1 v6 v11 v12 => qC v2 v7 v8 v13 fun v2 v7 v8 v13 => qC v3 v4 v9 v14 fun v3 v4 v9 v14 => k v0 v1 v2 v3 v4 v5 v6 v7 v8 v9 v10 v11 v12 v13 v14 v15
theorem p16_eq (v0 v1 v2 v3 v4 v5 v6 v7 v8 v9 v10 v11 v12 v13 v14 v15 : Nat) : ∃ w0 w1 w2 w3 w4 w5 w6 w7 w8 w9 w10 w11 w12 w13 w14 w15, perm [v0, v1, v2, v3, v4, v5, v6, v7, v8, v9, v10, v11, v12, v13, v14, v15] = [w0, w1, w2, w3, w4, w5, w6, w7, w8, w9, w10, w11, w12, w13, w14, w15] ∧ ∀ k : Nat → Nat → Nat → Nat → Nat → Nat → Nat → Nat → Nat → Nat → Nat → Nat → Nat → Nat → Nat → Nat → Bool, p16 v0 v1 v2 v3 v4 v5 v6 v7 v8 v9 v10 v11 v12 v13 v14 v15 k = k w0 w1 w2 w3 w4 w5 w6 w7 w8 w9 w10 w11 w12 w13 w14 w15 := by
  obtain ⟨q0, h0⟩ : ∃ q, q = quarter ⟨v0, v4, v8, v12⟩ := ⟨_, rfl⟩
  have e0 : qTo [v0, v1, v2, v3, v4, v5, v6, v7, v8, v9, v10, v11, v12, v13, v14, v15] 1 = [q0.a, v1, v2, v3, q0.b, v5, v6, v7, q0.c, v9, v10, v11, q0.d, v13, v14, v15] := by
    show put4 (qTo _ 0) 0 (quarter (take4 (qTo _ 0) 0)) = _
    rw [show qTo [v0, v1, v2, v3, v4, v5, v6, v7, v8, v9, v10, v11, v12, v13, v14, v15] 0 = [v0, v1, v2, v3, v4, v5, v6, v7, v8, v9, v10, v11, v12, v13, v14, v15] from rfl]
    show put4 _ 0 (quarter ⟨v0, v4, v8, v12⟩) = _
    rw [← h0]; rfl
  obtain ⟨q1, h1⟩ : ∃ q, q = quarter ⟨v1, v5, v9, v13⟩ := ⟨_, rfl⟩
  have e1 : qTo [v0, v1, v2, v3, v4, v5, v6, v7, v8, v9, v10, v11, v12, v13, v14, v15] 2 = [q0.a, q1.a, v2, v3, q0.b, q1.b, v6, v7, q0.c, q1.c, v10, v11, q0.d, q1.d, v14, v15] := by
    show put4 (qTo _ 1) 1 (quarter (take4 (qTo _ 1) 1)) = _
    rw [e0]
    show put4 _ 1 (quarter ⟨v1, v5, v9, v13⟩) = _
    rw [← h1]; rfl
  obtain ⟨q2, h2⟩ : ∃ q, q = quarter ⟨v2, v6, v10, v14⟩ := ⟨_, rfl⟩
  have e2 : qTo [v0, v1, v2, v3, v4, v5, v6, v7, v8, v9, v10, v11, v12, v13, v14, v15] 3 = [q0.a, q1.a, q2.a, v3, q0.b, q1.b, q2.b, v7, q0.c, q1.c, q2.c, v11, q0.d, q1.d, q2.d, v15] := by
    show put4 (qTo _ 2) 2 (quarter (take4 (qTo _ 2) 2)) = _
    rw [e1]
    show put4 _ 2 (quarter ⟨v2, v6, v10, v14⟩) = _
    rw [← h2]; rfl
  obtain ⟨q3, h3⟩ : ∃ q, q = quarter ⟨v3, v7, v11, v15⟩ := ⟨_, rfl⟩
  have e3 : qTo [v0, v1, v2, v3, v4, v5, v6, v7, v8, v9, v10, v11, v12, v13, v14, v15] 4 = [q0.a, q1.a, q2.a, q3.a, q0.b, q1.b, q2.b, q3.b, q0.c, q1.c, q2.c, q3.c, q0.d, q1.d, q2.d, q3.d] := by
    show put4 (qTo _ 3) 3 (quarter (take4 (qTo _ 3) 3)) = _
    rw [e2]
    show put4 _ 3 (quarter ⟨v3, v7, v11, v15⟩) = _
    rw [← h3]; rfl
  obtain ⟨q4, h4⟩ : ∃ q, q = quarter ⟨q0.a, q1.b, q2.c, q3.d⟩ := ⟨_, rfl⟩
  have e4 : qTo [v0, v1, v2, v3, v4, v5, v6, v7, v8, v9, v10, v11, v12, v13, v14, v15] 5 = [q4.a, q1.a, q2.a, q3.a, q0.b, q4.b, q2.b, q3.b, q0.c, q1.c, q4.c, q3.c, q0.d, q1.d, q2.d, q4.d] := by
    show put4 (qTo _ 4) 4 (quarter (take4 (qTo _ 4) 4)) = _
    rw [e3]
    show put4 _ 4 (quarter ⟨q0.a, q1.b, q2.c, q3.d⟩) = _
    rw [← h4]; rfl
  obtain ⟨q5, h5⟩ : ∃ q, q = quarter ⟨q1.a, q2.b, q3.c, q0.d⟩ := ⟨_, rfl⟩
  have e5 : qTo [v0, v1, v2, v3, v4, v5, v6, v7, v8, v9, v10, v11, v12, v13, v14, v15] 6 = [q4.a, q5.a, q2.a, q3.a, q0.b, q4.b, q5.b, q3.b, q0.c, q1.c, q4.c, q5.c, q5.d, q1.d, q2.d, q4.d] := by
    show put4 (qTo _ 5) 5 (quarter (take4 (qTo _ 5) 5)) = _
    rw [e4]
    show put4 _ 5 (quarter ⟨q1.a, q2.b, q3.c, q0.d⟩) = _
    rw [← h5]; rfl
  obtain ⟨q6, h6⟩ : ∃ q, q = quarter ⟨q2.a, q3.b, q0.c, q1.d⟩ := ⟨_, rfl⟩
  have e6 : qTo [v0, v1, v2, v3, v4, v5, v6, v7, v8, v9, v10, v11, v12, v13, v14, v15] 7 = [q4.a, q5.a, q6.a, q3.a, q0.b, q4.b, q5.b, q6.b, q6.c, q1.c, q4.c, q5.c, q5.d, q6.d, q2.d, q4.d] := by
    show put4 (qTo _ 6) 6 (quarter (take4 (qTo _ 6) 6)) = _
    rw [e5]
    show put4 _ 6 (quarter ⟨q2.a, q3.b, q0.c, q1.d⟩) = _
    rw [← h6]; rfl
  obtain ⟨q7, h7⟩ : ∃ q, q = quarter ⟨q3.a, q0.b, q1.c, q2.d⟩ := ⟨_, rfl⟩
  have e7 : qTo [v0, v1, v2, v3, v4, v5, v6, v7, v8, v9, v10, v11, v12, v13, v14, v15] 8 = [q4.a, q5.a, q6.a, q7.a, q7.b, q4.b, q5.b, q6.b, q6.c, q7.c, q4.c, q5.c, q5.d, q6.d, q7.d, q4.d] := by
    show put4 (qTo _ 7) 7 (quarter (take4 (qTo _ 7) 7)) = _
    rw [e6]
    show put4 _ 7 (quarter ⟨q3.a, q0.b, q1.c, q2.d⟩) = _
    rw [← h7]; rfl
  refine ⟨q4.a, q5.a, q6.a, q7.a, q7.b, q4.b, q5.b, q6.b, q6.c, q7.c, q4.c, q5.c, q5.d, q6.d, q7.d, q4.d, e7, fun k => ?_⟩
  unfold p16
  simp only [qC_eq]
  rw [← h0, ← h1, ← h2, ← h3, ← h4, ← h5, ← h6, ← h7]
def lnC (B t i : Nat) (k : Nat → Bool) : Bool :=
  fo (gw B (ats t i 0)) fun v0 => fo (gw B (ats t i 1)) fun v1 => fo (gw B (ats t i 2)) fun v2 => fo (gw B (ats t i 3)) fun v3 => fo (gw B (ats t i 4)) fun v4 => fo (gw B (ats t i 5)) fun v5 => fo (gw B (ats t i 6)) fun v6 => fo (gw B (ats t i 7)) fun v7 => fo (gw B (ats t i 8)) fun v8 => fo (gw B (ats t i 9)) fun v9 => fo (gw B (ats t i 10)) fun v10 => fo (gw B (ats t i 11)) fun v11 => fo (gw B (ats t i 12)) fun v12 => fo (gw B (ats t i 13)) fun v13 => fo (gw B (ats t i 14)) fun v14 => fo (gw B (ats t i 15)) fun v15 => 
  p16 v0 v1 v2 v3 v4 v5 v6 v7 v8 v9 v10 v11 v12 v13 v14 v15 fun w0 w1 w2 w3 w4 w5 w6 w7 w8 w9 w10 w11 w12 w13 w14 w15 =>
  fo (((((((((((((((((B ^^^ ((v0 ^^^ w0) <<< (64 * ats t i 0))) ^^^ ((v1 ^^^ w1) <<< (64 * ats t i 1))) ^^^ ((v2 ^^^ w2) <<< (64 * ats t i 2))) ^^^ ((v3 ^^^ w3) <<< (64 * ats t i 3))) ^^^ ((v4 ^^^ w4) <<< (64 * ats t i 4))) ^^^ ((v5 ^^^ w5) <<< (64 * ats t i 5))) ^^^ ((v6 ^^^ w6) <<< (64 * ats t i 6))) ^^^ ((v7 ^^^ w7) <<< (64 * ats t i 7))) ^^^ ((v8 ^^^ w8) <<< (64 * ats t i 8))) ^^^ ((v9 ^^^ w9) <<< (64 * ats t i 9))) ^^^ ((v10 ^^^ w10) <<< (64 * ats t i 10))) ^^^ ((v11 ^^^ w11) <<< (64 * ats t i 11))) ^^^ ((v12 ^^^ w12) <<< (64 * ats t i 12))) ^^^ ((v13 ^^^ w13) <<< (64 * ats t i 13))) ^^^ ((v14 ^^^ w14) <<< (64 * ats t i 14))) ^^^ ((v15 ^^^ w15) <<< (64 * ats t i 15)))) k
def xrTo (B : Nat) (b v : List Nat) (t i : Nat) : Nat → Nat
  | 0 => B
  | k + 1 => xrTo B b v t i k ^^^ ((b.getD (ats t i k) 0 ^^^ v.getD k 0) <<< (64 * ats t i k))
theorem ats_ne {t i j k : Nat} (hj : j < k) : ats t i j ≠ ats t i k := by unfold ats; split <;> omega
theorem putL_at (b v : List Nat) (t i : Nat) : ∀ k j, k ≤ j → (putL b v t i k).getD (ats t i j) 0 = b.getD (ats t i j) 0
  | 0, _, _ => rfl
  | k + 1, j, h => by
    rw [putL, List.getD_eq_getElem?_getD, List.getElem?_set_ne (ats_ne (by omega)), ← List.getD_eq_getElem?_getD, putL_at b v t i k j (by omega)]
theorem pk_putL {b v : List Nat} (hb : okb b) (hv : okw v) {t i : Nat} (hi : i < 8) : ∀ k, k ≤ 16 → pk (putL b v t i k) = xrTo (pk b) b v t i k
  | 0, _ => rfl
  | k + 1, h => by
    rw [putL, pk_set (putL_ok hb.2 hv t i k) _ _ (by rw [putL_length, hb.1]; exact ats_lt t i k hi (by omega)) (hv.at_ _), putL_at b v t i k k (Nat.le_refl _), pk_putL hb hv hi k (by omega)]
    rfl
theorem lnC_eq {b : List Nat} (hb : okb b) {t i : Nat} (hi : i < 8) (k : Nat → Bool) : lnC (pk b) t i k = k (pk (line b t i)) := by
  have hpo := perm_ok (takL_ok hb.2 t i 16)
  have e : takL b t i 16 = [b.getD (ats t i 0) 0, b.getD (ats t i 1) 0, b.getD (ats t i 2) 0, b.getD (ats t i 3) 0, b.getD (ats t i 4) 0, b.getD (ats t i 5) 0, b.getD (ats t i 6) 0, b.getD (ats t i 7) 0, b.getD (ats t i 8) 0, b.getD (ats t i 9) 0, b.getD (ats t i 10) 0, b.getD (ats t i 11) 0, b.getD (ats t i 12) 0, b.getD (ats t i 13) 0, b.getD (ats t i 14) 0, b.getD (ats t i 15) 0] := rfl
  unfold line
  rw [pk_putL hb hpo hi 16 (Nat.le_refl _)]
  rw [e] at hpo ⊢
  unfold lnC
  simp only [fo_eq, gw_pk hb.2]
  obtain ⟨w0, w1, w2, w3, w4, w5, w6, w7, w8, w9, w10, w11, w12, w13, w14, w15, hp, hk⟩ := p16_eq (b.getD (ats t i 0) 0) (b.getD (ats t i 1) 0) (b.getD (ats t i 2) 0) (b.getD (ats t i 3) 0) (b.getD (ats t i 4) 0) (b.getD (ats t i 5) 0) (b.getD (ats t i 6) 0) (b.getD (ats t i 7) 0) (b.getD (ats t i 8) 0) (b.getD (ats t i 9) 0) (b.getD (ats t i 10) 0) (b.getD (ats t i 11) 0) (b.getD (ats t i 12) 0) (b.getD (ats t i 13) 0) (b.getD (ats t i 14) 0) (b.getD (ats t i 15) 0)
  rw [hp, hk]
  rfl
def linC (B t : Nat) (k : Nat → Bool) : Nat → Bool
  | 0 => k B
  | n + 1 => linC B t (fun B => lnC B t n k) n
theorem linC_eq {b : List Nat} (hb : okb b) (t : Nat) : ∀ n, n ≤ 8 → ∀ k, linC (pk b) t k n = k (pk (linTo b t n))
  | 0, _, _ => rfl
  | n + 1, h, k => by
    rw [linC, linC_eq hb t n (by omega), lnC_eq (linTo_okb hb t n) (by omega)]
    rfl
def mixC (X Y : Nat) (k : Nat → Bool) : Bool := fo (X ^^^ Y) fun R => linC R 0 (fun B => linC B 1 (fun B => fo (B ^^^ R) k) 8) 8
theorem mixC_eq {x y : List Nat} (hx : okb x) (hy : okb y) (k : Nat → Bool) : mixC (pk x) (pk y) k = k (pk (mix x y)) := by
  have hr := xB_ok _ (two_ok hx hy)
  unfold mixC mix
  rw [fo_eq, ← pk_two hx hy, linC_eq hr 0 8 (Nat.le_refl _), linC_eq (linTo_okb hr 0 8) 1 8 (Nat.le_refl _), fo_eq, pk_two (whole_ok hr) hr]
  rfl
end Go.Proofs.YtcbccjcnllifjaaGreatDoor
namespace Go.Proofs.YtcbccjcnllifjaaGreatDoor
set_option maxRecDepth 50000
open Go.RowKit Bl Rot
def bfC (a b c d x r s : Nat) (k : Nat → Nat → Nat → Nat → Bool) : Bool :=
  fo (add a (add b x)) fun a => fo (rotl 64 (d ^^^ a) r) fun d => fo (add c d) fun c => fo (rotl 64 (b ^^^ c) s) fun b => k a b c d
def bqC (a b c d x y : Nat) (k : Nat → Nat → Nat → Nat → Bool) : Bool := bfC a b c d x 32 40 fun a b c d => bfC a b c d y 48 1 k
theorem bqC_eq (a b c d x y : Nat) (k : Nat → Nat → Nat → Nat → Bool) : bqC a b c d x y k = k (quarter ⟨a, b, c, d⟩ x y).a (quarter ⟨a, b, c, d⟩ x y).b (quarter ⟨a, b, c, d⟩ x y).c (quarter ⟨a, b, c, d⟩ x y).d := by
  simp only [bqC, bfC, fo_eq]
  rfl
def r16 (v0 v1 v2 v3 v4 v5 v6 v7 v8 v9 v10 v11 v12 v13 v14 v15 : Nat) (x : Nat → Nat) (k : Nat → Nat → Nat → Nat → Nat → Nat → Nat → Nat → Nat → Nat → Nat → Nat → Nat → Nat → Nat → Nat → Bool) : Bool :=
  bqC v0 v4 v8 v12 (x (2 * 0)) (x (2 * 0 + 1)) fun v0 v4 v8 v12 => bqC v1 v5 v9 v13 (x (2 * 1)) (x (2 * 1 + 1)) fun v1 v5 v9 v13 => bqC v2 v6 v10 v14 (x (2 * 2)) (x (2 * 2 + 1)) fun v2 v6 v10 v14 => bqC v3 v7 v11 v15 (x (2 * 3)) (x (2 * 3 + 1)) fun v3 v7 v11 v15 => bqC v0 v5 v10 v15 (x (2 * 4)) (x (2 * 4 + 1)) fun v0 v5 v10 v15 => bqC v1 v6 v11 v12 (x (2 * 5)) (x (2 * 5 + 1)) fun v1 v6 v11 v12 => bqC v2 v7 v8 v13 (x (2 * 6)) (x (2 * 6 + 1)) fun v2 v7 v8 v13 => bqC v3 v4 v9 v14 (x (2 * 7)) (x (2 * 7 + 1)) fun v3 v4 v9 v14 => k v0 v1 v2 v3 v4 v5 v6 v7 v8 v9 v10 v11 v12 v13 v14 v15
set_option maxHeartbeats 3200000 in
theorem r16_eq (v0 v1 v2 v3 v4 v5 v6 v7 v8 v9 v10 v11 v12 v13 v14 v15 : Nat) (m s : List Nat) : ∃ w0 w1 w2 w3 w4 w5 w6 w7 w8 w9 w10 w11 w12 w13 w14 w15, mixTo [v0, v1, v2, v3, v4, v5, v6, v7, v8, v9, v10, v11, v12, v13, v14, v15] m s 8 = [w0, w1, w2, w3, w4, w5, w6, w7, w8, w9, w10, w11, w12, w13, w14, w15] ∧ ∀ k : Nat → Nat → Nat → Nat → Nat → Nat → Nat → Nat → Nat → Nat → Nat → Nat → Nat → Nat → Nat → Nat → Bool, r16 v0 v1 v2 v3 v4 v5 v6 v7 v8 v9 v10 v11 v12 v13 v14 v15 (fun j => m.getD (s.getD j 0) 0) k = k w0 w1 w2 w3 w4 w5 w6 w7 w8 w9 w10 w11 w12 w13 w14 w15 := by
  obtain ⟨V, hV⟩ : ∃ V, V = [v0, v1, v2, v3, v4, v5, v6, v7, v8, v9, v10, v11, v12, v13, v14, v15] := ⟨_, rfl⟩
  obtain ⟨q0, h0⟩ : ∃ q, q = quarter ⟨v0, v4, v8, v12⟩ (m.getD (s.getD (2 * 0) 0) 0) (m.getD (s.getD (2 * 0 + 1) 0) 0) := ⟨_, rfl⟩
  have e0 : mixTo V m s 1 = [q0.a, v1, v2, v3, q0.b, v5, v6, v7, q0.c, v9, v10, v11, q0.d, v13, v14, v15] := by
    rw [show mixTo V m s 1 = mixAt (mixTo V m s 0) m s 0 from rfl, show mixTo V m s 0 = V from rfl, hV]
    show put4 _ 0 (quarter ⟨v0, v4, v8, v12⟩ (m.getD (s.getD (2 * 0) 0) 0) (m.getD (s.getD (2 * 0 + 1) 0) 0)) = _
    rw [← h0]; rfl
  obtain ⟨q1, h1⟩ : ∃ q, q = quarter ⟨v1, v5, v9, v13⟩ (m.getD (s.getD (2 * 1) 0) 0) (m.getD (s.getD (2 * 1 + 1) 0) 0) := ⟨_, rfl⟩
  have e1 : mixTo V m s 2 = [q0.a, q1.a, v2, v3, q0.b, q1.b, v6, v7, q0.c, q1.c, v10, v11, q0.d, q1.d, v14, v15] := by
    rw [show mixTo V m s 2 = mixAt (mixTo V m s 1) m s 1 from rfl, e0]
    show put4 _ 1 (quarter ⟨v1, v5, v9, v13⟩ (m.getD (s.getD (2 * 1) 0) 0) (m.getD (s.getD (2 * 1 + 1) 0) 0)) = _
    rw [← h1]; rfl
  obtain ⟨q2, h2⟩ : ∃ q, q = quarter ⟨v2, v6, v10, v14⟩ (m.getD (s.getD (2 * 2) 0) 0) (m.getD (s.getD (2 * 2 + 1) 0) 0) := ⟨_, rfl⟩
  have e2 : mixTo V m s 3 = [q0.a, q1.a, q2.a, v3, q0.b, q1.b, q2.b, v7, q0.c, q1.c, q2.c, v11, q0.d, q1.d, q2.d, v15] := by
    rw [show mixTo V m s 3 = mixAt (mixTo V m s 2) m s 2 from rfl, e1]
    show put4 _ 2 (quarter ⟨v2, v6, v10, v14⟩ (m.getD (s.getD (2 * 2) 0) 0) (m.getD (s.getD (2 * 2 + 1) 0) 0)) = _
    rw [← h2]; rfl
  obtain ⟨q3, h3⟩ : ∃ q, q = quarter ⟨v3, v7, v11, v15⟩ (m.getD (s.getD (2 * 3) 0) 0) (m.getD (s.getD (2 * 3 + 1) 0) 0) := ⟨_, rfl⟩
  have e3 : mixTo V m s 4 = [q0.a, q1.a, q2.a, q3.a, q0.b, q1.b, q2.b, q3.b, q0.c, q1.c, q2.c, q3.c, q0.d, q1.d, q2.d, q3.d] := by
    rw [show mixTo V m s 4 = mixAt (mixTo V m s 3) m s 3 from rfl, e2]
    show put4 _ 3 (quarter ⟨v3, v7, v11, v15⟩ (m.getD (s.getD (2 * 3) 0) 0) (m.getD (s.getD (2 * 3 + 1) 0) 0)) = _
    rw [← h3]; rfl
  obtain ⟨q4, h4⟩ : ∃ q, q = quarter ⟨q0.a, q1.b, q2.c, q3.d⟩ (m.getD (s.getD (2 * 4) 0) 0) (m.getD (s.getD (2 * 4 + 1) 0) 0) := ⟨_, rfl⟩
  have e4 : mixTo V m s 5 = [q4.a, q1.a, q2.a, q3.a, q0.b, q4.b, q2.b, q3.b, q0.c, q1.c, q4.c, q3.c, q0.d, q1.d, q2.d, q4.d] := by
    rw [show mixTo V m s 5 = mixAt (mixTo V m s 4) m s 4 from rfl, e3]
    show put4 _ 4 (quarter ⟨q0.a, q1.b, q2.c, q3.d⟩ (m.getD (s.getD (2 * 4) 0) 0) (m.getD (s.getD (2 * 4 + 1) 0) 0)) = _
    rw [← h4]; rfl
  obtain ⟨q5, h5⟩ : ∃ q, q = quarter ⟨q1.a, q2.b, q3.c, q0.d⟩ (m.getD (s.getD (2 * 5) 0) 0) (m.getD (s.getD (2 * 5 + 1) 0) 0) := ⟨_, rfl⟩
  have e5 : mixTo V m s 6 = [q4.a, q5.a, q2.a, q3.a, q0.b, q4.b, q5.b, q3.b, q0.c, q1.c, q4.c, q5.c, q5.d, q1.d, q2.d, q4.d] := by
    rw [show mixTo V m s 6 = mixAt (mixTo V m s 5) m s 5 from rfl, e4]
    show put4 _ 5 (quarter ⟨q1.a, q2.b, q3.c, q0.d⟩ (m.getD (s.getD (2 * 5) 0) 0) (m.getD (s.getD (2 * 5 + 1) 0) 0)) = _
    rw [← h5]; rfl
  obtain ⟨q6, h6⟩ : ∃ q, q = quarter ⟨q2.a, q3.b, q0.c, q1.d⟩ (m.getD (s.getD (2 * 6) 0) 0) (m.getD (s.getD (2 * 6 + 1) 0) 0) := ⟨_, rfl⟩
  have e6 : mixTo V m s 7 = [q4.a, q5.a, q6.a, q3.a, q0.b, q4.b, q5.b, q6.b, q6.c, q1.c, q4.c, q5.c, q5.d, q6.d, q2.d, q4.d] := by
    rw [show mixTo V m s 7 = mixAt (mixTo V m s 6) m s 6 from rfl, e5]
    show put4 _ 6 (quarter ⟨q2.a, q3.b, q0.c, q1.d⟩ (m.getD (s.getD (2 * 6) 0) 0) (m.getD (s.getD (2 * 6 + 1) 0) 0)) = _
    rw [← h6]; rfl
  obtain ⟨q7, h7⟩ : ∃ q, q = quarter ⟨q3.a, q0.b, q1.c, q2.d⟩ (m.getD (s.getD (2 * 7) 0) 0) (m.getD (s.getD (2 * 7 + 1) 0) 0) := ⟨_, rfl⟩
  have e7 : mixTo V m s 8 = [q4.a, q5.a, q6.a, q7.a, q7.b, q4.b, q5.b, q6.b, q6.c, q7.c, q4.c, q5.c, q5.d, q6.d, q7.d, q4.d] := by
    rw [show mixTo V m s 8 = mixAt (mixTo V m s 7) m s 7 from rfl, e6]
    show put4 _ 7 (quarter ⟨q3.a, q0.b, q1.c, q2.d⟩ (m.getD (s.getD (2 * 7) 0) 0) (m.getD (s.getD (2 * 7 + 1) 0) 0)) = _
    rw [← h7]; rfl
  rw [← hV]
  refine ⟨q4.a, q5.a, q6.a, q7.a, q7.b, q4.b, q5.b, q6.b, q6.c, q7.c, q4.c, q5.c, q5.d, q6.d, q7.d, q4.d, e7, fun k => ?_⟩
  unfold r16
  simp only [bqC_eq]
  rw [← h0, ← h1, ← h2, ← h3, ← h4, ← h5, ← h6, ← h7]
def rdC (V M : Nat) (s : List Nat) (k : Nat → Bool) : Bool :=
  fo (gw V 0) fun v0 => fo (gw V 1) fun v1 => fo (gw V 2) fun v2 => fo (gw V 3) fun v3 => fo (gw V 4) fun v4 => fo (gw V 5) fun v5 => fo (gw V 6) fun v6 => fo (gw V 7) fun v7 => fo (gw V 8) fun v8 => fo (gw V 9) fun v9 => fo (gw V 10) fun v10 => fo (gw V 11) fun v11 => fo (gw V 12) fun v12 => fo (gw V 13) fun v13 => fo (gw V 14) fun v14 => fo (gw V 15) fun v15 => 
  r16 v0 v1 v2 v3 v4 v5 v6 v7 v8 v9 v10 v11 v12 v13 v14 v15 (fun j => gw M (s.getD j 0)) fun w0 w1 w2 w3 w4 w5 w6 w7 w8 w9 w10 w11 w12 w13 w14 w15 =>
  fo (pk [w0, w1, w2, w3, w4, w5, w6, w7, w8, w9, w10, w11, w12, w13, w14, w15]) k
theorem rdC_eq {v m : List Nat} (hv : v.length = 16) (hvo : okw v) (hm : okw m) (s : List Nat) (k : Nat → Bool) : rdC (pk v) (pk m) s k = k (pk (mixTo v m s 8)) := by
  have hm' : (fun j => gw (pk m) (s.getD j 0)) = fun j => m.getD (s.getD j 0) 0 := funext fun j => gw_pk hm _
  unfold rdC
  simp only [fo_eq, gw_pk hvo, hm']
  match v, hv with
  | [v0, v1, v2, v3, v4, v5, v6, v7, v8, v9, v10, v11, v12, v13, v14, v15], _ =>
    obtain ⟨w0, w1, w2, w3, w4, w5, w6, w7, w8, w9, w10, w11, w12, w13, w14, w15, e, h⟩ := r16_eq v0 v1 v2 v3 v4 v5 v6 v7 v8 v9 v10 v11 v12 v13 v14 v15 m s
    rw [e]
    exact h _
def rsC (V M : Nat) (k : Nat → Bool) : Nat → Bool
  | 0 => k V
  | r + 1 => rsC V M (fun V => rdC V M (order r) k) r
theorem rounds_ok {v m : List Nat} (hv : v.length = 16) (hvo : okw v) : ∀ r, (roundsTo v m r).length = 16 ∧ okw (roundsTo v m r)
  | 0 => ⟨hv, hvo⟩
  | r + 1 => ⟨by rw [roundsTo, mixTo_length]; exact (rounds_ok hv hvo r).1, mixTo_ok (rounds_ok hv hvo r).2 _ _ 8⟩
theorem rsC_eq {v m : List Nat} (hv : v.length = 16) (hvo : okw v) (hm : okw m) : ∀ r k, rsC (pk v) (pk m) k r = k (pk (roundsTo v m r))
  | 0, _ => rfl
  | r + 1, k => by
    rw [rsC, rsC_eq hv hvo hm r, rdC_eq (rounds_ok hv hvo r).1 (rounds_ok hv hvo r).2 hm]
    rfl
def cpC (H M t : Nat) (last : Bool) (k : Nat → Bool) : Bool :=
  fo (pk (Bl.start [gw H 0, gw H 1, gw H 2, gw H 3, gw H 4, gw H 5, gw H 6, gw H 7] t last)) fun V => rsC V M (fun V => fo (H ^^^ ((V % 256 ^ 64) ^^^ (V / 256 ^ 64))) k) 12
theorem pk_append : ∀ a b : List Nat, pk (a ++ b) = pk a + 256 ^ (8 * a.length) * pk b
  | [], b => by simp [pk]
  | x :: a, b => by
    show x + 18446744073709551616 * pk (a ++ b) = x + 18446744073709551616 * pk a + 256 ^ (8 * (a.length + 1)) * pk b
    rw [pk_append a b, Nat.mul_add, show 8 * (a.length + 1) = 8 + 8 * a.length by omega, Nat.pow_add, Nat.mul_assoc, Nat.add_assoc]
theorem pk_lt : ∀ {a : List Nat}, okw a → pk a < 256 ^ (8 * a.length)
  | [], _ => by simp [pk]
  | x :: a, h => by
    have hx := h x List.mem_cons_self
    have ih := pk_lt (a := a) fun y hy => h y (List.mem_cons_of_mem _ hy)
    show x + 18446744073709551616 * pk a < 256 ^ (8 * (a.length + 1))
    rw [show 8 * (a.length + 1) = 8 + 8 * a.length by omega, Nat.pow_add]
    generalize 256 ^ (8 * a.length) = Y at *
    omega
theorem fold8_zip {h v : List Nat} (hh : h.length = 8) (hv : v.length = 16) : List.zipWith (· ^^^ ·) h (List.zipWith (· ^^^ ·) (v.take 8) (v.drop 8)) = fold8 h v 8 := by
  match h, hh, v, hv with
  | [h0, h1, h2, h3, h4, h5, h6, h7], _, [v0, v1, v2, v3, v4, v5, v6, v7, v8, v9, v10, v11, v12, v13, v14, v15], _ => simp [fold8]
theorem zip_ok {a b : List Nat} (ha : okw a) (hb : okw b) : okw (List.zipWith (· ^^^ ·) a b) := fun x hx => by
  obtain ⟨i, hi, rfl⟩ := List.getElem_of_mem hx
  rw [List.getElem_zipWith]
  exact xor_lt64 _ _ (ha _ (List.getElem_mem _)) (hb _ (List.getElem_mem _))
theorem cpC_eq {h m : List Nat} (hh : h.length = 8) (hho : okw h) (hm : okw m) {t : Nat} (ht : t < 18446744073709551616) (last : Bool) (k : Nat → Bool) : cpC (pk h) (pk m) t last k = k (pk (comp h m t last)) := by
  unfold cpC comp
  have e8 : [gw (pk h) 0, gw (pk h) 1, gw (pk h) 2, gw (pk h) 3, gw (pk h) 4, gw (pk h) 5, gw (pk h) 6, gw (pk h) 7] = h := by
    simp only [gw_pk hho]
    match h, hh with
    | [h0, h1, h2, h3, h4, h5, h6, h7], _ => rfl
  have s1 := start_length h hh t last
  have s2 := start_ok hho ht last
  rw [e8, fo_eq, rsC_eq s1 s2 hm, fo_eq]
  obtain ⟨r1, r2⟩ := rounds_ok (m := m) s1 s2 12
  generalize roundsTo (Bl.start h t last) m 12 = v at *
  congr 1
  have hs : v = v.take 8 ++ v.drop 8 := (List.take_append_drop 8 v).symm
  have ht8 : (v.take 8).length = 8 := by rw [List.length_take]; omega
  have hto : okw (v.take 8) := fun x hx => r2 x (List.mem_of_mem_take hx)
  have hdo : okw (v.drop 8) := fun x hx => r2 x (List.mem_of_mem_drop hx)
  have hlt := pk_lt hto
  rw [ht8, show 8 * 8 = 64 from rfl] at hlt
  have hp : pk v = pk (v.take 8) + 256 ^ 64 * pk (v.drop 8) := by
    have := pk_append (v.take 8) (v.drop 8)
    rwa [List.take_append_drop, ht8, show 8 * 8 = 64 from rfl] at this
  have e1 : pk v % 256 ^ 64 = pk (v.take 8) := by rw [hp, Nat.add_mul_mod_self_left, Nat.mod_eq_of_lt hlt]
  have e2 : pk v / 256 ^ 64 = pk (v.drop 8) := by rw [hp, Nat.add_mul_div_left _ _ (Nat.pow_pos (by decide)), Nat.div_eq_of_lt hlt, Nat.zero_add]
  rw [e1, e2, ← pk_xor hto hdo (by rw [ht8, List.length_drop]; omega), ← pk_xor hho (zip_ok hto hdo) (by rw [List.length_zipWith, ht8, List.length_drop]; omega)]
  congr 1
  exact fold8_zip hh r1
end Go.Proofs.YtcbccjcnllifjaaGreatDoor
namespace Go.Proofs.YtcbccjcnllifjaaGreatDoor
set_option maxRecDepth 50000
open Go.RowKit Bl Bb
def nmN : List Nat → Nat
  | [] => 0
  | x :: l => x + 256 * nmN l
def nm (X : List UInt8) : Nat := nmN (nats X)
theorem nmN_append : ∀ a b : List Nat, nmN (a ++ b) = nmN a + 256 ^ a.length * nmN b
  | [], b => by simp [nmN]
  | x :: a, b => by
    show x + 256 * nmN (a ++ b) = x + 256 * nmN a + 256 ^ (a.length + 1) * nmN b
    rw [nmN_append a b, Nat.mul_add, Nat.pow_succ, Nat.mul_comm (256 ^ a.length) 256, Nat.mul_assoc, Nat.add_assoc]
theorem nmN_lt : ∀ {a : List Nat}, (∀ x ∈ a, x < 256) → nmN a < 256 ^ a.length
  | [], _ => by simp [nmN]
  | x :: a, h => by
    have hx := h x List.mem_cons_self
    have ih := nmN_lt (a := a) fun y hy => h y (List.mem_cons_of_mem _ hy)
    show x + 256 * nmN a < 256 ^ (a.length + 1)
    rw [Nat.pow_succ]
    generalize 256 ^ a.length = Y at *
    omega
theorem nm_append (a b : List UInt8) : nm (a ++ b) = nm a + 256 ^ a.length * nm b := by
  unfold nm nats
  rw [List.map_append, nmN_append, List.length_map]
theorem nm_lt (a : List UInt8) : nm a < 256 ^ a.length := by
  have := nmN_lt (nats_lt a)
  rwa [nats_length] at this
theorem nm_take (a : List UInt8) (n : Nat) (hn : n ≤ a.length) : nm (a.take n) = nm a % 256 ^ n := by
  have h := nm_append (a.take n) (a.drop n)
  have hl : (a.take n).length = n := by rw [List.length_take]; omega
  have hlt := nm_lt (a.take n)
  rw [hl] at hlt
  rw [List.take_append_drop, hl] at h
  rw [h, Nat.add_mul_mod_self_left, Nat.mod_eq_of_lt hlt]
theorem nm_drop (a : List UInt8) (n : Nat) (hn : n ≤ a.length) : nm (a.drop n) = nm a / 256 ^ n := by
  have h := nm_append (a.take n) (a.drop n)
  have hl : (a.take n).length = n := by rw [List.length_take]; omega
  have hlt := nm_lt (a.take n)
  rw [hl] at hlt
  rw [List.take_append_drop, hl] at h
  rw [h, Nat.add_mul_div_left _ _ (Nat.pow_pos (by decide)), Nat.div_eq_of_lt hlt, Nat.zero_add]
theorem nm_inj : ∀ {a b : List UInt8}, a.length = b.length → nm a = nm b → a = b
  | [], [], _, _ => rfl
  | [], _ :: _, h, _ => by simp at h
  | _ :: _, [], h, _ => by simp at h
  | x :: a, y :: b, h, e => by
    have e : x.toNat + 256 * nm a = y.toNat + 256 * nm b := e
    have hx := x.toNat_lt
    have hy := y.toNat_lt
    have h1 : x.toNat = y.toNat := by omega
    have h2 : nm a = nm b := by omega
    rw [UInt8.toNat_inj.1 h1, nm_inj (by simpa using h) h2]
theorem nm_zeros (k : Nat) : nm (List.replicate k 0) = 0 := by
  induction k with
  | zero => rfl
  | succ k ih =>
    show (0 : UInt8).toNat + 256 * nm (List.replicate k 0) = 0
    rw [ih]; rfl
theorem nm_fill (l : List UInt8) : nm (fill128 l) = nm l := by rw [fill128, nm_append, nm_zeros, Nat.mul_zero, Nat.add_zero]
theorem nmN_word {x : Nat} (hx : x < 18446744073709551616) : nmN (bytesOf ups 8 x) = x := by
  show x / 2 ^ 0 % 256 + 256 * (x / 2 ^ 8 % 256 + 256 * (x / 2 ^ 16 % 256 + 256 * (x / 2 ^ 24 % 256 + 256 * (x / 2 ^ 32 % 256 + 256 * (x / 2 ^ 40 % 256 + 256 * (x / 2 ^ 48 % 256 + 256 * (x / 2 ^ 56 % 256 + 256 * 0))))))) = x
  omega
theorem nmN_four {x : Nat} (hx : x < 4294967296) : nmN (bytesOf ups 4 x) = x := by
  show x / 2 ^ 0 % 256 + 256 * (x / 2 ^ 8 % 256 + 256 * (x / 2 ^ 16 % 256 + 256 * (x / 2 ^ 24 % 256 + 256 * 0))) = x
  omega
theorem nmN_flat : ∀ {L : List Nat}, (∀ x ∈ L, x < 18446744073709551616) → nmN (L.flatMap (bytesOf ups 8)) = pk L
  | [], _ => rfl
  | x :: L, h => by
    rw [List.flatMap_cons, nmN_append, nmN_word (h x List.mem_cons_self), nmN_flat fun y hy => h y (List.mem_cons_of_mem _ hy), bytesOf_length]
    rfl
theorem nats_bytes {l : List Nat} (h : ∀ x ∈ l, x < 256) : nats (bytesL l) = l := by
  unfold nats bytesL
  rw [List.map_map]
  refine (List.map_congr_left fun x hx => ?_).trans (List.map_id l)
  have := h x hx
  show (UInt8.ofNat x).toNat = x
  rw [UInt8.toNat_ofNat']; omega
theorem nm_lead {n : Nat} (hn : n < 4294967296) : nm (lead n) = n := by
  unfold nm lead
  rw [nats_bytes (bytesOf_lt _ _ _), nmN_four hn]
theorem nm_out {st : List Nat} (h : okw st) : nm (outL st) = pk st := by
  unfold nm outL
  rw [nats_bytes (flat8_lt st), nmN_flat h]
theorem pk_block {bs : List Nat} (hl : bs.length = 128) (hx : ∀ x ∈ bs, x < 256) : pk (blockW bs) = nmN bs := by
  rw [← nmN_flat (blockW_ok bs hx)]
  exact congrArg nmN (bytes_words 16 bs (by omega) hx)
theorem pk_frB {bs : List Nat} (hl : bs.length = 1024) (hx : ∀ x ∈ bs, x < 256) : pk (frB bs) = nmN bs := by
  rw [← nmN_flat (frB_ok bs hx).2]
  exact congrArg nmN (bytes_words 128 bs (by omega) hx)
theorem blocks_atA : ∀ (z : Nat) (X : List UInt8) (j : Nat), j < z → (blocksOf z X).getD j [] = (X.drop (128 * j)).take 128
  | 0, _, _, h => absurd h (by omega)
  | z + 1, X, 0, _ => rfl
  | z + 1, X, j + 1, h => by
    show (blocksOf z (X.drop 128)).getD j [] = _
    rw [blocks_atA z _ j (by omega), List.drop_drop, show 128 + 128 * j = 128 * (j + 1) by omega]
def skC (H N : Nat) (k : Nat → Bool) : Nat → Bool
  | 0 => k H
  | j + 1 => skC H N (fun H => fo ((N / 256 ^ (128 * j)) % 256 ^ 128) fun M => cpC H M (128 * (j + 1)) false k) j
theorem skC_eq {s0 : List Nat} (hs : s0.length = 8 ∧ okw s0) (X : List UInt8) (z : Nat) (hz : z * 128 ≤ X.length) (hX : X.length ≤ 100000) : ∀ j, j ≤ z → ∀ k, skC (pk s0) (nm X) k j = k (pk (stN s0 (blocksOf z X) j))
  | 0, _, _ => rfl
  | j + 1, hj, k => by
    have h1 := stN_ok hs (blocksOf z X) j (by omega)
    have hd : ((X.drop (128 * j)).take 128).length = 128 := by rw [List.length_take, List.length_drop]; omega
    have e : nm X / 256 ^ (128 * j) % 256 ^ 128 = pk (blockW (nats ((X.drop (128 * j)).take 128))) := by
      rw [pk_block (by rw [nats_length, hd]) (nats_lt _)]
      show _ = nm _
      rw [nm_take _ _ (by rw [List.length_drop]; omega), nm_drop _ _ (by omega)]
    rw [skC, skC_eq hs X z hz hX j (by omega), fo_eq, e, cpC_eq h1.1 h1.2 (blockW_ok _ (nats_lt _)) (by omega), stN, blocks_atA z X j (by omega)]
def smC (n len N : Nat) (k : Nat → Bool) : Bool :=
  skC (pk (h0 0 n)) N (fun H => fo (N / 256 ^ (128 * ((len - 1) / 128))) fun M => cpC H M len true fun S => fo (S % 256 ^ n) k) ((len - 1) / 128)
theorem smC_eq {n : Nat} (hn : n ≤ 64) (X : List UInt8) (hX : X.length ≤ 100000) (k : Nat → Bool) : smC n X.length (nm X) k = k (nm (blkL 0 n X)) := by
  have hs := h0_ok 0 n (by decide) hn
  have hz : lz X * 128 ≤ X.length := by unfold lz; omega
  have h1 := stN_ok hs (blocksOf (lz X) X) (lz X) (by unfold lz; omega)
  have hr : (X.drop (lz X * 128)).length ≤ 128 := by rw [List.length_drop]; unfold lz; omega
  have hf : (fill128 (X.drop (lz X * 128))).length = 128 := fill128_length _ hr
  have e : nm X / 256 ^ (128 * lz X) = pk (blockW (nats (fill128 (X.drop (lz X * 128))))) := by
    rw [pk_block (by rw [nats_length, hf]) (nats_lt _)]
    show _ = nm _
    rw [nm_fill, nm_drop _ _ hz, Nat.mul_comm]
  have hc : (blkSt 0 n X).length = 8 ∧ okw (blkSt 0 n X) := ⟨(comp_length _ _ _ _).trans h1.1, comp_ok h1.2 _ (by omega) _⟩
  show skC (pk (h0 0 n)) (nm X) _ (lz X) = _
  rw [skC_eq hs X (lz X) hz hX (lz X) (Nat.le_refl _)]
  show fo (nm X / 256 ^ (128 * lz X)) _ = _
  rw [fo_eq, e, cpC_eq h1.1 h1.2 (blockW_ok _ (nats_lt _)) (by omega), fo_eq]
  show k (pk (blkSt 0 n X) % 256 ^ n) = _
  rw [← nm_out hc.2, ← nm_take _ _ (by rw [outL_length _ hc.1]; exact hn)]
  rfl
def lgC (n len N : Nat) (k : Nat → Nat → Bool) : Nat → Bool
  | 0 => smC (min n 64) len N fun V => k 0 V
  | j + 1 => lgC n len N (fun O V => fo (O + 256 ^ (32 * j) * (V % 256 ^ 32)) fun O => smC (min (n - 32 * (j + 1)) 64) (min (n - 32 * j) 64) V fun V => k O V) j
theorem lgC_eq {n : Nat} (hn : n < 4294967296) (X : List UInt8) (hX : X.length ≤ 90000) : ∀ j, j ≤ hN n → ∀ k, lgC n (X.length + 4) (n + 4294967296 * nm X) k j = k (nm (oN n X j)) (nm (vN n X j))
  | 0, _, k => by
    have h := smC_eq (n := min n 64) (Nat.min_le_right _ _) (lead n ++ X) (by rw [List.length_append, lead_length]; omega) fun V => k 0 V
    rw [nm_append, nm_lead hn, lead_length, List.length_append, lead_length, Nat.add_comm 4] at h
    exact h
  | j + 1, hj, k => by
    have hm := hN_more n j (by omega)
    have hv := vN_length n X (by omega) j
    have ho := oN_length n X (by omega) j (by omega)
    have h := fun O => smC_eq (n := min (n - 32 * (j + 1)) 64) (Nat.min_le_right _ _) (vN n X j) (by rw [hv]; omega) fun V => k O V
    rw [hv] at h
    rw [lgC, lgC_eq hn X hX j (by omega), fo_eq, h, oN, nm_append, ho, nm_take _ _ (by rw [hv]; omega)]
    rfl
def loC (n len N : Nat) (k : Nat → Bool) : Bool := lgC n (len + 4) (n + 4294967296 * N) (fun O V => fo (O + 256 ^ (32 * hN n) * V) k) (hN n)
theorem loC_eq {n : Nat} (hn : n < 4294967296) (X : List UInt8) (hX : X.length ≤ 90000) (k : Nat → Bool) : loC n X.length (nm X) k = k (nm (longL n X)) := by
  unfold loC longL
  rw [lgC_eq hn X hX (hN n) (Nat.le_refl _), fo_eq, nm_append, oN_length n X (by omega) _ (Nat.le_refl _)]
end Go.Proofs.YtcbccjcnllifjaaGreatDoor

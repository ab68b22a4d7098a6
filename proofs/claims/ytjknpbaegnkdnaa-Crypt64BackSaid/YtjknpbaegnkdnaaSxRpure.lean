/- The document's bits, purely: lists of 0 and 1, and what stands in them. No condition. -/
import Derived.Test.YtjknpbaegnkdnaaSxDec
namespace Go.Proofs.Ytjknpbaegnkdnaa
set_option maxRecDepth 50000
open Go.RowKit Sx

namespace Sx
theorem dgs_more (w n V : Nat) : ∀ m x, x < 2 ^ (w * m) → dgs w (n + m) (V * 2 ^ (w * m) + x) = dgs w n V ++ dgs w m x
  | 0, x, h => by
    have : x = 0 := by simpa using h
    subst this
    simp [dgs]
  | m + 1, x, h => by
    have e : 2 ^ (w * (m + 1)) = 2 ^ w * 2 ^ (w * m) := by rw [Nat.mul_add, Nat.mul_one, Nat.add_comm, Nat.pow_add]
    have hp := Nat.two_pow_pos w
    rw [← Nat.add_assoc, dgs_succ, dgs_succ w m x]
    have e1 : (V * 2 ^ (w * (m + 1)) + x) / 2 ^ w = V * 2 ^ (w * m) + x / 2 ^ w := by
      rw [e, show V * (2 ^ w * 2 ^ (w * m)) = 2 ^ w * (V * 2 ^ (w * m)) by rw [← Nat.mul_assoc, Nat.mul_comm V, Nat.mul_assoc], Nat.mul_add_div hp]
    have e2 : (V * 2 ^ (w * (m + 1)) + x) % 2 ^ w = x % 2 ^ w := by
      rw [e, show V * (2 ^ w * 2 ^ (w * m)) = 2 ^ w * (V * 2 ^ (w * m)) by rw [← Nat.mul_assoc, Nat.mul_comm V, Nat.mul_assoc], Nat.mul_add_mod]
    rw [e1, e2, dgs_more w n V m (x / 2 ^ w) (by rw [Nat.div_lt_iff_lt_mul hp, Nat.mul_comm, ← e]; exact h), List.append_assoc]
/-- the bits of numbers of w bits each -/
def bt (w : Nat) (vs : List Nat) : List Nat := vs.flatMap (dgs 1 w)
theorem bt_snoc (w : Nat) (vs : List Nat) (v : Nat) : bt w (vs ++ [v]) = bt w vs ++ dgs 1 w v := by simp [bt]
theorem bt_length (w : Nat) (vs : List Nat) : (bt w vs).length = w * vs.length := by
  induction vs using snoc_ind with
  | h0 => simp [bt]
  | h1 l x ih => rw [bt_snoc, List.length_append, ih, dgs_length, List.length_append, List.length_singleton, Nat.mul_add, Nat.mul_one]
theorem bt_lt (w : Nat) (vs : List Nat) : ∀ x ∈ bt w vs, x < 2 := by
  intro x hx
  obtain ⟨v, _, hv⟩ := List.mem_flatMap.1 hx
  exact dgs_lt 1 w v x hv
theorem bt_is (w : Nat) (vs : List Nat) : (∀ x ∈ vs, x < 2 ^ w) → bt w vs = dgs 1 (w * vs.length) (vl w vs) := by
  induction vs using snoc_ind with
  | h0 => intro _; rfl
  | h1 l x ih =>
    intro h
    have h1 := ih fun y hy => h y (by simp [hy])
    have h2 := h x (by simp)
    rw [bt_snoc, h1, vl_snoc, List.length_append, List.length_singleton, Nat.mul_add, Nat.mul_one]
    have := dgs_more 1 (w * l.length) (vl w l) w x (by rwa [Nat.one_mul])
    rw [Nat.one_mul] at this
    exact this.symm
/-- so many bits from a place on, as a number; beyond the end they are 0 -/
def nb (bs : List Nat) (from_ : Nat) : Nat → Nat
  | 0 => 0
  | m + 1 => 2 * nb bs from_ m + bs.getD (from_ + m) 0
theorem getD_lt {bs : List Nat} (h : ∀ x ∈ bs, x < 2) (j : Nat) : bs.getD j 0 < 2 := by
  rw [List.getD_eq_getElem?_getD]
  by_cases hj : j < bs.length
  · rw [List.getElem?_eq_getElem hj]; exact h _ (List.getElem_mem hj)
  · rw [List.getElem?_eq_none (by omega)]; decide
theorem nb_lt {bs : List Nat} (h : ∀ x ∈ bs, x < 2) (i : Nat) : ∀ m, nb bs i m < 2 ^ m
  | 0 => by simp [nb]
  | m + 1 => by
    have h1 := nb_lt h i m
    have h2 := getD_lt h (i + m)
    rw [nb, Nat.pow_succ]; omega
theorem nb_dgs (T V i : Nat) : ∀ m, i + m ≤ T → nb (dgs 1 T V) i m = V / 2 ^ (T - i - m) % 2 ^ m
  | 0, _ => by simp [nb, Nat.mod_one]
  | m + 1, h => by
    have e : (dgs 1 T V).getD (i + m) 0 = V / 2 ^ (T - i - (m + 1)) % 2 := by
      unfold dgs dg
      rw [List.getD_eq_getElem?_getD, List.getElem?_eq_getElem (by simp; omega)]
      simp only [List.getElem_map, List.getElem_range, Option.getD_some, Nat.one_mul, Nat.pow_one]
      congr 3
      omega
    obtain ⟨a, ha⟩ : ∃ a, a = T - i - (m + 1) := ⟨_, rfl⟩
    rw [← ha] at e
    have e3 : 2 ^ (m + 1) = 2 * 2 ^ m := by rw [Nat.pow_succ, Nat.mul_comm]
    have e4 : 2 ^ (a + 1) = 2 ^ a * 2 := Nat.pow_succ ..
    rw [nb, nb_dgs T V i m (by omega), e, ← ha, show T - i - m = a + 1 by omega, e4, ← Nat.div_div_eq_div_mul, e3, Nat.mod_mul, Nat.add_comm]
theorem nb_pad (bs : List Nat) (p i : Nat) : ∀ m, nb (bs ++ List.replicate p 0) i m = nb bs i m
  | 0 => rfl
  | m + 1 => by
    have e : (bs ++ List.replicate p 0).getD (i + m) 0 = bs.getD (i + m) 0 := by
      rw [List.getD_eq_getElem?_getD, List.getD_eq_getElem?_getD]
      by_cases hj : i + m < bs.length
      · rw [List.getElem?_append_left hj]
      · rw [List.getElem?_append_right (by omega), List.getElem?_eq_none (show bs.length ≤ i + m by omega), List.getElem?_replicate]
        split <;> rfl
    rw [nb, nb_pad bs p i m, e, nb]
theorem dgs_zero (w n : Nat) : dgs w n 0 = List.replicate n 0 := by
  unfold dgs dg
  apply List.ext_getElem
  · simp
  · intro i h1 h2; simp
/-- the bits of bytes -/
def bb (l : List UInt8) : List Nat := bt 8 (l.map UInt8.toNat)
theorem bb_length (l : List UInt8) : (bb l).length = 8 * l.length := by unfold bb; rw [bt_length, List.length_map]
theorem bb_snoc (l : List UInt8) (x : UInt8) : bb (l ++ [x]) = bb l ++ dgs 1 8 x.toNat := by unfold bb; rw [List.map_append, List.map_singleton, bt_snoc]
theorem bb_gr (l : List UInt8) (i : Nat) (h : 6 * i < 8 * l.length) : nb (bb l) (6 * i) 6 = gr l i := by
  have e := bt_is 8 (l.map UInt8.toNat) (bytes_lt l)
  rw [List.length_map] at e
  have e2 := dgs_more 1 (8 * l.length) (bv l) 6 0 (by decide)
  rw [Nat.add_zero, dgs_zero] at e2
  rw [← nb_pad (bb l) 6]
  show nb (bt 8 (l.map UInt8.toNat) ++ _) _ _ = _
  rw [e]
  show nb (dgs 1 (8 * l.length) (bv l) ++ _) _ _ = _
  rw [← e2, nb_dgs _ _ _ _ (by omega)]
  unfold gr
  rw [show 8 * l.length + 6 - 6 * i - 6 = 8 * l.length - 6 * i by omega]
  rfl
theorem bt_dec (vs : List Nat) (hv : ∀ x ∈ vs, x < 64) (j : Nat) (h : 8 * j + 8 ≤ 6 * vs.length) : nb (bt 6 vs) (8 * j) 8 = vl 6 vs / 2 ^ (6 * vs.length - 8 * j - 8) % 256 := by
  rw [bt_is 6 vs hv, nb_dgs _ _ _ _ (by omega)]
/-- the first bits of a number of w bits -/
theorem dgs_next (w x j : Nat) (h : j < w) : (dgs 1 w x).take (j + 1) = (dgs 1 w x).take j ++ [x / (2 ^ (w - 1) / 2 ^ j) % 2] := by
  have hl : j < (dgs 1 w x).length := by rw [dgs_length]; exact h
  rw [List.take_succ_eq_append_getElem hl]
  congr 2
  unfold dgs dg
  simp only [List.getElem_map, List.getElem_range, Nat.one_mul, Nat.pow_one]
  rw [Nat.pow_div (by omega) (by decide)]
theorem half_more (w j : Nat) : 2 ^ (w - 1) / 2 ^ j / 2 = 2 ^ (w - 1) / 2 ^ (j + 1) := by rw [Nat.div_div_eq_div_mul, ← Nat.pow_succ]
theorem half_pos (w j : Nat) (h : j < w) : 0 < 2 ^ (w - 1) / 2 ^ j := by rw [Nat.pow_div (by omega) (by decide)]; exact Nat.two_pow_pos _
theorem half_none (w : Nat) (h : 0 < w) : 2 ^ (w - 1) / 2 ^ w = 0 := Nat.div_eq_of_lt (Nat.pow_lt_pow_right (by decide) (by omega))

/-- the place of a letter that was found -/
theorem pos_hit {L : List UInt8} {x : UInt8} {k : Nat} (h : k < L.length) (hx : lt L k = x) (hn : x ∉ L.take k) : x ∈ L ∧ pos L x = k := by
  have e : L = L.take k ++ (x :: L.drop (k + 1)) := by
    conv => lhs; rw [← List.take_append_drop (k + 1) L, take_next h, hx]
    simp
  constructor
  · rw [e]; simp
  · unfold pos
    rw [e, List.idxOf_append, if_neg hn]
    simp; omega
theorem pos_early {L : List UInt8} {x : UInt8} {i : Nat} (hx : x ∈ L) : pos L x < i ↔ x ∈ L.take i := by
  constructor
  · intro h
    have h1 := List.idxOf_lt_length_of_mem hx
    have h2 : L[L.idxOf x] = x := List.getElem_idxOf h1
    rw [List.mem_take_iff_getElem]
    refine ⟨L.idxOf x, ?_, h2⟩
    unfold pos at h
    omega
  · intro h
    have h1 := List.idxOf_lt_length_of_mem h
    unfold pos
    conv => lhs; rw [← List.take_append_drop i L]
    rw [List.idxOf_append, if_pos h]
    rw [List.length_take] at h1; omega
end Sx
end Go.Proofs.Ytjknpbaegnkdnaa

/- Rows of blocks of sixteen words, mixed, as plain mathematics: words are natural numbers; where each block goes. No condition. -/
import Derived.Test.YtohmkhmanidljaaDoorSlPure
namespace Go.Proofs.YtohmkhmanidljaaDoor.Sf
set_option maxRecDepth 50000
open Rot Sl

/-- the first k words put together with those from a place on -/
def xr (x l : List Nat) (o : Nat) : Nat → List Nat
  | 0 => x
  | k + 1 => (xr x l o k).set k (x.getD k 0 ^^^ l.getD (o + k) 0)
theorem xr_length (x l : List Nat) (o : Nat) : ∀ k, (xr x l o k).length = x.length
  | 0 => rfl
  | k + 1 => by rw [xr, List.length_set, xr_length x l o k]
theorem xr_at (x l : List Nat) (o i : Nat) : ∀ k, k ≤ i → (xr x l o k).getD i 0 = x.getD i 0
  | 0, _ => rfl
  | k + 1, h => by
    rw [xr, List.getD_eq_getElem?_getD, List.getElem?_set_ne (by omega), ← List.getD_eq_getElem?_getD]
    exact xr_at x l o i k (by omega)
theorem xr_ok {x l : List Nat} (h : okw x) (hl : okw l) (o : Nat) : ∀ k, okw (xr x l o k)
  | 0 => h
  | k + 1 => (xr_ok h hl o k).set _ _ (xor_lt32 _ _ (h.at_ _) (hl.at_ _))
theorem okw_drop {l : List Nat} (h : okw l) (n : Nat) : okw (l.drop n) := fun x hx => h x (List.mem_of_mem_drop hx)
theorem okw_take {l : List Nat} (h : okw l) (n : Nat) : okw (l.take n) := fun x hx => h x (List.mem_of_mem_take hx)
theorem okw_append {l k : List Nat} (h : okw l) (hk : okw k) : okw (l ++ k) := fun x hx => (List.mem_append.1 hx).elim (h x) (hk x)
theorem okw_zeros (n : Nat) : okw (List.replicate n 0) := fun x hx => by rw [(List.mem_replicate.1 hx).2]; decide
/-- a row's last block -/
def lst (l : List Nat) : List Nat := l.drop (l.length - 16)
theorem lst_length (l : List Nat) (h : 16 ≤ l.length) : (lst l).length = 16 := by unfold lst; rw [List.length_drop]; omega
theorem lst_at (l : List Nat) (k : Nat) : (lst l).getD k 0 = l.getD (l.length - 16 + k) 0 := by
  unfold lst
  rw [List.getD_eq_getElem?_getD, List.getElem?_drop, ← List.getD_eq_getElem?_getD]
/-- what blocks are mixed to, one behind the other -/
def st (l : List Nat) : Nat → List Nat
  | 0 => lst l
  | i + 1 => core (xr (st l i) l (16 * i) 16) 4
theorem st_length (l : List Nat) (h : 16 ≤ l.length) : ∀ i, (st l i).length = 16
  | 0 => lst_length l h
  | i + 1 => by rw [st, core_length, xr_length, st_length l h i]
theorem st_ok {l : List Nat} (h : okw l) : ∀ i, okw (st l i)
  | 0 => okw_drop h _
  | i + 1 => core_ok (xr_ok (st_ok h i) h _ 16) 4
/-- where block i goes, and which block goes to a place -/
def pl (r i : Nat) : Nat := i % 2 * r + i / 2
def src (r b : Nat) : Nat := if b < r then 2 * b else 2 * (b - r) + 1
theorem pl_lt {r i : Nat} (h : i < 2 * r) : pl r i < 2 * r := by
  unfold pl
  rcases Nat.mod_two_eq_zero_or_one i with e | e <;> rw [e] <;> omega
theorem src_lt {r b : Nat} (h : b < 2 * r) : src r b < 2 * r := by
  have hb := h
  unfold src; split <;> omega
theorem src_pl {r i : Nat} (h : i < 2 * r) : src r (pl r i) = i := by
  have hi := h
  unfold src pl
  rcases Nat.mod_two_eq_zero_or_one i with e | e <;> rw [e] <;> split <;> omega
theorem pl_src (r b : Nat) : pl r (src r b) = b := by
  unfold src
  split
  · unfold pl
    rw [show 2 * b % 2 = 0 by omega]; omega
  · unfold pl
    rw [show (2 * (b - r) + 1) % 2 = 1 by omega]; omega
/-- a list put into another -/
def put (L : List Nat) (a : Nat) (y : List Nat) : List Nat := L.take a ++ y ++ L.drop (a + y.length)
theorem put_length (L : List Nat) (a : Nat) (y : List Nat) (h : a + y.length ≤ L.length) : (put L a y).length = L.length := by
  unfold put; simp; omega
theorem put_at (L : List Nat) (a : Nat) (y : List Nat) (h : a + y.length ≤ L.length) (q : Nat) : (put L a y).getD q 0 = if a ≤ q ∧ q < a + y.length then y.getD (q - a) 0 else L.getD q 0 := by
  have ht : (L.take a).length = a := by rw [List.length_take]; omega
  unfold put
  simp only [List.getD_eq_getElem?_getD]
  by_cases h1 : q < a
  · rw [if_neg (by omega), List.append_assoc, List.getElem?_append_left (by omega), List.getElem?_take, if_pos h1]
  · by_cases h2 : q < a + y.length
    · rw [if_pos (by omega), List.append_assoc, List.getElem?_append_right (by omega), ht, List.getElem?_append_left (by omega)]
    · rw [if_neg (by omega), List.getElem?_append_right (by simp; omega), List.getElem?_drop]
      congr 2
      simp; omega
/-- the first i blocks at their places -/
def mx (l : List Nat) (r : Nat) : Nat → List Nat
  | 0 => List.replicate (32 * r) 0
  | i + 1 => put (mx l r i) (16 * pl r i) (st l (i + 1))
theorem mx_length (l : List Nat) (r : Nat) (hl : 16 ≤ l.length) : ∀ i, i ≤ 2 * r → (mx l r i).length = 32 * r
  | 0, _ => by simp [mx]
  | i + 1, h => by
    have e := mx_length l r hl i (by omega)
    have hp := pl_lt (show i < 2 * r by omega)
    rw [mx, put_length _ _ _ (by rw [e, st_length l hl]; omega), e]
theorem mx_at (l : List Nat) (r : Nat) (hl : 16 ≤ l.length) (q : Nat) (hq : q < 32 * r) : ∀ i, i ≤ 2 * r → (mx l r i).getD q 0 = if src r (q / 16) < i then (st l (src r (q / 16) + 1)).getD (q % 16) 0 else 0
  | 0, _ => by
    rw [if_neg (by omega), mx, List.getD_eq_getElem?_getD, List.getElem?_replicate, if_pos hq]; rfl
  | i + 1, h => by
    have e := mx_length l r hl i (by omega)
    have hp := pl_lt (show i < 2 * r by omega)
    have hb : q / 16 < 2 * r := by omega
    rw [mx, put_at _ _ _ (by rw [e, st_length l hl]; omega), st_length l hl, mx_at l r hl q hq i (by omega)]
    by_cases hc : q / 16 = pl r i
    · have hs : src r (q / 16) = i := by rw [hc]; exact src_pl (by omega)
      rw [if_pos (by omega), hs, if_pos (by omega)]
      congr 1; omega
    · have hs : src r (q / 16) ≠ i := fun e => hc (by rw [← e]; exact (pl_src r _).symm)
      rw [if_neg (by omega)]
      by_cases h3 : src r (q / 16) < i
      · rw [if_pos h3, if_pos (by omega)]
      · rw [if_neg h3, if_neg (by omega)]
theorem mx_ok {l : List Nat} (h : okw l) (r : Nat) : ∀ i, okw (mx l r i)
  | 0 => okw_zeros _
  | i + 1 => okw_append (okw_append (okw_take (mx_ok h r i) _) (st_ok h _)) (okw_drop (mx_ok h r i) _)
/-- the blocks that go to the first b places -/
def ot (l : List Nat) (r : Nat) : Nat → List Nat
  | 0 => []
  | b + 1 => ot l r b ++ st l (src r b + 1)
theorem ot_length (l : List Nat) (r : Nat) (hl : 16 ≤ l.length) : ∀ b, (ot l r b).length = 16 * b
  | 0 => rfl
  | b + 1 => by rw [ot, List.length_append, ot_length l r hl b, st_length l hl]; omega
theorem ot_at (l : List Nat) (r : Nat) (hl : 16 ≤ l.length) (q : Nat) : ∀ b, q < 16 * b → (ot l r b).getD q 0 = (st l (src r (q / 16) + 1)).getD (q % 16) 0
  | 0, h => by omega
  | b + 1, h => by
    rw [ot, List.getD_eq_getElem?_getD]
    by_cases h1 : q < 16 * b
    · rw [List.getElem?_append_left (by rw [ot_length l r hl]; exact h1), ← List.getD_eq_getElem?_getD, ot_at l r hl q b h1]
    · rw [List.getElem?_append_right (by rw [ot_length l r hl]; omega), ← List.getD_eq_getElem?_getD, ot_length l r hl]
      rw [show q / 16 = b by omega, show q % 16 = q - 16 * b by omega]
theorem ext_getD {a b : List Nat} (h : a.length = b.length) (H : ∀ q, q < a.length → a.getD q 0 = b.getD q 0) : a = b := by
  refine List.ext_getElem h fun q h1 h2 => ?_
  have := H q h1
  simpa [List.getD_eq_getElem?_getD, List.getElem?_eq_getElem h1, List.getElem?_eq_getElem h2] using this
/-- all blocks at their places are even ones ahead of odd ones -/
theorem mx_all (l : List Nat) (r : Nat) (hl : 16 ≤ l.length) : mx l r (2 * r) = ot l r (2 * r) := by
  refine ext_getD (by rw [mx_length l r hl _ (Nat.le_refl _), ot_length l r hl]; omega) fun q hq => ?_
  rw [mx_length l r hl _ (Nat.le_refl _)] at hq
  rw [mx_at l r hl q hq _ (Nat.le_refl _), ot_at l r hl q _ (by omega), if_pos (src_lt (by omega))]
/-- all blocks in their order -/
def al (l : List Nat) : Nat → List Nat
  | 0 => []
  | i + 1 => al l i ++ st l (i + 1)
theorem al_length (l : List Nat) (hl : 16 ≤ l.length) : ∀ i, (al l i).length = 16 * i
  | 0 => rfl
  | i + 1 => by rw [al, List.length_append, al_length l hl i, st_length l hl]; omega
theorem al_at (l : List Nat) (hl : 16 ≤ l.length) (j k : Nat) (hk : k < 16) : ∀ i, j < i → (al l i).getD (16 * j + k) 0 = (st l (j + 1)).getD k 0
  | 0, h => by omega
  | i + 1, h => by
    rw [al, List.getD_eq_getElem?_getD]
    by_cases h1 : j < i
    · rw [List.getElem?_append_left (by rw [al_length l hl]; omega), ← List.getD_eq_getElem?_getD, al_at l hl j k hk i h1]
    · obtain rfl : j = i := by omega
      rw [List.getElem?_append_right (by rw [al_length l hl]; omega), ← List.getD_eq_getElem?_getD, al_length l hl]
      congr 1; omega
theorem al_ok {l : List Nat} (h : okw l) : ∀ i, okw (al l i)
  | 0 => fun x hx => absurd hx (by simp [al])
  | i + 1 => okw_append (al_ok h i) (st_ok h _)
/-- words 0 stay so -/
theorem mx_zero : mx (List.replicate 32 0) 1 2 = List.replicate 32 0 := by kernel_rfl
end Go.Proofs.YtohmkhmanidljaaDoor.Sf

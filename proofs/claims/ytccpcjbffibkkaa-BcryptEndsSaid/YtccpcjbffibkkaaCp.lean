/- Blowfish on words told by their places: p at 0 to 17, the tables behind; its keyed expansion; the sum. Pure. What package eks makes, on words told by their places. Pure. Blowfish's tables as one number, word j at its bits 32 j, expanded step by step by the kernel. Pure. -/
namespace Go.Proofs.Ytccpcjbffibkkaa.Ci

/-- what the tables make of a word -/
def fB (g : Nat → Nat) (x : Nat) : Nat := ((((g (18 + x / 16777216) + g (274 + x / 65536 % 256)) % 4294967296) ^^^ g (530 + x / 256 % 256)) + g (786 + x % 256)) % 4294967296
theorem fB_lt (g : Nat → Nat) (x : Nat) : fB g x < 4294967296 := Nat.mod_lt _ (by decide)
/-- two words behind some rounds -/
def rnd (f q : Nat → Nat) (l r : Nat) : Nat → Nat × Nat
  | 0 => (l, r)
  | k + 1 => ((rnd f q l r k).2 ^^^ f ((rnd f q l r k).1 ^^^ q k), (rnd f q l r k).1 ^^^ q k)
def crL (f q : Nat → Nat) (l r : Nat) : Nat := (rnd f q l r 16).2 ^^^ q 17
def crR (f q : Nat → Nat) (l r : Nat) : Nat := (rnd f q l r 16).1 ^^^ q 16
def enL (g : Nat → Nat) (l r : Nat) : Nat := crL (fB g) g l r
def enR (g : Nat → Nat) (l r : Nat) : Nat := crR (fB g) g l r
def rv (g : Nat → Nat) : Nat → Nat := fun i => g (17 - i)
def deL (g : Nat → Nat) (l r : Nat) : Nat := crL (fB g) (rv g) l r
def deR (g : Nat → Nat) (l r : Nat) : Nat := crR (fB g) (rv g) l r

theorem x_x (a b : Nat) : a ^^^ b ^^^ b = a := by rw [Nat.xor_assoc, Nat.xor_self, Nat.xor_zero]
theorem x_ab (a b c : Nat) : a ^^^ b ^^^ c = a ^^^ c ^^^ b := by rw [Nat.xor_assoc, Nat.xor_comm b c, ← Nat.xor_assoc]
theorem xor_lt (a b : Nat) (ha : a < 4294967296) (hb : b < 4294967296) : a ^^^ b < 4294967296 := Nat.xor_lt_two_pow (n := 32) ha hb
theorem rnd_lt (f q : Nat → Nat) (l r : Nat) (hl : l < 4294967296) (hr : r < 4294967296) (hf : ∀ x, f x < 4294967296) (hq : ∀ i, i < 16 → q i < 4294967296) : ∀ k, k ≤ 16 → (rnd f q l r k).1 < 4294967296 ∧ (rnd f q l r k).2 < 4294967296
  | 0, _ => ⟨hl, hr⟩
  | k + 1, h => by
    obtain ⟨h1, h2⟩ := rnd_lt f q l r hl hr hf hq k (by omega)
    exact ⟨xor_lt _ _ h2 (hf _), xor_lt _ _ h1 (hq k (by omega))⟩
theorem cr_lt (f q : Nat → Nat) (l r : Nat) (hl : l < 4294967296) (hr : r < 4294967296) (hf : ∀ x, f x < 4294967296) (hq : ∀ i, i < 18 → q i < 4294967296) : crL f q l r < 4294967296 ∧ crR f q l r < 4294967296 := by
  obtain ⟨h1, h2⟩ := rnd_lt f q l r hl hr hf (fun i h => hq i (by omega)) 16 (by omega)
  exact ⟨xor_lt _ _ h2 (hq 17 (by omega)), xor_lt _ _ h1 (hq 16 (by omega))⟩
/-- the words come back when the places are gone through from behind -/
theorem back_step (f q : Nat → Nat) (l r : Nat) : ∀ k, k ≤ 16 →
    rnd f (fun i => q (17 - i)) (crL f q l r) (crR f q l r) k = ((rnd f q l r (16 - k)).2 ^^^ q (17 - k), if k = 0 then (rnd f q l r 16).1 ^^^ q 16 else (rnd f q l r (17 - k)).2)
  | 0, _ => rfl
  | k + 1, h => by
    obtain ⟨m, hm⟩ : ∃ m, m + k = 15 := ⟨15 - k, by omega⟩
    have e1 : 16 - k = m + 1 := by omega
    have e2 : 17 - (k + 1) = m + 1 := by omega
    have e3 : 16 - (k + 1) = m := by omega
    have e0 : 17 - k = m + 2 := by omega
    have ih := back_step f q l r k (by omega)
    rw [e1, e0] at ih
    have e4 : (if k = 0 then (rnd f q l r 16).1 ^^^ q 16 else (rnd f q l r (m + 2)).2) = (rnd f q l r (m + 1)).1 ^^^ q (m + 1) := by
      by_cases hk : k = 0
      · rw [if_pos hk]
        have : m + 1 = 16 := by omega
        rw [this]
      · rw [if_neg hk]
        rfl
    rw [e4] at ih
    rw [e2, e3, if_neg (by omega)]
    simp only [rnd, ih, e0]
    rw [x_x, x_ab _ (q (m + 1)), x_x]
theorem cr_back (f q : Nat → Nat) (l r : Nat) : crL f (fun i => q (17 - i)) (crL f q l r) (crR f q l r) = l ∧ crR f (fun i => q (17 - i)) (crL f q l r) (crR f q l r) = r := by
  have h := back_step f q l r 16 (by omega)
  have e : rnd f (fun i => q (17 - i)) (crL f q l r) (crR f q l r) 16 = (r ^^^ q 1, l ^^^ q 0) := h
  constructor
  · show (rnd f (fun i => q (17 - i)) (crL f q l r) (crR f q l r) 16).2 ^^^ q 0 = l
    rw [e, x_x]
  · show (rnd f (fun i => q (17 - i)) (crL f q l r) (crR f q l r) 16).1 ^^^ q 1 = r
    rw [e, x_x]
theorem rnd_congr (f p q : Nat → Nat) (l r : Nat) (h : ∀ i, i < 16 → p i = q i) : ∀ k, k ≤ 16 → rnd f p l r k = rnd f q l r k
  | 0, _ => rfl
  | k + 1, hk => by
    have ih := rnd_congr f p q l r h k (by omega)
    simp only [rnd, ih, h k (by omega)]
theorem de_en (g : Nat → Nat) (l r : Nat) : deL g (enL g l r) (enR g l r) = l ∧ deR g (enL g l r) (enR g l r) = r := cr_back (fB g) g l r
theorem en_de (g : Nat → Nat) (l r : Nat) : enL g (deL g l r) (deR g l r) = l ∧ enR g (deL g l r) (deR g l r) = r := by
  have h := cr_back (fB g) (rv g) l r
  have e : ∀ i, i < 18 → rv g (17 - i) = g i := fun i hi => by show g (17 - (17 - i)) = g i; congr 1; omega
  have k1 : ∀ a b, enL g a b = crL (fB g) (fun i => rv g (17 - i)) a b := fun a b => by
    unfold enL crL; rw [rnd_congr (fB g) g (fun i => rv g (17 - i)) a b (fun i hi => (e i (by omega)).symm) 16 (by omega)]; exact congrArg (_ ^^^ ·) (e 17 (by omega)).symm
  have k2 : ∀ a b, enR g a b = crR (fB g) (fun i => rv g (17 - i)) a b := fun a b => by
    unfold enR crR; rw [rnd_congr (fB g) g (fun i => rv g (17 - i)) a b (fun i hi => (e i (by omega)).symm) 16 (by omega)]; exact congrArg (_ ^^^ ·) (e 16 (by omega)).symm
  rw [k1, k2]
  exact h

/-- the words that all lie below 2^32 -/
def Ok (g : Nat → Nat) : Prop := ∀ i, i < 1042 → g i < 4294967296
theorem en_lt (g : Nat → Nat) (hg : Ok g) (l r : Nat) (hl : l < 4294967296) (hr : r < 4294967296) : enL g l r < 4294967296 ∧ enR g l r < 4294967296 :=
  cr_lt _ _ l r hl hr (fB_lt g) fun i hi => hg i (by omega)
theorem de_lt (g : Nat → Nat) (hg : Ok g) (l r : Nat) (hl : l < 4294967296) (hr : r < 4294967296) : deL g l r < 4294967296 ∧ deR g l r < 4294967296 :=
  cr_lt _ _ l r hl hr (fB_lt g) fun i hi => hg (17 - i) (by omega)
/-- one word put in a place -/
def upd (g : Nat → Nat) (i v : Nat) : Nat → Nat := fun j => if j = i then v else g j
theorem upd_ok {g : Nat → Nat} (h : Ok g) (i v : Nat) (hv : v < 4294967296) : Ok (upd g i v) := fun j hj => by
  unfold upd; split
  · exact hv
  · exact h j hj

/-- a text's byte, 0 where there is none -/
def bt (s : ByteArray) (i : Nat) : Nat := if h : i < s.size then (s[i]'h).toNat else 0
theorem bt_lt (s : ByteArray) (i : Nat) : bt s i < 256 := by
  unfold bt; split
  · exact UInt8.toNat_lt _
  · decide
/-- the first k bytes of the word i of a text, round and round -/
def wdTo (s : ByteArray) (i : Nat) : Nat → Nat
  | 0 => 0
  | k + 1 => wdTo s i k * 256 + bt s ((4 * i + k) % s.size)
def wd (s : ByteArray) (i : Nat) : Nat := wdTo s i 4
theorem wdTo_lt (s : ByteArray) (i : Nat) : ∀ k, wdTo s i k < 256 ^ k
  | 0 => by simp [wdTo]
  | k + 1 => by
    have h1 := wdTo_lt s i k
    have h2 := bt_lt s ((4 * i + k) % s.size)
    rw [wdTo, Nat.pow_succ]
    omega
theorem wd_lt (s : ByteArray) (i : Nat) : wd s i < 4294967296 := wdTo_lt s i 4
theorem wdTo_none (s : ByteArray) (h : s.size = 0) (i : Nat) : ∀ k, wdTo s i k = 0
  | 0 => rfl
  | k + 1 => by
    rw [wdTo, wdTo_none s h i k]
    unfold bt
    rw [dif_neg (by omega)]

/-- the key's words put into the first n of p -/
def keyTo (g : Nat → Nat) (s : ByteArray) : Nat → Nat → Nat
  | 0 => g
  | n + 1 => upd (keyTo g s n) n (g n ^^^ wd s n)
theorem keyTo_at (g : Nat → Nat) (s : ByteArray) : ∀ n i, keyTo g s n i = if i < n then g i ^^^ wd s i else g i
  | 0, i => by rw [if_neg (by omega)]; rfl
  | n + 1, i => by
    show (if i = n then g n ^^^ wd s n else keyTo g s n i) = _
    rw [keyTo_at g s n i]
    by_cases h : i = n
    · subst h; rw [if_pos rfl, if_pos (by omega)]
    · rw [if_neg h]
      by_cases h2 : i < n
      · rw [if_pos h2, if_pos (by omega)]
      · rw [if_neg h2, if_neg (by omega)]
theorem keyTo_ok {g : Nat → Nat} (s : ByteArray) (h : Ok g) (n : Nat) : Ok (keyTo g s n) := fun i hi => by
  rw [keyTo_at]; split
  · exact xor_lt _ _ (h i hi) (wd_lt s i)
  · exact h i hi
/-- the words and l, r behind k of the chain's steps -/
structure St where
  g : Nat → Nat
  l : Nat
  r : Nat
def stp (s : ByteArray) (c : St) (k : Nat) : St :=
  ⟨upd (upd c.g (2 * k) (enL c.g (c.l ^^^ wd s (2 * k)) (c.r ^^^ wd s (2 * k + 1)))) (2 * k + 1) (enR c.g (c.l ^^^ wd s (2 * k)) (c.r ^^^ wd s (2 * k + 1))),
    enL c.g (c.l ^^^ wd s (2 * k)) (c.r ^^^ wd s (2 * k + 1)), enR c.g (c.l ^^^ wd s (2 * k)) (c.r ^^^ wd s (2 * k + 1))⟩
def chTo (s : ByteArray) (g : Nat → Nat) : Nat → St
  | 0 => ⟨g, 0, 0⟩
  | k + 1 => stp s (chTo s g k) k
def StOk (c : St) : Prop := Ok c.g ∧ c.l < 4294967296 ∧ c.r < 4294967296
theorem stp_ok (s : ByteArray) (c : St) (h : StOk c) (k : Nat) : StOk (stp s c k) := by
  obtain ⟨h1, h2, h3⟩ := h
  have e := en_lt c.g h1 _ _ (xor_lt _ _ h2 (wd_lt s (2 * k))) (xor_lt _ _ h3 (wd_lt s (2 * k + 1)))
  exact ⟨upd_ok (upd_ok h1 _ _ e.1) _ _ e.2, e.1, e.2⟩
theorem chTo_ok (s : ByteArray) (g : Nat → Nat) (h : Ok g) : ∀ k, StOk (chTo s g k)
  | 0 => ⟨h, Nat.zero_lt_of_ne_zero (by decide), Nat.zero_lt_of_ne_zero (by decide)⟩
  | k + 1 => stp_ok s _ (chTo_ok s g h k) k
/-- a salt and a key put into words -/
def exB (g : Nat → Nat) (salt key : ByteArray) : Nat → Nat := (chTo salt (keyTo g key 18) 521).g
theorem exB_ok {g : Nat → Nat} (h : Ok g) (salt key : ByteArray) : Ok (exB g salt key) := (chTo_ok salt _ (keyTo_ok key h 18) 521).1
end Go.Proofs.Ytccpcjbffibkkaa.Ci

namespace Go.Proofs.Ytccpcjbffibkkaa.Ci

/-- words expanded by no salt and a key, and by no salt and the salt as the key, so often -/
def ekTo (g : Nat → Nat) (salt key : ByteArray) : Nat → Nat → Nat
  | 0 => g
  | n + 1 => exB (exB (ekTo g salt key n) ⟨#[]⟩ key) ⟨#[]⟩ salt
theorem ekTo_ok {g : Nat → Nat} (h : Ok g) (salt key : ByteArray) : ∀ n, Ok (ekTo g salt key n)
  | 0 => h
  | n + 1 => exB_ok (exB_ok (ekTo_ok h salt key n) _ _) _ _
/-- two words encrypted so often -/
def enTo (g : Nat → Nat) (l r : Nat) : Nat → Nat × Nat
  | 0 => (l, r)
  | k + 1 => (enL g (enTo g l r k).1 (enTo g l r k).2, enR g (enTo g l r k).1 (enTo g l r k).2)
theorem enTo_lt {g : Nat → Nat} (hg : Ok g) (l r : Nat) (hl : l < 4294967296) (hr : r < 4294967296) : ∀ k, (enTo g l r k).1 < 4294967296 ∧ (enTo g l r k).2 < 4294967296
  | 0 => ⟨hl, hr⟩
  | k + 1 => by
    obtain ⟨h1, h2⟩ := enTo_lt hg l r hl hr k
    exact en_lt g hg _ _ h1 h2
/-- the word in the place j of words x, two by two encrypted so often -/
def sq (g : Nat → Nat) (x : Nat → Nat) (t j : Nat) : Nat := if j % 2 = 0 then (enTo g (x j) (x (j + 1)) t).1 else (enTo g (x (j - 1)) (x j) t).2
theorem sq_even (g x : Nat → Nat) (t k : Nat) : sq g x t (2 * k) = (enTo g (x (2 * k)) (x (2 * k + 1)) t).1 := by
  unfold sq; rw [if_pos (by omega)]
theorem sq_odd (g x : Nat → Nat) (t k : Nat) : sq g x t (2 * k + 1) = (enTo g (x (2 * k)) (x (2 * k + 1)) t).2 := by
  unfold sq; rw [if_neg (by omega)]; rfl
/-- the first n places' words -/
def sqL (g x : Nat → Nat) (t n : Nat) : List Nat := (List.range n).map (sq g x t)
theorem sqL_length (g x : Nat → Nat) (t n : Nat) : (sqL g x t n).length = n := by simp [sqL]
theorem sqL_at (g x : Nat → Nat) (t n i : Nat) (h : i < n) : (sqL g x t n)[i]? = some (sq g x t i) := by simp [sqL, h]
theorem sqL_next (g x : Nat → Nat) (t k : Nat) : sqL g x t (2 * (k + 1)) = sqL g x t (2 * k) ++ [(enTo g (x (2 * k)) (x (2 * k + 1)) t).1, (enTo g (x (2 * k)) (x (2 * k + 1)) t).2] := by
  unfold sqL
  rw [show 2 * (k + 1) = 2 * k + 1 + 1 by omega, List.range_succ, List.range_succ, List.map_append, List.map_append, List.append_assoc]
  simp [sq_even, sq_odd]
end Go.Proofs.Ytccpcjbffibkkaa.Ci

namespace Go.Proofs.Ytccpcjbffibkkaa.Ci

def rd (T j : Nat) : Nat := Nat.mod (Nat.shiftRight T (Nat.mul 32 j)) 4294967296
theorem rd_eq (T j : Nat) : rd T j = T >>> (32 * j) % 2 ^ 32 := rfl
theorem rd_lt (T j : Nat) : rd T j < 4294967296 := Nat.mod_lt _ (by decide)
/-- the word j of the tables: two words lie ahead of them, that are the last ones made -/
def rt (T j : Nat) : Nat := Nat.mod (Nat.shiftRight T (Nat.mul 32 (Nat.add 2 j))) 4294967296
theorem rt_eq (T j : Nat) : rt T j = rd T (2 + j) := rfl
/-- the number T holds the words g -/
def Hld (T : Nat) (g : Nat → Nat) : Prop := ∀ j, j < 1042 → rt T j = g j

theorem rd_xor (T V j : Nat) : rd (T ^^^ V) j = rd T j ^^^ rd V j := by
  rw [rd_eq, rd_eq, rd_eq]
  refine Nat.eq_of_testBit_eq fun i => ?_
  simp only [Nat.testBit_mod_two_pow, Nat.testBit_shiftRight, Nat.testBit_xor]
  by_cases h : i < 32 <;> simp [h]
theorem rd_small (V j n : Nat) (h : V < 2 ^ n) (hn : n ≤ 32 * j) : rd V j = 0 := by
  rw [rd_eq, Nat.shiftRight_eq_div_pow, Nat.div_eq_of_lt (Nat.lt_of_lt_of_le h (Nat.pow_le_pow_right (by decide) hn))]
def put (T i a b : Nat) : Nat := Nat.xor T (Nat.shiftLeft (Nat.xor (Nat.mod (Nat.shiftRight T (Nat.mul 64 i)) 18446744073709551616) (Nat.add a (Nat.mul b 4294967296))) (Nat.mul 64 i))
theorem put_at (T i a b j : Nat) (ha : a < 4294967296) (hb : b < 4294967296) : rd (put T i a b) j = if j = 2 * i then a else if j = 2 * i + 1 then b else rd T j := by
  have hp : put T i a b = T ^^^ ((T >>> (64 * i) % 2 ^ 64 ^^^ (a + b * 2 ^ 32)) <<< (64 * i)) := rfl
  have hw : ∀ v, v < 2 ^ 64 → ∀ n, v.testBit (64 + n) = false := fun v hv n => Nat.testBit_lt_two_pow (Nat.lt_of_lt_of_le hv (Nat.pow_le_pow_right (by decide) (by omega)))
  have hab : ∀ k, (a + b * 2 ^ 32).testBit k = if k < 32 then a.testBit k else b.testBit (k - 32) := fun k => by
    have e := Nat.testBit_two_pow_mul_add b (i := 32) (b := a) ha k
    rw [show a + b * 2 ^ 32 = 2 ^ 32 * b + a by omega]
    exact e
  rw [hp]
  refine Nat.eq_of_testBit_eq fun k => ?_
  rw [rd_eq]
  have hL : ((T ^^^ ((T >>> (64 * i) % 2 ^ 64 ^^^ (a + b * 2 ^ 32)) <<< (64 * i))) >>> (32 * j) % 2 ^ 32).testBit k
      = (decide (k < 32) && (T.testBit (32 * j + k) ^^ (decide (64 * i ≤ 32 * j + k) && ((decide (32 * j + k - 64 * i < 64) && T.testBit (64 * i + (32 * j + k - 64 * i))) ^^ (a + b * 2 ^ 32).testBit (32 * j + k - 64 * i))))) := by
    simp only [Nat.testBit_mod_two_pow, Nat.testBit_shiftRight, Nat.testBit_xor, Nat.testBit_shiftLeft]
  rw [hL, hab]
  by_cases hk : k < 32
  · simp only [hk, decide_true, Bool.true_and]
    by_cases c1 : j = 2 * i
    · rw [if_pos c1]
      have e1 : 32 * j + k - 64 * i = k := by omega
      have e2 : 64 * i ≤ 32 * j + k := by omega
      have e3 : 64 * i + k = 32 * j + k := by omega
      rw [e1, e3]
      simp [e2, show k < 64 by omega, hk]
    · rw [if_neg c1]
      by_cases c2 : j = 2 * i + 1
      · rw [if_pos c2]
        have e1 : 32 * j + k - 64 * i = 32 + k := by omega
        have e2 : 64 * i ≤ 32 * j + k := by omega
        have e3 : 64 * i + (32 + k) = 32 * j + k := by omega
        rw [e1, e3]
        simp [e2, show 32 + k < 64 by omega, show ¬ (32 + k < 32) by omega]
      · rw [if_neg c2]
        have hr : (rd T j).testBit k = T.testBit (32 * j + k) := by
          rw [rd_eq, Nat.testBit_mod_two_pow, Nat.testBit_shiftRight]; simp [hk]
        rw [hr]
        by_cases c3 : 64 * i ≤ 32 * j + k
        · obtain ⟨n, hn⟩ : ∃ n, 32 * j + k - 64 * i = 64 + n := ⟨32 * j + k - 64 * i - 64, by omega⟩
          rw [hn]
          have hz : b.testBit (64 + n - 32) = false := Nat.testBit_lt_two_pow (Nat.lt_of_lt_of_le (show b < 2 ^ 32 from hb) (Nat.pow_le_pow_right (by decide) (by omega)))
          simp [hz, show ¬ (64 + n < 64) by omega, show ¬ (64 + n < 32) by omega]
        · simp [c3]
  · simp only [hk, decide_false, Bool.false_and]
    symm
    refine Nat.testBit_lt_two_pow (Nat.lt_of_lt_of_le (m := 2 ^ 32) ?_ (Nat.pow_le_pow_right (by decide) (by omega)))
    split
    · exact ha
    · split
      · exact hb
      · exact rd_lt T j

def fo (x : Nat) (k : Nat → Bool) : Bool := Nat.rec (motive := fun _ => Bool) (k 0) (fun n _ => k (Nat.succ n)) x
theorem fo_eq (x : Nat) (k : Nat → Bool) : fo x k = k x := by cases x <;> rfl
def fK (g : Nat → Nat) (x : Nat) : Nat := Nat.mod (Nat.add (Nat.xor (Nat.mod (Nat.add (g (Nat.add 18 (Nat.div x 16777216))) (g (Nat.add 274 (Nat.mod (Nat.div x 65536) 256)))) 4294967296) (g (Nat.add 530 (Nat.mod (Nat.div x 256) 256)))) (g (Nat.add 786 (Nat.mod x 256)))) 4294967296
theorem fK_eq (g : Nat → Nat) (x : Nat) : fK g x = fB g x := rfl
def rK (g : Nat → Nat) (k : Nat → Nat → Bool) (n : Nat) : Nat → Nat → Nat → Bool :=
  Nat.rec (motive := fun _ => Nat → Nat → Nat → Bool) (fun _ l r => k l r) (fun _ ih i l r => fo (Nat.xor l (g i)) fun x => fo (Nat.xor r (fK g x)) fun y => ih (Nat.succ i) y x) n
theorem rK_eq (g : Nat → Nat) (k : Nat → Nat → Bool) (l0 r0 : Nat) : ∀ n i, rK g k n i (rnd (fB g) g l0 r0 i).1 (rnd (fB g) g l0 r0 i).2 = k (rnd (fB g) g l0 r0 (n + i)).1 (rnd (fB g) g l0 r0 (n + i)).2
  | 0, i => by rw [Nat.zero_add]; rfl
  | n + 1, i => by
    show fo (Nat.xor (rnd (fB g) g l0 r0 i).1 (g i)) (fun x => fo (Nat.xor (rnd (fB g) g l0 r0 i).2 (fK g x)) fun y => rK g k n (i + 1) y x) = _
    rw [fo_eq, fo_eq, fK_eq, show n + 1 + i = n + (i + 1) by omega]
    exact rK_eq g k l0 r0 n (i + 1)
def enK (T : Nat) (k : Nat → Nat → Bool) (l r : Nat) : Bool :=
  rK (rt T) (fun x y => fo (Nat.xor y (rt T 17)) fun a => fo (Nat.xor x (rt T 16)) fun b => k a b) 16 0 l r
theorem enK_eq (T : Nat) (k : Nat → Nat → Bool) (l r : Nat) : enK T k l r = k (enL (rt T) l r) (enR (rt T) l r) := by
  unfold enK
  refine (rK_eq (rt T) _ l r 16 0).trans ?_
  rw [fo_eq, fo_eq]
  rfl
def stK (S T i : Nat) (k : Nat → Nat → Nat → Bool) (l r : Nat) : Bool :=
  enK T (fun a b => fo (put (put T (Nat.succ i) a b) 0 a b) fun T => k T a b) (Nat.xor l (rd S (Nat.mod (Nat.mul 2 i) 4))) (Nat.xor r (rd S (Nat.mod (Nat.succ (Nat.mul 2 i)) 4)))
def chK (S : Nat) (k : Nat → Bool) (n : Nat) : Nat → Nat → Nat → Bool :=
  Nat.rec (motive := fun _ => Nat → Nat → Nat → Bool) (fun T _ _ => k T) (fun n ih T l r => stK S T (Nat.sub 520 n) (fun T a b => ih T a b) l r) n
/-- expanded by the salt's words S and the key's words K -/
def exK (S K : Nat) (k : Nat → Bool) (T : Nat) : Bool := fo (Nat.xor T K) fun T => chK S k 521 T 0 0
def twoK (K S : Nat) (k : Nat → Bool) (T : Nat) : Bool := exK 0 K (fun T => exK 0 S k T) T

theorem fB_congr (g h : Nat → Nat) (e : ∀ j, j < 1042 → g j = h j) (x : Nat) (hx : x < 4294967296) : fB g x = fB h x := by
  unfold fB
  rw [e (18 + x / 16777216) (by omega), e (274 + x / 65536 % 256) (by omega), e (530 + x / 256 % 256) (by omega), e (786 + x % 256) (by omega)]
theorem rnd_same (g h : Nat → Nat) (hg : Ok g) (e : ∀ j, j < 1042 → g j = h j) (l r : Nat) (hl : l < 4294967296) (hr : r < 4294967296) : ∀ k, k ≤ 16 → rnd (fB g) g l r k = rnd (fB h) h l r k
  | 0, _ => rfl
  | k + 1, hk => by
    have ih := rnd_same g h hg e l r hl hr k (by omega)
    obtain ⟨h1, h2⟩ := rnd_lt (fB g) g l r hl hr (fB_lt g) (fun i hi => hg i (by omega)) k (by omega)
    have hx : (rnd (fB g) g l r k).1 ^^^ g k < 4294967296 := xor_lt _ _ h1 (hg k (by omega))
    simp only [rnd]
    rw [fB_congr g h e _ hx, ih, e k (by omega)]
theorem en_same (g h : Nat → Nat) (hg : Ok g) (e : ∀ j, j < 1042 → g j = h j) (l r : Nat) (hl : l < 4294967296) (hr : r < 4294967296) : enL g l r = enL h l r ∧ enR g l r = enR h l r := by
  have a := rnd_same g h hg e l r hl hr 16 (by omega)
  constructor
  · show (rnd (fB g) g l r 16).2 ^^^ g 17 = (rnd (fB h) h l r 16).2 ^^^ h 17
    rw [a, e 17 (by omega)]
  · show (rnd (fB g) g l r 16).1 ^^^ g 16 = (rnd (fB h) h l r 16).1 ^^^ h 16
    rw [a, e 16 (by omega)]
theorem is_en {T : Nat} {g : Nat → Nat} (h : Hld T g) (hg : Ok g) (l r : Nat) (hl : l < 4294967296) (hr : r < 4294967296) : enL (rt T) l r = enL g l r ∧ enR (rt T) l r = enR g l r := by
  have := en_same g (rt T) hg (fun j hj => (h j hj).symm) l r hl hr
  exact ⟨this.1.symm, this.2.symm⟩
theorem is_key {T : Nat} {g : Nat → Nat} (h : Hld T g) (key : ByteArray) (K : Nat) (hK : K < 2 ^ 640) (hk : ∀ i, i < 18 → wd key i = rt K i) : Hld (Nat.xor T K) (keyTo g key 18) := fun j hj => by
  show rd (T ^^^ K) (2 + j) = _
  rw [rd_xor, ← rt_eq, h j hj, keyTo_at]
  by_cases c : j < 18
  · rw [if_pos c, hk j c]; rfl
  · rw [if_neg c, rd_small K (2 + j) 640 hK (by omega), Nat.xor_zero]
theorem is_put {T : Nat} {g : Nat → Nat} (h : Hld T g) (i a b : Nat) (ha : a < 4294967296) (hb : b < 4294967296) : Hld (put (put T (Nat.succ i) a b) 0 a b) (upd (upd g (2 * i) a) (2 * i + 1) b) := fun j hj => by
  rw [rt_eq, put_at _ 0 a b (2 + j) ha hb, if_neg (by omega), if_neg (by omega), put_at T (i + 1) a b (2 + j) ha hb]
  unfold upd
  by_cases c : j = 2 * i
  · rw [if_pos (by omega), if_neg (by omega), if_pos c]
  · rw [if_neg (by omega)]
    by_cases d : j = 2 * i + 1
    · rw [if_pos (by omega), if_pos d]
    · rw [if_neg (by omega), if_neg d, if_neg c, ← rt_eq, h j hj]
theorem is_chain (s : ByteArray) (S : Nat) (hs : ∀ i, wd s i = rd S (i % 4)) (g : Nat → Nat) (hg : Ok g) (k : Nat → Bool) : ∀ n, n ≤ 521 → ∀ T, Hld T (chTo s g (521 - n)).g →
    chK S k n T (chTo s g (521 - n)).l (chTo s g (521 - n)).r = true → ∃ T', Hld T' (chTo s g 521).g ∧ k T' = true
  | 0, _, T, h, e => ⟨T, h, e⟩
  | n + 1, hn, T, h, e => by
    obtain ⟨i, hi⟩ : ∃ i, 521 - (n + 1) = i := ⟨_, rfl⟩
    have hi2 : Nat.sub 520 n = i := by show 520 - n = i; omega
    have hi3 : 521 - n = i + 1 := by omega
    obtain ⟨k1, k2, k3⟩ := chTo_ok s g hg i
    rw [hi] at h e
    have e' : stK S T (Nat.sub 520 n) (fun T a b => chK S k n T a b) (chTo s g i).l (chTo s g i).r = true := e
    have x1 := xor_lt _ _ k2 (wd_lt s (2 * i))
    have x2 := xor_lt _ _ k3 (wd_lt s (2 * i + 1))
    rw [hi2] at e'
    unfold stK at e'
    rw [enK_eq, fo_eq] at e'
    have y1 : Nat.xor (chTo s g i).l (rd S (Nat.mod (Nat.mul 2 i) 4)) = (chTo s g i).l ^^^ wd s (2 * i) := by rw [hs]; rfl
    have y2 : Nat.xor (chTo s g i).r (rd S (Nat.mod (Nat.succ (Nat.mul 2 i)) 4)) = (chTo s g i).r ^^^ wd s (2 * i + 1) := by rw [hs]; rfl
    rw [y1, y2] at e'
    obtain ⟨q1, q2⟩ := is_en h k1 _ _ x1 x2
    rw [q1, q2] at e'
    obtain ⟨l1, l2⟩ := en_lt (chTo s g i).g k1 _ _ x1 x2
    have hst := is_put h i _ _ l1 l2
    have ih := is_chain s S hs g hg k n (by omega) _ (by rw [hi3]; exact hst)
    refine ih ?_
    rw [hi3]
    exact e'
theorem is_ex (s key : ByteArray) (S K : Nat) (hs : ∀ i, wd s i = rd S (i % 4)) (hK : K < 2 ^ 640) (hk : ∀ i, i < 18 → wd key i = rt K i) (g : Nat → Nat) (hg : Ok g) (k : Nat → Bool) (T : Nat) (h : Hld T g) (e : exK S K k T = true) : ∃ T', Hld T' (exB g s key) ∧ k T' = true := by
  unfold exK at e
  rw [fo_eq] at e
  exact is_chain s S hs (keyTo g key 18) (keyTo_ok key hg 18) k 521 (by decide) _ (is_key h key K hK hk) e
theorem no_salt (i : Nat) : wd ⟨#[]⟩ i = rd 0 (i % 4) := by
  rw [rd_small 0 (i % 4) 0 (by decide) (by omega)]
  exact wdTo_none ⟨#[]⟩ rfl i 4
theorem is_two (s key : ByteArray) (S K : Nat) (hS : S < 2 ^ 640) (hs : ∀ i, i < 18 → wd s i = rt S i) (hK : K < 2 ^ 640) (hk : ∀ i, i < 18 → wd key i = rt K i) (g : Nat → Nat) (hg : Ok g) (n : Nat) (k : Nat → Bool) (T : Nat) (h : Hld T (ekTo g s key n)) (e : twoK K S k T = true) : ∃ T', Hld T' (ekTo g s key (n + 1)) ∧ k T' = true := by
  have o := ekTo_ok hg s key n
  obtain ⟨T1, h1, e1⟩ := is_ex ⟨#[]⟩ key 0 K no_salt hK hk _ o _ T h e
  exact is_ex ⟨#[]⟩ s 0 S no_salt hS hs _ (exB_ok o _ _) k T1 h1 e1
def sealK (T : Nat) (k : Nat → Nat → Bool) (n : Nat) : Nat → Nat → Bool :=
  Nat.rec (motive := fun _ => Nat → Nat → Bool) (fun l r => k l r) (fun _ ih l r => enK T (fun a b => ih a b) l r) n
theorem is_seal {T : Nat} {g : Nat → Nat} (h : Hld T g) (hg : Ok g) (l r : Nat) (hl : l < 4294967296) (hr : r < 4294967296) (k : Nat → Nat → Bool) : ∀ n m, sealK T k n (enTo g l r m).1 (enTo g l r m).2 = true → k (enTo g l r (n + m)).1 (enTo g l r (n + m)).2 = true
  | 0, m, e => by rw [Nat.zero_add]; exact e
  | n + 1, m, e => by
    have e' : enK T (fun a b => sealK T k n a b) (enTo g l r m).1 (enTo g l r m).2 = true := e
    rw [enK_eq] at e'
    obtain ⟨b1, b2⟩ := enTo_lt hg l r hl hr m
    obtain ⟨q1, q2⟩ := is_en h hg _ _ b1 b2
    rw [q1, q2] at e'
    rw [show n + 1 + m = n + (m + 1) by omega]
    exact is_seal h hg l r hl hr k n (m + 1) e'
theorem is_sealed {T : Nat} {g : Nat → Nat} (h : Hld T g) (hg : Ok g) (l r : Nat) (hl : l < 4294967296) (hr : r < 4294967296) (n a b : Nat) (e : sealK T (fun x y => Nat.beq x a && Nat.beq y b) n l r = true) : enTo g l r n = (a, b) := by
  have q := is_seal h hg l r hl hr _ n 0 e
  rw [Nat.add_zero, Bool.and_eq_true] at q
  exact Prod.ext (Nat.eq_of_beq_eq_true q.1) (Nat.eq_of_beq_eq_true q.2)
theorem lt_of_bits (v n : Nat) (h : Nat.beq (Nat.shiftRight v n) 0 = true) : v < 2 ^ n := by
  have e : v >>> n = 0 := Nat.eq_of_beq_eq_true h
  rw [Nat.shiftRight_eq_div_pow] at e
  exact (Nat.div_eq_zero_iff_lt (Nat.two_pow_pos n)).mp e
end Go.Proofs.Ytccpcjbffibkkaa.Ci

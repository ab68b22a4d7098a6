/- Blowfish on words told by their places: p at 0 to 17, the tables behind; its keyed expansion; the sum. Pure. -/
namespace Go.Proofs.Ytglmfagmlfjceaa.Ci

/-- what the tables make of a word -/
def fB (g : Nat → Nat) (x : Nat) : Nat := ((((g (18 + x / 16777216) + g (274 + x / 65536 % 256)) % 4294967296) ^^^ g (530 + x / 256 % 256)) + g (786 + x % 256)) % 4294967296
theorem fB_lt (g : Nat → Nat) (x : Nat) : fB g x < 4294967296 := Nat.mod_lt _ (by decide)
/-- two words behind some rounds -/
def rnd (f q : Nat → Nat) (l r : Nat) : Nat → Nat × Nat
  | 0 => (l, r)
  | k + 1 => ((rnd f q l r k).2 ^^^ f ((rnd f q l r k).1 ^^^ q k), (rnd f q l r k).1 ^^^ q k)
def crL (f q : Nat → Nat) (l r : Nat) : Nat := (rnd f q l r 16).2 ^^^ q 17
def crR (f q : Nat → Nat) (l r : Nat) : Nat := (rnd f q l r 16).1 ^^^ q 16
def enL (g : Nat → Nat) (l r : Nat) : Nat := crL (fB g) g l r
def enR (g : Nat → Nat) (l r : Nat) : Nat := crR (fB g) g l r
def rv (g : Nat → Nat) : Nat → Nat := fun i => g (17 - i)
def deL (g : Nat → Nat) (l r : Nat) : Nat := crL (fB g) (rv g) l r
def deR (g : Nat → Nat) (l r : Nat) : Nat := crR (fB g) (rv g) l r

theorem x_x (a b : Nat) : a ^^^ b ^^^ b = a := by rw [Nat.xor_assoc, Nat.xor_self, Nat.xor_zero]
theorem x_ab (a b c : Nat) : a ^^^ b ^^^ c = a ^^^ c ^^^ b := by rw [Nat.xor_assoc, Nat.xor_comm b c, ← Nat.xor_assoc]
theorem xor_lt (a b : Nat) (ha : a < 4294967296) (hb : b < 4294967296) : a ^^^ b < 4294967296 := Nat.xor_lt_two_pow (n := 32) ha hb
theorem rnd_lt (f q : Nat → Nat) (l r : Nat) (hl : l < 4294967296) (hr : r < 4294967296) (hf : ∀ x, f x < 4294967296) (hq : ∀ i, i < 16 → q i < 4294967296) : ∀ k, k ≤ 16 → (rnd f q l r k).1 < 4294967296 ∧ (rnd f q l r k).2 < 4294967296
  | 0, _ => ⟨hl, hr⟩
  | k + 1, h => by
    obtain ⟨h1, h2⟩ := rnd_lt f q l r hl hr hf hq k (by omega)
    exact ⟨xor_lt _ _ h2 (hf _), xor_lt _ _ h1 (hq k (by omega))⟩
theorem cr_lt (f q : Nat → Nat) (l r : Nat) (hl : l < 4294967296) (hr : r < 4294967296) (hf : ∀ x, f x < 4294967296) (hq : ∀ i, i < 18 → q i < 4294967296) : crL f q l r < 4294967296 ∧ crR f q l r < 4294967296 := by
  obtain ⟨h1, h2⟩ := rnd_lt f q l r hl hr hf (fun i h => hq i (by omega)) 16 (by omega)
  exact ⟨xor_lt _ _ h2 (hq 17 (by omega)), xor_lt _ _ h1 (hq 16 (by omega))⟩
/-- the words come back when the places are gone through from behind -/
theorem back_step (f q : Nat → Nat) (l r : Nat) : ∀ k, k ≤ 16 →
    rnd f (fun i => q (17 - i)) (crL f q l r) (crR f q l r) k = ((rnd f q l r (16 - k)).2 ^^^ q (17 - k), if k = 0 then (rnd f q l r 16).1 ^^^ q 16 else (rnd f q l r (17 - k)).2)
  | 0, _ => rfl
  | k + 1, h => by
    obtain ⟨m, hm⟩ : ∃ m, m + k = 15 := ⟨15 - k, by omega⟩
    have e1 : 16 - k = m + 1 := by omega
    have e2 : 17 - (k + 1) = m + 1 := by omega
    have e3 : 16 - (k + 1) = m := by omega
    have e0 : 17 - k = m + 2 := by omega
    have ih := back_step f q l r k (by omega)
    rw [e1, e0] at ih
    have e4 : (if k = 0 then (rnd f q l r 16).1 ^^^ q 16 else (rnd f q l r (m + 2)).2) = (rnd f q l r (m + 1)).1 ^^^ q (m + 1) := by
      by_cases hk : k = 0
      · rw [if_pos hk]
        have : m + 1 = 16 := by omega
        rw [this]
      · rw [if_neg hk]
        rfl
    rw [e4] at ih
    rw [e2, e3, if_neg (by omega)]
    simp only [rnd, ih, e0]
    rw [x_x, x_ab _ (q (m + 1)), x_x]
theorem cr_back (f q : Nat → Nat) (l r : Nat) : crL f (fun i => q (17 - i)) (crL f q l r) (crR f q l r) = l ∧ crR f (fun i => q (17 - i)) (crL f q l r) (crR f q l r) = r := by
  have h := back_step f q l r 16 (by omega)
  have e : rnd f (fun i => q (17 - i)) (crL f q l r) (crR f q l r) 16 = (r ^^^ q 1, l ^^^ q 0) := h
  constructor
  · show (rnd f (fun i => q (17 - i)) (crL f q l r) (crR f q l r) 16).2 ^^^ q 0 = l
    rw [e, x_x]
  · show (rnd f (fun i => q (17 - i)) (crL f q l r) (crR f q l r) 16).1 ^^^ q 1 = r
    rw [e, x_x]
theorem rnd_congr (f p q : Nat → Nat) (l r : Nat) (h : ∀ i, i < 16 → p i = q i) : ∀ k, k ≤ 16 → rnd f p l r k = rnd f q l r k
  | 0, _ => rfl
  | k + 1, hk => by
    have ih := rnd_congr f p q l r h k (by omega)
    simp only [rnd, ih, h k (by omega)]
theorem de_en (g : Nat → Nat) (l r : Nat) : deL g (enL g l r) (enR g l r) = l ∧ deR g (enL g l r) (enR g l r) = r := cr_back (fB g) g l r
theorem en_de (g : Nat → Nat) (l r : Nat) : enL g (deL g l r) (deR g l r) = l ∧ enR g (deL g l r) (deR g l r) = r := by
  have h := cr_back (fB g) (rv g) l r
  have e : ∀ i, i < 18 → rv g (17 - i) = g i := fun i hi => by show g (17 - (17 - i)) = g i; congr 1; omega
  have k1 : ∀ a b, enL g a b = crL (fB g) (fun i => rv g (17 - i)) a b := fun a b => by
    unfold enL crL; rw [rnd_congr (fB g) g (fun i => rv g (17 - i)) a b (fun i hi => (e i (by omega)).symm) 16 (by omega)]; exact congrArg (_ ^^^ ·) (e 17 (by omega)).symm
  have k2 : ∀ a b, enR g a b = crR (fB g) (fun i => rv g (17 - i)) a b := fun a b => by
    unfold enR crR; rw [rnd_congr (fB g) g (fun i => rv g (17 - i)) a b (fun i hi => (e i (by omega)).symm) 16 (by omega)]; exact congrArg (_ ^^^ ·) (e 16 (by omega)).symm
  rw [k1, k2]
  exact h

/-- the words that all lie below 2^32 -/
def Ok (g : Nat → Nat) : Prop := ∀ i, i < 1042 → g i < 4294967296
theorem en_lt (g : Nat → Nat) (hg : Ok g) (l r : Nat) (hl : l < 4294967296) (hr : r < 4294967296) : enL g l r < 4294967296 ∧ enR g l r < 4294967296 :=
  cr_lt _ _ l r hl hr (fB_lt g) fun i hi => hg i (by omega)
theorem de_lt (g : Nat → Nat) (hg : Ok g) (l r : Nat) (hl : l < 4294967296) (hr : r < 4294967296) : deL g l r < 4294967296 ∧ deR g l r < 4294967296 :=
  cr_lt _ _ l r hl hr (fB_lt g) fun i hi => hg (17 - i) (by omega)
/-- one word put in a place -/
def upd (g : Nat → Nat) (i v : Nat) : Nat → Nat := fun j => if j = i then v else g j
theorem upd_ok {g : Nat → Nat} (h : Ok g) (i v : Nat) (hv : v < 4294967296) : Ok (upd g i v) := fun j hj => by
  unfold upd; split
  · exact hv
  · exact h j hj

/-- a text's byte, 0 where there is none -/
def bt (s : ByteArray) (i : Nat) : Nat := if h : i < s.size then (s[i]'h).toNat else 0
theorem bt_lt (s : ByteArray) (i : Nat) : bt s i < 256 := by
  unfold bt; split
  · exact UInt8.toNat_lt _
  · decide
/-- the first k bytes of the word i of a text, round and round -/
def wdTo (s : ByteArray) (i : Nat) : Nat → Nat
  | 0 => 0
  | k + 1 => wdTo s i k * 256 + bt s ((4 * i + k) % s.size)
def wd (s : ByteArray) (i : Nat) : Nat := wdTo s i 4
theorem wdTo_lt (s : ByteArray) (i : Nat) : ∀ k, wdTo s i k < 256 ^ k
  | 0 => by simp [wdTo]
  | k + 1 => by
    have h1 := wdTo_lt s i k
    have h2 := bt_lt s ((4 * i + k) % s.size)
    rw [wdTo, Nat.pow_succ]
    omega
theorem wd_lt (s : ByteArray) (i : Nat) : wd s i < 4294967296 := wdTo_lt s i 4
theorem wdTo_none (s : ByteArray) (h : s.size = 0) (i : Nat) : ∀ k, wdTo s i k = 0
  | 0 => rfl
  | k + 1 => by
    rw [wdTo, wdTo_none s h i k]
    unfold bt
    rw [dif_neg (by omega)]

/-- the key's words put into the first n of p -/
def keyTo (g : Nat → Nat) (s : ByteArray) : Nat → Nat → Nat
  | 0 => g
  | n + 1 => upd (keyTo g s n) n (g n ^^^ wd s n)
theorem keyTo_at (g : Nat → Nat) (s : ByteArray) : ∀ n i, keyTo g s n i = if i < n then g i ^^^ wd s i else g i
  | 0, i => by rw [if_neg (by omega)]; rfl
  | n + 1, i => by
    show (if i = n then g n ^^^ wd s n else keyTo g s n i) = _
    rw [keyTo_at g s n i]
    by_cases h : i = n
    · subst h; rw [if_pos rfl, if_pos (by omega)]
    · rw [if_neg h]
      by_cases h2 : i < n
      · rw [if_pos h2, if_pos (by omega)]
      · rw [if_neg h2, if_neg (by omega)]
theorem keyTo_ok {g : Nat → Nat} (s : ByteArray) (h : Ok g) (n : Nat) : Ok (keyTo g s n) := fun i hi => by
  rw [keyTo_at]; split
  · exact xor_lt _ _ (h i hi) (wd_lt s i)
  · exact h i hi
/-- the words and l, r behind k of the chain's steps -/
structure St where
  g : Nat → Nat
  l : Nat
  r : Nat
def stp (s : ByteArray) (c : St) (k : Nat) : St :=
  ⟨upd (upd c.g (2 * k) (enL c.g (c.l ^^^ wd s (2 * k)) (c.r ^^^ wd s (2 * k + 1)))) (2 * k + 1) (enR c.g (c.l ^^^ wd s (2 * k)) (c.r ^^^ wd s (2 * k + 1))),
    enL c.g (c.l ^^^ wd s (2 * k)) (c.r ^^^ wd s (2 * k + 1)), enR c.g (c.l ^^^ wd s (2 * k)) (c.r ^^^ wd s (2 * k + 1))⟩
def chTo (s : ByteArray) (g : Nat → Nat) : Nat → St
  | 0 => ⟨g, 0, 0⟩
  | k + 1 => stp s (chTo s g k) k
def StOk (c : St) : Prop := Ok c.g ∧ c.l < 4294967296 ∧ c.r < 4294967296
theorem stp_ok (s : ByteArray) (c : St) (h : StOk c) (k : Nat) : StOk (stp s c k) := by
  obtain ⟨h1, h2, h3⟩ := h
  have e := en_lt c.g h1 _ _ (xor_lt _ _ h2 (wd_lt s (2 * k))) (xor_lt _ _ h3 (wd_lt s (2 * k + 1)))
  exact ⟨upd_ok (upd_ok h1 _ _ e.1) _ _ e.2, e.1, e.2⟩
theorem chTo_ok (s : ByteArray) (g : Nat → Nat) (h : Ok g) : ∀ k, StOk (chTo s g k)
  | 0 => ⟨h, Nat.zero_lt_of_ne_zero (by decide), Nat.zero_lt_of_ne_zero (by decide)⟩
  | k + 1 => stp_ok s _ (chTo_ok s g h k) k
/-- a salt and a key put into words -/
def exB (g : Nat → Nat) (salt key : ByteArray) : Nat → Nat := (chTo salt (keyTo g key 18) 521).g
theorem exB_ok {g : Nat → Nat} (h : Ok g) (salt key : ByteArray) : Ok (exB g salt key) := (chTo_ok salt _ (keyTo_ok key h 18) 521).1
end Go.Proofs.Ytglmfagmlfjceaa.Ci

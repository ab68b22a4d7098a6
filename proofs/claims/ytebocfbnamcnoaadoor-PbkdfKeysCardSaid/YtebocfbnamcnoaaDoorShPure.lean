/- SHA-256 as plain mathematics: words are natural numbers below 2^32; what a block's words are spread to, a round, the state behind a block. No condition. -/
import Derived.Test.YtebocfbnamcnoaaDoorRot
namespace Go.Proofs.YtebocfbnamcnoaaDoor.Sha
open Rot

def m32 : Nat := 4294967296
def add (a b : Nat) : Nat := (a + b) % 4294967296
def s0 (x : Nat) : Nat := (rotl 32 x 25 ^^^ rotl 32 x 14) ^^^ x / 8
def s1 (x : Nat) : Nat := (rotl 32 x 15 ^^^ rotl 32 x 13) ^^^ x / 1024
def b0 (x : Nat) : Nat := (rotl 32 x 30 ^^^ rotl 32 x 19) ^^^ rotl 32 x 10
def b1 (x : Nat) : Nat := (rotl 32 x 26 ^^^ rotl 32 x 21) ^^^ rotl 32 x 7
def ch (e f g : Nat) : Nat := (e &&& f) ^^^ ((4294967295 - e) &&& g)
def maj (a b c : Nat) : Nat := ((a &&& b) ^^^ (a &&& c)) ^^^ (b &&& c)

/-- the word of place i, out of those ahead -/
def next (W : List Nat) (i : Nat) : Nat := add (add (add (W.getD (i - 16) 0) (W.getD (i - 7) 0)) (s0 (W.getD (i - 15) 0))) (s1 (W.getD (i - 2) 0))
/-- 64 places, of which those up to 16 + j are filled -/
def fill (own : List Nat) : Nat → List Nat
  | 0 => own ++ List.replicate 48 0
  | j + 1 => (fill own j).set (16 + j) (next (fill own j) (16 + j))
def sched (own : List Nat) : List Nat := fill own 48

structure St where
  a : Nat
  b : Nat
  c : Nat
  d : Nat
  e : Nat
  f : Nat
  g : Nat
  h : Nat
def t1 (s : St) (k w : Nat) : Nat := add (add (add (add s.h (b1 s.e)) (ch s.e s.f s.g)) k) w
def t2 (s : St) : Nat := add (b0 s.a) (maj s.a s.b s.c)
def step (s : St) (k w : Nat) : St := ⟨add (t1 s k w) (t2 s), s.a, s.b, s.c, add s.d (t1 s k w), s.e, s.f, s.g⟩
def rounds (K W : List Nat) (s : St) : Nat → St
  | 0 => s
  | i + 1 => step (rounds K W s i) (K.getD i 0) (W.getD i 0)
def St.of (l : List Nat) : St := ⟨l.getD 0 0, l.getD 1 0, l.getD 2 0, l.getD 3 0, l.getD 4 0, l.getD 5 0, l.getD 6 0, l.getD 7 0⟩
def St.list (s : St) : List Nat := [s.a, s.b, s.c, s.d, s.e, s.f, s.g, s.h]
/-- the state behind a block -/
def comp (K : List Nat) (h own : List Nat) : List Nat :=
  let v := rounds K (sched own) (St.of h) 64
  [add (h.getD 0 0) v.a, add (h.getD 1 0) v.b, add (h.getD 2 0) v.c, add (h.getD 3 0) v.d, add (h.getD 4 0) v.e, add (h.getD 5 0) v.f, add (h.getD 6 0) v.g, add (h.getD 7 0) v.h]

theorem add_lt (a b : Nat) : add a b < 4294967296 := Nat.mod_lt _ (by decide)
theorem fill_length (own : List Nat) (h : own.length = 16) : ∀ j, (fill own j).length = 64
  | 0 => by simp [fill, h]
  | j + 1 => by simp [fill, fill_length own h j]
theorem fill_lt (own : List Nat) (h : ∀ x ∈ own, x < 4294967296) : ∀ j, ∀ x ∈ fill own j, x < 4294967296
  | 0, x, hx => by
    simp only [fill, List.mem_append, List.mem_replicate] at hx
    rcases hx with hx | ⟨_, rfl⟩
    · exact h x hx
    · decide
  | j + 1, x, hx => by
    rcases List.mem_or_eq_of_mem_set hx with hx | rfl
    · exact fill_lt own h j x hx
    · exact add_lt _ _
theorem getD_lt_of (l : List Nat) (h : ∀ x ∈ l, x < 4294967296) (i : Nat) : l.getD i 0 < 4294967296 := by
  rw [List.getD_eq_getElem?_getD]
  by_cases hi : i < l.length
  · rw [List.getElem?_eq_getElem hi]; exact h _ (List.getElem_mem hi)
  · rw [List.getElem?_eq_none (by omega)]; decide
theorem rotl_lt32 (x s : Nat) (hs : s ≤ 32) (hx : x < 4294967296) : rotl 32 x s < 4294967296 := rotl_lt 32 x s hs hx
theorem xor_lt32 (a b : Nat) (ha : a < 4294967296) (hb : b < 4294967296) : a ^^^ b < 4294967296 := Nat.xor_lt_two_pow (n := 32) ha hb
theorem and_lt32 (a b : Nat) (ha : a < 4294967296) : a &&& b < 4294967296 := Nat.lt_of_le_of_lt Nat.and_le_left ha
/-- all words of a state are words -/
def St.ok (s : St) : Prop := s.a < 4294967296 ∧ s.b < 4294967296 ∧ s.c < 4294967296 ∧ s.d < 4294967296 ∧ s.e < 4294967296 ∧ s.f < 4294967296 ∧ s.g < 4294967296 ∧ s.h < 4294967296
theorem step_ok {s : St} (h : s.ok) (k w : Nat) : (step s k w).ok := ⟨add_lt _ _, h.1, h.2.1, h.2.2.1, add_lt _ _, h.2.2.2.2.1, h.2.2.2.2.2.1, h.2.2.2.2.2.2.1⟩
theorem rounds_ok (K W : List Nat) {s : St} (h : s.ok) : ∀ i, (rounds K W s i).ok
  | 0 => h
  | i + 1 => step_ok (rounds_ok K W h i) _ _
theorem of_ok (l : List Nat) (h : ∀ x ∈ l, x < 4294967296) : (St.of l).ok := by
  have H := getD_lt_of l h
  exact ⟨H 0, H 1, H 2, H 3, H 4, H 5, H 6, H 7⟩
theorem comp_length (K h own : List Nat) : (comp K h own).length = 8 := rfl
theorem comp_lt (K h own : List Nat) : ∀ x ∈ comp K h own, x < 4294967296 := by
  intro x hx
  unfold comp at hx
  generalize rounds K (sched own) (St.of h) 64 = v at hx
  simp only [List.mem_cons, List.not_mem_nil, or_false] at hx
  rcases hx with rfl | rfl | rfl | rfl | rfl | rfl | rfl | rfl <;> exact add_lt _ _

/-! what Go's operations on words of 32 bits are -/
theorem ofInt32 (a : Nat) (h : a < 4294967296) : (BitVec.ofInt 32 (a : Int)).toNat = a := by
  rw [BitVec.toNat_ofInt]; simp; omega
theorem xor32 (a b : Nat) (ha : a < 4294967296) (hb : b < 4294967296) : bits .xor .u32 (a : Int) (b : Int) = ((a ^^^ b : Nat) : Int) := by
  have h := xor_lt32 a b ha hb
  have e : bits .xor .u32 (a : Int) (b : Int) = IntKind.u32.wrap (((BitVec.ofInt 32 (a : Int)) ^^^ (BitVec.ofInt 32 (b : Int))).toNat : Int) := rfl
  rw [e, BitVec.toNat_xor, ofInt32 a ha, ofInt32 b hb, IntKind.wrap_u32]; omega
theorem and32 (a b : Nat) (ha : a < 4294967296) (hb : b < 4294967296) : bits .and .u32 (a : Int) (b : Int) = ((a &&& b : Nat) : Int) := by
  have h := and_lt32 a b ha
  have e : bits .and .u32 (a : Int) (b : Int) = IntKind.u32.wrap (((BitVec.ofInt 32 (a : Int)) &&& (BitVec.ofInt 32 (b : Int))).toNat : Int) := rfl
  rw [e, BitVec.toNat_and, ofInt32 a ha, ofInt32 b hb, IntKind.wrap_u32]; omega
theorem wadd (a b : Nat) : IntKind.u32.wrap ((a : Int) + (b : Int)) = ((add a b : Nat) : Int) := by
  rw [IntKind.wrap_u32]; unfold add; omega
theorem rot3 (x s t u : Nat) (hs : s ≤ 32) (ht : t ≤ 32) (hx : x < 4294967296) (hu : u < 4294967296) : bits .xor .u32 (bits .xor .u32 (rotl 32 x s : Nat) (rotl 32 x t : Nat)) (u : Int) = (((rotl 32 x s ^^^ rotl 32 x t) ^^^ u : Nat) : Int) := by
  rw [xor32 _ _ (rotl_lt32 x s hs hx) (rotl_lt32 x t ht hx), xor32 _ _ (xor_lt32 _ _ (rotl_lt32 x s hs hx) (rotl_lt32 x t ht hx)) hu]
theorem s0_val (x : Nat) (hx : x < 4294967296) : bits .xor .u32 (bits .xor .u32 (rotl 32 x 25 : Nat) (rotl 32 x 14 : Nat)) ((x : Int) / 8) = (s0 x : Nat) := by
  rw [show (x : Int) / 8 = ((x / 8 : Nat) : Int) by omega, rot3 x 25 14 (x / 8) (by omega) (by omega) hx (by omega)]; rfl
theorem s1_val (x : Nat) (hx : x < 4294967296) : bits .xor .u32 (bits .xor .u32 (rotl 32 x 15 : Nat) (rotl 32 x 13 : Nat)) ((x : Int) / 1024) = (s1 x : Nat) := by
  rw [show (x : Int) / 1024 = ((x / 1024 : Nat) : Int) by omega, rot3 x 15 13 (x / 1024) (by omega) (by omega) hx (by omega)]; rfl
theorem b0_val (x : Nat) (hx : x < 4294967296) : bits .xor .u32 (bits .xor .u32 (rotl 32 x 30 : Nat) (rotl 32 x 19 : Nat)) (rotl 32 x 10 : Nat) = (b0 x : Nat) :=
  rot3 x 30 19 _ (by omega) (by omega) hx (rotl_lt32 x 10 (by omega) hx)
theorem b1_val (x : Nat) (hx : x < 4294967296) : bits .xor .u32 (bits .xor .u32 (rotl 32 x 26 : Nat) (rotl 32 x 21 : Nat)) (rotl 32 x 7 : Nat) = (b1 x : Nat) :=
  rot3 x 26 21 _ (by omega) (by omega) hx (rotl_lt32 x 7 (by omega) hx)
theorem ch_val (e f g : Nat) (he : e < 4294967296) (hf : f < 4294967296) (hg : g < 4294967296) : bits .xor .u32 (bits .and .u32 (e : Int) (f : Int)) (bits .and .u32 ((4294967295 - e : Nat) : Int) (g : Int)) = (ch e f g : Nat) := by
  rw [and32 e f he hf, and32 _ g (by omega) hg, xor32 _ _ (and_lt32 e f he) (and_lt32 _ g (by omega))]; rfl
theorem maj_val (a b c : Nat) (ha : a < 4294967296) (hb : b < 4294967296) (hc : c < 4294967296) : bits .xor .u32 (bits .xor .u32 (bits .and .u32 (a : Int) (b : Int)) (bits .and .u32 (a : Int) (c : Int))) (bits .and .u32 (b : Int) (c : Int)) = (maj a b c : Nat) := by
  rw [and32 a b ha hb, and32 a c ha hc, and32 b c hb hc, xor32 _ _ (and_lt32 a b ha) (and_lt32 a c ha), xor32 _ _ (xor_lt32 _ _ (and_lt32 a b ha) (and_lt32 a c ha)) (and_lt32 b c hb)]; rfl
theorem next_val (x16 x7 x15 x2 : Nat) (h15 : x15 < 4294967296) (h2 : x2 < 4294967296) :
    IntKind.u32.wrap (IntKind.u32.wrap (IntKind.u32.wrap ((x16 : Int) + (x7 : Int)) + bits .xor .u32 (bits .xor .u32 (rotl 32 x15 25 : Nat) (rotl 32 x15 14 : Nat)) ((x15 : Int) / 8)) + bits .xor .u32 (bits .xor .u32 (rotl 32 x2 15 : Nat) (rotl 32 x2 13 : Nat)) ((x2 : Int) / 1024)) = ((add (add (add x16 x7) (s0 x15)) (s1 x2) : Nat) : Int) := by
  rw [s0_val x15 h15, s1_val x2 h2, wadd, wadd, wadd]
theorem not32 (e : Nat) (he : e < 4294967296) : bits .xor .u32 (if IntKind.u32.signed = true then -1 else IntKind.u32.max) (e : Int) = ((4294967295 - e : Nat) : Int) := by
  have e0 : (if IntKind.u32.signed = true then (-1 : Int) else IntKind.u32.max) = ((4294967295 : Nat) : Int) := rfl
  rw [e0, xor32 4294967295 e (by decide) he]
  congr 1
  have h := BitVec.toNat_xor (BitVec.allOnes 32) (BitVec.ofNat 32 e)
  rw [BitVec.allOnes_xor, BitVec.toNat_not, BitVec.toNat_allOnes, BitVec.toNat_ofNat, Nat.mod_eq_of_lt (by simpa using he)] at h
  simpa using h.symm
theorem t1_val (a b c d e f g h k w : Nat) (he : e < 4294967296) (hf : f < 4294967296) (hg : g < 4294967296) :
    IntKind.u32.wrap (IntKind.u32.wrap (IntKind.u32.wrap (IntKind.u32.wrap ((h : Int) + bits .xor .u32 (bits .xor .u32 (rotl 32 e 26 : Nat) (rotl 32 e 21 : Nat)) (rotl 32 e 7 : Nat)) + bits .xor .u32 (bits .and .u32 (e : Int) (f : Int)) (bits .and .u32 (bits .xor .u32 (if IntKind.u32.signed = true then -1 else IntKind.u32.max) (e : Int)) (g : Int))) + (k : Int)) + (w : Int))
      = ((t1 ⟨a, b, c, d, e, f, g, h⟩ k w : Nat) : Int) := by
  rw [b1_val e he, not32 e he, ch_val e f g he hf hg, wadd, wadd, wadd, wadd]; rfl
theorem t2_val (a b c d e f g h : Nat) (ha : a < 4294967296) (hb : b < 4294967296) (hc : c < 4294967296) :
    IntKind.u32.wrap (bits .xor .u32 (bits .xor .u32 (rotl 32 a 30 : Nat) (rotl 32 a 19 : Nat)) (rotl 32 a 10 : Nat) + bits .xor .u32 (bits .xor .u32 (bits .and .u32 (a : Int) (b : Int)) (bits .and .u32 (a : Int) (c : Int))) (bits .and .u32 (b : Int) (c : Int)))
      = ((t2 ⟨a, b, c, d, e, f, g, h⟩ : Nat) : Int) := by
  rw [b0_val a ha, maj_val a b c ha hb hc, wadd]; rfl
/-- the first j words of a state with those of another added -/
def mixed (st v : List Nat) : Nat → List Nat
  | 0 => st
  | j + 1 => (mixed st v j).set j (add (st.getD j 0) (v.getD j 0))
theorem mixed_length (st v : List Nat) : ∀ j, (mixed st v j).length = st.length
  | 0 => rfl
  | j + 1 => by simp [mixed, mixed_length st v j]
theorem mixed_at (st v : List Nat) (i : Nat) : ∀ j, j ≤ i → (mixed st v j).getD i 0 = st.getD i 0
  | 0, _ => rfl
  | j + 1, h => by
    have := mixed_at st v i j (by omega)
    rw [mixed, List.getD_eq_getElem?_getD, List.getElem?_set_ne (by omega), ← List.getD_eq_getElem?_getD, this]
theorem mixed_all (st : List Nat) (hs : st.length = 8) (a b c d e f g h : Nat) : mixed st [a, b, c, d, e, f, g, h] 8 =
    [add (st.getD 0 0) a, add (st.getD 1 0) b, add (st.getD 2 0) c, add (st.getD 3 0) d, add (st.getD 4 0) e, add (st.getD 5 0) f, add (st.getD 6 0) g, add (st.getD 7 0) h] := by
  match st, hs with
  | [_, _, _, _, _, _, _, _], _ => rfl
theorem comp_of (K st own : List Nat) (hs : st.length = 8) (a b c d e f g h : Nat) (hr : rounds K (sched own) (St.of st) 64 = ⟨a, b, c, d, e, f, g, h⟩) : mixed st [a, b, c, d, e, f, g, h] 8 = comp K st own := by
  unfold comp
  rw [hr, mixed_all st hs]
end Go.Proofs.YtebocfbnamcnoaaDoor.Sha

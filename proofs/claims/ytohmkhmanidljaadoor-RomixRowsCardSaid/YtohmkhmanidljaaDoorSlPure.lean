/- Salsa20 as plain mathematics: words are natural numbers below 2^32; a quarter, a double round, sixteen words behind so many of them. No condition. -/
import Derived.Test.YtohmkhmanidljaaDoorRot
import Derived.WalkKit
import Derived.KernelRfl
namespace Go.Proofs.YtohmkhmanidljaaDoor.Sl
set_option maxRecDepth 50000
open Rot

def add (a b : Nat) : Nat := (a + b) % 4294967296
theorem add_lt (a b : Nat) : add a b < 4294967296 := Nat.mod_lt _ (by decide)
theorem add_comm (a b : Nat) : add a b = add b a := by unfold add; rw [Nat.add_comm]
theorem rotl_lt32 (x s : Nat) (hs : s ≤ 32) (hx : x < 4294967296) : rotl 32 x s < 4294967296 := rotl_lt 32 x s hs hx
theorem xor_lt32 (a b : Nat) (ha : a < 4294967296) (hb : b < 4294967296) : a ^^^ b < 4294967296 := Nat.xor_lt_two_pow (n := 32) ha hb
theorem ofInt32 (a : Nat) (h : a < 4294967296) : (BitVec.ofInt 32 (a : Int)).toNat = a := by
  rw [BitVec.toNat_ofInt]; simp; omega
theorem xor32 (a b : Nat) (ha : a < 4294967296) (hb : b < 4294967296) : bits .xor .u32 (a : Int) (b : Int) = ((a ^^^ b : Nat) : Int) := by
  have h := xor_lt32 a b ha hb
  have e : bits .xor .u32 (a : Int) (b : Int) = IntKind.u32.wrap (((BitVec.ofInt 32 (a : Int)) ^^^ (BitVec.ofInt 32 (b : Int))).toNat : Int) := rfl
  rw [e, BitVec.toNat_xor, ofInt32 a ha, ofInt32 b hb, IntKind.wrap_u32]; omega
theorem wadd (a b : Nat) : IntKind.u32.wrap ((a : Int) + (b : Int)) = ((add a b : Nat) : Int) := by
  rw [IntKind.wrap_u32]; unfold add; omega
def okw (l : List Nat) : Prop := ∀ x ∈ l, x < 4294967296
theorem okw.at_ {l : List Nat} (h : okw l) (i : Nat) : l.getD i 0 < 4294967296 := by
  rw [List.getD_eq_getElem?_getD]
  rcases Nat.lt_or_ge i l.length with hi | hi
  · rw [List.getElem?_eq_getElem hi]; exact h _ (List.getElem_mem hi)
  · rw [List.getElem?_eq_none hi]; decide
theorem okw.set {l : List Nat} (h : okw l) (i x : Nat) (hx : x < 4294967296) : okw (l.set i x) := by
  intro y hy
  rcases List.mem_or_eq_of_mem_set hy with h1 | h1
  · exact h y h1
  · rw [h1]; exact hx

structure Q where
  a : Nat
  b : Nat
  c : Nat
  d : Nat
def Q.ok (q : Q) : Prop := q.a < 4294967296 ∧ q.b < 4294967296 ∧ q.c < 4294967296 ∧ q.d < 4294967296
def bO (q : Q) : Nat := q.b ^^^ rotl 32 (add q.a q.d) 7
def cO (q : Q) : Nat := q.c ^^^ rotl 32 (add (bO q) q.a) 9
def dO (q : Q) : Nat := q.d ^^^ rotl 32 (add (cO q) (bO q)) 13
def aO (q : Q) : Nat := q.a ^^^ rotl 32 (add (dO q) (cO q)) 18
def quarter (q : Q) : Q := ⟨aO q, bO q, cO q, dO q⟩
def Q.list (q : Q) : List Nat := [q.a, q.b, q.c, q.d]
theorem rot_lt (x s : Nat) (hs : s ≤ 32) (y : Nat) : rotl 32 (add x y) s < 4294967296 := rotl_lt32 _ s hs (add_lt _ _)
theorem quarter_ok {q : Q} (h : q.ok) : (quarter q).ok := by
  obtain ⟨h1, h2, h3, h4⟩ := h
  exact ⟨xor_lt32 _ _ h1 (rot_lt _ 18 (by decide) _), xor_lt32 _ _ h2 (rot_lt _ 7 (by decide) _), xor_lt32 _ _ h3 (rot_lt _ 9 (by decide) _), xor_lt32 _ _ h4 (rot_lt _ 13 (by decide) _)⟩

/-- the places of the eight quarters -/
def qq : List Nat := [0, 4, 8, 12, 5, 9, 13, 1, 10, 14, 2, 6, 15, 3, 7, 11, 0, 1, 2, 3, 5, 6, 7, 4, 10, 11, 8, 9, 15, 12, 13, 14]
def pt (i k : Nat) : Nat := qq.getD (i * 4 + k) 0
theorem pt_lt (i k : Nat) (hi : i < 8) (hk : k < 4) : pt i k < 16 := by
  have h : ∀ i, i < 8 → ∀ k, k < 4 → pt i k < 16 := by decide
  exact h i hi k hk
def take4 (v : List Nat) (i : Nat) : Q := ⟨v.getD (pt i 0) 0, v.getD (pt i 1) 0, v.getD (pt i 2) 0, v.getD (pt i 3) 0⟩
def put4 (v : List Nat) (i : Nat) (q : Q) : List Nat := (((v.set (pt i 0) q.a).set (pt i 1) q.b).set (pt i 2) q.c).set (pt i 3) q.d
/-- from the quarter number s on, so many -/
def qTo (v : List Nat) (s : Nat) : Nat → List Nat
  | 0 => v
  | k + 1 => put4 (qTo v s k) (s + k) (quarter (take4 (qTo v s k) (s + k)))
def dbl (v : List Nat) : List Nat := qTo v 0 8
/-- columns or rows -/
def half (v : List Nat) (rows : Bool) : List Nat := qTo v (if rows then 4 else 0) 4
theorem put4_length (v : List Nat) (i : Nat) (q : Q) : (put4 v i q).length = v.length := by simp [put4]
theorem put4_ok {v : List Nat} (h : okw v) (i : Nat) {q : Q} (hq : q.ok) : okw (put4 v i q) :=
  (((h.set _ _ hq.1).set _ _ hq.2.1).set _ _ hq.2.2.1).set _ _ hq.2.2.2
theorem take4_ok {v : List Nat} (h : okw v) (i : Nat) : (take4 v i).ok := ⟨h.at_ _, h.at_ _, h.at_ _, h.at_ _⟩
theorem qTo_length (v : List Nat) (s : Nat) : ∀ k, (qTo v s k).length = v.length
  | 0 => rfl
  | k + 1 => by rw [qTo, put4_length, qTo_length v s k]
theorem qTo_ok {v : List Nat} (h : okw v) (s : Nat) : ∀ k, okw (qTo v s k)
  | 0 => h
  | k + 1 => put4_ok (qTo_ok h s k) _ (quarter_ok (take4_ok (qTo_ok h s k) _))
theorem dbl_length (v : List Nat) : (dbl v).length = v.length := qTo_length v 0 8
theorem dbl_ok {v : List Nat} (h : okw v) : okw (dbl v) := qTo_ok h 0 8
theorem half_length (v : List Nat) (r : Bool) : (half v r).length = v.length := qTo_length v _ 4
theorem half_ok {v : List Nat} (h : okw v) (r : Bool) : okw (half v r) := qTo_ok h _ 4
theorem qTo_more (v : List Nat) (s m : Nat) : ∀ k, qTo (qTo v s m) (s + m) k = qTo v s (m + k)
  | 0 => rfl
  | k + 1 => by rw [qTo, qTo_more v s m k, Nat.add_assoc, ← Nat.add_assoc m k 1, qTo]
theorem half_half (v : List Nat) : half (half v false) true = dbl v := qTo_more v 0 4 4
/-- so many double rounds -/
def dTo (v : List Nat) : Nat → List Nat
  | 0 => v
  | k + 1 => dbl (dTo v k)
theorem dTo_length (v : List Nat) : ∀ k, (dTo v k).length = v.length
  | 0 => rfl
  | k + 1 => by rw [dTo, dbl_length, dTo_length v k]
theorem dTo_ok {v : List Nat} (h : okw v) : ∀ k, okw (dTo v k)
  | 0 => h
  | k + 1 => dbl_ok (dTo_ok h k)
/-- the first k words added up -/
def plus (y x : List Nat) : Nat → List Nat
  | 0 => y
  | k + 1 => (plus y x k).set k (add (y.getD k 0) (x.getD k 0))
theorem plus_length (y x : List Nat) : ∀ k, (plus y x k).length = y.length
  | 0 => rfl
  | k + 1 => by rw [plus, List.length_set, plus_length y x k]
theorem plus_at (y x : List Nat) (i : Nat) : ∀ k, k ≤ i → (plus y x k).getD i 0 = y.getD i 0
  | 0, _ => rfl
  | k + 1, h => by
    rw [plus, List.getD_eq_getElem?_getD, List.getElem?_set_ne (by omega), ← List.getD_eq_getElem?_getD]
    exact plus_at y x i k (by omega)
theorem plus_ok {y : List Nat} (h : okw y) (x : List Nat) : ∀ k, okw (plus y x k)
  | 0 => h
  | k + 1 => (plus_ok h x k).set _ _ (add_lt _ _)
def core (x : List Nat) (n : Nat) : List Nat := plus (dTo x n) x 16
theorem core_length (x : List Nat) (n : Nat) : (core x n).length = x.length := by rw [core, plus_length, dTo_length]
theorem core_ok {x : List Nat} (h : okw x) (n : Nat) : okw (core x n) := plus_ok (dTo_ok h n) x 16
/-- words 0 stay so -/
theorem core_zero : core (List.replicate 16 0) 4 = List.replicate 16 0 := by kernel_rfl
theorem quarter_one : quarter ⟨1, 0, 0, 0⟩ = ⟨134250821, 128, 66048, 542113792⟩ := by kernel_rfl
end Go.Proofs.YtohmkhmanidljaaDoor.Sl

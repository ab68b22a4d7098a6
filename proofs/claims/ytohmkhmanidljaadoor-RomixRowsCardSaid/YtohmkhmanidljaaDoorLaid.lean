/- words.laid, at words of 32 and of 64 bits, by its contract: the bytes of all words, one word behind the other, in any order of bytes that a function value tells. Conditions: the words fit their kind, the slice is no longer than an int tells by a quarter or an eighth. -/
import Derived.Test.YtohmkhmanidljaaDoorKit
import Derived.LoopTactic
import Derived.IntWalk
import Derived.Lib.Hide
import Derived.Outline
import Derived.Deep.DeepFit
namespace Go.Proofs.YtohmkhmanidljaaDoor
set_option maxRecDepth 50000
open Go.RowKit

/-- the bytes of a word, n of them, the one of place p i at i -/
def bytesOf (p : Nat → Nat) (n x : Nat) : List Nat := (List.range n).map fun i => x / 2 ^ (8 * p i) % 256
def u8s (l : List Nat) : List Value := l.map fun x : Nat => .int .u8 (x : Int)
def u32s (l : List Nat) : List Value := l.map fun x : Nat => .int .u32 (x : Int)
def u64s (l : List Nat) : List Value := l.map fun x : Nat => .int .u64 (x : Int)

/-- function number g tells the place p i of the byte that stands at i, of n -/
def Orders (g : FuncId) (p : Nat → Nat) (n : Nat) : Prop := (∀ (args : Array Value) (w : World), (callFunc g args).run Tryd.prog w = .ok (.enter g args) w) ∧
  ∀ (i : Nat) (w : World), i < n → Calls Tryd.prog g #[.int .i64 (i : Int), .int .i64 (n : Int)] w fun e w' => e = .returned (.int .i64 (p i : Nat)) ∧ w = w'

theorem enters {P : Program} {f : FuncId} {fn : Func} (hf : P.funcs[f]? = some fn) (hname : (fn.name == "runtime.NumGoroutine") = false) (hb : fn.body.isNone = false) (args : Array Value) (w : World) :
    (callFunc f args).run P w = .ok (.enter f args) w := by
  simp only [beq_eq_false_iff_ne, ne_eq] at hname
  have hb' : ¬ fn.body = none := fun h => by rw [h] at hb; cases hb
  simp [callFunc, hf, hname, hb']

theorem Tryd.info5 : (Tryd.prog.info? 5).map (fun i => (i.zero, i.size, i.bytes)) = some (some (.int .u8 0), 1, 1) := by kernel_rfl

theorem bytesOf_snoc (p : Nat → Nat) (n x : Nat) : bytesOf p (n + 1) x = bytesOf p n x ++ [x / 2 ^ (8 * p n) % 256] := by
  unfold bytesOf; rw [List.range_succ, List.map_append]; rfl
theorem bytesOf_length (p : Nat → Nat) (n x : Nat) : (bytesOf p n x).length = n := by simp [bytesOf]
theorem u8s_append (a b : List Nat) : u8s (a ++ b) = u8s a ++ u8s b := by simp [u8s]
theorem u8s_length (a : List Nat) : (u8s a).length = a.length := by simp [u8s]
theorem u32s_length (a : List Nat) : (u32s a).length = a.length := by simp [u32s]
theorem u64s_length (a : List Nat) : (u64s a).length = a.length := by simp [u64s]
theorem flat_snoc (f : Nat → List Nat) (xs : List Nat) (k : Nat) (h : k < xs.length) : (xs.take (k + 1)).flatMap f = (xs.take k).flatMap f ++ f xs[k] := by
  rw [List.take_succ_eq_append_getElem h, List.flatMap_append]; simp
theorem u32_at (xs : List Nat) (k : Nat) (h : k < (u32s xs).length) : (u32s xs)[k] = .int .u32 ((xs[k]'(by simpa [u32s] using h) : Nat) : Int) := by simp [u32s]
theorem u64_at (xs : List Nat) (k : Nat) (h : k < (u64s xs).length) : (u64s xs)[k] = .int .u64 ((xs[k]'(by simpa [u64s] using h) : Nat) : Int) := by simp [u64s]
theorem u8_at (xs : List Nat) (k : Nat) (h : k < (u8s xs).length) : (u8s xs)[k] = .int .u8 ((xs[k]'(by simpa [u8s] using h) : Nat) : Int) := by simp [u8s]

theorem one_new (w : World) (u : Value) (t : TypeId) : ∀ j v, [u][j]? = some v → (w.alloc (.cells #[u] t)).cell? ((⟨w.heap.size, 0, none⟩ : Addr).add j) = some v := by
  intro j v hj
  match j, hj with
  | 0, hj => simp at hj; subst hj; simp [Addr.add]
theorem one_cell (u : Value) (h : u.oneCell' = true) : ∀ v ∈ [u], v.oneCell' = true := by
  intro v hv; simp at hv; subst hv; exact h
theorem rel_step {w wr w2 : World} {e : TypeId} {v v' : Value} {n n' : Nat} {xs ys : List Value} {o : Obj} (hb : Below w.heap.size w wr) (hsz : w.heap.size ≤ wr.heap.size) (hown : wr.ownsRow w.heap.size e 1 v n xs)
    (hown2 : w2.ownsRow w.heap.size e 1 v' n' ys) (hg : (wr.alloc o).grownBy w2 v.ownBlock) : w2.ownsRow w.heap.size e 1 v' n' ys ∧ Below w.heap.size w w2 :=
  ⟨hown2, (hb.alloc hsz o).grown hg (by simp; omega) (fun k hk => (hown.lt k hk).1)⟩

end Go.Proofs.YtohmkhmanidljaaDoor

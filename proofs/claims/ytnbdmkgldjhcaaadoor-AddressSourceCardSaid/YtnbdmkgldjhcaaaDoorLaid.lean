/- words.laid, at words of 32 and of 64 bits, by its contract: the bytes of all words, one word behind the other, in any order of bytes that a function value tells. Conditions: the words fit their kind, the slice is no longer than an int tells by a quarter or an eighth. -/
import Derived.Test.YtnbdmkgldjhcaaaDoorKit
import Derived.LoopTactic
import Derived.IntWalk
import Derived.Lib.Hide
import Derived.Outline
import Derived.Deep.DeepFit
namespace Go.Proofs.YtnbdmkgldjhcaaaDoor
set_option maxRecDepth 50000
open Go.RowKit

def u64s (l : List Nat) : List Value := l.map fun x : Nat => .int .u64 (x : Int)

/-- function number g tells the place p i of the byte that stands at i, of n -/
def Orders (g : FuncId) (p : Nat → Nat) (n : Nat) : Prop := (∀ (args : Array Value) (w : World), (callFunc g args).run Tryd.prog w = .ok (.enter g args) w) ∧
  ∀ (i : Nat) (w : World), i < n → Calls Tryd.prog g #[.int .i64 (i : Int), .int .i64 (n : Int)] w fun e w' => e = .returned (.int .i64 (p i : Nat)) ∧ w = w'

theorem enters {P : Program} {f : FuncId} {fn : Func} (hf : P.funcs[f]? = some fn) (hname : (fn.name == "runtime.NumGoroutine") = false) (hb : fn.body.isNone = false) (args : Array Value) (w : World) :
    (callFunc f args).run P w = .ok (.enter f args) w := by
  simp only [beq_eq_false_iff_ne, ne_eq] at hname
  have hb' : ¬ fn.body = none := fun h => by rw [h] at hb; cases hb
  simp [callFunc, hf, hname, hb']

theorem Tryd.info5 : (Tryd.prog.info? 5).map (fun i => (i.zero, i.size, i.bytes)) = some (some (.int .u8 0), 1, 1) := by kernel_rfl

theorem u64s_length (a : List Nat) : (u64s a).length = a.length := by simp [u64s]
theorem u64_at (xs : List Nat) (k : Nat) (h : k < (u64s xs).length) : (u64s xs)[k] = .int .u64 ((xs[k]'(by simpa [u64s] using h) : Nat) : Int) := by simp [u64s]
end Go.Proofs.YtnbdmkgldjhcaaaDoor

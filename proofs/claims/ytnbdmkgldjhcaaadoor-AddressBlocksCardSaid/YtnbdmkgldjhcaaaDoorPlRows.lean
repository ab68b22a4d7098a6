/- What the laws of address have in memory: parameters, a turn, a shape. Conditions: those typed. -/
import Derived.Test.YtnbdmkgldjhcaaaDoorAdAt
namespace Go.Proofs.YtnbdmkgldjhcaaaDoor
set_option maxRecDepth 50000
open Go.RowKit

section
variable {w : World} {b : Nat} {v : Value} {ev : Operand → Value} {x : Operand} {o : Oper}
theorem not_run {t : TypeId} {c : Bool} (hop : o.op = .unOp .not t x) (hx : ev x = .bool c) : (execOp ev o).run Tryd.prog w = .ok (.value (.bool (!c))) w := by
  simp [execOp, hop, hx, go_sem]
theorem int_eql (x y : Nat) (w : World) : (binOp .eql 3 (.int .i64 (x : Int)) (.int .i64 (y : Int))).run Tryd.prog w = .ok (.bool (decide (x = y))) w := by
  simp [go_sem]
  by_cases h : x = y
  · simp [h]
  · simp [h]; omega
theorem int_neq (x y : Nat) (w : World) : (binOp .neq 3 (.int .i64 (x : Int)) (.int .i64 (y : Int))).run Tryd.prog w = .ok (.bool (!decide (x = y))) w := by
  simp [go_sem]
  by_cases h : x = y
  · simp [h]
  · simp [h]; omega
end
/-- the law's parameters and its turn -/
theorem law_new (pa pt pm pl pz p s : Int) (w : World) : RowAt ((w.alloc (.cells (pac pa pt pm pl pz) 23)).alloc (.cells (tuc p s) 25)) w.heap.size 23 (pac pa pt pm pl pz) ∧
    RowAt ((w.alloc (.cells (pac pa pt pm pl pz) 23)).alloc (.cells (tuc p s) 25)) (w.heap.size + 1) 25 (tuc p s) ∧
    Below w.heap.size w ((w.alloc (.cells (pac pa pt pm pl pz) 23)).alloc (.cells (tuc p s) 25)) := by
  refine ⟨(RowAt.new w _ _).alloc _, ?_, two_box w _ _⟩
  have := RowAt.new (w.alloc (.cells (pac pa pt pm pl pz) 23)) 25 (tuc p s)
  rwa [World.size_alloc] at this
/-- a shape and a turn, and what the law has turned -/
structure Lw (w wr : World) (q : Nat) (a t l m b c g z : Nat) (p s : Int) : Prop where
  tw : Tw wr q (w.heap.size + 1) a t l m b c g z p s
  below : Below w.heap.size w wr
section
variable {w wr w' : World} {q a t l m b c g z : Nat} {p s : Int}
theorem Lw.on (H : Lw w wr q a t l m b c g z p s) (hb : Below wr.heap.size wr w') : Lw w w' q a t l m b c g z p s := ⟨H.tw.on hb, H.below.trans (hb.mono H.below.size)⟩
theorem Lw.alloc (H : Lw w wr q a t l m b c g z p s) (o : Obj) : Lw w (wr.alloc o) q a t l m b c g z p s := H.on (one_box _ _)
theorem lw_new (ht : RowAt wr (w.heap.size + 1) 25 (tuc p s)) (hb : Below w.heap.size w wr) (a t l m b c g z : Nat) : Lw w (wr.alloc (.cells (spc a t l m b c g z) 28)) wr.heap.size a t l m b c g z p s :=
  ⟨⟨RowAt.new _ _ _, ht.alloc _⟩, hb.alloc hb.size _⟩
end
end Go.Proofs.YtnbdmkgldjhcaaaDoor

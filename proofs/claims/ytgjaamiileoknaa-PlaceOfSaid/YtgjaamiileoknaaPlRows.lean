/- What the laws of place have in memory: a turn, a shape, a spot; operations on spots. Conditions: those typed. -/
import Derived.Test.YtgjaamiileoknaaPlSettled
namespace Go.Proofs.Ytgjaamiileoknaa
set_option maxRecDepth 50000
open Go.RowKit

section
variable {w : World} {b : Nat} {v : Value} {ev : Operand → Value} {x : Operand} {o : Oper}
theorem sof_run {off : Nat} {k : Nat} (hop : o.op = .fieldAddr 35 x k) (hk : k = 0 ∨ k = 1) (hx : ev x = .pointer (some ⟨b, off, none⟩)) : (execOp ev o).run Try.prog w = .ok (.value (.pointer (some ⟨b, off + k, none⟩))) w := by
  rcases hk with rfl | rfl
  all_goals
    simp [execOp, hop, hx, go_sem]
theorem not_run {t : TypeId} {c : Bool} (hop : o.op = .unOp .not t x) (hx : ev x = .bool c) : (execOp ev o).run Try.prog w = .ok (.value (.bool (!c))) w := by
  simp [execOp, hop, hx, go_sem]
theorem int_eql (x y : Nat) (w : World) : (binOp .eql 3 (.int .i64 (x : Int)) (.int .i64 (y : Int))).run Try.prog w = .ok (.bool (decide (x = y))) w := by
  simp [go_sem]
  by_cases h : x = y
  · simp [h]
  · simp [h]; omega
theorem int_neq (x y : Nat) (w : World) : (binOp .neq 3 (.int .i64 (x : Int)) (.int .i64 (y : Int))).run Try.prog w = .ok (.bool (!decide (x = y))) w := by
  simp [go_sem]
  by_cases h : x = y
  · simp [h]
  · simp [h]; omega
end
/-- a list of one spot -/
def SoAt (x y : Nat) : Value → World → Prop := fun v w => ∃ d, v = .slice (some ⟨d, 0, none⟩) 1 1 ∧ RowAt w d 35 (soc x y)
theorem stable_so (x y : Nat) : Stable (SoAt x y) := fun _ _ _ ⟨d, h, hr⟩ hb => ⟨d, h, hr.step hb⟩

structure SoF (wr : World) (d x y : Nat) : Prop where
  so : (loadVar 35 ⟨d, 0, none⟩).run Try.prog wr = .ok (sov x y) wr
  x : wr.cell? ⟨d, 0 + 0, none⟩ = some (.int .i64 (x : Int))
  y : wr.cell? ⟨d, 0 + 1, none⟩ = some (.int .i64 (y : Int))
theorem so_facts {w : World} {d x y : Nat} (h : RowAt w d 35 (soc x y)) : SoF w d x y := ⟨so_load h, (h.cell 0).trans rfl, (h.cell 1).trans rfl⟩
theorem so_later {w : World} {d x y : Nat} (h : RowAt w d 35 (soc x y)) : Hid (∀ w', Below w.heap.size w w' → SoF w' d x y) := Lib.hid fun _ hb => so_facts (h.step hb)
theorem so_cells {w : World} {d x y : Nat} (h : RowAt w d 35 (soc x y)) : w.cell? ⟨d, 0, none⟩ = some (.int .i64 (x : Int)) ∧ w.cell? ⟨d, 1, none⟩ = some (.int .i64 (y : Int)) := ⟨(h.cell 0).trans rfl, (h.cell 1).trans rfl⟩

/-- the law's parameters and its turn -/
theorem law_new (pa pt pm pl pz p s : Int) (w : World) : RowAt ((w.alloc (.cells (pac pa pt pm pl pz) 23)).alloc (.cells (tuc p s) 25)) w.heap.size 23 (pac pa pt pm pl pz) ∧
    RowAt ((w.alloc (.cells (pac pa pt pm pl pz) 23)).alloc (.cells (tuc p s) 25)) (w.heap.size + 1) 25 (tuc p s) ∧
    Below w.heap.size w ((w.alloc (.cells (pac pa pt pm pl pz) 23)).alloc (.cells (tuc p s) 25)) := by
  refine ⟨(RowAt.new w _ _).alloc _, ?_, two_box w _ _⟩
  have := RowAt.new (w.alloc (.cells (pac pa pt pm pl pz) 23)) 25 (tuc p s)
  rwa [World.size_alloc] at this
/-- a shape and a turn, and what the law has turned -/
structure Lw (w wr : World) (q : Nat) (a t l m b c g z : Nat) (p s : Int) : Prop where
  tw : Tw wr q (w.heap.size + 1) a t l m b c g z p s
  below : Below w.heap.size w wr
section
variable {w wr w' : World} {q a t l m b c g z : Nat} {p s : Int}
theorem Lw.on (H : Lw w wr q a t l m b c g z p s) (hb : Below wr.heap.size wr w') : Lw w w' q a t l m b c g z p s := ⟨H.tw.on hb, H.below.trans (hb.mono H.below.size)⟩
theorem Lw.alloc (H : Lw w wr q a t l m b c g z p s) (o : Obj) : Lw w (wr.alloc o) q a t l m b c g z p s := H.on (one_box _ _)
theorem lw_new (ht : RowAt wr (w.heap.size + 1) 25 (tuc p s)) (hb : Below w.heap.size w wr) (a t l m b c g z : Nat) : Lw w (wr.alloc (.cells (spc a t l m b c g z) 29)) wr.heap.size a t l m b c g z p s :=
  ⟨⟨RowAt.new _ _ _, ht.alloc _⟩, hb.alloc hb.size _⟩
end
end Go.Proofs.Ytgjaamiileoknaa

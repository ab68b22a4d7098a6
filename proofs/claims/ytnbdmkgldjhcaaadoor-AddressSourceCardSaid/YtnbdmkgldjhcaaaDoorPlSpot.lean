/- Spots as rows and as values held against each other; a shape and a turn that stand in memory; calls of four and of five arguments. Conditions: those typed. -/
import Derived.Test.YtnbdmkgldjhcaaaDoorSpTurnSt
namespace Go.Proofs.YtnbdmkgldjhcaaaDoor
set_option maxRecDepth 50000
open Go.RowKit

theorem two_rows (a t l m b c g z : Nat) (p s : Int) (w : World) {w1 : World} (hb : Below ((w.alloc (.cells (spc a t l m b c g z) 28)).alloc (.cells (tuc p s) 25)).heap.size ((w.alloc (.cells (spc a t l m b c g z) 28)).alloc (.cells (tuc p s) 25)) w1) :
    RowAt w1 w.heap.size 28 (spc a t l m b c g z) ∧ RowAt w1 (w.heap.size + 1) 25 (tuc p s) ∧ Below w.heap.size w w1 := by
  have s1 : (w.alloc (.cells (spc a t l m b c g z) 28)).heap.size = w.heap.size + 1 := World.size_alloc _ _
  refine ⟨((RowAt.new w _ _).alloc _).step hb, ?_, ?_⟩
  · have := (RowAt.new (w.alloc (.cells (spc a t l m b c g z) 28)) 25 (tuc p s)).step hb
    rwa [s1] at this
  · have b1 := two_box w (.cells (spc a t l m b c g z) 28) (.cells (tuc p s) 25)
    exact b1.trans (hb.mono b1.size)

/-- a shape and a turn that stand in memory -/
structure Tw (wr : World) (q r : Nat) (a t l m b c g z : Nat) (p s : Int) : Prop where
  sh : RowAt wr q 28 (spc a t l m b c g z)
  tu : RowAt wr r 25 (tuc p s)
structure TwF (wr : World) (q r : Nat) (a t l m b c g z : Nat) (p s : Int) : Prop where
  sh : (loadVar 28 ⟨q, 0, none⟩).run Tryd.prog wr = .ok (spv a t l m b c g z) wr
  tu : (loadVar 25 ⟨r, 0, none⟩).run Tryd.prog wr = .ok (tuv p s) wr
  l : wr.cell? ⟨q, 0 + 2, none⟩ = some (.int .i64 (l : Int))
  c : wr.cell? ⟨q, 0 + 5, none⟩ = some (.int .i64 (c : Int))
  g : wr.cell? ⟨q, 0 + 6, none⟩ = some (.int .i64 (g : Int))
  p : wr.cell? ⟨r, 0 + 0, none⟩ = some (.int .i64 p)
  s : wr.cell? ⟨r, 0 + 1, none⟩ = some (.int .i64 s)
section
variable {w wr w' : World} {q r a t l m b c g z : Nat} {p s : Int}
theorem Tw.on (H : Tw wr q r a t l m b c g z p s) (hb : Below wr.heap.size wr w') : Tw w' q r a t l m b c g z p s := ⟨H.sh.step hb, H.tu.step hb⟩
theorem Tw.facts (H : Tw wr q r a t l m b c g z p s) : TwF wr q r a t l m b c g z p s :=
  ⟨sp_load H.sh, tu_load H.tu, (H.sh.cell 2).trans rfl, (H.sh.cell 5).trans rfl, (H.sh.cell 6).trans rfl, (H.tu.cell 0).trans rfl, (H.tu.cell 1).trans rfl⟩
theorem Tw.later (H : Tw wr q r a t l m b c g z p s) : Hid (∀ w', Below wr.heap.size wr w' → TwF w' q r a t l m b c g z p s) := Lib.hid fun _ hb => (H.on hb).facts
theorem tw_new (a t l m b c g z : Nat) (p s : Int) (w : World) : Tw ((w.alloc (.cells (spc a t l m b c g z) 28)).alloc (.cells (tuc p s) 25)) w.heap.size (w.heap.size + 1) a t l m b c g z p s := by
  have H := two_rows a t l m b c g z p s w (Below.refl _ _)
  exact ⟨H.1, H.2.1⟩
end

section
variable {P : Program} {o : Oper} {a : Act} {w : World} {Q : Exit → Act → World → Prop} {p : Value → World → Prop} {f : FuncId} {x y z u t : Operand} {ts : Array TypeId} {v1 v2 v3 v4 v5 : Value}
theorem op_call5 (ho : o.op = .call { callee := .value (.func f), args := #[x, y, z, u, t], argTypes := ts }) (he : ∀ (args : Array Value) (w : World), (callFunc f args).run P w = .ok (.enter f args) w)
    (hx : a.eval x = v1) (hy : a.eval y = v2) (hz : a.eval z = v3) (hu : a.eval u = v4) (ht : a.eval t = v5) (hc : Calls P f #[v1, v2, v3, v4, v5] w fun e w' => ∃ v, e = .returned v ∧ p v w' ∧ Below w.heap.size w w') : Does P p o a w Q := by
  subst hx; subst hy; subst hz; subst hu; subst ht
  exact op_call ho he hc
end
/-- what is answered, as a part of a statement wants it -/
theorem calls_is {P : Program} {f : FuncId} {args : Array Value} {w : World} {v : Value} (h : Calls P f args w fun e w' => e = .returned v ∧ Below w.heap.size w w') : Calls P f args w fun e w' => ∃ u, e = .returned u ∧ Is v u w' ∧ Below w.heap.size w w' := by
  refine h.mono ?_
  rintro e w' ⟨rfl, hb⟩
  exact ⟨_, rfl, rfl, hb⟩
theorem calls_same {P : Program} {f : FuncId} {args : Array Value} {w : World} {v : Value} (h : Calls P f args w fun e w' => e = .returned v ∧ w = w') : Calls P f args w fun e w' => ∃ u, e = .returned u ∧ Is v u w' ∧ Below w.heap.size w w' := by
  refine h.mono ?_
  rintro e w' ⟨rfl, rfl⟩
  exact ⟨_, rfl, rfl, Below.refl _ _⟩
end Go.Proofs.YtnbdmkgldjhcaaaDoor

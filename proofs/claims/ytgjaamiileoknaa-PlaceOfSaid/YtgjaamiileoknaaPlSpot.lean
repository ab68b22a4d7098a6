/- Spots as rows and as values held against each other; a shape and a turn that stand in memory; calls of four and of five arguments. Conditions: those typed. -/
import Derived.Test.YtgjaamiileoknaaSpTurnSt
import Derived.Test.YtgjaamiileoknaaPlSmall
namespace Go.Proofs.Ytgjaamiileoknaa
set_option maxRecDepth 50000
open Go.RowKit

abbrev sov (x y : Nat) : Value := .agg #[.int .i64 (x : Int), .int .i64 (y : Int)]
abbrev soc (x y : Nat) : Array Value := #[.int .i64 (x : Int), .int .i64 (y : Int)]
theorem so_agg (w : World) : (isAgg 35).run Try.prog w = .ok true w := by
  unfold isAgg
  rw [Sem.run_bind, run_underlying Try.underlying35 w]
  rfl
theorem so_size : (Try.prog.info? 35).map (·.size) = some 2 := by kernel_rfl
theorem so_load {w : World} {k x y : Nat} (h : RowAt w k 35 (soc x y)) : (loadVar 35 ⟨k, 0, none⟩).run Try.prog w = .ok (sov x y) w :=
  sub_load h so_agg so_size 0 [.int .i64 (x : Int), .int .i64 (y : Int)] rfl fun j v h => by simpa using h
theorem so_store {w : World} {k : Nat} {C : Array Value} (hC : C.size = 2) {x y : Nat} (h : RowAt w k 35 C) : (storeVar 35 ⟨k, 0, none⟩ (sov x y)).run Try.prog w = .ok () (w.setRow k (soc x y)) :=
  h.store so_size hC (by simp [Value.oneCell'])

theorem kso (d p s : Nat) (hp : p ≤ 140737488351232) (hs : s ≤ 140737488351232) : Try.prog.keyLits (d + 2) 35 [.int .i64 (p : Int), .int .i64 (s : Int)] = some [.int .i64 (p : Int), .int .i64 (s : Int)] := by
  have k1 := ktu_int d p hp
  have k2 := ktu_int d s hs
  unfold Program.keyLits
  simp only [Try.underlying35]
  have c1 : Try.prog.cellsOf 35 = 2 := by kernel_rfl
  have c2 : Try.prog.cellsOf 3 = 1 := by kernel_rfl
  simp [c1, c2, k1, k2]
theorem so_equal (p s p' s' : Nat) (hp : p ≤ 140737488351232) (hs : s ≤ 140737488351232) (hp' : p' ≤ 140737488351232) (hs' : s' ≤ 140737488351232) (w : World) : (Op.equalIn 10000 35 (sov p s) (sov p' s')).run Try.prog w = .ok (decide (p = p' ∧ s = s')) w := by
  obtain ⟨r, q1, q2⟩ := run_equalIn_deep (P := Try.prog) 9990 10 35 (by kernel_rfl) w 10 10 (sov p s) (sov p' s') _ _ (by kernel_rfl) (by kernel_rfl) (kso 8 p s hp hs) (kso 8 p' s' hp' hs')
  have hr : r = decide (p = p' ∧ s = s') := by
    rw [Bool.eq_iff_iff, q2, decide_eq_true_eq]
    constructor
    · intro h
      simp only [List.cons.injEq, Lit.int.injEq, true_and, and_true] at h
      omega
    · rintro ⟨rfl, rfl⟩; rfl
  subst hr
  exact q1
theorem so_eql (p s p' s' : Nat) (hp : p ≤ 140737488351232) (hs : s ≤ 140737488351232) (hp' : p' ≤ 140737488351232) (hs' : s' ≤ 140737488351232) (w : World) : (binOp .eql 35 (sov p s) (sov p' s')).run Try.prog w = .ok (.bool (decide (p = p' ∧ s = s'))) w := by
  rw [run_eql_struct, so_equal p s p' s' hp hs hp' hs']; rfl
theorem g_so : Try.prog.eqGuardType Try.prog.depth 35 = false := by kernel_rfl

/-- a shape and a turn that stand in memory -/
structure Tw (wr : World) (q r : Nat) (a t l m b c g z : Nat) (p s : Int) : Prop where
  sh : RowAt wr q 29 (spc a t l m b c g z)
  tu : RowAt wr r 25 (tuc p s)
structure TwF (wr : World) (q r : Nat) (a t l m b c g z : Nat) (p s : Int) : Prop where
  sh : (loadVar 29 ⟨q, 0, none⟩).run Try.prog wr = .ok (spv a t l m b c g z) wr
  tu : (loadVar 25 ⟨r, 0, none⟩).run Try.prog wr = .ok (tuv p s) wr
  l : wr.cell? ⟨q, 0 + 2, none⟩ = some (.int .i64 (l : Int))
  c : wr.cell? ⟨q, 0 + 5, none⟩ = some (.int .i64 (c : Int))
  g : wr.cell? ⟨q, 0 + 6, none⟩ = some (.int .i64 (g : Int))
  p : wr.cell? ⟨r, 0 + 0, none⟩ = some (.int .i64 p)
  s : wr.cell? ⟨r, 0 + 1, none⟩ = some (.int .i64 s)
section
variable {w wr w' : World} {q r a t l m b c g z : Nat} {p s : Int}
theorem Tw.on (H : Tw wr q r a t l m b c g z p s) (hb : Below wr.heap.size wr w') : Tw w' q r a t l m b c g z p s := ⟨H.sh.step hb, H.tu.step hb⟩
theorem Tw.facts (H : Tw wr q r a t l m b c g z p s) : TwF wr q r a t l m b c g z p s :=
  ⟨sp_load H.sh, tu_load H.tu, (H.sh.cell 2).trans rfl, (H.sh.cell 5).trans rfl, (H.sh.cell 6).trans rfl, (H.tu.cell 0).trans rfl, (H.tu.cell 1).trans rfl⟩
theorem Tw.later (H : Tw wr q r a t l m b c g z p s) : Hid (∀ w', Below wr.heap.size wr w' → TwF w' q r a t l m b c g z p s) := Lib.hid fun _ hb => (H.on hb).facts
theorem tw_new (a t l m b c g z : Nat) (p s : Int) (w : World) : Tw ((w.alloc (.cells (spc a t l m b c g z) 29)).alloc (.cells (tuc p s) 25)) w.heap.size (w.heap.size + 1) a t l m b c g z p s := by
  have H := two_rows a t l m b c g z p s w (Below.refl _ _)
  exact ⟨H.1, H.2.1⟩
end

section
variable {P : Program} {o : Oper} {a : Act} {w : World} {Q : Exit → Act → World → Prop} {p : Value → World → Prop} {f : FuncId} {x y z u t : Operand} {ts : Array TypeId} {v1 v2 v3 v4 v5 : Value}
theorem op_call4 (ho : o.op = .call { callee := .value (.func f), args := #[x, y, z, u], argTypes := ts }) (he : ∀ (args : Array Value) (w : World), (callFunc f args).run P w = .ok (.enter f args) w)
    (hx : a.eval x = v1) (hy : a.eval y = v2) (hz : a.eval z = v3) (hu : a.eval u = v4) (hc : Calls P f #[v1, v2, v3, v4] w fun e w' => ∃ v, e = .returned v ∧ p v w' ∧ Below w.heap.size w w') : Does P p o a w Q := by
  subst hx; subst hy; subst hz; subst hu
  exact op_call ho he hc
theorem op_call5 (ho : o.op = .call { callee := .value (.func f), args := #[x, y, z, u, t], argTypes := ts }) (he : ∀ (args : Array Value) (w : World), (callFunc f args).run P w = .ok (.enter f args) w)
    (hx : a.eval x = v1) (hy : a.eval y = v2) (hz : a.eval z = v3) (hu : a.eval u = v4) (ht : a.eval t = v5) (hc : Calls P f #[v1, v2, v3, v4, v5] w fun e w' => ∃ v, e = .returned v ∧ p v w' ∧ Below w.heap.size w w') : Does P p o a w Q := by
  subst hx; subst hy; subst hz; subst hu; subst ht
  exact op_call ho he hc
end
/-- what is answered, as a part of a statement wants it -/
theorem calls_is {P : Program} {f : FuncId} {args : Array Value} {w : World} {v : Value} (h : Calls P f args w fun e w' => e = .returned v ∧ Below w.heap.size w w') : Calls P f args w fun e w' => ∃ u, e = .returned u ∧ Is v u w' ∧ Below w.heap.size w w' := by
  refine h.mono ?_
  rintro e w' ⟨rfl, hb⟩
  exact ⟨_, rfl, rfl, hb⟩
theorem calls_same {P : Program} {f : FuncId} {args : Array Value} {w : World} {v : Value} (h : Calls P f args w fun e w' => e = .returned v ∧ w = w') : Calls P f args w fun e w' => ∃ u, e = .returned u ∧ Is v u w' ∧ Below w.heap.size w w' := by
  refine h.mono ?_
  rintro e w' ⟨rfl, rfl⟩
  exact ⟨_, rfl, rfl, Below.refl _ _⟩
end Go.Proofs.Ytgjaamiileoknaa

/- General words: rows of a type that are left as they are; rows of one's own; an append. No condition but those typed. -/
import Derived.Test.YtcleekhdijiefaaArRel
import Derived.Test.YtcleekhdijiefaaReg
import Derived.Deep.LoopGhost
import Derived.WalkMore
import Derived.OwnWalk
namespace Go.Proofs.Ytcleekhdijiefaa
set_option maxRecDepth 50000
open Go.RowKit Bb

theorem RowAt.step {w w' : World} {b : Nat} {t : TypeId} {C : Array Value} (h : RowAt w b t C) (hb : Below w.heap.size w w') : RowAt w' b t C := h.below hb h.lt
theorem Kept.under {M : Nat → Prop} {w w' : World} {N : Nat} (h : Kept M w w') (hM : ∀ k, M k → N ≤ k) (hN : N ≤ w.heap.size) : Below N w w' := h.below hN hM

/-- rows of this type are left as they are -/
def Leaves (w w' : World) (t : TypeId) : Prop := ∀ k C, RowAt w k t C → RowAt w' k t C
section
variable {w w' w'' : World} {t : TypeId} {M : Nat → Prop}
theorem Leaves.trans (h : Leaves w w' t) (k : Leaves w' w'' t) : Leaves w w'' t := fun _ _ hr => k _ _ (h _ _ hr)
theorem Leaves.below (h : Below w.heap.size w w') (t : TypeId) : Leaves w w' t := fun _ _ hr => hr.below h hr.lt
theorem Leaves.kept (h : Kept M w w') (hM : ∀ k, M k → ∀ C, ¬ RowAt w k t C) : Leaves w w' t := fun k C hr => RowAt.kept hr h fun m => hM k m C hr
theorem RowAt.not_other {t' : TypeId} {C : Array Value} {b : Nat} (h : RowAt w b t' C) (ht : (t == t') = false) (C' : Array Value) : ¬ RowAt w b t C' := fun k => RowAt.unlike k h ht rfl
theorem own_leaves {base s n : Nat} {e : TypeId} {v : Value} {xs : List Value} (h : w.ownsRow base e s v n xs) (hk : Leaves w w' e) : w'.ownsRow base e s v n xs := by
  refine ⟨h.1, ?_⟩
  rcases h.2 with hn | ⟨g, cap, cur, rfl, hb, hgg, rest⟩
  · exact .inl hn
  · exact .inr ⟨g, cap, cur, rfl, hb, hk _ _ hgg, rest⟩
end

theorem own_unlike {w : World} {N s n b : Nat} {e t : TypeId} {v : Value} {xs : List Value} {C : Array Value} (h : w.ownsRow N e s v n xs) (hr : RowAt w b t C) (ht : (e == t) = false) : v.ownBlock ≠ some b := by
  rcases h.2 with ⟨rfl, _⟩ | ⟨g, cap, cur, rfl, _, hg, _⟩
  · simp [Value.ownBlock]
  · intro e'
    simp only [Value.ownBlock, Option.some.injEq] at e'
    exact RowAt.unlike hg hr ht e'
theorem own_kept' {M : Nat → Prop} {w w' : World} {base s n : Nat} {e : TypeId} {v : Value} {xs : List Value} (h : w.ownsRow base e s v n xs) (hk : Kept M w w') (hM : ∀ k, v.ownBlock = some k → ¬ M k) : w'.ownsRow base e s v n xs := by
  refine ⟨h.1, ?_⟩
  rcases h.2 with hn | ⟨g, cap, cur, rfl, hb, hgg, rest⟩
  · exact .inl hn
  · refine .inr ⟨g, cap, cur, rfl, hb, ?_, rest⟩
    rw [hk.block g (Array.getElem?_eq_some_iff.1 hgg).1 (hM g rfl)]
    exact hgg
theorem own_base' {w : World} {base base' s n : Nat} {e : TypeId} {v : Value} {xs : List Value} (h : w.ownsRow base e s v n xs) (hM : base' ≤ base) : w.ownsRow base' e s v n xs := by
  refine ⟨h.1, ?_⟩
  rcases h.2 with hn | ⟨g, cap, cur, rfl, hb, rest⟩
  · exact .inl hn
  · exact .inr ⟨g, cap, cur, rfl, Nat.le_trans hM hb, rest⟩

theorem wpList_append_of {P : Program} {ops : Array Oper} {rest : List Oper} {o : Oper} {a : Act} {w w' : World} {Q : Exit → Act → World → Prop} (hgd : o.guard = none) (x y : Operand) (t : TypeId) (ho : o.op = .call { callee := .builtin .append, args := #[x, y], argTypes := #[t, t] }) (vx vy v' : Value) (hx : a.eval x = vx) (hy : a.eval y = vy)
    (hr : (Builtin.append_ #[t, t] o.type #[vx, vy]).run P w = .ok v' w') (h : wpList P ops Q rest (a.put o.dst v') w') : wpList P ops Q (o :: rest) a w := wpList_plain hgd fun _ hK => by
  unfold Oper.wp execOp
  simp only [ho, resolve, invoke, builtin, Sem.run_bind, Sem.run_pure, Result.andThen_ok, List.map_toArray, List.map_cons, List.map_nil, hx, hy, hr]
  exact hK _ _ h
theorem append_empty {P : Program} (w : World) (base : Nat) (t ty e : TypeId) (i : TypeInfo) (size : Nat) (ht : P.underlying t = some (.slice e)) (hi : P.info? e = some i)
    (v : Value) (n : Nat) (xs : List Value) (hown : w.ownsRow base e size v n xs) (A : Option Addr) (c : Nat) :
    (Builtin.append_ #[t, t] ty #[v, .slice A 0 c]).run P w = .ok v w := by
  rcases hown.2 with ⟨rfl, rfl⟩ | ⟨g, cap, cur, rfl, _, _, hnc, _⟩
  · cases A <;> simp [Builtin.append_, run_underlying ht, sizeOf, typeInfo, hi, Builtin.lenOf, Builtin.firstCells, loadCells, loadCellsFrom]
  · cases A <;> simp [Builtin.append_, run_underlying ht, sizeOf, typeInfo, hi, Builtin.lenOf, Builtin.firstCells, hnc, storeCells, loadCells, loadCellsFrom]
theorem ptr_info : (Try.prog.info? 41).map (fun i => (i.zero, i.size, i.bytes)) = some (some (.pointer none), 1, 8) := by kernel_rfl
end Go.Proofs.Ytcleekhdijiefaa

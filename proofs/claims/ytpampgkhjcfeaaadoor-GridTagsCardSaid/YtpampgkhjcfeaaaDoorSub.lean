/- A part of a row, loaded and stored whole; rows that calls leave as they are. No condition but those typed. -/
import Derived.Test.YtpampgkhjcfeaaaDoorArr
namespace Go.Proofs.YtpampgkhjcfeaaaDoor
set_option maxRecDepth 50000
open Go.RowKit

theorem RowAt.step {w w' : World} {b : Nat} {t : TypeId} {C : Array Value} (h : RowAt w b t C) (hb : Below w.heap.size w w') : RowAt w' b t C := h.below hb h.lt
section
variable {P : Program} {w : World} {b : Nat} {t ty : TypeId} {C : Array Value}
theorem sub_load (h : RowAt w b t C) (hA : ∀ w : World, (isAgg ty).run P w = .ok true w) {n : Nat} (hi : (P.info? ty).map (·.size) = some n) (off : Nat) (xs : List Value) (hl : xs.length = n) (hx : ∀ j v, xs[j]? = some v → C[off + j]? = some v) :
    (loadVar ty ⟨b, off, none⟩).run P w = .ok (.agg xs.toArray) w := by
  have hr := run_loadCells_list (P := P) w ⟨b, off, none⟩ xs (fun j v hv => by
    have hadd : (⟨b, off, none⟩ : Addr).add j = ⟨b, off + j, none⟩ := by unfold Addr.add; split <;> simp_all
    rw [hadd, cell_of_row w b (off + j) _ _ _ h]
    exact hx j v hv)
  rw [hl] at hr
  cases hq : P.info? ty with
  | none => rw [hq] at hi; simp at hi
  | some i =>
    have hsz : i.size = n := by rw [hq] at hi; simpa using hi
    simp [loadVar, Sem.run_bind, hA, sizeOf, typeInfo, hq, hsz, hr]
theorem sub_store (h : RowAt w b t C) {n : Nat} (hi : (P.info? ty).map (·.size) = some n) (off : Nat) (xs : List Value) (hl : xs.length = n) (hC : off + n ≤ C.size) (h1 : ∀ v ∈ xs, v.oneCell' = true) :
    (storeVar ty ⟨b, off, none⟩ (.agg xs.toArray)).run P w = .ok () (w.setRow b (C.toList.take off ++ xs ++ C.toList.drop (off + n)).toArray) := by
  have hst := run_storeCells_at P b off t xs 0 C w h (by omega) h1
  rw [Nat.add_zero, hl] at hst
  cases hq : P.info? ty with
  | none => rw [hq] at hi; simp at hi
  | some i =>
    have hsz : i.size = n := by rw [hq] at hi; simpa using hi
    simpa [storeVar, sizeOf, typeInfo, hq, Value.cells, hsz, hl] using hst
end
/-- a row loaded in an operation that may be guarded -/
theorem wpList_load_want {P : Program} {ops : Array Oper} {rest : List Oper} {o : Oper} {a : Act} {w : World} {Q : Exit → Act → World → Prop} (hw : Region.wanted o (yielded ops a.tmps) = true) (ty : TypeId) (x : Operand) (ho : o.op = .load ty x) (ad : Addr) (v : Value) (hx : a.eval x = .pointer (some ad)) (hl : (loadVar ty ad).run P w = .ok v w)
    (h : wpList P ops Q rest (a.put o.dst v) w) : wpList P ops Q (o :: rest) a w := wpList_step fun K hK => by
  rw [if_pos hw]
  unfold Oper.wp execOp
  simp only [ho, hx, Instr.loadAt, Instr.sureAddr, Sem.run_bind, Sem.run_pure, Result.andThen_ok, hl]
  exact hK _ _ h
end Go.Proofs.YtpampgkhjcfeaaaDoor

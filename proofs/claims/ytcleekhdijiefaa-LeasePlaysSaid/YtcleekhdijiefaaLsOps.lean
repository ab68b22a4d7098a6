/- A part of a row, loaded and stored whole; operations of statements whose order is open. No condition but those typed. -/
import Derived.Test.YtcleekhdijiefaaLsGen
namespace Go.Proofs.Ytcleekhdijiefaa
set_option maxRecDepth 50000
open Go.RowKit

section
variable {P : Program} {w : World} {b : Nat} {t ty : TypeId} {C : Array Value}
theorem sub_load (h : RowAt w b t C) (hA : ∀ w : World, (isAgg ty).run P w = .ok true w) {n : Nat} (hi : (P.info? ty).map (·.size) = some n) (off : Nat) (xs : List Value) (hl : xs.length = n) (hx : ∀ j v, xs[j]? = some v → C[off + j]? = some v) :
    (loadVar ty ⟨b, off, none⟩).run P w = .ok (.agg xs.toArray) w := by
  have hr := run_loadCells_list (P := P) w ⟨b, off, none⟩ xs (fun j v hv => by
    have hadd : (⟨b, off, none⟩ : Addr).add j = ⟨b, off + j, none⟩ := by unfold Addr.add; split <;> simp_all
    rw [hadd, cell_of_row w b (off + j) _ _ _ h]
    exact hx j v hv)
  rw [hl] at hr
  cases hq : P.info? ty with
  | none => rw [hq] at hi; simp at hi
  | some i =>
    have hsz : i.size = n := by rw [hq] at hi; simpa using hi
    simp [loadVar, Sem.run_bind, hA, sizeOf, typeInfo, hq, hsz, hr]
theorem sub_store (h : RowAt w b t C) {n : Nat} (hi : (P.info? ty).map (·.size) = some n) (off : Nat) (xs : List Value) (hl : xs.length = n) (hC : off + n ≤ C.size) (h1 : ∀ v ∈ xs, v.oneCell' = true) :
    (storeVar ty ⟨b, off, none⟩ (.agg xs.toArray)).run P w = .ok () (w.setRow b (C.toList.take off ++ xs ++ C.toList.drop (off + n)).toArray) := by
  have hst := run_storeCells_at P b off t xs 0 C w h (by omega) h1
  rw [Nat.add_zero, hl] at hst
  cases hq : P.info? ty with
  | none => rw [hq] at hi; simp at hi
  | some i =>
    have hsz : i.size = n := by rw [hq] at hi; simpa using hi
    simpa [storeVar, sizeOf, typeInfo, hq, Value.cells, hsz, hl] using hst
end
section
variable {w : World} {b : Nat} {v : Value} {ev : Operand → Value} {x : Operand} {o : Oper}
theorem nil_run {ad : Addr} (hop : o.op = .nilCheck x) (hx : ev x = .pointer (some ad)) : (execOp ev o).run Try.prog w = .ok (.value (.pointer (some ad))) w := by
  simp [execOp, hop, hx, go_sem]
theorem lint_run {ad : Addr} (hop : o.op = .load 3 x) (hx : ev x = .pointer (some ad)) (hc : w.cell? ad = some v) : (execOp ev o).run Try.prog w = .ok (.value v) w := by
  simp [execOp, hop, hx, hc, go_sem]
theorem lls_run {ad : Addr} (hop : o.op = .load 28 x) (hx : ev x = .pointer (some ad)) (hc : w.cell? ad = some v) : (execOp ev o).run Try.prog w = .ok (.value v) w := by
  simp [execOp, hop, hx, hc, go_sem]
theorem rowf_run {off : Nat} {k : Nat} (hop : o.op = .fieldAddr 32 x k) (hk : k = 1 ∨ k = 2) (hx : ev x = .pointer (some ⟨b, off, none⟩)) : (execOp ev o).run Try.prog w = .ok (.value (.pointer (some ⟨b, off + k, none⟩))) w := by
  rcases hk with rfl | rfl
  all_goals
    simp [execOp, hop, hx, go_sem]
/-- a whole variable loaded -/
theorem load_run {ad : Addr} {ty : TypeId} (hop : o.op = .load ty x) (hx : ev x = .pointer (some ad)) (hl : (loadVar ty ad).run Try.prog w = .ok v w) : (execOp ev o).run Try.prog w = .ok (.value v) w := by
  simp only [execOp, hop, hx, Instr.loadAt, Instr.sureAddr, Sem.run_bind, Sem.run_pure, Result.andThen_ok, hl]
end
theorem row_agg (w : World) : (isAgg 32).run Try.prog w = .ok true w := by
  unfold isAgg
  rw [Sem.run_bind, run_underlying Try.underlying32 w]
  rfl
theorem rows_agg (w : World) : (isAgg 33).run Try.prog w = .ok true w := by
  unfold isAgg
  rw [Sem.run_bind, run_underlying Try.underlying33 w]
  rfl
theorem row_size : (Try.prog.info? 32).map (·.size) = some 3 := by kernel_rfl
theorem rows_size : (Try.prog.info? 33).map (·.size) = some 9 := by kernel_rfl
end Go.Proofs.Ytcleekhdijiefaa

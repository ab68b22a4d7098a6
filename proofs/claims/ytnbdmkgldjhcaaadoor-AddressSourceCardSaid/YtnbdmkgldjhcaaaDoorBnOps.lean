/- Operations on arrays in memory, one by one, as they stand in a statement whose order is open; the table of places. Conditions: those typed. -/
import Derived.Test.YtnbdmkgldjhcaaaDoorBnRef
import Derived.Test.YtnbdmkgldjhcaaaDoorGen
import Derived.Deep.QuietTactic
namespace Go.Proofs.YtnbdmkgldjhcaaaDoor
set_option maxRecDepth 50000
open Go.RowKit Rot Bn

section
variable {w : World} {ev : Operand → Value} {x y : Operand} {o : Oper} {B i : Nat}
theorem ix16_run (hop : o.op = .indexAddr 76 x y) (hx : ev x = .pointer (some ⟨B, 0, none⟩)) (hy : ev y = .int .i64 (i : Int)) (hi : i < 16) : (execOp ev o).run Tryd.prog w = .ok (.value (.pointer (some ⟨B, i, none⟩))) w := by
  have h1 : (i : Int) < 16 := by omega
  simp [execOp, hop, hx, hy, go_sem, h1]
theorem ld_run {v : Value} (hop : o.op = .load 34 x) (hx : ev x = .pointer (some ⟨B, i, none⟩)) (hc : w.cell? ⟨B, i, none⟩ = some v) : (execOp ev o).run Tryd.prog w = .ok (.value v) w := by
  simp [execOp, hop, hx, hc, go_sem]
theorem ex_run {cs : Array Value} {v : Value} (hop : o.op = .extract x i) (hx : ev x = .tuple cs) (hc : cs[i]? = some v) : (execOp ev o).run Tryd.prog w = .ok (.value v) w := by
  simp [execOp, hop, hx, hc, go_sem]
theorem st_run {v : Value} {z : Int} (hop : o.op = .store 34 x y) (hx : ev x = .pointer (some ⟨B, i, none⟩)) (hy : ev y = .int .u64 z) (hc : w.cell? ⟨B, i, none⟩ = some v) (hf : w.frozen? ⟨B, i, none⟩ = false) : (execOp ev o).run Tryd.prog w = .ok .skip (w.setCell ⟨B, i, none⟩ (.int .u64 z)) := by
  simp [execOp, hop, hx, hy, hc, hf, go_sem]
end
section
variable {P : Program} {o : Oper} {a : Act} {w : World} {Q : Exit → Act → World → Prop}
theorem op_call4 {p : Value → World → Prop} {f : FuncId} {x1 x2 x3 x4 : Operand} {ts : Array TypeId} {v1 v2 v3 v4 : Value} (ho : o.op = .call { callee := .value (.func f), args := #[x1, x2, x3, x4], argTypes := ts }) (he : ∀ (args : Array Value) (w : World), (callFunc f args).run P w = .ok (.enter f args) w)
    (h1 : a.eval x1 = v1) (h2 : a.eval x2 = v2) (h3 : a.eval x3 = v3) (h4 : a.eval x4 = v4) (hc : Calls P f #[v1, v2, v3, v4] w fun e w' => ∃ v, e = .returned v ∧ p v w' ∧ Below w.heap.size w w') : Does P p o a w Q := by
  subst h1; subst h2; subst h3; subst h4
  exact op_call ho he hc
theorem st_does {W' : World → Prop} {x y : Operand} {B i : Nat} {v : Value} {z : Int} (hop : o.op = .store 34 x y) (hx : a.eval x = .pointer (some ⟨B, i, none⟩)) (hy : a.eval y = .int .u64 z) (hc : w.cell? ⟨B, i, none⟩ = some v) (hf : w.frozen? ⟨B, i, none⟩ = false)
    (h : W' (w.setCell ⟨B, i, none⟩ (.int .u64 z))) : o.wp Tryd.prog a w (fun a' w' => a' = a.put o.dst undef ∧ W' w') Q := by
  unfold Oper.wp
  rw [st_run hop hx hy hc hf]
  exact ⟨rfl, h⟩
end

/-- the table lies at its place -/
def QAt (w : World) : Prop := 1 < w.heap.size ∧ ∀ i, i < 32 → w.cell? ⟨1, i, none⟩ = some (.int .i64 (qq.getD i 0 : Nat))
theorem QAt.below {w w' : World} {B : Nat} (h : QAt w) (hb : Below B w w') (hB : 1 < B) : QAt w' :=
  ⟨Nat.lt_of_lt_of_le h.1 hb.size, fun i hi => (hb.cell (p := ⟨1, i, none⟩) hB).trans (h.2 i hi)⟩
theorem QAt.next {w w' : World} (h : QAt w) (hb : Below w.heap.size w w') : QAt w' := h.below hb h.1
theorem size_32 : (Tryd.prog.info? 82).map (·.size) = some 32 := by kernel_rfl
theorem tab_load {w : World} (h : QAt w) : (loadVar 82 ⟨1, 0, none⟩).run Tryd.prog w = .ok (.agg (iq qq)) w := by
  have hl : (loadCells ⟨1, 0, none⟩ (qq.map fun x : Nat => Value.int .i64 (x : Int)).length).run Tryd.prog w = .ok (qq.map fun x : Nat => Value.int .i64 (x : Int)).toArray w :=
    run_loadCells_list (P := Tryd.prog) w ⟨1, 0, none⟩ _ (fun j v hv => by
      have hadd : (⟨1, 0, none⟩ : Addr).add j = ⟨1, j, none⟩ := by unfold Addr.add; split <;> simp_all
      have hj : j < 32 := by
        have := (List.getElem?_eq_some_iff.1 hv).1
        rw [List.length_map] at this
        exact this
      rw [hadd, h.2 j hj]
      rw [List.getElem?_map, List.getElem?_eq_getElem (show j < qq.length from hj)] at hv
      rw [List.getD_eq_getElem?_getD, List.getElem?_eq_getElem (show j < qq.length from hj)]
      exact hv)
  rw [List.length_map, show qq.length = 32 from rfl] at hl
  have hz := size_32
  cases hq : Tryd.prog.info? 82 with
  | none => rw [hq] at hz; simp at hz
  | some i =>
    have hsz : i.size = 32 := by rw [hq] at hz; simpa using hz
    simp [loadVar, Sem.run_bind, sizeOf, typeInfo, hq, hsz, hl, iq]
theorem qq_part (i : Nat) (hi : i < 8) : (iq qq).extract (i * 4) (i * 4 + 4) = iq [pt i 0, pt i 1, pt i 2, pt i 3] := by
  have h : ∀ i, i < 8 → (qq.drop (i * 4)).take 4 = [pt i 0, pt i 1, pt i 2, pt i 3] := by decide
  rw [← h i hi]
  simp [iq, List.map_take, List.map_drop]
theorem tab_index (w : World) (i : Nat) (hi : i < 8) : (Instr.index 82 (.agg (iq qq)) (.int .i64 (i : Int))).run Tryd.prog w = .ok (.agg (iq [pt i 0, pt i 1, pt i 2, pt i 3])) w := by
  have hz := q_int4
  cases hq : Tryd.prog.info? 79 with
  | none => rw [hq] at hz; simp at hz
  | some q =>
    have hsz : q.size = 4 := by rw [hq] at hz; simpa using hz
    simp [Instr.index, run_underlying Tryd.underlying82, asIntOf, hi, go_sem, sizeOf, typeInfo, hq, hsz, qq_part i hi]

/-- sixteen words that are mixed, and a row for the answer -/
structure Dx (w wr : World) (v : List Nat) : Prop where
  rv : RowAt wr w.heap.size 76 (wq v)
  rz : RowAt wr (w.heap.size + 1) 76 (wq (List.replicate 16 0))
  below : Below w.heap.size w wr
section
variable {w wr wr' : World} {v : List Nat}
theorem Dx.new (w : World) (v : List Nat) : Dx w ((w.alloc (.cells (wq v) 76)).alloc (.cells (wq (List.replicate 16 0)) 76)) v := by
  refine ⟨(RowAt.new w _ _).alloc _, ?_, ((Below.refl _ w).alloc (Nat.le_refl _) _).alloc (by simp) _⟩
  have h := RowAt.new (w.alloc (.cells (wq v) 76)) 76 (wq (List.replicate 16 0))
  rw [World.size_alloc] at h; exact h
theorem Dx.lt (h : Dx w wr v) : w.heap.size + 2 ≤ wr.heap.size := h.rz.lt
theorem Dx.step (h : Dx w wr v) (hb : Below wr.heap.size wr wr') : Dx w wr' v :=
  ⟨h.rv.below hb h.rv.lt, h.rz.below hb h.rz.lt, h.below.trans (hb.mono h.below.size)⟩
theorem Dx.drewN (h : Dx w wr v) (k : Nat) : Dx w (wr.drewN k) v := h.step (below_drewN (Below.refl _ _) k)
theorem Dx.set (h : Dx w wr v) (i x : Nat) : Dx w (wr.setCell ⟨w.heap.size, i, none⟩ (.int .u64 (x : Int))) (v.set i x) :=
  ⟨by rw [← wq_set]; exact h.rv.setCell i _, h.rz.setOther _ (by simp) _, h.below.setCell (by simp) _⟩
end
end Go.Proofs.YtnbdmkgldjhcaaaDoor

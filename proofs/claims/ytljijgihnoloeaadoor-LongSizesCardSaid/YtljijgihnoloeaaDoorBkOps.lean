/- Operations on arrays in memory, one by one, as they stand in a statement whose order is open; Initial of package blake, and the document's Known. Conditions: those typed. -/
import Derived.Test.YtljijgihnoloeaaDoorBkWords
import Derived.Test.YtljijgihnoloeaaDoorSeq
import Derived.Test.YtljijgihnoloeaaDoorBack
namespace Go.Proofs.YtljijgihnoloeaaDoor
set_option maxRecDepth 50000
open Go.RowKit Rot Bl

section
variable {w : World} {ev : Operand → Value} {x y : Operand} {o : Oper} {B i : Nat}
theorem ix16_run (hop : o.op = .indexAddr 79 x y) (hx : ev x = .pointer (some ⟨B, 0, none⟩)) (hy : ev y = .int .i64 (i : Int)) (hi : i < 16) : (execOp ev o).run Tryd.prog w = .ok (.value (.pointer (some ⟨B, i, none⟩))) w := by
  have h1 : (i : Int) < 16 := by omega
  simp [execOp, hop, hx, hy, go_sem, h1]
theorem ix8_run (hop : o.op = .indexAddr 30 x y) (hx : ev x = .pointer (some ⟨B, 0, none⟩)) (hy : ev y = .int .i64 (i : Int)) (hi : i < 8) : (execOp ev o).run Tryd.prog w = .ok (.value (.pointer (some ⟨B, i, none⟩))) w := by
  have h1 : (i : Int) < 8 := by omega
  simp [execOp, hop, hx, hy, go_sem, h1]
theorem ixi_run (hop : o.op = .indexAddr 80 x y) (hx : ev x = .pointer (some ⟨B, 0, none⟩)) (hy : ev y = .int .i64 (i : Int)) (hi : i < 16) : (execOp ev o).run Tryd.prog w = .ok (.value (.pointer (some ⟨B, i, none⟩))) w := by
  have h1 : (i : Int) < 16 := by omega
  simp [execOp, hop, hx, hy, go_sem, h1]
theorem ixs_run {n c : Nat} (hop : o.op = .indexAddr 76 x y) (hx : ev x = .slice (some ⟨B, 0, none⟩) n c) (hy : ev y = .int .i64 (i : Int)) (hi : i < n) : (execOp ev o).run Tryd.prog w = .ok (.value (.pointer (some ⟨B, i, none⟩))) w := by
  have h1 : (i : Int) < (n : Int) := by omega
  simp [execOp, hop, hx, hy, go_sem, h1]
theorem ld_run {v : Value} (hop : o.op = .load 29 x) (hx : ev x = .pointer (some ⟨B, i, none⟩)) (hc : w.cell? ⟨B, i, none⟩ = some v) : (execOp ev o).run Tryd.prog w = .ok (.value v) w := by
  simp [execOp, hop, hx, hc, go_sem]
theorem ldi_run {v : Value} (hop : o.op = .load 3 x) (hx : ev x = .pointer (some ⟨B, i, none⟩)) (hc : w.cell? ⟨B, i, none⟩ = some v) : (execOp ev o).run Tryd.prog w = .ok (.value v) w := by
  simp [execOp, hop, hx, hc, go_sem]
theorem ex_run {cs : Array Value} {v : Value} (hop : o.op = .extract x i) (hx : ev x = .tuple cs) (hc : cs[i]? = some v) : (execOp ev o).run Tryd.prog w = .ok (.value v) w := by
  simp [execOp, hop, hx, hc, go_sem]
theorem st_run {v : Value} {z : Int} (hop : o.op = .store 29 x y) (hx : ev x = .pointer (some ⟨B, i, none⟩)) (hy : ev y = .int .u64 z) (hc : w.cell? ⟨B, i, none⟩ = some v) (hf : w.frozen? ⟨B, i, none⟩ = false) : (execOp ev o).run Tryd.prog w = .ok .skip (w.setCell ⟨B, i, none⟩ (.int .u64 z)) := by
  simp [execOp, hop, hx, hy, hc, hf, go_sem]
end

/-! the table of places -/
def qq : List Nat := [0, 4, 8, 12, 1, 5, 9, 13, 2, 6, 10, 14, 3, 7, 11, 15, 0, 5, 10, 15, 1, 6, 11, 12, 2, 7, 8, 13, 3, 4, 9, 14]
/-- the table lies at its place -/
def QAt (w : World) : Prop := 0 < w.heap.size ∧ ∀ i, i < 32 → w.cell? ⟨0, i, none⟩ = some (.int .i64 (qq.getD i 0 : Nat))
theorem QAt.below {w w' : World} {B : Nat} (h : QAt w) (hb : Below B w w') (hB : 0 < B) : QAt w' :=
  ⟨Nat.lt_of_lt_of_le h.1 hb.size, fun i hi => (hb.cell (p := ⟨0, i, none⟩) hB).trans (h.2 i hi)⟩
theorem QAt.next {w w' : World} (h : QAt w) (hb : Below w.heap.size w w') : QAt w' := h.below hb h.1
theorem q_size32 : (Tryd.prog.info? 93).map (·.size) = some 32 := by kernel_rfl
theorem tab_load {w : World} (h : QAt w) : (loadVar 93 ⟨0, 0, none⟩).run Tryd.prog w = .ok (.agg (iq qq)) w := by
  have hl : (loadCells ⟨0, 0, none⟩ (qq.map fun x : Nat => Value.int .i64 (x : Int)).length).run Tryd.prog w = .ok (qq.map fun x : Nat => Value.int .i64 (x : Int)).toArray w :=
    run_loadCells_list (P := Tryd.prog) w ⟨0, 0, none⟩ _ (fun j v hv => by
      have hadd : (⟨0, 0, none⟩ : Addr).add j = ⟨0, j, none⟩ := by unfold Addr.add; split <;> simp_all
      have hj : j < 32 := by
        have := (List.getElem?_eq_some_iff.1 hv).1
        rw [List.length_map] at this
        exact this
      rw [hadd, h.2 j hj]
      rw [List.getElem?_map, List.getElem?_eq_getElem (show j < qq.length from hj)] at hv
      rw [List.getD_eq_getElem?_getD, List.getElem?_eq_getElem (show j < qq.length from hj)]
      exact hv)
  rw [List.length_map, show qq.length = 32 from rfl] at hl
  have hz := q_size32
  cases hq : Tryd.prog.info? 93 with
  | none => rw [hq] at hz; simp at hz
  | some i =>
    have hsz : i.size = 32 := by rw [hq] at hz; simpa using hz
    simp [loadVar, Sem.run_bind, sizeOf, typeInfo, hq, hsz, hl, iq]
theorem qq_part (i : Nat) (hi : i < 8) : (iq qq).extract (i * 4) (i * 4 + 4) = iq [pt i 0, pt i 1, pt i 2, pt i 3] := by
  have h : ∀ i, i < 8 → (qq.drop (i * 4)).take 4 = [pt i 0, pt i 1, pt i 2, pt i 3] := by decide
  rw [← h i hi]
  simp [iq, List.map_take, List.map_drop]
theorem tab_index (w : World) (i : Nat) (hi : i < 8) : (Instr.index 93 (.agg (iq qq)) (.int .i64 (i : Int))).run Tryd.prog w = .ok (.agg (iq [pt i 0, pt i 1, pt i 2, pt i 3])) w := by
  have hz := q_int4
  cases hq : Tryd.prog.info? 82 with
  | none => rw [hq] at hz; simp at hz
  | some q =>
    have hsz : q.size = 4 := by rw [hq] at hz; simpa using hz
    simp [Instr.index, run_underlying Tryd.underlying93, asIntOf, hi, go_sem, sizeOf, typeInfo, hq, hsz, qq_part i hi]

theorem init_any (w : World) : Calls Tryd.prog 29 #[] w fun e w' => e = .returned (.agg (wq iv)) ∧ Below w.heap.size w w' := by
  go_enter Tryd.func29, Tryd.ntmps29
  go_wp2
  have hR : RowAt (w.alloc (.cells (wq iv) 30)) w.heap.size 30 (wq iv) := RowAt.new _ _ _
  refine bodyPost_ret (v := .agg (wq iv)) (results_cell_row rfl _ _ w.heap.size 30 (wq iv) (0, 0) _ rfl hR Tryd.underlying30 rfl (by rw [wq_size]; exact q_size8)) rfl ⟨rfl, (Below.refl _ w).alloc (Nat.le_refl _) _⟩

/-- a copy of eight words into one half of a row -/
theorem copied8 {W : World} {b sb : Nat} {v own : List Nat} (hC : RowAt W b 79 (wq v)) (hv : v.length = 16) (hr : RowAt W sb 30 (wq own)) (ho : own.length = 8) (ty : TypeId) (p n c : Nat) (hp : p ≤ 8) (hn : 8 ≤ n) :
    (Builtin.copy_ #[76, 76] ty #[.slice (some ⟨b, p, none⟩) n c, .slice (some ⟨sb, 0, none⟩) 8 8]).run Tryd.prog W = .ok (goInt 8) (W.setRow b (wq (v.take p ++ own ++ v.drop (p + 8)))) := by
  have hl : (u64s own).length = 8 := by rw [u64s_length, ho]
  have := run_copy_row (P := Tryd.prog) W 76 76 ty 29 b p n c ⟨sb, 0, none⟩ 8 8 (wq v) 79 (u64s own) Tryd.underlying76 q_u64 hC (by rw [hl]; exact (Nat.min_eq_left hn).symm)
    (fun j u hj => by
      have hadd : (⟨sb, 0, none⟩ : Addr).add j = ⟨sb, j, none⟩ := by unfold Addr.add; split <;> simp_all
      rw [hadd, hr.cell]
      simpa [wq] using hj) (by rw [hl, wq_size, hv]; omega) (fun u hu => by simp only [u64s, List.mem_map] at hu; obtain ⟨x, _, rfl⟩ := hu; rfl)
  rw [hl] at this
  rw [this]
  simp [wq, u64s, List.map_take, List.map_drop]
end Go.Proofs.YtljijgihnoloeaaDoor

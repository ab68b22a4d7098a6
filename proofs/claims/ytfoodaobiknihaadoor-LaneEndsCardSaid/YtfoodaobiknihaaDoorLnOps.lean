/- A lane's cells, an event's, and what operations do with them. No condition but those typed. -/
import Derived.Test.YtfoodaobiknihaaDoorLnPure
import Derived.Test.YtfoodaobiknihaaDoorFlSeg
namespace Go.Proofs.YtfoodaobiknihaaDoor
set_option maxRecDepth 50000
open Go.RowKit Bb Bn

abbrev lnc (gv : Value) (k p s i : Int) (xv dv : Value) (f : Bool) : Array Value := #[gv, .int .i64 k, .int .i64 p, .int .i64 s, .int .i64 i, xv, dv, .bool f]
abbrev lnv (gv : Value) (k p s i : Int) (xv dv : Value) (f : Bool) : Value := .agg #[gv, .int .i64 k, .int .i64 p, .int .i64 s, .int .i64 i, xv, dv, .bool f]
abbrev evc (e k p s a b c d : Int) : Array Value := #[.int .i64 e, .int .i64 k, .int .i64 p, .int .i64 s, .int .i64 a, .int .i64 b, .int .i64 c, .int .i64 d]
abbrev evv (e k p s a b c d : Int) : Value := .agg #[.int .i64 e, .int .i64 k, .int .i64 p, .int .i64 s, .int .i64 a, .int .i64 b, .int .i64 c, .int .i64 d]
theorem ln_size : (Tryd.prog.info? 62).map (·.size) = some 8 := by kernel_rfl
theorem ev_size : (Tryd.prog.info? 44).map (·.size) = some 8 := by kernel_rfl
theorem ln_agg (w : World) : (isAgg 62).run Tryd.prog w = .ok true w := by
  unfold isAgg
  rw [Sem.run_bind, run_underlying Tryd.underlying62 w]
  rfl
theorem ev_agg (w : World) : (isAgg 44).run Tryd.prog w = .ok true w := by
  unfold isAgg
  rw [Sem.run_bind, run_underlying Tryd.underlying44 w]
  rfl
theorem evc_one (e k p s a b c d : Int) : (evc e k p s a b c d).all (·.oneCell') = true := by simp [Value.oneCell']
theorem evc_store {w : World} {b : Nat} {e k p s a b1 c d e2 k2 p2 s2 a2 b2 c2 d2 : Int} (h : RowAt w b 44 (evc e k p s a b1 c d)) : (storeVar 44 ⟨b, 0, none⟩ (evv e2 k2 p2 s2 a2 b2 c2 d2)).run Tryd.prog w = .ok () (w.setRow b (evc e2 k2 p2 s2 a2 b2 c2 d2)) :=
  h.store (C' := evc e2 k2 p2 s2 a2 b2 c2 d2) ev_size rfl (evc_one _ _ _ _ _ _ _ _)
section
variable {w : World} {b : Nat} {v : Value} {ev : Operand → Value} {x : Operand} {o : Oper}
theorem lnf_run {k j : Nat} (hop : o.op = .fieldAddr 62 x k) (hk : (k = 0 ∧ j = 0) ∨ (k = 1 ∧ j = 1) ∨ (k = 2 ∧ j = 2) ∨ (k = 3 ∧ j = 4) ∨ (k = 4 ∧ j = 5) ∨ (k = 5 ∧ j = 6) ∨ (k = 6 ∧ j = 7)) (hx : ev x = .pointer (some ⟨b, 0, none⟩)) : (execOp ev o).run Tryd.prog w = .ok (.value (.pointer (some ⟨b, j, none⟩))) w := by
  rcases hk with ⟨rfl, rfl⟩ | ⟨rfl, rfl⟩ | ⟨rfl, rfl⟩ | ⟨rfl, rfl⟩ | ⟨rfl, rfl⟩ | ⟨rfl, rfl⟩ | ⟨rfl, rfl⟩
  all_goals
    simp [execOp, hop, hx, go_sem]
theorem evf_run {k j : Nat} (hop : o.op = .fieldAddr 44 x k) (hk : (k = 0 ∧ j = 0) ∨ (k = 1 ∧ j = 1) ∨ (k = 2 ∧ j = 2) ∨ (k = 3 ∧ j = 4) ∨ (k = 4 ∧ j = 6)) (hx : ev x = .pointer (some ⟨b, 0, none⟩)) : (execOp ev o).run Tryd.prog w = .ok (.value (.pointer (some ⟨b, j, none⟩))) w := by
  rcases hk with ⟨rfl, rfl⟩ | ⟨rfl, rfl⟩ | ⟨rfl, rfl⟩ | ⟨rfl, rfl⟩ | ⟨rfl, rfl⟩
  all_goals
    simp [execOp, hop, hx, go_sem]
theorem pgr_run {ad : Addr} (hop : o.op = .load 25 x) (hx : ev x = .pointer (some ad)) (hc : w.cell? ad = some v) : (execOp ev o).run Tryd.prog w = .ok (.value v) w := by
  simp [execOp, hop, hx, hc, go_sem]
theorem psr_run {ad : Addr} (hop : o.op = .load 59 x) (hx : ev x = .pointer (some ad)) (hc : w.cell? ad = some v) : (execOp ev o).run Tryd.prog w = .ok (.value v) w := by
  simp [execOp, hop, hx, hc, go_sem]
theorem ev_new (hop : o.op = .alloc 44) : (execOp ev o).run Tryd.prog w = .ok (.value (.pointer (some ⟨w.heap.size, 0, none⟩))) (w.alloc (.cells (evc 0 0 0 0 0 0 0 0) 44)) := by
  simp [execOp, hop, go_sem]
theorem step_new (hop : o.op = .alloc 82) : (execOp ev o).run Tryd.prog w = .ok (.value (.pointer (some ⟨w.heap.size, 0, none⟩))) (w.alloc (.cells (stpc 0 0 0 0 0 0) 82)) := by
  simp [execOp, hop, go_sem]
end
theorem ev_build (w : World) (e k p s a b c d : Int) : (Instr.build 44 #[(0, .int .i64 e), (1, .int .i64 k), (2, tuv p s), (3, sov a b), (4, sov c d)]).run Tryd.prog w = .ok (evv e k p s a b c d) w := by
  have h : ∀ e k p s a b c d : Int, Tryd.prog.built 44 [(0, .int .i64 e), (1, .int .i64 k), (2, tuv p s), (3, sov a b), (4, sov c d)] = some (evc e k p s a b c d) := fun e k p s a b c d => by kernel_rfl
  exact run_build w _ _ _ (h ..)
theorem ev_run {w : World} {ev : Operand → Value} {o : Oper} {x0 x1 x2 x3 x4 : Operand} {e k p s a b c d : Int} (hop : o.op = .build 44 #[(0, x0), (1, x1), (2, x2), (3, x3), (4, x4)]) (h0 : ev x0 = .int .i64 e) (h1 : ev x1 = .int .i64 k) (h2 : ev x2 = tuv p s) (h3 : ev x3 = sov a b) (h4 : ev x4 = sov c d) : (execOp ev o).run Tryd.prog w = .ok (.value (evv e k p s a b c d)) w := by
  simp only [execOp, hop, List.map_toArray, List.map_cons, List.map_nil, h0, h1, h2, h3, h4, Sem.run_bind, ev_build, Result.andThen_ok, Sem.run_pure]
theorem ev_none (w : World) : (Instr.build 44 #[]).run Tryd.prog w = .ok (evv 0 0 0 0 0 0 0 0) w := run_build w _ _ _ (by kernel_rfl)
theorem ev_none_run {w : World} {ev : Operand → Value} {o : Oper} (hop : o.op = .build 44 #[]) : (execOp ev o).run Tryd.prog w = .ok (.value (evv 0 0 0 0 0 0 0 0)) w := by
  simp only [execOp, hop, List.map_toArray, List.map_nil, Sem.run_bind, ev_none, Result.andThen_ok, Sem.run_pure]
theorem step_none (w : World) : (Instr.build 82 #[]).run Tryd.prog w = .ok (stpv 0 0 0 0 0 0) w := run_build w _ _ _ (by kernel_rfl)
theorem step_none_run {w : World} {ev : Operand → Value} {o : Oper} (hop : o.op = .build 82 #[]) : (execOp ev o).run Tryd.prog w = .ok (.value (stpv 0 0 0 0 0 0)) w := by
  simp only [execOp, hop, List.map_toArray, List.map_nil, Sem.run_bind, step_none, Result.andThen_ok, Sem.run_pure]
theorem ln_build5 (w : World) (q k p s i x : Nat) : (Instr.build 62 #[(0, .pointer (some ⟨q, 0, none⟩)), (1, .int .i64 (k : Int)), (2, tuv p s), (3, .int .i64 (i : Int)), (4, .pointer (some ⟨x, 0, none⟩))]).run Tryd.prog w = .ok (lnv (.pointer (some ⟨q, 0, none⟩)) k p s i (.pointer (some ⟨x, 0, none⟩)) (.pointer none) false) w := by
  have h : ∀ (q x : Nat) (k p s i : Int), Tryd.prog.built 62 [(0, .pointer (some ⟨q, 0, none⟩)), (1, .int .i64 k), (2, tuv p s), (3, .int .i64 i), (4, .pointer (some ⟨x, 0, none⟩))] = some (lnc (.pointer (some ⟨q, 0, none⟩)) k p s i (.pointer (some ⟨x, 0, none⟩)) (.pointer none) false) := fun q x k p s i => by kernel_rfl
  exact run_build w _ _ _ (h ..)
theorem ln_run5 {w : World} {ev : Operand → Value} {o : Oper} {x0 x1 x2 x3 x4 : Operand} {q k p s i x : Nat} (hop : o.op = .build 62 #[(0, x0), (1, x1), (2, x2), (3, x3), (4, x4)]) (h0 : ev x0 = .pointer (some ⟨q, 0, none⟩)) (h1 : ev x1 = .int .i64 (k : Int)) (h2 : ev x2 = tuv p s) (h3 : ev x3 = .int .i64 (i : Int)) (h4 : ev x4 = .pointer (some ⟨x, 0, none⟩)) : (execOp ev o).run Tryd.prog w = .ok (.value (lnv (.pointer (some ⟨q, 0, none⟩)) k p s i (.pointer (some ⟨x, 0, none⟩)) (.pointer none) false)) w := by
  simp only [execOp, hop, List.map_toArray, List.map_cons, List.map_nil, h0, h1, h2, h3, h4, Sem.run_bind, ln_build5, Result.andThen_ok, Sem.run_pure]
theorem ln_build2 (w : World) (k p s : Int) : (Instr.build 62 #[(1, .int .i64 k), (2, tuv p s)]).run Tryd.prog w = .ok (lnv (.pointer none) k p s 0 (.pointer none) (.pointer none) false) w := by
  have h : ∀ (k p s : Int), Tryd.prog.built 62 [(1, .int .i64 k), (2, tuv p s)] = some (lnc (.pointer none) k p s 0 (.pointer none) (.pointer none) false) := fun k p s => by kernel_rfl
  exact run_build w _ _ _ (h ..)
theorem ln_run2 {w : World} {ev : Operand → Value} {o : Oper} {x1 x2 : Operand} {k p s : Int} (hop : o.op = .build 62 #[(1, x1), (2, x2)]) (h1 : ev x1 = .int .i64 k) (h2 : ev x2 = tuv p s) : (execOp ev o).run Tryd.prog w = .ok (.value (lnv (.pointer none) k p s 0 (.pointer none) (.pointer none) false)) w := by
  simp only [execOp, hop, List.map_toArray, List.map_cons, List.map_nil, h1, h2, Sem.run_bind, ln_build2, Result.andThen_ok, Sem.run_pure]

/-- a lane's row -/
def LnRow (w : World) (b : Nat) (gv : Value) (k p s i : Int) (xv dv : Value) (f : Bool) : Prop := RowAt w b 62 (lnc gv k p s i xv dv f)
section
variable {w w' : World} {b : Nat} {gv xv dv : Value} {k p s i : Int} {f : Bool}
theorem LnRow.step (h : LnRow w b gv k p s i xv dv f) (hb : Below w.heap.size w w') : LnRow w' b gv k p s i xv dv f := RowAt.step h hb
theorem LnRow.grid (h : LnRow w b gv k p s i xv dv f) : w.cell? ⟨b, 0, none⟩ = some gv := (RowAt.cell h 0).trans rfl
theorem LnRow.number (h : LnRow w b gv k p s i xv dv f) : w.cell? ⟨b, 1, none⟩ = some (.int .i64 k) := (RowAt.cell h 1).trans rfl
theorem LnRow.index (h : LnRow w b gv k p s i xv dv f) : w.cell? ⟨b, 4, none⟩ = some (.int .i64 i) := (RowAt.cell h 4).trans rfl
theorem LnRow.source (h : LnRow w b gv k p s i xv dv f) : w.cell? ⟨b, 5, none⟩ = some xv := (RowAt.cell h 5).trans rfl
theorem LnRow.held (h : LnRow w b gv k p s i xv dv f) : w.cell? ⟨b, 6, none⟩ = some dv := (RowAt.cell h 6).trans rfl
theorem LnRow.waits (h : LnRow w b gv k p s i xv dv f) : w.cell? ⟨b, 7, none⟩ = some (.bool f) := (RowAt.cell h 7).trans rfl
theorem LnRow.turn (h : LnRow w b gv k p s i xv dv f) : (loadVar 40 ⟨b, 2, none⟩).run Tryd.prog w = .ok (tuv p s) w :=
  sub_load h tu_agg tu_size 2 [.int .i64 p, .int .i64 s] rfl fun j u hj => by
    have hj2 : j < 2 := by
      have := (List.getElem?_eq_some_iff.1 hj).1
      simpa using this
    rcases (show j = 0 ∨ j = 1 by omega) with rfl | rfl
    all_goals exact hj
theorem LnRow.setWaits (h : LnRow w b gv k p s i xv dv f) (f' : Bool) : ∃ w2, (storeVar 4 ⟨b, 7, none⟩ (.bool f')).run Tryd.prog w = .ok () w2 ∧ LnRow w2 b gv k p s i xv dv f' ∧ Kept (fun j => j = b) w w2 := by
  have hc := h.waits
  have hf := RowAt.frozen h 7
  refine ⟨_, by simp [hc, hf, go_sem], RowAt.setCell h 7 (.bool f'), (Kept.refl (fun j => j = b) w).set (.inl rfl) _⟩
theorem LnRow.setHeld (h : LnRow w b gv k p s i xv dv f) (a : Option Addr) (d : Option Addr) (hd : dv = .pointer d) : ∃ w2, (storeVar 60 ⟨b, 6, none⟩ (.pointer a)).run Tryd.prog w = .ok () w2 ∧ LnRow w2 b gv k p s i xv (.pointer a) f ∧ Kept (fun j => j = b) w w2 := by
  have hc := h.held
  rw [hd] at hc
  have hf := RowAt.frozen h 6
  refine ⟨_, by simp [hc, hf, go_sem], RowAt.setCell h 6 (.pointer a), (Kept.refl (fun j => j = b) w).set (.inl rfl) _⟩
theorem LnRow.setIndex (h : LnRow w b gv k p s i xv dv f) (i' : Int) : ∃ w2, (storeVar 3 ⟨b, 4, none⟩ (.int .i64 i')).run Tryd.prog w = .ok () w2 ∧ LnRow w2 b gv k p s i' xv dv f ∧ Kept (fun j => j = b) w w2 := by
  have hc := h.index
  have hf := RowAt.frozen h 4
  refine ⟨_, by simp [hc, hf, go_sem], RowAt.setCell h 4 (.int .i64 i'), (Kept.refl (fun j => j = b) w).set (.inl rfl) _⟩
end
theorem ln_store {w : World} {b : Nat} {g1 x1 d1 : Value} {k1 p1 s1 i1 : Int} {f1 : Bool} (h : LnRow w b g1 k1 p1 s1 i1 x1 d1 f1) {k p s i : Int} {g x d : Option Addr} {f : Bool} : (storeVar 62 ⟨b, 0, none⟩ (lnv (.pointer g) k p s i (.pointer x) (.pointer d) f)).run Tryd.prog w = .ok () (w.setRow b (lnc (.pointer g) k p s i (.pointer x) (.pointer d) f)) :=
  RowAt.store h (C' := lnc (.pointer g) k p s i (.pointer x) (.pointer d) f) ln_size rfl (by simp [Value.oneCell'])
theorem ln_load {w : World} {b : Nat} {g x d : Value} {k p s i : Int} {f : Bool} (h : LnRow w b g k p s i x d f) : (loadVar 62 ⟨b, 0, none⟩).run Tryd.prog w = .ok (lnv g k p s i x d f) w :=
  sub_load h ln_agg ln_size 0 (lnc g k p s i x d f).toList rfl fun j v h => by simpa using h
end Go.Proofs.YtfoodaobiknihaaDoor

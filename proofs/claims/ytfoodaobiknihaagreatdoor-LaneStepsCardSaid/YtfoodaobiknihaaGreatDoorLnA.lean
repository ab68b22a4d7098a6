/- A lane of Argon2 as a machine, as plain mathematics: what it goes on with, whether it waits or is done; how many steps it did. No condition but those typed. A lane's cells, an event's, and what operations do with them. No condition but those typed. event, Number, Waits, Done and Turn of package lane, by their contracts. Conditions: those typed. -/
import Derived.Test.YtfoodaobiknihaaGreatDoorFlX
import Derived.Test.YtfoodaobiknihaaGreatDoorFlS
namespace Go.Proofs.YtfoodaobiknihaaGreatDoor
set_option maxRecDepth 50000
open Go.RowKit Bb Bn
inductive Ln where
  | go (p s i : Nat) (h : Option Nat)
  | gate (p s : Nat)
  | done (p s : Nat)
def Ln.Ok (t g : Nat) : Ln → Prop
  | .go p s i h => p < t ∧ s ≤ 3 ∧ fiN p s ≤ i ∧ i ≤ g ∧ (h.isSome = true → i < g)
  | .gate p s => p < t ∧ s ≤ 3
  | .done p s => p + 1 = t ∧ s = 3
def nxP (p s : Nat) : Nat := if s = 3 then p + 1 else p
def nxS (s : Nat) : Nat := if s = 3 then 0 else s + 1
def opL (t p s : Nat) : Ln := if p + 1 = t ∧ s = 3 then .done p s else .go (nxP p s) (nxS s) (fiN (nxP p s) (nxS s)) none
theorem nx_turn {t p s : Nat} (hp : p < t) (hs : s ≤ 3) (h : ¬ (p + 1 = t ∧ s = 3)) : nxP p s < t ∧ nxS s ≤ 3 ∧ 4 * nxP p s + nxS s = 4 * p + s + 1 ∧ fiN (nxP p s) (nxS s) = 0 := by
  unfold nxP nxS fiN
  by_cases h3 : s = 3
  · subst h3
    simp only [if_true]
    refine ⟨by omega, by omega, by omega, if_neg (by omega)⟩
  · rw [if_neg h3, if_neg h3]
    refine ⟨hp, by omega, by omega, if_neg (by omega)⟩
theorem op_ok {t g p s : Nat} (hg : 2 ≤ g) (hp : p < t) (hs : s ≤ 3) : (opL t p s).Ok t g := by
  unfold opL
  by_cases h : p + 1 = t ∧ s = 3
  · rw [if_pos h]; exact h
  · rw [if_neg h]
    obtain ⟨h1, h2, _, h4⟩ := nx_turn hp hs h
    refine ⟨h1, h2, Nat.le_refl _, by rw [h4]; omega, fun h => by cases h⟩
end Go.Proofs.YtfoodaobiknihaaGreatDoor

namespace Go.Proofs.YtfoodaobiknihaaGreatDoor
set_option maxRecDepth 50000
open Go.RowKit Bb Bn
abbrev lnc (gv : Value) (k p s i : Int) (xv dv : Value) (f : Bool) : Array Value := #[gv, .int .i64 k, .int .i64 p, .int .i64 s, .int .i64 i, xv, dv, .bool f]
abbrev lnv (gv : Value) (k p s i : Int) (xv dv : Value) (f : Bool) : Value := .agg #[gv, .int .i64 k, .int .i64 p, .int .i64 s, .int .i64 i, xv, dv, .bool f]
abbrev evc (e k p s a b c d : Int) : Array Value := #[.int .i64 e, .int .i64 k, .int .i64 p, .int .i64 s, .int .i64 a, .int .i64 b, .int .i64 c, .int .i64 d]
abbrev evv (e k p s a b c d : Int) : Value := .agg #[.int .i64 e, .int .i64 k, .int .i64 p, .int .i64 s, .int .i64 a, .int .i64 b, .int .i64 c, .int .i64 d]
theorem ln_size : (Tryz.prog.info? 67).map (·.size) = some 8 := by kernel_rfl
theorem ev_size : (Tryz.prog.info? 32).map (·.size) = some 8 := by kernel_rfl
theorem evc_one (e k p s a b c d : Int) : (evc e k p s a b c d).all (·.oneCell') = true := by simp [Value.oneCell']
theorem evc_store {w : World} {b : Nat} {e k p s a b1 c d e2 k2 p2 s2 a2 b2 c2 d2 : Int} (h : RowAt w b 32 (evc e k p s a b1 c d)) : (storeVar 32 ⟨b, 0, none⟩ (evv e2 k2 p2 s2 a2 b2 c2 d2)).run Tryz.prog w = .ok () (w.setRow b (evc e2 k2 p2 s2 a2 b2 c2 d2)) :=
  h.store (C' := evc e2 k2 p2 s2 a2 b2 c2 d2) ev_size rfl (evc_one _ _ _ _ _ _ _ _)
section
variable {w : World} {b : Nat} {v : Value} {ev : Operand → Value} {x : Operand} {o : Oper}
theorem lnf_run {k j : Nat} (hop : o.op = .fieldAddr 67 x k) (hk : (k = 0 ∧ j = 0) ∨ (k = 1 ∧ j = 1) ∨ (k = 2 ∧ j = 2) ∨ (k = 3 ∧ j = 4) ∨ (k = 4 ∧ j = 5) ∨ (k = 5 ∧ j = 6) ∨ (k = 6 ∧ j = 7)) (hx : ev x = .pointer (some ⟨b, 0, none⟩)) : (execOp ev o).run Tryz.prog w = .ok (.value (.pointer (some ⟨b, j, none⟩))) w := by
  rcases hk with ⟨rfl, rfl⟩ | ⟨rfl, rfl⟩ | ⟨rfl, rfl⟩ | ⟨rfl, rfl⟩ | ⟨rfl, rfl⟩ | ⟨rfl, rfl⟩ | ⟨rfl, rfl⟩
  all_goals
    simp [execOp, hop, hx, go_sem]
theorem pgr_run {ad : Addr} (hop : o.op = .load 38 x) (hx : ev x = .pointer (some ad)) (hc : w.cell? ad = some v) : (execOp ev o).run Tryz.prog w = .ok (.value v) w := by
  simp [execOp, hop, hx, hc, go_sem]
theorem psr_run {ad : Addr} (hop : o.op = .load 64 x) (hx : ev x = .pointer (some ad)) (hc : w.cell? ad = some v) : (execOp ev o).run Tryz.prog w = .ok (.value v) w := by
  simp [execOp, hop, hx, hc, go_sem]
theorem step_new (hop : o.op = .alloc 98) : (execOp ev o).run Tryz.prog w = .ok (.value (.pointer (some ⟨w.heap.size, 0, none⟩))) (w.alloc (.cells (stpc 0 0 0 0 0 0) 98)) := by
  simp [execOp, hop, go_sem]
end
theorem ev_build (w : World) (e k p s a b c d : Int) : (Instr.build 32 #[(0, .int .i64 e), (1, .int .i64 k), (2, tuv p s), (3, sov a b), (4, sov c d)]).run Tryz.prog w = .ok (evv e k p s a b c d) w := by
  have h : ∀ e k p s a b c d : Int, Tryz.prog.built 32 [(0, .int .i64 e), (1, .int .i64 k), (2, tuv p s), (3, sov a b), (4, sov c d)] = some (evc e k p s a b c d) := fun e k p s a b c d => by kernel_rfl
  exact run_build w _ _ _ (h ..)
theorem ev_run {w : World} {ev : Operand → Value} {o : Oper} {x0 x1 x2 x3 x4 : Operand} {e k p s a b c d : Int} (hop : o.op = .build 32 #[(0, x0), (1, x1), (2, x2), (3, x3), (4, x4)]) (h0 : ev x0 = .int .i64 e) (h1 : ev x1 = .int .i64 k) (h2 : ev x2 = tuv p s) (h3 : ev x3 = sov a b) (h4 : ev x4 = sov c d) : (execOp ev o).run Tryz.prog w = .ok (.value (evv e k p s a b c d)) w := by
  simp only [execOp, hop, List.map_toArray, List.map_cons, List.map_nil, h0, h1, h2, h3, h4, Sem.run_bind, ev_build, Result.andThen_ok, Sem.run_pure]
theorem ev_none (w : World) : (Instr.build 32 #[]).run Tryz.prog w = .ok (evv 0 0 0 0 0 0 0 0) w := run_build w _ _ _ (by kernel_rfl)
theorem ev_none_run {w : World} {ev : Operand → Value} {o : Oper} (hop : o.op = .build 32 #[]) : (execOp ev o).run Tryz.prog w = .ok (.value (evv 0 0 0 0 0 0 0 0)) w := by
  simp only [execOp, hop, List.map_toArray, List.map_nil, Sem.run_bind, ev_none, Result.andThen_ok, Sem.run_pure]
theorem step_none (w : World) : (Instr.build 98 #[]).run Tryz.prog w = .ok (stpv 0 0 0 0 0 0) w := run_build w _ _ _ (by kernel_rfl)
theorem step_none_run {w : World} {ev : Operand → Value} {o : Oper} (hop : o.op = .build 98 #[]) : (execOp ev o).run Tryz.prog w = .ok (.value (stpv 0 0 0 0 0 0)) w := by
  simp only [execOp, hop, List.map_toArray, List.map_nil, Sem.run_bind, step_none, Result.andThen_ok, Sem.run_pure]
theorem ln_build5 (w : World) (q k p s i x : Nat) : (Instr.build 67 #[(0, .pointer (some ⟨q, 0, none⟩)), (1, .int .i64 (k : Int)), (2, tuv p s), (3, .int .i64 (i : Int)), (4, .pointer (some ⟨x, 0, none⟩))]).run Tryz.prog w = .ok (lnv (.pointer (some ⟨q, 0, none⟩)) k p s i (.pointer (some ⟨x, 0, none⟩)) (.pointer none) false) w := by
  have h : ∀ (q x : Nat) (k p s i : Int), Tryz.prog.built 67 [(0, .pointer (some ⟨q, 0, none⟩)), (1, .int .i64 k), (2, tuv p s), (3, .int .i64 i), (4, .pointer (some ⟨x, 0, none⟩))] = some (lnc (.pointer (some ⟨q, 0, none⟩)) k p s i (.pointer (some ⟨x, 0, none⟩)) (.pointer none) false) := fun q x k p s i => by kernel_rfl
  exact run_build w _ _ _ (h ..)
theorem ln_run5 {w : World} {ev : Operand → Value} {o : Oper} {x0 x1 x2 x3 x4 : Operand} {q k p s i x : Nat} (hop : o.op = .build 67 #[(0, x0), (1, x1), (2, x2), (3, x3), (4, x4)]) (h0 : ev x0 = .pointer (some ⟨q, 0, none⟩)) (h1 : ev x1 = .int .i64 (k : Int)) (h2 : ev x2 = tuv p s) (h3 : ev x3 = .int .i64 (i : Int)) (h4 : ev x4 = .pointer (some ⟨x, 0, none⟩)) : (execOp ev o).run Tryz.prog w = .ok (.value (lnv (.pointer (some ⟨q, 0, none⟩)) k p s i (.pointer (some ⟨x, 0, none⟩)) (.pointer none) false)) w := by
  simp only [execOp, hop, List.map_toArray, List.map_cons, List.map_nil, h0, h1, h2, h3, h4, Sem.run_bind, ln_build5, Result.andThen_ok, Sem.run_pure]
theorem ln_build2 (w : World) (k p s : Int) : (Instr.build 67 #[(1, .int .i64 k), (2, tuv p s)]).run Tryz.prog w = .ok (lnv (.pointer none) k p s 0 (.pointer none) (.pointer none) false) w := by
  have h : ∀ (k p s : Int), Tryz.prog.built 67 [(1, .int .i64 k), (2, tuv p s)] = some (lnc (.pointer none) k p s 0 (.pointer none) (.pointer none) false) := fun k p s => by kernel_rfl
  exact run_build w _ _ _ (h ..)
theorem ln_run2 {w : World} {ev : Operand → Value} {o : Oper} {x1 x2 : Operand} {k p s : Int} (hop : o.op = .build 67 #[(1, x1), (2, x2)]) (h1 : ev x1 = .int .i64 k) (h2 : ev x2 = tuv p s) : (execOp ev o).run Tryz.prog w = .ok (.value (lnv (.pointer none) k p s 0 (.pointer none) (.pointer none) false)) w := by
  simp only [execOp, hop, List.map_toArray, List.map_cons, List.map_nil, h1, h2, Sem.run_bind, ln_build2, Result.andThen_ok, Sem.run_pure]
def LnRow (w : World) (b : Nat) (gv : Value) (k p s i : Int) (xv dv : Value) (f : Bool) : Prop := RowAt w b 67 (lnc gv k p s i xv dv f)
section
variable {w w' : World} {b : Nat} {gv xv dv : Value} {k p s i : Int} {f : Bool}
theorem LnRow.step (h : LnRow w b gv k p s i xv dv f) (hb : Below w.heap.size w w') : LnRow w' b gv k p s i xv dv f := RowAt.step h hb
theorem LnRow.grid (h : LnRow w b gv k p s i xv dv f) : w.cell? ⟨b, 0, none⟩ = some gv := (RowAt.cell h 0).trans rfl
theorem LnRow.number (h : LnRow w b gv k p s i xv dv f) : w.cell? ⟨b, 1, none⟩ = some (.int .i64 k) := (RowAt.cell h 1).trans rfl
theorem LnRow.index (h : LnRow w b gv k p s i xv dv f) : w.cell? ⟨b, 4, none⟩ = some (.int .i64 i) := (RowAt.cell h 4).trans rfl
theorem LnRow.source (h : LnRow w b gv k p s i xv dv f) : w.cell? ⟨b, 5, none⟩ = some xv := (RowAt.cell h 5).trans rfl
theorem LnRow.held (h : LnRow w b gv k p s i xv dv f) : w.cell? ⟨b, 6, none⟩ = some dv := (RowAt.cell h 6).trans rfl
theorem LnRow.waits (h : LnRow w b gv k p s i xv dv f) : w.cell? ⟨b, 7, none⟩ = some (.bool f) := (RowAt.cell h 7).trans rfl
theorem LnRow.turn (h : LnRow w b gv k p s i xv dv f) : (loadVar 28 ⟨b, 2, none⟩).run Tryz.prog w = .ok (tuv p s) w :=
  sub_load h tu_agg tu_size 2 [.int .i64 p, .int .i64 s] rfl fun j u hj => by
    have hj2 : j < 2 := by
      have := (List.getElem?_eq_some_iff.1 hj).1
      simpa using this
    rcases (show j = 0 ∨ j = 1 by omega) with rfl | rfl
    all_goals exact hj
theorem LnRow.setWaits (h : LnRow w b gv k p s i xv dv f) (f' : Bool) : ∃ w2, (storeVar 4 ⟨b, 7, none⟩ (.bool f')).run Tryz.prog w = .ok () w2 ∧ LnRow w2 b gv k p s i xv dv f' ∧ Kept (fun j => j = b) w w2 := by
  have hc := h.waits
  have hf := RowAt.frozen h 7
  refine ⟨_, by simp [hc, hf, go_sem], RowAt.setCell h 7 (.bool f'), (Kept.refl (fun j => j = b) w).set (.inl rfl) _⟩
theorem LnRow.setHeld (h : LnRow w b gv k p s i xv dv f) (a : Option Addr) (d : Option Addr) (hd : dv = .pointer d) : ∃ w2, (storeVar 65 ⟨b, 6, none⟩ (.pointer a)).run Tryz.prog w = .ok () w2 ∧ LnRow w2 b gv k p s i xv (.pointer a) f ∧ Kept (fun j => j = b) w w2 := by
  have hc := h.held
  rw [hd] at hc
  have hf := RowAt.frozen h 6
  refine ⟨_, by simp [hc, hf, go_sem], RowAt.setCell h 6 (.pointer a), (Kept.refl (fun j => j = b) w).set (.inl rfl) _⟩
theorem LnRow.setIndex (h : LnRow w b gv k p s i xv dv f) (i' : Int) : ∃ w2, (storeVar 3 ⟨b, 4, none⟩ (.int .i64 i')).run Tryz.prog w = .ok () w2 ∧ LnRow w2 b gv k p s i' xv dv f ∧ Kept (fun j => j = b) w w2 := by
  have hc := h.index
  have hf := RowAt.frozen h 4
  refine ⟨_, by simp [hc, hf, go_sem], RowAt.setCell h 4 (.int .i64 i'), (Kept.refl (fun j => j = b) w).set (.inl rfl) _⟩
end
theorem ln_store {w : World} {b : Nat} {g1 x1 d1 : Value} {k1 p1 s1 i1 : Int} {f1 : Bool} (h : LnRow w b g1 k1 p1 s1 i1 x1 d1 f1) {k p s i : Int} {g x d : Option Addr} {f : Bool} : (storeVar 67 ⟨b, 0, none⟩ (lnv (.pointer g) k p s i (.pointer x) (.pointer d) f)).run Tryz.prog w = .ok () (w.setRow b (lnc (.pointer g) k p s i (.pointer x) (.pointer d) f)) :=
  RowAt.store h (C' := lnc (.pointer g) k p s i (.pointer x) (.pointer d) f) ln_size rfl (by simp [Value.oneCell'])
end Go.Proofs.YtfoodaobiknihaaGreatDoor

namespace Go.Proofs.YtfoodaobiknihaaGreatDoor
set_option maxRecDepth 50000
open Go.RowKit Bb Bn
set_option maxHeartbeats 6400000 in
theorem event_any {w : World} {b : Nat} {gv xv dv : Value} {k p s i : Int} {f : Bool} (H : LnRow w b gv k p s i xv dv f) (e kk x k' y r c : Int) :
    Calls Tryz.prog 39 #[.pointer (some ⟨b, 0, none⟩), .int .i64 e, stpv kk x k' y r c] w fun e' w' => e' = .returned (evv e k p s kk x r c) ∧ Below w.heap.size w w' := by
  obtain ⟨w1, e1⟩ : ∃ w1, w1 = (w.alloc (.cells (stpc kk x k' y r c) 98)).alloc (.cells (evc 0 0 0 0 0 0 0 0) 32) := ⟨_, rfl⟩
  have b1 : Below w.heap.size w w1 := by rw [e1]; exact two_box _ _ _
  have hS : RowAt w1 w.heap.size 98 (stpc kk x k' y r c) := by rw [e1]; exact (RowAt.new _ _ _).alloc _
  have hE : RowAt w1 (w.heap.size + 1) 32 (evc 0 0 0 0 0 0 0 0) := by
    rw [e1]
    have h := RowAt.new (w.alloc (.cells (stpc kk x k' y r c) 98)) 32 (evc 0 0 0 0 0 0 0 0)
    rwa [World.size_alloc] at h
  have hL := H.step b1
  have HX : Hid (∀ u, Below w1.heap.size w1 u → LnRow u b gv k p s i xv dv f ∧ RowAt u w.heap.size 98 (stpc kk x k' y r c) ∧ RowAt u (w.heap.size + 1) 32 (evc 0 0 0 0 0 0 0 0)) := Lib.hid fun u hu => ⟨hL.step hu, RowAt.step hS hu, RowAt.step hE hu⟩
  have HT1 : Hid (w.heap.size ≤ w1.heap.size) := Lib.hid b1.size
  have HB := Lib.hid b1
  have E1 := Lib.hid e1
  clear H b1 e1 hS hE hL
  go_enter Tryz.func39, Tryz.ntmps39
  go_upto_region 1 with fail
  rw [← E1.out]
  clear E1
  obtain ⟨F, hF⟩ : ∃ F : World → Prop, F = fun u => RowAt u (w.heap.size + 1) 32 (evc e k p s kk x r c) ∧ Below w.heap.size w u := ⟨_, rfl⟩
  have HFS : Hid (∀ u u', F u → Below u.heap.size u u' → F u') := Lib.hid fun u u' hu hb => by
    subst hF
    exact ⟨RowAt.step hu.1 hb, below_step hu.2 hb⟩
  have HFE : Hid (∀ u, F u → RowAt u (w.heap.size + 1) 32 (evc e k p s kk x r c) ∧ Below w.heap.size w u) := Lib.hid fun u hu => by subst hF; exact hu
  have HF : Hid (∀ u, RowAt u (w.heap.size + 1) 32 (evc e k p s kk x r c) → Below w.heap.size w u → F u) := Lib.hid fun u h1 h2 => by subst hF; exact ⟨h1, h2⟩
  clear hF
  generalize hT0 : w.heap.size = T0 at *
  have HT0 := Lib.hid hT0
  clear hT0
  refine wp_region_stage (T0) [14] [] [[0], [0], [0], [0], [0], [0], [0], [0], [0], [0], [0], [0], [0], [0], []] [[Is (.int .i64 e), Is (.pointer (some ⟨b, 0, none⟩)), Is (.pointer (some ⟨b, 0, none⟩)), Is (.pointer (some ⟨b, 1, none⟩)), Is (.int .i64 k), Is (.pointer (some ⟨b, 0, none⟩)), Is (.pointer (some ⟨b, 0, none⟩)), Is (.pointer (some ⟨b, 2, none⟩)), Is (tuv p s), Is (.pointer (some ⟨T0, 2 * 0, none⟩)), Is (sov kk x), Is (.pointer (some ⟨T0, 2 * 2, none⟩)), Is (sov r c), Is (evv e k p s kk x r c), Free], [Is (.int .i64 e), Is (.pointer (some ⟨b, 0, none⟩)), Is (.pointer (some ⟨b, 0, none⟩)), Is (.pointer (some ⟨b, 1, none⟩)), Is (.int .i64 k), Is (.pointer (some ⟨b, 0, none⟩)), Is (.pointer (some ⟨b, 0, none⟩)), Is (.pointer (some ⟨b, 2, none⟩)), Is (tuv p s), Is (.pointer (some ⟨T0, 2 * 0, none⟩)), Is (sov kk x), Is (.pointer (some ⟨T0, 2 * 2, none⟩)), Is (sov r c), IsF (evv e k p s kk x r c) F, Free]] [Is (.int .i64 e), Is (.pointer (some ⟨b, 0, none⟩)), Is (.pointer (some ⟨b, 0, none⟩)), Is (.pointer (some ⟨b, 1, none⟩)), Is (.int .i64 k), Is (.pointer (some ⟨b, 0, none⟩)), Is (.pointer (some ⟨b, 0, none⟩)), Is (.pointer (some ⟨b, 2, none⟩)), Is (tuv p s), Is (.pointer (some ⟨T0, 2 * 0, none⟩)), Is (sov kk x), Is (.pointer (some ⟨T0, 2 * 2, none⟩)), Is (sov r c), IsF (evv e k p s kk x r c) F, Free] HT1.out (by kernel_rfl) (by kernel_rfl) rfl rfl ⟨⟨stable_is _, stable_is _, stable_is _, stable_is _, stable_is _, stable_is _, stable_is _, stable_is _, stable_is _, stable_is _, stable_is _, stable_is _, stable_is _, stable_is _, stable_free, trivial⟩, ⟨stable_is _, stable_is _, stable_is _, stable_is _, stable_is _, stable_is _, stable_is _, stable_is _, stable_is _, stable_is _, stable_is _, stable_is _, stable_is _, stable_isf _ HFS.out, stable_free, trivial⟩, trivial⟩ (by intro n hn o ho hd w; simp only [List.mem_cons, List.not_mem_nil, or_false] at hn; subst hn; first | trivial | (cases ho; cases hd)) rfl ⟨?p0, ?p1, ?p2, ?p3, ?p4, ?p5, ?p6, ?p7, ?p8, ?p9, ?p10, ?p11, ?p12, ?p13, fun h => absurd (by simp) h, trivial⟩ ⟨?t0, trivial⟩ (by decide) ?fin
  case p0 =>
    intro _ k hk; obtain rfl := List.mem_singleton.1 hk; intro a w C Z
    exact partS_on (wanted_free rfl _) (op_move (.inl rfl) (C.was 1 (by kernel_rfl)))
  case p1 =>
    intro _ k hk; obtain rfl := List.mem_singleton.1 hk; intro a w C Z
    exact partS_on (wanted_free rfl _) (op_move (.inl rfl) (C.was 0 (by kernel_rfl)))
  case p2 =>
    intro _ k hk; obtain rfl := List.mem_singleton.1 hk; intro a w C Z
    exact partS_on (wanted_free rfl _) (op_value (nil_run rfl (C.on (j := 1) (by kernel_rfl) rfl rfl)) rfl)
  case p3 =>
    intro _ k hk; obtain rfl := List.mem_singleton.1 hk; intro a w C Z
    exact partS_on (wanted_free rfl _) (op_value (lnf_run (k := 1) (j := 1) rfl (by decide) (C.on (j := 2) (by kernel_rfl) rfl rfl)) rfl)
  case p4 =>
    intro _ k hk; obtain rfl := List.mem_singleton.1 hk; intro a w C Z
    exact partS_on (wanted_free rfl _) (op_value (int_run rfl (C.on (j := 3) (by kernel_rfl) rfl rfl) (HX.out w C.below).1.number) rfl)
  case p5 =>
    intro _ k hk; obtain rfl := List.mem_singleton.1 hk; intro a w C Z
    exact partS_on (wanted_free rfl _) (op_move (.inl rfl) (C.was 0 (by kernel_rfl)))
  case p6 =>
    intro _ k hk; obtain rfl := List.mem_singleton.1 hk; intro a w C Z
    exact partS_on (wanted_free rfl _) (op_value (nil_run rfl (C.on (j := 5) (by kernel_rfl) rfl rfl)) rfl)
  case p7 =>
    intro _ k hk; obtain rfl := List.mem_singleton.1 hk; intro a w C Z
    exact partS_on (wanted_free rfl _) (op_value (lnf_run (k := 2) (j := 2) rfl (by decide) (C.on (j := 6) (by kernel_rfl) rfl rfl)) rfl)
  case p8 =>
    intro _ k hk; obtain rfl := List.mem_singleton.1 hk; intro a w C Z
    exact partS_on (wanted_free rfl _) (op_value (load_run rfl (C.on (j := 7) (by kernel_rfl) rfl rfl) (HX.out w C.below).1.turn) rfl)
  case p9 =>
    intro _ k hk; obtain rfl := List.mem_singleton.1 hk; intro a w C Z
    exact partS_on (wanted_free rfl _) (op_value (stepf_run (k := 0) rfl (by decide) (C.was 5 (by kernel_rfl))) rfl)
  case p10 =>
    intro _ k hk; obtain rfl := List.mem_singleton.1 hk; intro a w C Z
    exact partS_on (wanted_free rfl _) (op_value (load_run rfl (C.on (j := 9) (by kernel_rfl) rfl rfl) (step_loads (HX.out w C.below).2.1).1) rfl)
  case p11 =>
    intro _ k hk; obtain rfl := List.mem_singleton.1 hk; intro a w C Z
    exact partS_on (wanted_free rfl _) (op_value (stepf_run (k := 2) rfl (by decide) (C.was 5 (by kernel_rfl))) rfl)
  case p12 =>
    intro _ k hk; obtain rfl := List.mem_singleton.1 hk; intro a w C Z
    exact partS_on (wanted_free rfl _) (op_value (load_run rfl (C.on (j := 11) (by kernel_rfl) rfl rfl) (step_loads (HX.out w C.below).2.1).2.2) rfl)
  case p13 =>
    intro _ k hk; obtain rfl := List.mem_singleton.1 hk; intro a w C Z
    exact partS_on (wanted_free rfl _) (op_value (ev_run rfl (C.on (j := 0) (by kernel_rfl) rfl rfl) (C.on (j := 4) (by kernel_rfl) rfl rfl) (C.on (j := 8) (by kernel_rfl) rfl rfl) (C.on (j := 10) (by kernel_rfl) rfl rfl) (C.on (j := 12) (by kernel_rfl) rfl rfl)) rfl)
  case t0 =>
    intro o ho a w C A
    cases ho
    have hr := (HX.out w C.below).2.2
    have hb7 := below_setRow (C.below.mono HT1.out) (show T0 ≤ T0 + 1 by omega) (evc e k p s kk x r c)
    refine ⟨wanted_free rfl _, stage_store rfl (C.was 6 (by kernel_rfl)) (C.on (j := 13) (by kernel_rfl) rfl rfl) (evc_store hr) trivial hb7 (Nat.le_of_eq (setRow_size _ _ _).symm) ?_⟩
    · intro i o2 d hi hd hne hnw h
      have hil := (List.getElem?_eq_some_iff.1 hi).1
      replace hil : i < 15 := hil
      obtain rfl | rfl | rfl | rfl | rfl | rfl | rfl | rfl | rfl | rfl | rfl | rfl | rfl | rfl | rfl : i = 0 ∨ i = 1 ∨ i = 2 ∨ i = 3 ∨ i = 4 ∨ i = 5 ∨ i = 6 ∨ i = 7 ∨ i = 8 ∨ i = 9 ∨ i = 10 ∨ i = 11 ∨ i = 12 ∨ i = 13 ∨ i = 14 := by omega
      · exact h
      · exact h
      · exact h
      · exact h
      · exact h
      · exact h
      · exact h
      · exact h
      · exact h
      · exact h
      · exact h
      · exact h
      · exact h
      · exact ⟨h, HF.out _ (RowAt.setRow hr _) (HB.out.trans hb7)⟩
      · exact absurd rfl hne
  case fin =>
    rintro wF hbF _ rfl _ rfl _ rfl _ rfl _ rfl _ rfl _ rfl _ rfl _ rfl _ rfl _ rfl _ rfl _ rfl _ ⟨rfl, hFF⟩ _ _
    simp only [Fin, setAt, Exit.then, List.setIfInBounds_toArray, List.set_cons_succ, List.set_cons_zero]
    obtain ⟨hr, hb⟩ := HFE.out _ hFF
    go_wp2
    refine bodyPost_ret (v := evv e k p s kk x r c) (results_cell_row rfl _ _ (T0 + 1) 32 (evc e k p s kk x r c) (0, 0) _ rfl hr Tryz.underlying32 rfl ev_size) rfl ⟨rfl, ?_⟩
    rw [HT0.out]; exact hb
section
variable {w : World} {b : Nat} {gv xv dv : Value} {k p s i : Int} {f : Bool}
theorem number_ln (H : LnRow w b gv k p s i xv dv f) : Calls Tryz.prog 8 #[.pointer (some ⟨b, 0, none⟩)] w fun e w' => e = .returned (.int .i64 k) ∧ w = w' := by
  have k1 := H.number
  go_enter Tryz.func8, Tryz.ntmps8
  go_wp2
  go_ret
  exact ⟨rfl, rfl⟩
theorem waits_ln (H : LnRow w b gv k p s i xv dv f) : Calls Tryz.prog 7 #[.pointer (some ⟨b, 0, none⟩)] w fun e w' => e = .returned (.bool f) ∧ w = w' := by
  have k1 := H.waits
  go_enter Tryz.func7, Tryz.ntmps7
  go_wp2
  go_ret
  exact ⟨rfl, rfl⟩
theorem done_ln {ad : Option Addr} {r : Bool} (H : LnRow w b (.pointer ad) k p s i xv dv f) (hr : ad.isNone = r) : Calls Tryz.prog 17 #[.pointer (some ⟨b, 0, none⟩)] w fun e w' => e = .returned (.bool r) ∧ w = w' := by
  have k1 := H.grid
  cases ad with
  | none =>
    obtain rfl : r = true := hr.symm
    go_enter Tryz.func17, Tryz.ntmps17
    go_wp2
    go_ret
    exact ⟨rfl, rfl⟩
  | some ad =>
    obtain rfl : r = false := hr.symm
    go_enter Tryz.func17, Tryz.ntmps17
    go_wp2
    go_ret
    exact ⟨rfl, rfl⟩
end
theorem number_none (w : World) : Calls Tryz.prog 8 #[.pointer none] w fun e w' => e = .returned (.int .i64 0) ∧ w = w' := by
  go_enter Tryz.func8, Tryz.ntmps8
  go_wp2
  go_ret
  exact ⟨rfl, rfl⟩
theorem waits_none (w : World) : Calls Tryz.prog 7 #[.pointer none] w fun e w' => e = .returned (.bool false) ∧ w = w' := by
  go_enter Tryz.func7, Tryz.ntmps7
  go_wp2
  go_ret
  exact ⟨rfl, rfl⟩
theorem done_none (w : World) : Calls Tryz.prog 17 #[.pointer none] w fun e w' => e = .returned (.bool true) ∧ w = w' := by
  go_enter Tryz.func17, Tryz.ntmps17
  go_wp2
  go_ret
  exact ⟨rfl, rfl⟩
theorem turn_ln0 (w : World) : (Instr.build 28 #[]).run Tryz.prog w = .ok (tuv 0 0) w := run_build w _ _ _ (by kernel_rfl)
theorem turn_ln0_run {w : World} {ev : Operand → Value} {o : Oper} (hop : o.op = .build 28 #[]) : (execOp ev o).run Tryz.prog w = .ok (.value (tuv 0 0)) w := by
  simp only [execOp, hop, List.map_toArray, List.map_nil, Sem.run_bind, turn_ln0, Result.andThen_ok, Sem.run_pure]
theorem turn_none_ln (w : World) : Calls Tryz.prog 9 #[.pointer none] w fun e w' => e = .returned (tuv 0 0) ∧ Below w.heap.size w w' := by
  have hr : RowAt (w.alloc (.cells (tuc 0 0) 28)) w.heap.size 28 (tuc 0 0) := RowAt.new _ _ _
  have HR := Lib.hid hr
  have HS := Lib.hid (tu_store (p := 0) (s := 0) rfl hr)
  clear hr
  go_enter Tryz.func9, Tryz.ntmps9
  go_wp2_with (first
    | refine wpList_value_want rfl _ (turn_ln0_run rfl) ?_
    | refine wpList_store_of rfl _ _ _ rfl ⟨w.heap.size, 0, none⟩ _ rfl rfl HS.out ?_)
  refine bodyPost_ret (v := tuv 0 0) (results_cell_row rfl _ _ w.heap.size 28 (tuc 0 0) (0, 0) _ rfl (HR.out.setRow (tuc 0 0)) Tryz.underlying28 rfl tu_size) rfl ⟨rfl, ?_⟩
  exact below_setRow (one_box _ _) (Nat.le_refl _) _
end Go.Proofs.YtfoodaobiknihaaGreatDoor

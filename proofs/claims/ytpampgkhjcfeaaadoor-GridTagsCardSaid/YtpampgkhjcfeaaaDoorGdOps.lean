/- Operations of package grid: fields of a grid and of its shape, spots; a grid that stands in memory. No condition but those typed. -/
import Derived.Test.YtpampgkhjcfeaaaDoorAr
import Derived.Test.YtpampgkhjcfeaaaDoorSp
namespace Go.Proofs.YtpampgkhjcfeaaaDoor
set_option maxRecDepth 50000
open Go.RowKit Bb

section
variable {w : World} {b : Nat} {v : Value} {ev : Operand → Value} {x y : Operand} {o : Oper}
theorem nil_run {ad : Addr} (hop : o.op = .nilCheck x) (hx : ev x = .pointer (some ad)) : (execOp ev o).run Tryd.prog w = .ok (.value (.pointer (some ad))) w := by
  simp [execOp, hop, hx, go_sem]
theorem load_run {ad : Addr} {ty : TypeId} (hop : o.op = .load ty x) (hx : ev x = .pointer (some ad)) (hl : (loadVar ty ad).run Tryd.prog w = .ok v w) : (execOp ev o).run Tryd.prog w = .ok (.value v) w := by
  simp only [execOp, hop, hx, Instr.loadAt, Instr.sureAddr, Sem.run_bind, Sem.run_pure, Result.andThen_ok, hl]
theorem int_run {ad : Addr} {k : Int} (hop : o.op = .load 3 x) (hx : ev x = .pointer (some ad)) (hc : w.cell? ad = some (.int .i64 k)) : (execOp ev o).run Tryd.prog w = .ok (.value (.int .i64 k)) w := by
  simp [execOp, hop, hx, hc, go_sem]
theorem ptr_run {ad : Addr} {k : Addr} (hop : o.op = .load 46 x) (hx : ev x = .pointer (some ad)) (hc : w.cell? ad = some (.pointer (some k))) : (execOp ev o).run Tryd.prog w = .ok (.value (.pointer (some k))) w := by
  simp [execOp, hop, hx, hc, go_sem]
theorem spf_all {off : Nat} {k : Nat} (hop : o.op = .fieldAddr 47 x k) (hk : k < 8) (hx : ev x = .pointer (some ⟨b, off, none⟩)) : (execOp ev o).run Tryd.prog w = .ok (.value (.pointer (some ⟨b, off + k, none⟩))) w := by
  rcases (show k = 0 ∨ k = 1 ∨ k = 2 ∨ k = 3 ∨ k = 4 ∨ k = 5 ∨ k = 6 ∨ k = 7 by omega) with rfl | rfl | rfl | rfl | rfl | rfl | rfl | rfl
  all_goals
    simp [execOp, hop, hx, go_sem]
theorem grf_run {off : Nat} {k : Nat} (hop : o.op = .fieldAddr 49 x k) (hk : k = 0 ∨ k = 1) (hx : ev x = .pointer (some ⟨b, off, none⟩)) : (execOp ev o).run Tryd.prog w = .ok (.value (.pointer (some ⟨b, off + k, none⟩))) w := by
  rcases hk with rfl | rfl
  all_goals
    simp [execOp, hop, hx, go_sem]
theorem sof_run {off : Nat} {k : Nat} (hop : o.op = .fieldAddr 34 x k) (hk : k = 0 ∨ k = 1) (hx : ev x = .pointer (some ⟨b, off, none⟩)) : (execOp ev o).run Tryd.prog w = .ok (.value (.pointer (some ⟨b, off + k, none⟩))) w := by
  rcases hk with rfl | rfl
  all_goals
    simp [execOp, hop, hx, go_sem]
theorem not_run {t : TypeId} {c : Bool} (hop : o.op = .unOp .not t x) (hx : ev x = .bool c) : (execOp ev o).run Tryd.prog w = .ok (.value (.bool (!c))) w := by
  simp [execOp, hop, hx, go_sem]
end
theorem sub_run (x y z : Int) (h : x - y = z) (h1 : -4611686018427387904 ≤ z) (h2 : z ≤ 4611686018427387904) (w : World) : (binOp .sub 3 (.int .i64 x) (.int .i64 y)).run Tryd.prog w = .ok (.int .i64 z) w := by
  have e : IntKind.i64.wrap (x - y) = z := by rw [h, IntKind.wrap_i64]; omega
  simp [go_sem, e]
/-- a variable that is stored in a statement whose order is open -/
theorem sto_does {P : Program} {o : Oper} {a : Act} {w w2 : World} {Q : Exit → Act → World → Prop} {W' : World → Prop} {ty : TypeId} {x y : Operand} {ad : Addr} {v : Value} (hop : o.op = .store ty x y) (hx : a.eval x = .pointer (some ad)) (hy : a.eval y = v) (hs : (storeVar ty ad v).run P w = .ok () w2) (h : W' w2) : o.wp P a w (fun a' w' => a' = a.put o.dst undef ∧ W' w') Q := by
  unfold Oper.wp
  have hr : (execOp a.eval o).run P w = .ok .skip w2 := by
    simp only [execOp, hop, hx, hy, Instr.storeAt, Instr.sureAddr, Sem.run_bind, Sem.run_pure, Result.andThen_ok, hs]
  rw [hr]
  exact ⟨rfl, h⟩
/-- what is answered, as a part of a statement wants it -/
theorem calls_is {P : Program} {f : FuncId} {args : Array Value} {w : World} {v : Value} (h : Calls P f args w fun e w' => e = .returned v ∧ Below w.heap.size w w') : Calls P f args w fun e w' => ∃ u, e = .returned u ∧ Is v u w' ∧ Below w.heap.size w w' := by
  refine h.mono ?_
  rintro e w' ⟨rfl, hb⟩
  exact ⟨_, rfl, rfl, hb⟩
theorem calls_same {P : Program} {f : FuncId} {args : Array Value} {w : World} {v : Value} (h : Calls P f args w fun e w' => e = .returned v ∧ w = w') : Calls P f args w fun e w' => ∃ u, e = .returned u ∧ Is v u w' ∧ Below w.heap.size w w' := by
  refine h.mono ?_
  rintro e w' ⟨rfl, rfl⟩
  exact ⟨_, rfl, rfl, Below.refl _ _⟩

/-- a spot, of any ints, as a value and as cells -/
abbrev sov (x y : Int) : Value := .agg #[.int .i64 x, .int .i64 y]
abbrev soc (x y : Int) : Array Value := #[.int .i64 x, .int .i64 y]
theorem so_agg (w : World) : (isAgg 34).run Tryd.prog w = .ok true w := by
  unfold isAgg
  rw [Sem.run_bind, run_underlying Tryd.underlying34 w]
  rfl
theorem spot_size : (Tryd.prog.info? 34).map (·.size) = some 2 := by kernel_rfl
theorem so_load {w : World} {k : Nat} {x y : Int} (h : RowAt w k 34 (soc x y)) : (loadVar 34 ⟨k, 0, none⟩).run Tryd.prog w = .ok (sov x y) w :=
  sub_load h so_agg spot_size 0 [.int .i64 x, .int .i64 y] rfl fun j v h => by simpa using h
theorem so_cells {w : World} {k : Nat} {x y : Int} (h : RowAt w k 34 (soc x y)) : w.cell? ⟨k, 0, none⟩ = some (.int .i64 x) ∧ w.cell? ⟨k, 1, none⟩ = some (.int .i64 y) := ⟨(h.cell 0).trans rfl, (h.cell 1).trans rfl⟩

/-- is there such a lane, and column? -/
def inG (l c : Nat) (x y : Int) : Bool := inB x 0 ((l : Int) - 1) && inB y 0 ((c : Int) - 1)
theorem inG_yes {l c : Nat} {x y : Int} (h : inG l c x y = true) : ∃ i k : Nat, i < l ∧ k < c ∧ x = (i : Int) ∧ y = (k : Int) := by
  simp only [inG, inB, Bool.and_eq_true, decide_eq_true_eq] at h
  exact ⟨x.toNat, y.toNat, by omega, by omega, by omega, by omega⟩
theorem inG_at {l c i k : Nat} (hi : i < l) (hk : k < c) : inG l c (i : Int) (k : Int) = true := by
  simp only [inG, inB, Bool.and_eq_true, decide_eq_true_eq]; omega

/-- a grid's cells: its piece, and its shape -/
abbrev grc (p a t l m b c g z : Nat) : Array Value := #[.pointer (some ⟨p, 0, none⟩), .int .i64 (a : Int), .int .i64 (t : Int), .int .i64 (l : Int), .int .i64 (m : Int), .int .i64 (b : Int), .int .i64 (c : Int), .int .i64 (g : Int), .int .i64 (z : Int)]
def GrRow (w : World) (q p a t l m b c g z : Nat) : Prop := RowAt w q 49 (grc p a t l m b c g z)
/-- a grid in memory, with its piece of an arena, and the blocks -/
structure GrAt (w : World) (q p h G a t l m b c g z : Nat) (L : List (List Nat)) : Prop where
  row : GrRow w q p a t l m b c g z
  live : LiveAt w p h G L
section
variable {w w' : World} {q p h G a t l m b c g z : Nat} {L : List (List Nat)}
theorem GrRow.piece (H : GrRow w q p a t l m b c g z) : w.cell? ⟨q, 0, none⟩ = some (.pointer (some ⟨p, 0, none⟩)) := (RowAt.cell H 0).trans rfl
theorem GrRow.lanes (H : GrRow w q p a t l m b c g z) : w.cell? ⟨q, 3, none⟩ = some (.int .i64 (l : Int)) := (RowAt.cell H 3).trans rfl
theorem GrRow.columns (H : GrRow w q p a t l m b c g z) : w.cell? ⟨q, 6, none⟩ = some (.int .i64 (c : Int)) := (RowAt.cell H 6).trans rfl
theorem GrRow.size (H : GrRow w q p a t l m b c g z) : w.cell? ⟨q, 8, none⟩ = some (.int .i64 (z : Int)) := (RowAt.cell H 8).trans rfl
theorem GrRow.shape (H : GrRow w q p a t l m b c g z) : (loadVar 47 ⟨q, 1, none⟩).run Tryd.prog w = .ok (spv a t l m b c g z) w :=
  sub_load H sp_agg sp_size 1 (spc a t l m b c g z).toList rfl fun j u hj => by
    have hj8 : j < 8 := by
      have := (List.getElem?_eq_some_iff.1 hj).1
      simpa using this
    rcases (show j = 0 ∨ j = 1 ∨ j = 2 ∨ j = 3 ∨ j = 4 ∨ j = 5 ∨ j = 6 ∨ j = 7 by omega) with rfl | rfl | rfl | rfl | rfl | rfl | rfl | rfl
    all_goals exact hj
theorem GrRow.kind (H : GrRow w q p a t l m b c g z) : (loadVar 46 ⟨q, 0, none⟩).run Tryd.prog w = .ok (.pointer (some ⟨p, 0, none⟩)) w := by
  simp [H.piece, go_sem]
theorem GrRow.step (H : GrRow w q p a t l m b c g z) (hb : Below w.heap.size w w') : GrRow w' q p a t l m b c g z := RowAt.step H hb
theorem LiveAt.step (H : LiveAt w p h G L) (hb : Below w.heap.size w w') : LiveAt w' p h G L := ⟨RowAt.step H.row hb, RowAt.step H.blk hb, H.ok⟩
theorem GrAt.step (H : GrAt w q p h G a t l m b c g z L) (hb : Below w.heap.size w w') : GrAt w' q p h G a t l m b c g z L := ⟨H.row.step hb, H.live.step hb⟩
theorem GrAt.set {L' : List (List Nat)} (H : GrAt w q p h G a t l m b c g z L) (hL : LiveAt w' p h G L') (hk : Kept (fun j => j = G) w w') : GrAt w' q p h G a t l m b c g z L' :=
  ⟨RowAt.kept H.row hk (RowAt.unlike H.row H.live.blk (by rfl)), hL⟩
end
end Go.Proofs.YtpampgkhjcfeaaaDoor

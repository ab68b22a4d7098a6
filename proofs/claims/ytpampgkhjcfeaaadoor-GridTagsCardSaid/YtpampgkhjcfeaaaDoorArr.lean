/- An array that lies in a block of its own: read, written, kept, loaded and stored whole. No condition. -/
import Derived.Test.YtpampgkhjcfeaaaDoorKit
import Derived.Deep.WholeRow
namespace Go.Proofs.YtpampgkhjcfeaaaDoor
set_option maxRecDepth 50000
open Go.RowKit

/-- block b is a row of these cells, none frozen -/
def RowAt (w : World) (b : Nat) (t : TypeId) (C : Array Value) : Prop := w.heap[b]? = some (.cells C t (0, 0))
/-- an array by value, indexed: its elements are of one cell and no structs -/
theorem run_index_arr {P : Program} {t e : TypeId} {n : Nat} {cs : Array Value} {v : Value} {k : IntKind} (w : World) (h : P.underlying t = some (.array n e)) (he : (P.info? e).map (·.size) = some 1) (ha : P.underlying e = some (.int k)) (i : Nat) (hi : i < n) (hv : cs[i]? = some v) :
    (Instr.index t (.agg cs) (.int .i64 (i : Int))).run P w = .ok v w := by
  cases hq : P.info? e with
  | none => simp [hq] at he
  | some q =>
    have hz : q.size = 1 := by simpa [hq] using he
    have hagg : ∀ w : World, (isAgg e).run P w = .ok false w := fun w => by
      unfold isAgg
      rw [Sem.run_bind, run_underlying ha w]
      rfl
    simp [Instr.index, run_underlying h, asIntOf, hi, go_sem, sizeOf, typeInfo, hq, hz, hagg, hv]

section
variable {P : Program} {ops : Array Oper} {rest : List Oper} {o : Oper} {a : Act} {w w' : World} {Q : Exit → Act → World → Prop}
/-- a variable that is loaded, and one that is stored, whatever it takes -/
theorem wpList_load_of (hgd : o.guard = none) (ty : TypeId) (x : Operand) (ho : o.op = .load ty x) (ad : Addr) (v : Value) (hx : a.eval x = .pointer (some ad)) (hl : (loadVar ty ad).run P w = .ok v w)
    (h : wpList P ops Q rest (a.put o.dst v) w) : wpList P ops Q (o :: rest) a w := wpList_plain hgd fun _ hK => by
  unfold Oper.wp execOp
  simp only [ho, hx, Instr.loadAt, Instr.sureAddr, Sem.run_bind, Sem.run_pure, Result.andThen_ok, hl]
  exact hK _ _ h
theorem wpList_store_of (hgd : o.guard = none) (ty : TypeId) (x y : Operand) (ho : o.op = .store ty x y) (ad : Addr) (v : Value) (hx : a.eval x = .pointer (some ad)) (hy : a.eval y = v) (hs : (storeVar ty ad v).run P w = .ok () w')
    (h : wpList P ops Q rest (a.put o.dst undef) w') : wpList P ops Q (o :: rest) a w := wpList_plain hgd fun _ hK => by
  unfold Oper.wp execOp
  simp only [ho, hx, hy, Instr.storeAt, Instr.sureAddr, Sem.run_bind, Sem.run_pure, Result.andThen_ok, hs]
  exact hK _ _ h
end

section
variable {w w' : World} {b B : Nat} {t : TypeId} {C : Array Value}
theorem RowAt.lt (h : RowAt w b t C) : b < w.heap.size := (Array.getElem?_eq_some_iff.1 h).1
theorem RowAt.cell (h : RowAt w b t C) (i : Nat) : w.cell? ⟨b, i, none⟩ = C[i]? := by
  have := cell_of_row w b i C t (0, 0) h
  simpa using this
theorem RowAt.frozen (h : RowAt w b t C) (i : Nat) : w.frozen? ⟨b, i, none⟩ = false := by
  unfold RowAt at h
  simp [World.frozen?, h]
theorem RowAt.new (w : World) (t : TypeId) (C : Array Value) : RowAt (w.alloc (.cells C t)) w.heap.size t C := heap_alloc_last w _
theorem RowAt.alloc (h : RowAt w b t C) (o : Obj) : RowAt (w.alloc o) b t C := by
  have hl := h.lt
  show (w.heap.push o)[b]? = _
  rw [Array.getElem?_push, if_neg (by omega)]; exact h
theorem RowAt.drew (h : RowAt w b t C) : RowAt w.drew b t C := h
theorem RowAt.drewN (h : RowAt w b t C) (k : Nat) : RowAt (w.drewN k) b t C := h
theorem RowAt.below (h : RowAt w b t C) (hb : Below B w w') (hB : b < B) : RowAt w' b t C := (hb.block b hB).trans h
theorem RowAt.setCell (h : RowAt w b t C) (i : Nat) (v : Value) : RowAt (w.setCell ⟨b, i, none⟩ v) b t (C.setIfInBounds i v) := by
  have hc := h.cell i
  rw [setCell_eq_setRow w b i C t (0, 0) v h]
  exact setRow_heap w b C _ t (0, 0) h
theorem RowAt.setOther (h : RowAt w b t C) (p : Addr) (hp : p.block ≠ b) (v : Value) : RowAt (w.setCell p v) b t C :=
  (Below.heap_setCell _ _ _ _ (fun e => hp e.symm)).trans h
theorem RowAt.setRow (h : RowAt w b t C) (C' : Array Value) : RowAt (w.setRow b C') b t C' := by
  unfold RowAt at *
  simp [World.setRow, Array.getElem?_modify, h]
theorem RowAt.setRowOther (h : RowAt w b t C) (g : Nat) (hg : g ≠ b) (C' : Array Value) : RowAt (w.setRow g C') b t C := by
  unfold RowAt at *
  simp [World.setRow, Array.getElem?_modify, h, hg]
theorem RowAt.load {P : Program} {n : Nat} {e : TypeId} (h : RowAt w b t C) (hu : P.underlying t = some (.array n e)) (hi : (P.info? t).map (·.size) = some C.size) : (loadVar t ⟨b, 0, none⟩).run P w = .ok (.agg C) w :=
  run_loadVar_row _ _ t t C (0, 0) _ h hu rfl hi
theorem RowAt.store {P : Program} {C' : Array Value} (h : RowAt w b t C) (hi : (P.info? t).map (·.size) = some C'.size) (ho : C.size = C'.size) (h1 : C'.all (·.oneCell') = true) : (storeVar t ⟨b, 0, none⟩ (.agg C')).run P w = .ok () (w.setRow b C') :=
  run_storeVar_row _ _ t t C C' h hi ho h1
theorem RowAt.loadAt {P : Program} {n : Nat} {e : TypeId} (h : RowAt w b t C) (hu : P.underlying t = some (.array n e)) (hi : (P.info? t).map (·.size) = some C.size) : (Instr.loadAt t (.pointer (some ⟨b, 0, none⟩))).run P w = .ok (.agg C) w := by
  simp only [Instr.loadAt, Instr.sureAddr, Sem.run_bind, Sem.run_pure, Result.andThen]
  exact h.load hu hi
theorem RowAt.storeAt {P : Program} {C' : Array Value} (h : RowAt w b t C) (hi : (P.info? t).map (·.size) = some C'.size) (ho : C.size = C'.size) (h1 : C'.all (·.oneCell') = true) : (Instr.storeAt t (.pointer (some ⟨b, 0, none⟩)) (.agg C')).run P w = .ok () (w.setRow b C') := by
  simp only [Instr.storeAt, Instr.sureAddr, Sem.run_bind, Sem.run_pure, Result.andThen]
  exact h.store hi ho h1
theorem RowAt.cells {P : Program} (h : RowAt w b t C) {n : Nat} (hn : C.size = n) : (loadCellsFrom ⟨b, 0, none⟩ 0 n #[]).run P w = .ok C w := by
  subst hn
  have := run_loadCells_list (P := P) w ⟨b, 0, none⟩ C.toList (fun j v hv => by
    have hadd : (⟨b, 0, none⟩ : Addr).add j = ⟨b, j, none⟩ := by unfold Addr.add; split <;> simp_all
    rw [hadd, h.cell]
    simpa using hv)
  simpa [loadCells] using this
theorem RowAt.puts {P : Program} {C' : Array Value} (h : RowAt w b t C) (hi : (P.info? t).map (·.size) = some C'.size) (ho : C.size = C'.size) (h1 : C'.all (·.oneCell') = true) : (storeCells ⟨b, 0, none⟩ C'.toList 0).run P w = .ok () (w.setRow b C') := by
  have := h.store (P := P) hi ho h1
  cases hq : P.info? t with
  | none => simp [hq] at hi
  | some i =>
    have hs : C'.size = i.size := by simp [hq] at hi; omega
    simpa [storeVar, sizeOf, typeInfo, hq, Value.cells, hs] using this
theorem results_row_tmp {P : Program} {fn : Func} {p u : Tmp} {ty : TypeId} (hr : fn.results = #[.cell p ty, .tmp u]) (tmps : Array Value) {d : TypeDesc}
    (hp : tmps.getD p undef = .pointer (some ⟨b, 0, none⟩)) (h : RowAt w b t C) (hu : P.underlying ty = some d) (hd : (match d with | .struct _ | .array _ _ => true | _ => false) = true) (hi : (P.info? ty).map (·.size) = some C.size) :
    (results fn tmps).run P w = .ok (.tuple #[.agg C, tmps.getD u undef]) w := by
  have hp' : tmps[p]?.getD undef = .pointer (some ⟨b, 0, none⟩) := by simpa using hp
  simp [results, hr, hp', asAddr, run_loadVar_row w b t ty C (0, 0) d h hu hd hi]
theorem below_drewN (hb : Below B w w') (k : Nat) : Below B w (w'.drewN k) := ⟨hb.os, hb.tape, hb.output, hb.size, hb.block⟩
theorem below_setRow (hb : Below B w w') {g : Nat} (hg : B ≤ g) (C' : Array Value) : Below B w (w'.setRow g C') := by
  exact hb.trans ⟨rfl, rfl, rfl, Nat.le_of_eq (setRow_size _ _ _).symm, fun k hk => setRow_other _ _ _ _ (by omega)⟩
end
end Go.Proofs.YtpampgkhjcfeaaaDoor

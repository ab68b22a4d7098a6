/- An arena and a piece in memory; New, Budget, Used, High, Lent, Mark, Len by their contracts. Conditions: those typed. -/
import Derived.Test.YtohmkhmanidljaaDoorBbXor
import Derived.Laws.CopyRow
import Derived.Laws.MakeOwn
import Derived.OwnWalk
namespace Go.Proofs.YtohmkhmanidljaaDoor
set_option maxRecDepth 50000
open Go.RowKit Bb

/-- an arena at block a: its budget, what is used, the most, how many pieces -/
def ars (B u h c : Nat) : Array Value := #[.int .i64 (B : Int), .int .i64 (u : Int), .int .i64 (h : Int), .int .i64 (c : Int)]
def AreAt (w : World) (a B u h c : Nat) : Prop := RowAt w a 65 (ars B u h c)
/-- a piece at block p -/
def pcs (a n : Nat) (live : Bool) (v : Value) : Array Value := #[.pointer (some ⟨a, 0, none⟩), .int .i64 (n : Int), .bool live, v]
def PceAt (w : World) (p a n : Nat) (live : Bool) (v : Value) : Prop := RowAt w p 68 (pcs a n live v)
/-- blocks at block g -/
def BlkAt (w : World) (g : Nat) (l : List (List Nat)) : Prop := RowAt w g 95 (bcs l).toArray
/-- a live piece and its blocks -/
structure LiveAt (w : World) (p a g : Nat) (l : List (List Nat)) : Prop where
  row : PceAt w p a l.length true (.slice (some ⟨g, 0, none⟩) l.length l.length)
  blk : BlkAt w g l
  ok : ∀ b ∈ l, okb b
def OffAt (w : World) (p a n : Nat) : Prop := PceAt w p a n false (.slice none 0 0)

section
variable {w w' : World} {a p g n B u h c : Nat} {live : Bool} {v : Value} {l : List (List Nat)} {M : Nat → Prop}
theorem RowAt.kept {t : TypeId} {C : Array Value} {b : Nat} (h : RowAt w b t C) (hk : Kept M w w') (hM : ¬ M b) : RowAt w' b t C := (hk.block b h.lt hM).trans h
theorem RowAt.unlike {t t' : TypeId} {C C' : Array Value} {b b' : Nat} (h : RowAt w b t C) (k : RowAt w b' t' C') (ht : (t == t') = false) : b ≠ b' := fun e => by
  subst e
  unfold RowAt at h k
  rw [h] at k
  simp only [Option.some.injEq, Obj.cells.injEq] at k
  rw [k.2.1] at ht
  simp at ht
theorem AreAt.at_ (h' : AreAt w a B u h c) : w.cell? ⟨a, 0, none⟩ = some (.int .i64 (B : Int)) ∧ w.cell? ⟨a, 1, none⟩ = some (.int .i64 (u : Int)) ∧ w.cell? ⟨a, 2, none⟩ = some (.int .i64 (h : Int)) ∧ w.cell? ⟨a, 3, none⟩ = some (.int .i64 (c : Int)) ∧
    w.frozen? ⟨a, 0, none⟩ = false ∧ w.frozen? ⟨a, 1, none⟩ = false ∧ w.frozen? ⟨a, 2, none⟩ = false ∧ w.frozen? ⟨a, 3, none⟩ = false :=
  ⟨by rw [RowAt.cell h' 0]; rfl, by rw [RowAt.cell h' 1]; rfl, by rw [RowAt.cell h' 2]; rfl, by rw [RowAt.cell h' 3]; rfl, RowAt.frozen h' 0, RowAt.frozen h' 1, RowAt.frozen h' 2, RowAt.frozen h' 3⟩
theorem PceAt.at_ (h' : PceAt w p a n live v) : w.cell? ⟨p, 0, none⟩ = some (.pointer (some ⟨a, 0, none⟩)) ∧ w.cell? ⟨p, 1, none⟩ = some (.int .i64 (n : Int)) ∧ w.cell? ⟨p, 2, none⟩ = some (.bool live) ∧ w.cell? ⟨p, 3, none⟩ = some v ∧
    w.frozen? ⟨p, 0, none⟩ = false ∧ w.frozen? ⟨p, 1, none⟩ = false ∧ w.frozen? ⟨p, 2, none⟩ = false ∧ w.frozen? ⟨p, 3, none⟩ = false :=
  ⟨by rw [RowAt.cell h' 0]; rfl, by rw [RowAt.cell h' 1]; rfl, by rw [RowAt.cell h' 2]; rfl, by rw [RowAt.cell h' 3]; rfl, RowAt.frozen h' 0, RowAt.frozen h' 1, RowAt.frozen h' 2, RowAt.frozen h' 3⟩
theorem AreAt.setU (h' : AreAt w a B u h c) (u' : Nat) : AreAt (w.setCell ⟨a, 1, none⟩ (.int .i64 (u' : Int))) a B u' h c := RowAt.setCell h' 1 _
theorem AreAt.setH (h' : AreAt w a B u h c) (x : Nat) : AreAt (w.setCell ⟨a, 2, none⟩ (.int .i64 (x : Int))) a B u x c := RowAt.setCell h' 2 _
theorem AreAt.setC (h' : AreAt w a B u h c) (x : Nat) : AreAt (w.setCell ⟨a, 3, none⟩ (.int .i64 (x : Int))) a B u h x := RowAt.setCell h' 3 _
theorem BlkAt.reads (h' : BlkAt w g l) : Reads w w.heap.size (some ⟨g, 0, none⟩) (bcs l) := fun k hk => by
  refine ⟨g, 0, rfl, RowAt.lt h', ?_⟩
  rw [Nat.zero_add, RowAt.cell h' k, List.getElem?_toArray, List.getElem?_eq_getElem hk]
end

theorem anew_bad (n : Int) (h : n < 0 ∨ 4194304 < n) (w : World) : Calls Tryd.prog 16 #[.int .i64 n] w fun e w' => e = .returned (.tuple #[.pointer none, .int .i64 1]) ∧ w' = w := by
  have hh : decide (n < 0) = true ∨ decide (n < 0) = false ∧ decide (4194304 < n) = true := by simp; omega
  rcases hh with d1 | ⟨d1, d2⟩
  all_goals
    go_enter Tryd.func16, Tryd.ntmps16
    go_wp2
    go_ret2
    exact ⟨rfl, rfl⟩
theorem anew_any (n : Nat) (h : n ≤ 4194304) (w : World) : Calls Tryd.prog 16 #[.int .i64 (n : Int)] w fun e w' => e = .returned (.tuple #[.pointer (some ⟨w.heap.size, 0, none⟩), .int .i64 0]) ∧ AreAt w' w.heap.size n 0 0 0 ∧ Below w.heap.size w w' := by
  have d1 : decide ((n : Int) < 0) = false := by simp
  have d2 : decide ((4194304 : Int) < (n : Int)) = false := by simp; omega
  have d3 : decide (4194304 < n) = false := by simp; omega
  go_enter Tryd.func16, Tryd.ntmps16
  go_wp2
  go_ret2
  exact ⟨rfl, RowAt.new _ _ _, (Below.refl _ _).alloc (Nat.le_refl _) _⟩

/-- the numbers of an arena, of none too -/
theorem ars_size : (Tryd.prog.info? 65).map (·.size) = some 4 := by kernel_rfl
theorem field_int (w : World) (B u h c : Nat) : (Instr.field 65 (.agg (ars B u h c)) 0).run Tryd.prog w = .ok (.int .i64 (B : Int)) w ∧ (Instr.field 65 (.agg (ars B u h c)) 1).run Tryd.prog w = .ok (.int .i64 (u : Int)) w ∧
    (Instr.field 65 (.agg (ars B u h c)) 2).run Tryd.prog w = .ok (.int .i64 (h : Int)) w ∧ (Instr.field 65 (.agg (ars B u h c)) 3).run Tryd.prog w = .ok (.int .i64 (c : Int)) w := by
  refine ⟨?_, ?_, ?_, ?_⟩ <;> simp [Instr.field, run_underlying Tryd.underlying65, asAgg, part, isAgg, run_underlying Tryd.underlying3, ars]
theorem len_nil (w : World) : Calls Tryd.prog 19 #[.pointer none] w fun e w' => e = .returned (.int .i64 0) ∧ w' = w := by
  go_enter Tryd.func19, Tryd.ntmps19
  go_wp2
  go_ret
  exact ⟨rfl, rfl⟩
theorem len_any {w : World} {p a n : Nat} {live : Bool} {v : Value} (h : PceAt w p a n live v) : Calls Tryd.prog 19 #[.pointer (some ⟨p, 0, none⟩)] w fun e w' => e = .returned (.int .i64 (n : Int)) ∧ w' = w := by
  obtain ⟨x0, x1, x2, x3, f0, f1, f2, f3⟩ := h.at_
  clear h
  go_enter Tryd.func19, Tryd.ntmps19
  go_wp2
  go_ret
  exact ⟨rfl, rfl⟩
end Go.Proofs.YtohmkhmanidljaaDoor

/- Parameters, shapes and turns as rows of memory: loaded and stored whole. No condition but those typed. -/
import Derived.Test.YtnbdmkgldjhcaaaDoorSpMay
import Derived.Test.YtnbdmkgldjhcaaaDoorSub
namespace Go.Proofs.YtnbdmkgldjhcaaaDoor
set_option maxRecDepth 50000
open Go.RowKit

abbrev pac (a t m l z : Int) : Array Value := #[.int .i64 a, .int .i64 t, .int .i64 m, .int .i64 l, .int .i64 z]
abbrev spc (a t l m b c g z : Nat) : Array Value := #[.int .i64 (a : Int), .int .i64 (t : Int), .int .i64 (l : Int), .int .i64 (m : Int), .int .i64 (b : Int), .int .i64 (c : Int), .int .i64 (g : Int), .int .i64 (z : Int)]
abbrev spzc : Array Value := #[.int .i64 0, .int .i64 0, .int .i64 0, .int .i64 0, .int .i64 0, .int .i64 0, .int .i64 0, .int .i64 0]
abbrev tuc (p s : Int) : Array Value := #[.int .i64 p, .int .i64 s]

theorem pa_agg (w : World) : (isAgg 23).run Tryd.prog w = .ok true w := by
  unfold isAgg
  rw [Sem.run_bind, run_underlying Tryd.underlying23 w]
  rfl
theorem sp_agg (w : World) : (isAgg 28).run Tryd.prog w = .ok true w := by
  unfold isAgg
  rw [Sem.run_bind, run_underlying Tryd.underlying28 w]
  rfl
theorem tu_agg (w : World) : (isAgg 25).run Tryd.prog w = .ok true w := by
  unfold isAgg
  rw [Sem.run_bind, run_underlying Tryd.underlying25 w]
  rfl
theorem pa_size : (Tryd.prog.info? 23).map (·.size) = some 5 := by kernel_rfl
theorem sp_size : (Tryd.prog.info? 28).map (·.size) = some 8 := by kernel_rfl
theorem tu_size : (Tryd.prog.info? 25).map (·.size) = some 2 := by kernel_rfl

theorem pa_load {w : World} {k : Nat} {a t m l z : Int} (h : RowAt w k 23 (pac a t m l z)) : (loadVar 23 ⟨k, 0, none⟩).run Tryd.prog w = .ok (pav a t m l z) w :=
  sub_load h pa_agg pa_size 0 [.int .i64 a, .int .i64 t, .int .i64 m, .int .i64 l, .int .i64 z] rfl fun j v h => by simpa using h
theorem sp_load {w : World} {k : Nat} {a t l m b c g z : Nat} (h : RowAt w k 28 (spc a t l m b c g z)) : (loadVar 28 ⟨k, 0, none⟩).run Tryd.prog w = .ok (spv a t l m b c g z) w :=
  sub_load h sp_agg sp_size 0 (spc a t l m b c g z).toList rfl fun j v h => by simpa using h
theorem tu_load {w : World} {k : Nat} {p s : Int} (h : RowAt w k 25 (tuc p s)) : (loadVar 25 ⟨k, 0, none⟩).run Tryd.prog w = .ok (tuv p s) w :=
  sub_load h tu_agg tu_size 0 [.int .i64 p, .int .i64 s] rfl fun j v h => by simpa using h
theorem sp_store {w : World} {k : Nat} {C : Array Value} (hC : C.size = 8) {a t l m b c g z : Nat} (h : RowAt w k 28 C) : (storeVar 28 ⟨k, 0, none⟩ (spv a t l m b c g z)).run Tryd.prog w = .ok () (w.setRow k (spc a t l m b c g z)) :=
  h.store sp_size hC (by simp [Value.oneCell'])
theorem sp_clear {w : World} {k : Nat} {C : Array Value} (hC : C.size = 8) (h : RowAt w k 28 C) : (storeVar 28 ⟨k, 0, none⟩ spz).run Tryd.prog w = .ok () (w.setRow k spzc) :=
  h.store sp_size hC (by simp [Value.oneCell'])
theorem tu_store {w : World} {k : Nat} {C : Array Value} (hC : C.size = 2) {p s : Int} (h : RowAt w k 25 C) : (storeVar 25 ⟨k, 0, none⟩ (tuv p s)).run Tryd.prog w = .ok () (w.setRow k (tuc p s)) :=
  h.store tu_size hC (by simp [Value.oneCell'])

theorem pa_cells {w : World} {k : Nat} {a t m l z : Int} (h : RowAt w k 23 (pac a t m l z)) :
    w.cell? ⟨k, 0, none⟩ = some (.int .i64 a) ∧ w.cell? ⟨k, 1, none⟩ = some (.int .i64 t) ∧ w.cell? ⟨k, 2, none⟩ = some (.int .i64 m) ∧ w.cell? ⟨k, 3, none⟩ = some (.int .i64 l) ∧ w.cell? ⟨k, 4, none⟩ = some (.int .i64 z) :=
  ⟨(h.cell 0).trans rfl, (h.cell 1).trans rfl, (h.cell 2).trans rfl, (h.cell 3).trans rfl, (h.cell 4).trans rfl⟩
theorem sp_cells {w : World} {k : Nat} {a t l m b c g z : Nat} (h : RowAt w k 28 (spc a t l m b c g z)) :
    w.cell? ⟨k, 0, none⟩ = some (.int .i64 (a : Int)) ∧ w.cell? ⟨k, 1, none⟩ = some (.int .i64 (t : Int)) ∧ w.cell? ⟨k, 2, none⟩ = some (.int .i64 (l : Int)) ∧ w.cell? ⟨k, 3, none⟩ = some (.int .i64 (m : Int)) ∧ w.cell? ⟨k, 4, none⟩ = some (.int .i64 (b : Int)) ∧ w.cell? ⟨k, 5, none⟩ = some (.int .i64 (c : Int)) ∧ w.cell? ⟨k, 6, none⟩ = some (.int .i64 (g : Int)) ∧ w.cell? ⟨k, 7, none⟩ = some (.int .i64 (z : Int)) :=
  ⟨(h.cell 0).trans rfl, (h.cell 1).trans rfl, (h.cell 2).trans rfl, (h.cell 3).trans rfl, (h.cell 4).trans rfl, (h.cell 5).trans rfl, (h.cell 6).trans rfl, (h.cell 7).trans rfl⟩
theorem tu_cells {w : World} {k : Nat} {p s : Int} (h : RowAt w k 25 (tuc p s)) : w.cell? ⟨k, 0, none⟩ = some (.int .i64 p) ∧ w.cell? ⟨k, 1, none⟩ = some (.int .i64 s) :=
  ⟨(h.cell 0).trans rfl, (h.cell 1).trans rfl⟩
end Go.Proofs.YtnbdmkgldjhcaaaDoor

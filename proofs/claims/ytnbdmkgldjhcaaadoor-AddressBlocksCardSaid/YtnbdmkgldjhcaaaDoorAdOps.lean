/- Operations of package address and of what is asked of it: fields, arrays by value, what is built. No condition but those typed. -/
import Derived.Test.YtnbdmkgldjhcaaaDoorAdPure
namespace Go.Proofs.YtnbdmkgldjhcaaaDoor
set_option maxRecDepth 50000
open Go.RowKit Bb Bn

section
variable {w : World} {b : Nat} {v : Value} {ev : Operand → Value} {x : Operand} {o : Oper}
theorem spf_all {off : Nat} {k : Nat} (hop : o.op = .fieldAddr 28 x k) (hk : k < 8) (hx : ev x = .pointer (some ⟨b, off, none⟩)) : (execOp ev o).run Tryd.prog w = .ok (.value (.pointer (some ⟨b, off + k, none⟩))) w := by
  rcases (show k = 0 ∨ k = 1 ∨ k = 2 ∨ k = 3 ∨ k = 4 ∨ k = 5 ∨ k = 6 ∨ k = 7 by omega) with rfl | rfl | rfl | rfl | rfl | rfl | rfl | rfl
  all_goals
    simp [execOp, hop, hx, go_sem]
end
/-- ints in an array by value -/
def iz (L : List Int) : Array Value := (L.map fun x : Int => Value.int .i64 x).toArray
theorem iz_at (L : List Int) (i : Nat) (h : i < L.length) : (iz L)[i]? = some (.int .i64 (L.getD i 0)) := by
  simp [iz, h]
theorem iz_index (w : World) {L : List Int} (hL : L.length = 7) (i : Nat) (hi : i < 7) : (Instr.index 57 (.agg (iz L)) (.int .i64 (i : Int))).run Tryd.prog w = .ok (.int .i64 (L.getD i 0)) w :=
  run_index_arr w Tryd.underlying57 (by kernel_rfl) Tryd.underlying3 i hi (iz_at L i (by omega))
theorem b_index (w : World) {L : List Nat} (hL : L.length = 128) (i : Nat) (hi : i < 128) : (Instr.index 36 (.agg (wq L)) (.int .i64 (i : Int))).run Tryd.prog w = .ok (.int .u64 ((L.getD i 0 : Nat) : Int)) w :=
  run_index_arr w Tryd.underlying36 (by kernel_rfl) Tryd.underlying34 i hi (wq_at L i (by omega))
theorem seven_build (w : World) (p k s b t a c : Int) : (Instr.build 57 #[(0, .int .i64 p), (1, .int .i64 k), (2, .int .i64 s), (3, .int .i64 b), (4, .int .i64 t), (5, .int .i64 a), (6, .int .i64 c)]).run Tryd.prog w = .ok (.agg (iz [p, k, s, b, t, a, c])) w := run_build w _ _ _ (by kernel_rfl)
theorem seven_run {w : World} {ev : Operand → Value} {o : Oper} {x0 x1 x2 x3 x4 x5 x6 : Operand} {p k s b t a c : Int} (hop : o.op = .build 57 #[(0, x0), (1, x1), (2, x2), (3, x3), (4, x4), (5, x5), (6, x6)])
    (h0 : ev x0 = .int .i64 p) (h1 : ev x1 = .int .i64 k) (h2 : ev x2 = .int .i64 s) (h3 : ev x3 = .int .i64 b) (h4 : ev x4 = .int .i64 t) (h5 : ev x5 = .int .i64 a) (h6 : ev x6 = .int .i64 c) : (execOp ev o).run Tryd.prog w = .ok (.value (.agg (iz [p, k, s, b, t, a, c]))) w := by
  simp only [execOp, hop, List.map_toArray, List.map_cons, List.map_nil, h0, h1, h2, h3, h4, h5, h6, Sem.run_bind, seven_build, Result.andThen_ok, Sem.run_pure]
theorem seed_build (w : World) (p k s b t a c : Int) : (Instr.build 36 #[(0, .int .u64 ((w64 p : Nat) : Int)), (1, .int .u64 ((w64 k : Nat) : Int)), (2, .int .u64 ((w64 s : Nat) : Int)), (3, .int .u64 ((w64 b : Nat) : Int)), (4, .int .u64 ((w64 t : Nat) : Int)), (5, .int .u64 ((w64 a : Nat) : Int)), (6, .int .u64 ((w64 c : Nat) : Int))]).run Tryd.prog w = .ok (.agg (wq (seedL p k s b t a c))) w := by
  have h : ∀ p k s b t a c : Nat, Tryd.prog.built 36 [(0, .int .u64 (p : Int)), (1, .int .u64 (k : Int)), (2, .int .u64 (s : Int)), (3, .int .u64 (b : Int)), (4, .int .u64 (t : Int)), (5, .int .u64 (a : Int)), (6, .int .u64 (c : Int))] = some (wq ([p, k, s, b, t, a, c] ++ List.replicate 121 0)) := fun p k s b t a c => by kernel_rfl
  exact run_build w _ _ _ (h ..)
end Go.Proofs.YtnbdmkgldjhcaaaDoor

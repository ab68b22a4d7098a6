/- Arrays of words that are the same are told to be the same. Condition: the words are below 2^32. -/
import Derived.Test.YtnmhcmjpcamoeaaDoorSlWords
import Derived.DeepKeys
namespace Go.Proofs.YtnmhcmjpcamoeaaDoor
set_option maxRecDepth 50000
open Go.RowKit Sl

theorem c_u32 : Tryd.prog.cellsOf 22 = 1 := by kernel_rfl
theorem wfw_u32 (a : Nat) (h : a < 4294967296) : (Lit.int .u32 (a : Int)).wf = true := by
  have e1 : IntKind.u32.min = 0 := rfl
  have e2 : IntKind.u32.max = 4294967295 := rfl
  simp [Lit.wf, e1, e2]
  omega
theorem k_u32 (d a : Nat) (h : a < 4294967296) : Tryd.prog.keyLits (d + 1) 22 [.int .u32 (a : Int)] = some [.int .u32 (a : Int)] := by
  unfold Program.keyLits
  simp only [Tryd.underlying22]
  simp [wfw_u32 a h]
theorem c_w4 : Tryd.prog.cellsOf 27 = 4 := by kernel_rfl
theorem key_w4 (d a0 a1 a2 a3 : Nat) (h0 : a0 < 4294967296) (h1 : a1 < 4294967296) (h2 : a2 < 4294967296) (h3 : a3 < 4294967296) : Tryd.prog.keyLits (d + 2) 27 [.int .u32 (a0 : Int), .int .u32 (a1 : Int), .int .u32 (a2 : Int), .int .u32 (a3 : Int)] = some [.int .u32 a0, .int .u32 a1, .int .u32 a2, .int .u32 a3] := by
  have k := k_u32 d
  unfold Program.keyLits
  simp only [Tryd.underlying27]
  simp only [c_w4, c_u32, List.length_cons, List.length_nil, if_true, show List.range 4 = [0, 1, 2, 3] from rfl, List.mapM_cons, List.mapM_nil, Nat.mul_one, List.drop_zero, List.drop_succ_cons, List.take_succ_cons, List.take_zero, k a0 h0, k a1 h1, k a2 h2, k a3 h3]
  rfl
theorem in_w4 (a0 a1 a2 a3 : Nat) (h0 : a0 < 4294967296) (h1 : a1 < 4294967296) (h2 : a2 < 4294967296) (h3 : a3 < 4294967296) (w : World) : (Op.equalIn 10000 27 (.agg #[.int .u32 (a0 : Int), .int .u32 (a1 : Int), .int .u32 (a2 : Int), .int .u32 (a3 : Int)]) (.agg #[.int .u32 (a0 : Int), .int .u32 (a1 : Int), .int .u32 (a2 : Int), .int .u32 (a3 : Int)])).run Tryd.prog w = .ok true w := by
  obtain ⟨r, q1, q2⟩ := run_equalIn_deep (P := Tryd.prog) 9990 10 27 (by kernel_rfl) w 10 10 (.agg #[.int .u32 (a0 : Int), .int .u32 (a1 : Int), .int .u32 (a2 : Int), .int .u32 (a3 : Int)]) (.agg #[.int .u32 (a0 : Int), .int .u32 (a1 : Int), .int .u32 (a2 : Int), .int .u32 (a3 : Int)]) _ _ (by kernel_rfl) (by kernel_rfl) (key_w4 8 a0 a1 a2 a3 h0 h1 h2 h3) (key_w4 8 a0 a1 a2 a3 h0 h1 h2 h3)
  have hr : r = true := q2.2 rfl
  subst hr
  rw [show (10000 : Nat) = 9990 + 10 from rfl, q1]
theorem insame_w4 (L : List Nat) (hl : L.length = 4) (hw : okw L) (w : World) : (Op.equalIn 10000 27 (.agg (wd L)) (.agg (wd L))).run Tryd.prog w = .ok true w := by
  match L, hl, hw with
  | [a0, a1, a2, a3], _, hw =>
    exact in_w4 a0 a1 a2 a3 (hw a0 (by simp)) (hw a1 (by simp)) (hw a2 (by simp)) (hw a3 (by simp)) w
theorem same_w4 (L : List Nat) (hl : L.length = 4) (hw : okw L) (w : World) : (binOp .eql 27 (.agg (wd L)) (.agg (wd L))).run Tryd.prog w = .ok (.bool true) w := by
  rw [run_eql_struct, insame_w4 L hl hw]; rfl
theorem nesame_w4 (L : List Nat) (hl : L.length = 4) (hw : okw L) (w : World) : (binOp .neq 27 (.agg (wd L)) (.agg (wd L))).run Tryd.prog w = .ok (.bool false) w := by
  rw [run_neq_struct, insame_w4 L hl hw]; rfl
theorem c_w16 : Tryd.prog.cellsOf 23 = 16 := by kernel_rfl
theorem key_w16 (d a0 a1 a2 a3 a4 a5 a6 a7 a8 a9 a10 a11 a12 a13 a14 a15 : Nat) (h0 : a0 < 4294967296) (h1 : a1 < 4294967296) (h2 : a2 < 4294967296) (h3 : a3 < 4294967296) (h4 : a4 < 4294967296) (h5 : a5 < 4294967296) (h6 : a6 < 4294967296) (h7 : a7 < 4294967296) (h8 : a8 < 4294967296) (h9 : a9 < 4294967296) (h10 : a10 < 4294967296) (h11 : a11 < 4294967296) (h12 : a12 < 4294967296) (h13 : a13 < 4294967296) (h14 : a14 < 4294967296) (h15 : a15 < 4294967296) : Tryd.prog.keyLits (d + 2) 23 [.int .u32 (a0 : Int), .int .u32 (a1 : Int), .int .u32 (a2 : Int), .int .u32 (a3 : Int), .int .u32 (a4 : Int), .int .u32 (a5 : Int), .int .u32 (a6 : Int), .int .u32 (a7 : Int), .int .u32 (a8 : Int), .int .u32 (a9 : Int), .int .u32 (a10 : Int), .int .u32 (a11 : Int), .int .u32 (a12 : Int), .int .u32 (a13 : Int), .int .u32 (a14 : Int), .int .u32 (a15 : Int)] = some [.int .u32 a0, .int .u32 a1, .int .u32 a2, .int .u32 a3, .int .u32 a4, .int .u32 a5, .int .u32 a6, .int .u32 a7, .int .u32 a8, .int .u32 a9, .int .u32 a10, .int .u32 a11, .int .u32 a12, .int .u32 a13, .int .u32 a14, .int .u32 a15] := by
  have k := k_u32 d
  unfold Program.keyLits
  simp only [Tryd.underlying23]
  simp only [c_w16, c_u32, List.length_cons, List.length_nil, if_true, show List.range 16 = [0, 1, 2, 3, 4, 5, 6, 7, 8, 9, 10, 11, 12, 13, 14, 15] from rfl, List.mapM_cons, List.mapM_nil, Nat.mul_one, List.drop_zero, List.drop_succ_cons, List.take_succ_cons, List.take_zero, k a0 h0, k a1 h1, k a2 h2, k a3 h3, k a4 h4, k a5 h5, k a6 h6, k a7 h7, k a8 h8, k a9 h9, k a10 h10, k a11 h11, k a12 h12, k a13 h13, k a14 h14, k a15 h15]
  rfl
theorem in_w16 (a0 a1 a2 a3 a4 a5 a6 a7 a8 a9 a10 a11 a12 a13 a14 a15 : Nat) (h0 : a0 < 4294967296) (h1 : a1 < 4294967296) (h2 : a2 < 4294967296) (h3 : a3 < 4294967296) (h4 : a4 < 4294967296) (h5 : a5 < 4294967296) (h6 : a6 < 4294967296) (h7 : a7 < 4294967296) (h8 : a8 < 4294967296) (h9 : a9 < 4294967296) (h10 : a10 < 4294967296) (h11 : a11 < 4294967296) (h12 : a12 < 4294967296) (h13 : a13 < 4294967296) (h14 : a14 < 4294967296) (h15 : a15 < 4294967296) (w : World) : (Op.equalIn 10000 23 (.agg #[.int .u32 (a0 : Int), .int .u32 (a1 : Int), .int .u32 (a2 : Int), .int .u32 (a3 : Int), .int .u32 (a4 : Int), .int .u32 (a5 : Int), .int .u32 (a6 : Int), .int .u32 (a7 : Int), .int .u32 (a8 : Int), .int .u32 (a9 : Int), .int .u32 (a10 : Int), .int .u32 (a11 : Int), .int .u32 (a12 : Int), .int .u32 (a13 : Int), .int .u32 (a14 : Int), .int .u32 (a15 : Int)]) (.agg #[.int .u32 (a0 : Int), .int .u32 (a1 : Int), .int .u32 (a2 : Int), .int .u32 (a3 : Int), .int .u32 (a4 : Int), .int .u32 (a5 : Int), .int .u32 (a6 : Int), .int .u32 (a7 : Int), .int .u32 (a8 : Int), .int .u32 (a9 : Int), .int .u32 (a10 : Int), .int .u32 (a11 : Int), .int .u32 (a12 : Int), .int .u32 (a13 : Int), .int .u32 (a14 : Int), .int .u32 (a15 : Int)])).run Tryd.prog w = .ok true w := by
  obtain ⟨r, q1, q2⟩ := run_equalIn_deep (P := Tryd.prog) 9990 10 23 (by kernel_rfl) w 10 10 (.agg #[.int .u32 (a0 : Int), .int .u32 (a1 : Int), .int .u32 (a2 : Int), .int .u32 (a3 : Int), .int .u32 (a4 : Int), .int .u32 (a5 : Int), .int .u32 (a6 : Int), .int .u32 (a7 : Int), .int .u32 (a8 : Int), .int .u32 (a9 : Int), .int .u32 (a10 : Int), .int .u32 (a11 : Int), .int .u32 (a12 : Int), .int .u32 (a13 : Int), .int .u32 (a14 : Int), .int .u32 (a15 : Int)]) (.agg #[.int .u32 (a0 : Int), .int .u32 (a1 : Int), .int .u32 (a2 : Int), .int .u32 (a3 : Int), .int .u32 (a4 : Int), .int .u32 (a5 : Int), .int .u32 (a6 : Int), .int .u32 (a7 : Int), .int .u32 (a8 : Int), .int .u32 (a9 : Int), .int .u32 (a10 : Int), .int .u32 (a11 : Int), .int .u32 (a12 : Int), .int .u32 (a13 : Int), .int .u32 (a14 : Int), .int .u32 (a15 : Int)]) _ _ (by kernel_rfl) (by kernel_rfl) (key_w16 8 a0 a1 a2 a3 a4 a5 a6 a7 a8 a9 a10 a11 a12 a13 a14 a15 h0 h1 h2 h3 h4 h5 h6 h7 h8 h9 h10 h11 h12 h13 h14 h15) (key_w16 8 a0 a1 a2 a3 a4 a5 a6 a7 a8 a9 a10 a11 a12 a13 a14 a15 h0 h1 h2 h3 h4 h5 h6 h7 h8 h9 h10 h11 h12 h13 h14 h15)
  have hr : r = true := q2.2 rfl
  subst hr
  rw [show (10000 : Nat) = 9990 + 10 from rfl, q1]
theorem insame_w16 (L : List Nat) (hl : L.length = 16) (hw : okw L) (w : World) : (Op.equalIn 10000 23 (.agg (wd L)) (.agg (wd L))).run Tryd.prog w = .ok true w := by
  match L, hl, hw with
  | [a0, a1, a2, a3, a4, a5, a6, a7, a8, a9, a10, a11, a12, a13, a14, a15], _, hw =>
    exact in_w16 a0 a1 a2 a3 a4 a5 a6 a7 a8 a9 a10 a11 a12 a13 a14 a15 (hw a0 (by simp)) (hw a1 (by simp)) (hw a2 (by simp)) (hw a3 (by simp)) (hw a4 (by simp)) (hw a5 (by simp)) (hw a6 (by simp)) (hw a7 (by simp)) (hw a8 (by simp)) (hw a9 (by simp)) (hw a10 (by simp)) (hw a11 (by simp)) (hw a12 (by simp)) (hw a13 (by simp)) (hw a14 (by simp)) (hw a15 (by simp)) w
theorem same_w16 (L : List Nat) (hl : L.length = 16) (hw : okw L) (w : World) : (binOp .eql 23 (.agg (wd L)) (.agg (wd L))).run Tryd.prog w = .ok (.bool true) w := by
  rw [run_eql_struct, insame_w16 L hl hw]; rfl
theorem nesame_w16 (L : List Nat) (hl : L.length = 16) (hw : okw L) (w : World) : (binOp .neq 23 (.agg (wd L)) (.agg (wd L))).run Tryd.prog w = .ok (.bool false) w := by
  rw [run_neq_struct, insame_w16 L hl hw]; rfl
theorem neq_run (w : World) (xs ys : Array Value) (ev : Operand → Value) (x y : Operand) {t ty : TypeId} {o : Oper} (hop : o.op = .binOp .neq t x y ty) (hx : ev x = .agg xs) (hy : ev y = .agg ys) (hm : Tryd.prog.eqGuardType Tryd.prog.depth t = false) (hr : (binOp .neq t (.agg xs) (.agg ys)).run Tryd.prog w = .ok (.bool false) w) : (execOp ev o).run Tryd.prog w = .ok (.value (.bool false)) w := by
  have hg := run_eqGuard_agg (P := Tryd.prog) w .neq t x y xs ys hm
  simp only [execOp, hop, hx, hy, Sem.run_bind, hg, Result.andThen_ok, hr, Sem.run_pure]
theorem eql_run (w : World) (xs ys : Array Value) (ev : Operand → Value) (x y : Operand) {t ty : TypeId} {o : Oper} (hop : o.op = .binOp .eql t x y ty) (hx : ev x = .agg xs) (hy : ev y = .agg ys) (hm : Tryd.prog.eqGuardType Tryd.prog.depth t = false) (hr : (binOp .eql t (.agg xs) (.agg ys)).run Tryd.prog w = .ok (.bool true) w) : (execOp ev o).run Tryd.prog w = .ok (.value (.bool true)) w := by
  have hg := run_eqGuard_agg (P := Tryd.prog) w .eql t x y xs ys hm
  simp only [execOp, hop, hx, hy, Sem.run_bind, hg, Result.andThen_ok, hr, Sem.run_pure]
theorem wpList_value_want {P : Program} {ops : Array Oper} {rest : List Oper} {o : Oper} {a : Act} {w w' : World} {Q : Exit → Act → World → Prop} (hw : Region.wanted o (yielded ops a.tmps) = true) (v : Value) (hr : (execOp a.eval o).run P w = .ok (.value v) w') (h : wpList P ops Q rest (a.put o.dst v) w') : wpList P ops Q (o :: rest) a w := wpList_step fun K hK => by
  rw [if_pos hw]
  unfold Oper.wp
  rw [hr]
  exact hK _ _ h
theorem g_w4 : Tryd.prog.eqGuardType Tryd.prog.depth 27 = false := by kernel_rfl
theorem g_w16 : Tryd.prog.eqGuardType Tryd.prog.depth 23 = false := by kernel_rfl
end Go.Proofs.YtnmhcmjpcamoeaaDoor

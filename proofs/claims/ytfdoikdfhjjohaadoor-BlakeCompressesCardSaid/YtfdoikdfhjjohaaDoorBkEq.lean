/- Arrays that are the same are told to be the same. Condition: they are words, or ints that fit. -/
import Derived.Test.YtfdoikdfhjjohaaDoorBkWords
import Derived.Test.YtfdoikdfhjjohaaDoorBkAt
import Derived.DeepKeys
namespace Go.Proofs.YtfdoikdfhjjohaaDoor
set_option maxRecDepth 50000
open Go.RowKit Bl

theorem c_u64 : Tryd.prog.cellsOf 22 = 1 := by kernel_rfl
theorem c_int : Tryd.prog.cellsOf 3 = 1 := by kernel_rfl
theorem wfq_u64 (a : Nat) (h : a < 18446744073709551616) : (Lit.int .u64 (a : Int)).wf = true := by
  have e1 : IntKind.u64.min = 0 := rfl
  have e2 : IntKind.u64.max = 18446744073709551615 := rfl
  simp [Lit.wf, e1, e2]
  omega
theorem wfq_i64 (a : Nat) (h : a < 9223372036854775808) : (Lit.int .i64 (a : Int)).wf = true := by
  have e1 : IntKind.i64.min = -9223372036854775808 := rfl
  have e2 : IntKind.i64.max = 9223372036854775807 := rfl
  simp [Lit.wf, e1, e2]
  omega
theorem k_u64 (d a : Nat) (h : a < 18446744073709551616) : Tryd.prog.keyLits (d + 1) 22 [.int .u64 (a : Int)] = some [.int .u64 (a : Int)] := by
  unfold Program.keyLits
  simp only [Tryd.underlying22]
  simp [wfq_u64 a h]
theorem k_int (d a : Nat) (h : a < 9223372036854775808) : Tryd.prog.keyLits (d + 1) 3 [.int .i64 (a : Int)] = some [.int .i64 (a : Int)] := by
  unfold Program.keyLits
  simp only [Tryd.underlying3]
  simp [wfq_i64 a h]
theorem c_q8 : Tryd.prog.cellsOf 23 = 8 := by kernel_rfl
theorem key_q8 (d a0 a1 a2 a3 a4 a5 a6 a7 : Nat) (h0 : a0 < 18446744073709551616) (h1 : a1 < 18446744073709551616) (h2 : a2 < 18446744073709551616) (h3 : a3 < 18446744073709551616) (h4 : a4 < 18446744073709551616) (h5 : a5 < 18446744073709551616) (h6 : a6 < 18446744073709551616) (h7 : a7 < 18446744073709551616) : Tryd.prog.keyLits (d + 2) 23 [.int .u64 (a0 : Int), .int .u64 (a1 : Int), .int .u64 (a2 : Int), .int .u64 (a3 : Int), .int .u64 (a4 : Int), .int .u64 (a5 : Int), .int .u64 (a6 : Int), .int .u64 (a7 : Int)] = some [.int .u64 a0, .int .u64 a1, .int .u64 a2, .int .u64 a3, .int .u64 a4, .int .u64 a5, .int .u64 a6, .int .u64 a7] := by
  have k := k_u64 d
  unfold Program.keyLits
  simp only [Tryd.underlying23]
  simp only [c_q8, c_u64, List.length_cons, List.length_nil, if_true, show List.range 8 = [0, 1, 2, 3, 4, 5, 6, 7] from rfl, List.mapM_cons, List.mapM_nil, Nat.mul_one, List.drop_zero, List.drop_succ_cons, List.take_succ_cons, List.take_zero, k a0 h0, k a1 h1, k a2 h2, k a3 h3, k a4 h4, k a5 h5, k a6 h6, k a7 h7]
  rfl
theorem eq_q8 (a0 a1 a2 a3 a4 a5 a6 a7 : Nat) (h0 : a0 < 18446744073709551616) (h1 : a1 < 18446744073709551616) (h2 : a2 < 18446744073709551616) (h3 : a3 < 18446744073709551616) (h4 : a4 < 18446744073709551616) (h5 : a5 < 18446744073709551616) (h6 : a6 < 18446744073709551616) (h7 : a7 < 18446744073709551616) (w : World) : (binOp .eql 23 (.agg #[.int .u64 (a0 : Int), .int .u64 (a1 : Int), .int .u64 (a2 : Int), .int .u64 (a3 : Int), .int .u64 (a4 : Int), .int .u64 (a5 : Int), .int .u64 (a6 : Int), .int .u64 (a7 : Int)]) (.agg #[.int .u64 (a0 : Int), .int .u64 (a1 : Int), .int .u64 (a2 : Int), .int .u64 (a3 : Int), .int .u64 (a4 : Int), .int .u64 (a5 : Int), .int .u64 (a6 : Int), .int .u64 (a7 : Int)])).run Tryd.prog w = .ok (.bool true) w := by
  obtain ⟨r, q1, q2⟩ := run_equalIn_deep (P := Tryd.prog) 9990 10 23 (by kernel_rfl) w 10 10 (.agg #[.int .u64 (a0 : Int), .int .u64 (a1 : Int), .int .u64 (a2 : Int), .int .u64 (a3 : Int), .int .u64 (a4 : Int), .int .u64 (a5 : Int), .int .u64 (a6 : Int), .int .u64 (a7 : Int)]) (.agg #[.int .u64 (a0 : Int), .int .u64 (a1 : Int), .int .u64 (a2 : Int), .int .u64 (a3 : Int), .int .u64 (a4 : Int), .int .u64 (a5 : Int), .int .u64 (a6 : Int), .int .u64 (a7 : Int)]) _ _ (by kernel_rfl) (by kernel_rfl) (key_q8 8 a0 a1 a2 a3 a4 a5 a6 a7 h0 h1 h2 h3 h4 h5 h6 h7) (key_q8 8 a0 a1 a2 a3 a4 a5 a6 a7 h0 h1 h2 h3 h4 h5 h6 h7)
  have hr : r = true := q2.2 rfl
  subst hr
  rw [run_eql_struct, show (10000 : Nat) = 9990 + 10 from rfl, q1]
  rfl
theorem same_q8 (L : List Nat) (hl : L.length = 8) (hw : ∀ x ∈ L, x < 18446744073709551616) (w : World) : (binOp .eql 23 (.agg (wq L)) (.agg (wq L))).run Tryd.prog w = .ok (.bool true) w := by
  match L, hl, hw with
  | [a0, a1, a2, a3, a4, a5, a6, a7], _, hw =>
    exact eq_q8 a0 a1 a2 a3 a4 a5 a6 a7 (hw a0 (by simp)) (hw a1 (by simp)) (hw a2 (by simp)) (hw a3 (by simp)) (hw a4 (by simp)) (hw a5 (by simp)) (hw a6 (by simp)) (hw a7 (by simp)) w
theorem c_qf : Tryd.prog.cellsOf 29 = 8 := by kernel_rfl
theorem key_qf (d a0 a1 a2 a3 a4 a5 a6 a7 : Nat) (h0 : a0 < 18446744073709551616) (h1 : a1 < 18446744073709551616) (h2 : a2 < 18446744073709551616) (h3 : a3 < 18446744073709551616) (h4 : a4 < 18446744073709551616) (h5 : a5 < 18446744073709551616) (h6 : a6 < 18446744073709551616) (h7 : a7 < 18446744073709551616) : Tryd.prog.keyLits (d + 2) 29 [.int .u64 (a0 : Int), .int .u64 (a1 : Int), .int .u64 (a2 : Int), .int .u64 (a3 : Int), .int .u64 (a4 : Int), .int .u64 (a5 : Int), .int .u64 (a6 : Int), .int .u64 (a7 : Int)] = some [.int .u64 a0, .int .u64 a1, .int .u64 a2, .int .u64 a3, .int .u64 a4, .int .u64 a5, .int .u64 a6, .int .u64 a7] := by
  have k := k_u64 d
  unfold Program.keyLits
  simp only [Tryd.underlying29]
  simp only [c_qf, c_u64, List.length_cons, List.length_nil, if_true, show List.range 8 = [0, 1, 2, 3, 4, 5, 6, 7] from rfl, List.mapM_cons, List.mapM_nil, Nat.mul_one, List.drop_zero, List.drop_succ_cons, List.take_succ_cons, List.take_zero, k a0 h0, k a1 h1, k a2 h2, k a3 h3, k a4 h4, k a5 h5, k a6 h6, k a7 h7]
  rfl
theorem eq_qf (a0 a1 a2 a3 a4 a5 a6 a7 : Nat) (h0 : a0 < 18446744073709551616) (h1 : a1 < 18446744073709551616) (h2 : a2 < 18446744073709551616) (h3 : a3 < 18446744073709551616) (h4 : a4 < 18446744073709551616) (h5 : a5 < 18446744073709551616) (h6 : a6 < 18446744073709551616) (h7 : a7 < 18446744073709551616) (w : World) : (binOp .eql 29 (.agg #[.int .u64 (a0 : Int), .int .u64 (a1 : Int), .int .u64 (a2 : Int), .int .u64 (a3 : Int), .int .u64 (a4 : Int), .int .u64 (a5 : Int), .int .u64 (a6 : Int), .int .u64 (a7 : Int)]) (.agg #[.int .u64 (a0 : Int), .int .u64 (a1 : Int), .int .u64 (a2 : Int), .int .u64 (a3 : Int), .int .u64 (a4 : Int), .int .u64 (a5 : Int), .int .u64 (a6 : Int), .int .u64 (a7 : Int)])).run Tryd.prog w = .ok (.bool true) w := by
  obtain ⟨r, q1, q2⟩ := run_equalIn_deep (P := Tryd.prog) 9990 10 29 (by kernel_rfl) w 10 10 (.agg #[.int .u64 (a0 : Int), .int .u64 (a1 : Int), .int .u64 (a2 : Int), .int .u64 (a3 : Int), .int .u64 (a4 : Int), .int .u64 (a5 : Int), .int .u64 (a6 : Int), .int .u64 (a7 : Int)]) (.agg #[.int .u64 (a0 : Int), .int .u64 (a1 : Int), .int .u64 (a2 : Int), .int .u64 (a3 : Int), .int .u64 (a4 : Int), .int .u64 (a5 : Int), .int .u64 (a6 : Int), .int .u64 (a7 : Int)]) _ _ (by kernel_rfl) (by kernel_rfl) (key_qf 8 a0 a1 a2 a3 a4 a5 a6 a7 h0 h1 h2 h3 h4 h5 h6 h7) (key_qf 8 a0 a1 a2 a3 a4 a5 a6 a7 h0 h1 h2 h3 h4 h5 h6 h7)
  have hr : r = true := q2.2 rfl
  subst hr
  rw [run_eql_struct, show (10000 : Nat) = 9990 + 10 from rfl, q1]
  rfl
theorem same_qf (L : List Nat) (hl : L.length = 8) (hw : ∀ x ∈ L, x < 18446744073709551616) (w : World) : (binOp .eql 29 (.agg (wq L)) (.agg (wq L))).run Tryd.prog w = .ok (.bool true) w := by
  match L, hl, hw with
  | [a0, a1, a2, a3, a4, a5, a6, a7], _, hw =>
    exact eq_qf a0 a1 a2 a3 a4 a5 a6 a7 (hw a0 (by simp)) (hw a1 (by simp)) (hw a2 (by simp)) (hw a3 (by simp)) (hw a4 (by simp)) (hw a5 (by simp)) (hw a6 (by simp)) (hw a7 (by simp)) w
theorem c_q4 : Tryd.prog.cellsOf 36 = 4 := by kernel_rfl
theorem key_q4 (d a0 a1 a2 a3 : Nat) (h0 : a0 < 18446744073709551616) (h1 : a1 < 18446744073709551616) (h2 : a2 < 18446744073709551616) (h3 : a3 < 18446744073709551616) : Tryd.prog.keyLits (d + 2) 36 [.int .u64 (a0 : Int), .int .u64 (a1 : Int), .int .u64 (a2 : Int), .int .u64 (a3 : Int)] = some [.int .u64 a0, .int .u64 a1, .int .u64 a2, .int .u64 a3] := by
  have k := k_u64 d
  unfold Program.keyLits
  simp only [Tryd.underlying36]
  simp only [c_q4, c_u64, List.length_cons, List.length_nil, if_true, show List.range 4 = [0, 1, 2, 3] from rfl, List.mapM_cons, List.mapM_nil, Nat.mul_one, List.drop_zero, List.drop_succ_cons, List.take_succ_cons, List.take_zero, k a0 h0, k a1 h1, k a2 h2, k a3 h3]
  rfl
theorem eq_q4 (a0 a1 a2 a3 : Nat) (h0 : a0 < 18446744073709551616) (h1 : a1 < 18446744073709551616) (h2 : a2 < 18446744073709551616) (h3 : a3 < 18446744073709551616) (w : World) : (binOp .eql 36 (.agg #[.int .u64 (a0 : Int), .int .u64 (a1 : Int), .int .u64 (a2 : Int), .int .u64 (a3 : Int)]) (.agg #[.int .u64 (a0 : Int), .int .u64 (a1 : Int), .int .u64 (a2 : Int), .int .u64 (a3 : Int)])).run Tryd.prog w = .ok (.bool true) w := by
  obtain ⟨r, q1, q2⟩ := run_equalIn_deep (P := Tryd.prog) 9990 10 36 (by kernel_rfl) w 10 10 (.agg #[.int .u64 (a0 : Int), .int .u64 (a1 : Int), .int .u64 (a2 : Int), .int .u64 (a3 : Int)]) (.agg #[.int .u64 (a0 : Int), .int .u64 (a1 : Int), .int .u64 (a2 : Int), .int .u64 (a3 : Int)]) _ _ (by kernel_rfl) (by kernel_rfl) (key_q4 8 a0 a1 a2 a3 h0 h1 h2 h3) (key_q4 8 a0 a1 a2 a3 h0 h1 h2 h3)
  have hr : r = true := q2.2 rfl
  subst hr
  rw [run_eql_struct, show (10000 : Nat) = 9990 + 10 from rfl, q1]
  rfl
theorem same_q4 (L : List Nat) (hl : L.length = 4) (hw : ∀ x ∈ L, x < 18446744073709551616) (w : World) : (binOp .eql 36 (.agg (wq L)) (.agg (wq L))).run Tryd.prog w = .ok (.bool true) w := by
  match L, hl, hw with
  | [a0, a1, a2, a3], _, hw =>
    exact eq_q4 a0 a1 a2 a3 (hw a0 (by simp)) (hw a1 (by simp)) (hw a2 (by simp)) (hw a3 (by simp)) w
theorem c_i16 : Tryd.prog.cellsOf 38 = 16 := by kernel_rfl
theorem key_i16 (d a0 a1 a2 a3 a4 a5 a6 a7 a8 a9 a10 a11 a12 a13 a14 a15 : Nat) (h0 : a0 < 9223372036854775808) (h1 : a1 < 9223372036854775808) (h2 : a2 < 9223372036854775808) (h3 : a3 < 9223372036854775808) (h4 : a4 < 9223372036854775808) (h5 : a5 < 9223372036854775808) (h6 : a6 < 9223372036854775808) (h7 : a7 < 9223372036854775808) (h8 : a8 < 9223372036854775808) (h9 : a9 < 9223372036854775808) (h10 : a10 < 9223372036854775808) (h11 : a11 < 9223372036854775808) (h12 : a12 < 9223372036854775808) (h13 : a13 < 9223372036854775808) (h14 : a14 < 9223372036854775808) (h15 : a15 < 9223372036854775808) : Tryd.prog.keyLits (d + 2) 38 [.int .i64 (a0 : Int), .int .i64 (a1 : Int), .int .i64 (a2 : Int), .int .i64 (a3 : Int), .int .i64 (a4 : Int), .int .i64 (a5 : Int), .int .i64 (a6 : Int), .int .i64 (a7 : Int), .int .i64 (a8 : Int), .int .i64 (a9 : Int), .int .i64 (a10 : Int), .int .i64 (a11 : Int), .int .i64 (a12 : Int), .int .i64 (a13 : Int), .int .i64 (a14 : Int), .int .i64 (a15 : Int)] = some [.int .i64 a0, .int .i64 a1, .int .i64 a2, .int .i64 a3, .int .i64 a4, .int .i64 a5, .int .i64 a6, .int .i64 a7, .int .i64 a8, .int .i64 a9, .int .i64 a10, .int .i64 a11, .int .i64 a12, .int .i64 a13, .int .i64 a14, .int .i64 a15] := by
  have k := k_int d
  unfold Program.keyLits
  simp only [Tryd.underlying38]
  simp only [c_i16, c_int, List.length_cons, List.length_nil, if_true, show List.range 16 = [0, 1, 2, 3, 4, 5, 6, 7, 8, 9, 10, 11, 12, 13, 14, 15] from rfl, List.mapM_cons, List.mapM_nil, Nat.mul_one, List.drop_zero, List.drop_succ_cons, List.take_succ_cons, List.take_zero, k a0 h0, k a1 h1, k a2 h2, k a3 h3, k a4 h4, k a5 h5, k a6 h6, k a7 h7, k a8 h8, k a9 h9, k a10 h10, k a11 h11, k a12 h12, k a13 h13, k a14 h14, k a15 h15]
  rfl
theorem eq_i16 (a0 a1 a2 a3 a4 a5 a6 a7 a8 a9 a10 a11 a12 a13 a14 a15 : Nat) (h0 : a0 < 9223372036854775808) (h1 : a1 < 9223372036854775808) (h2 : a2 < 9223372036854775808) (h3 : a3 < 9223372036854775808) (h4 : a4 < 9223372036854775808) (h5 : a5 < 9223372036854775808) (h6 : a6 < 9223372036854775808) (h7 : a7 < 9223372036854775808) (h8 : a8 < 9223372036854775808) (h9 : a9 < 9223372036854775808) (h10 : a10 < 9223372036854775808) (h11 : a11 < 9223372036854775808) (h12 : a12 < 9223372036854775808) (h13 : a13 < 9223372036854775808) (h14 : a14 < 9223372036854775808) (h15 : a15 < 9223372036854775808) (w : World) : (binOp .eql 38 (.agg #[.int .i64 (a0 : Int), .int .i64 (a1 : Int), .int .i64 (a2 : Int), .int .i64 (a3 : Int), .int .i64 (a4 : Int), .int .i64 (a5 : Int), .int .i64 (a6 : Int), .int .i64 (a7 : Int), .int .i64 (a8 : Int), .int .i64 (a9 : Int), .int .i64 (a10 : Int), .int .i64 (a11 : Int), .int .i64 (a12 : Int), .int .i64 (a13 : Int), .int .i64 (a14 : Int), .int .i64 (a15 : Int)]) (.agg #[.int .i64 (a0 : Int), .int .i64 (a1 : Int), .int .i64 (a2 : Int), .int .i64 (a3 : Int), .int .i64 (a4 : Int), .int .i64 (a5 : Int), .int .i64 (a6 : Int), .int .i64 (a7 : Int), .int .i64 (a8 : Int), .int .i64 (a9 : Int), .int .i64 (a10 : Int), .int .i64 (a11 : Int), .int .i64 (a12 : Int), .int .i64 (a13 : Int), .int .i64 (a14 : Int), .int .i64 (a15 : Int)])).run Tryd.prog w = .ok (.bool true) w := by
  obtain ⟨r, q1, q2⟩ := run_equalIn_deep (P := Tryd.prog) 9990 10 38 (by kernel_rfl) w 10 10 (.agg #[.int .i64 (a0 : Int), .int .i64 (a1 : Int), .int .i64 (a2 : Int), .int .i64 (a3 : Int), .int .i64 (a4 : Int), .int .i64 (a5 : Int), .int .i64 (a6 : Int), .int .i64 (a7 : Int), .int .i64 (a8 : Int), .int .i64 (a9 : Int), .int .i64 (a10 : Int), .int .i64 (a11 : Int), .int .i64 (a12 : Int), .int .i64 (a13 : Int), .int .i64 (a14 : Int), .int .i64 (a15 : Int)]) (.agg #[.int .i64 (a0 : Int), .int .i64 (a1 : Int), .int .i64 (a2 : Int), .int .i64 (a3 : Int), .int .i64 (a4 : Int), .int .i64 (a5 : Int), .int .i64 (a6 : Int), .int .i64 (a7 : Int), .int .i64 (a8 : Int), .int .i64 (a9 : Int), .int .i64 (a10 : Int), .int .i64 (a11 : Int), .int .i64 (a12 : Int), .int .i64 (a13 : Int), .int .i64 (a14 : Int), .int .i64 (a15 : Int)]) _ _ (by kernel_rfl) (by kernel_rfl) (key_i16 8 a0 a1 a2 a3 a4 a5 a6 a7 a8 a9 a10 a11 a12 a13 a14 a15 h0 h1 h2 h3 h4 h5 h6 h7 h8 h9 h10 h11 h12 h13 h14 h15) (key_i16 8 a0 a1 a2 a3 a4 a5 a6 a7 a8 a9 a10 a11 a12 a13 a14 a15 h0 h1 h2 h3 h4 h5 h6 h7 h8 h9 h10 h11 h12 h13 h14 h15)
  have hr : r = true := q2.2 rfl
  subst hr
  rw [run_eql_struct, show (10000 : Nat) = 9990 + 10 from rfl, q1]
  rfl
theorem same_i16 (L : List Nat) (hl : L.length = 16) (hw : ∀ x ∈ L, x < 9223372036854775808) (w : World) : (binOp .eql 38 (.agg (iq L)) (.agg (iq L))).run Tryd.prog w = .ok (.bool true) w := by
  match L, hl, hw with
  | [a0, a1, a2, a3, a4, a5, a6, a7, a8, a9, a10, a11, a12, a13, a14, a15], _, hw =>
    exact eq_i16 a0 a1 a2 a3 a4 a5 a6 a7 a8 a9 a10 a11 a12 a13 a14 a15 (hw a0 (by simp)) (hw a1 (by simp)) (hw a2 (by simp)) (hw a3 (by simp)) (hw a4 (by simp)) (hw a5 (by simp)) (hw a6 (by simp)) (hw a7 (by simp)) (hw a8 (by simp)) (hw a9 (by simp)) (hw a10 (by simp)) (hw a11 (by simp)) (hw a12 (by simp)) (hw a13 (by simp)) (hw a14 (by simp)) (hw a15 (by simp)) w
theorem in_q8 (a0 a1 a2 a3 a4 a5 a6 a7 : Nat) (h0 : a0 < 18446744073709551616) (h1 : a1 < 18446744073709551616) (h2 : a2 < 18446744073709551616) (h3 : a3 < 18446744073709551616) (h4 : a4 < 18446744073709551616) (h5 : a5 < 18446744073709551616) (h6 : a6 < 18446744073709551616) (h7 : a7 < 18446744073709551616) (w : World) : (Op.equalIn 10000 23 (.agg #[.int .u64 (a0 : Int), .int .u64 (a1 : Int), .int .u64 (a2 : Int), .int .u64 (a3 : Int), .int .u64 (a4 : Int), .int .u64 (a5 : Int), .int .u64 (a6 : Int), .int .u64 (a7 : Int)]) (.agg #[.int .u64 (a0 : Int), .int .u64 (a1 : Int), .int .u64 (a2 : Int), .int .u64 (a3 : Int), .int .u64 (a4 : Int), .int .u64 (a5 : Int), .int .u64 (a6 : Int), .int .u64 (a7 : Int)])).run Tryd.prog w = .ok true w := by
  obtain ⟨r, q1, q2⟩ := run_equalIn_deep (P := Tryd.prog) 9990 10 23 (by kernel_rfl) w 10 10 (.agg #[.int .u64 (a0 : Int), .int .u64 (a1 : Int), .int .u64 (a2 : Int), .int .u64 (a3 : Int), .int .u64 (a4 : Int), .int .u64 (a5 : Int), .int .u64 (a6 : Int), .int .u64 (a7 : Int)]) (.agg #[.int .u64 (a0 : Int), .int .u64 (a1 : Int), .int .u64 (a2 : Int), .int .u64 (a3 : Int), .int .u64 (a4 : Int), .int .u64 (a5 : Int), .int .u64 (a6 : Int), .int .u64 (a7 : Int)]) _ _ (by kernel_rfl) (by kernel_rfl) (key_q8 8 a0 a1 a2 a3 a4 a5 a6 a7 h0 h1 h2 h3 h4 h5 h6 h7) (key_q8 8 a0 a1 a2 a3 a4 a5 a6 a7 h0 h1 h2 h3 h4 h5 h6 h7)
  have hr : r = true := q2.2 rfl
  subst hr
  rw [show (10000 : Nat) = 9990 + 10 from rfl, q1]
theorem insame_q8 (L : List Nat) (hl : L.length = 8) (hw : ∀ x ∈ L, x < 18446744073709551616) (w : World) : (Op.equalIn 10000 23 (.agg (wq L)) (.agg (wq L))).run Tryd.prog w = .ok true w := by
  match L, hl, hw with
  | [a0, a1, a2, a3, a4, a5, a6, a7], _, hw =>
    exact in_q8 a0 a1 a2 a3 a4 a5 a6 a7 (hw a0 (by simp)) (hw a1 (by simp)) (hw a2 (by simp)) (hw a3 (by simp)) (hw a4 (by simp)) (hw a5 (by simp)) (hw a6 (by simp)) (hw a7 (by simp)) w
theorem in_qf (a0 a1 a2 a3 a4 a5 a6 a7 : Nat) (h0 : a0 < 18446744073709551616) (h1 : a1 < 18446744073709551616) (h2 : a2 < 18446744073709551616) (h3 : a3 < 18446744073709551616) (h4 : a4 < 18446744073709551616) (h5 : a5 < 18446744073709551616) (h6 : a6 < 18446744073709551616) (h7 : a7 < 18446744073709551616) (w : World) : (Op.equalIn 10000 29 (.agg #[.int .u64 (a0 : Int), .int .u64 (a1 : Int), .int .u64 (a2 : Int), .int .u64 (a3 : Int), .int .u64 (a4 : Int), .int .u64 (a5 : Int), .int .u64 (a6 : Int), .int .u64 (a7 : Int)]) (.agg #[.int .u64 (a0 : Int), .int .u64 (a1 : Int), .int .u64 (a2 : Int), .int .u64 (a3 : Int), .int .u64 (a4 : Int), .int .u64 (a5 : Int), .int .u64 (a6 : Int), .int .u64 (a7 : Int)])).run Tryd.prog w = .ok true w := by
  obtain ⟨r, q1, q2⟩ := run_equalIn_deep (P := Tryd.prog) 9990 10 29 (by kernel_rfl) w 10 10 (.agg #[.int .u64 (a0 : Int), .int .u64 (a1 : Int), .int .u64 (a2 : Int), .int .u64 (a3 : Int), .int .u64 (a4 : Int), .int .u64 (a5 : Int), .int .u64 (a6 : Int), .int .u64 (a7 : Int)]) (.agg #[.int .u64 (a0 : Int), .int .u64 (a1 : Int), .int .u64 (a2 : Int), .int .u64 (a3 : Int), .int .u64 (a4 : Int), .int .u64 (a5 : Int), .int .u64 (a6 : Int), .int .u64 (a7 : Int)]) _ _ (by kernel_rfl) (by kernel_rfl) (key_qf 8 a0 a1 a2 a3 a4 a5 a6 a7 h0 h1 h2 h3 h4 h5 h6 h7) (key_qf 8 a0 a1 a2 a3 a4 a5 a6 a7 h0 h1 h2 h3 h4 h5 h6 h7)
  have hr : r = true := q2.2 rfl
  subst hr
  rw [show (10000 : Nat) = 9990 + 10 from rfl, q1]
theorem insame_qf (L : List Nat) (hl : L.length = 8) (hw : ∀ x ∈ L, x < 18446744073709551616) (w : World) : (Op.equalIn 10000 29 (.agg (wq L)) (.agg (wq L))).run Tryd.prog w = .ok true w := by
  match L, hl, hw with
  | [a0, a1, a2, a3, a4, a5, a6, a7], _, hw =>
    exact in_qf a0 a1 a2 a3 a4 a5 a6 a7 (hw a0 (by simp)) (hw a1 (by simp)) (hw a2 (by simp)) (hw a3 (by simp)) (hw a4 (by simp)) (hw a5 (by simp)) (hw a6 (by simp)) (hw a7 (by simp)) w
theorem in_q4 (a0 a1 a2 a3 : Nat) (h0 : a0 < 18446744073709551616) (h1 : a1 < 18446744073709551616) (h2 : a2 < 18446744073709551616) (h3 : a3 < 18446744073709551616) (w : World) : (Op.equalIn 10000 36 (.agg #[.int .u64 (a0 : Int), .int .u64 (a1 : Int), .int .u64 (a2 : Int), .int .u64 (a3 : Int)]) (.agg #[.int .u64 (a0 : Int), .int .u64 (a1 : Int), .int .u64 (a2 : Int), .int .u64 (a3 : Int)])).run Tryd.prog w = .ok true w := by
  obtain ⟨r, q1, q2⟩ := run_equalIn_deep (P := Tryd.prog) 9990 10 36 (by kernel_rfl) w 10 10 (.agg #[.int .u64 (a0 : Int), .int .u64 (a1 : Int), .int .u64 (a2 : Int), .int .u64 (a3 : Int)]) (.agg #[.int .u64 (a0 : Int), .int .u64 (a1 : Int), .int .u64 (a2 : Int), .int .u64 (a3 : Int)]) _ _ (by kernel_rfl) (by kernel_rfl) (key_q4 8 a0 a1 a2 a3 h0 h1 h2 h3) (key_q4 8 a0 a1 a2 a3 h0 h1 h2 h3)
  have hr : r = true := q2.2 rfl
  subst hr
  rw [show (10000 : Nat) = 9990 + 10 from rfl, q1]
theorem insame_q4 (L : List Nat) (hl : L.length = 4) (hw : ∀ x ∈ L, x < 18446744073709551616) (w : World) : (Op.equalIn 10000 36 (.agg (wq L)) (.agg (wq L))).run Tryd.prog w = .ok true w := by
  match L, hl, hw with
  | [a0, a1, a2, a3], _, hw =>
    exact in_q4 a0 a1 a2 a3 (hw a0 (by simp)) (hw a1 (by simp)) (hw a2 (by simp)) (hw a3 (by simp)) w
theorem in_i16 (a0 a1 a2 a3 a4 a5 a6 a7 a8 a9 a10 a11 a12 a13 a14 a15 : Nat) (h0 : a0 < 9223372036854775808) (h1 : a1 < 9223372036854775808) (h2 : a2 < 9223372036854775808) (h3 : a3 < 9223372036854775808) (h4 : a4 < 9223372036854775808) (h5 : a5 < 9223372036854775808) (h6 : a6 < 9223372036854775808) (h7 : a7 < 9223372036854775808) (h8 : a8 < 9223372036854775808) (h9 : a9 < 9223372036854775808) (h10 : a10 < 9223372036854775808) (h11 : a11 < 9223372036854775808) (h12 : a12 < 9223372036854775808) (h13 : a13 < 9223372036854775808) (h14 : a14 < 9223372036854775808) (h15 : a15 < 9223372036854775808) (w : World) : (Op.equalIn 10000 38 (.agg #[.int .i64 (a0 : Int), .int .i64 (a1 : Int), .int .i64 (a2 : Int), .int .i64 (a3 : Int), .int .i64 (a4 : Int), .int .i64 (a5 : Int), .int .i64 (a6 : Int), .int .i64 (a7 : Int), .int .i64 (a8 : Int), .int .i64 (a9 : Int), .int .i64 (a10 : Int), .int .i64 (a11 : Int), .int .i64 (a12 : Int), .int .i64 (a13 : Int), .int .i64 (a14 : Int), .int .i64 (a15 : Int)]) (.agg #[.int .i64 (a0 : Int), .int .i64 (a1 : Int), .int .i64 (a2 : Int), .int .i64 (a3 : Int), .int .i64 (a4 : Int), .int .i64 (a5 : Int), .int .i64 (a6 : Int), .int .i64 (a7 : Int), .int .i64 (a8 : Int), .int .i64 (a9 : Int), .int .i64 (a10 : Int), .int .i64 (a11 : Int), .int .i64 (a12 : Int), .int .i64 (a13 : Int), .int .i64 (a14 : Int), .int .i64 (a15 : Int)])).run Tryd.prog w = .ok true w := by
  obtain ⟨r, q1, q2⟩ := run_equalIn_deep (P := Tryd.prog) 9990 10 38 (by kernel_rfl) w 10 10 (.agg #[.int .i64 (a0 : Int), .int .i64 (a1 : Int), .int .i64 (a2 : Int), .int .i64 (a3 : Int), .int .i64 (a4 : Int), .int .i64 (a5 : Int), .int .i64 (a6 : Int), .int .i64 (a7 : Int), .int .i64 (a8 : Int), .int .i64 (a9 : Int), .int .i64 (a10 : Int), .int .i64 (a11 : Int), .int .i64 (a12 : Int), .int .i64 (a13 : Int), .int .i64 (a14 : Int), .int .i64 (a15 : Int)]) (.agg #[.int .i64 (a0 : Int), .int .i64 (a1 : Int), .int .i64 (a2 : Int), .int .i64 (a3 : Int), .int .i64 (a4 : Int), .int .i64 (a5 : Int), .int .i64 (a6 : Int), .int .i64 (a7 : Int), .int .i64 (a8 : Int), .int .i64 (a9 : Int), .int .i64 (a10 : Int), .int .i64 (a11 : Int), .int .i64 (a12 : Int), .int .i64 (a13 : Int), .int .i64 (a14 : Int), .int .i64 (a15 : Int)]) _ _ (by kernel_rfl) (by kernel_rfl) (key_i16 8 a0 a1 a2 a3 a4 a5 a6 a7 a8 a9 a10 a11 a12 a13 a14 a15 h0 h1 h2 h3 h4 h5 h6 h7 h8 h9 h10 h11 h12 h13 h14 h15) (key_i16 8 a0 a1 a2 a3 a4 a5 a6 a7 a8 a9 a10 a11 a12 a13 a14 a15 h0 h1 h2 h3 h4 h5 h6 h7 h8 h9 h10 h11 h12 h13 h14 h15)
  have hr : r = true := q2.2 rfl
  subst hr
  rw [show (10000 : Nat) = 9990 + 10 from rfl, q1]
theorem insame_i16 (L : List Nat) (hl : L.length = 16) (hw : ∀ x ∈ L, x < 9223372036854775808) (w : World) : (Op.equalIn 10000 38 (.agg (iq L)) (.agg (iq L))).run Tryd.prog w = .ok true w := by
  match L, hl, hw with
  | [a0, a1, a2, a3, a4, a5, a6, a7, a8, a9, a10, a11, a12, a13, a14, a15], _, hw =>
    exact in_i16 a0 a1 a2 a3 a4 a5 a6 a7 a8 a9 a10 a11 a12 a13 a14 a15 (hw a0 (by simp)) (hw a1 (by simp)) (hw a2 (by simp)) (hw a3 (by simp)) (hw a4 (by simp)) (hw a5 (by simp)) (hw a6 (by simp)) (hw a7 (by simp)) (hw a8 (by simp)) (hw a9 (by simp)) (hw a10 (by simp)) (hw a11 (by simp)) (hw a12 (by simp)) (hw a13 (by simp)) (hw a14 (by simp)) (hw a15 (by simp)) w
theorem neq_q4 (a0 a1 a2 a3 : Nat) (h0 : a0 < 18446744073709551616) (h1 : a1 < 18446744073709551616) (h2 : a2 < 18446744073709551616) (h3 : a3 < 18446744073709551616) (w : World) : (binOp .neq 36 (.agg #[.int .u64 (a0 : Int), .int .u64 (a1 : Int), .int .u64 (a2 : Int), .int .u64 (a3 : Int)]) (.agg #[.int .u64 (a0 : Int), .int .u64 (a1 : Int), .int .u64 (a2 : Int), .int .u64 (a3 : Int)])).run Tryd.prog w = .ok (.bool false) w := by
  rw [run_neq_struct, in_q4 a0 a1 a2 a3 h0 h1 h2 h3]; rfl
theorem nesame_q4 (L : List Nat) (hl : L.length = 4) (hw : ∀ x ∈ L, x < 18446744073709551616) (w : World) : (binOp .neq 36 (.agg (wq L)) (.agg (wq L))).run Tryd.prog w = .ok (.bool false) w := by
  rw [run_neq_struct, insame_q4 L hl hw]; rfl
theorem neq_i16 (a0 a1 a2 a3 a4 a5 a6 a7 a8 a9 a10 a11 a12 a13 a14 a15 : Nat) (h0 : a0 < 9223372036854775808) (h1 : a1 < 9223372036854775808) (h2 : a2 < 9223372036854775808) (h3 : a3 < 9223372036854775808) (h4 : a4 < 9223372036854775808) (h5 : a5 < 9223372036854775808) (h6 : a6 < 9223372036854775808) (h7 : a7 < 9223372036854775808) (h8 : a8 < 9223372036854775808) (h9 : a9 < 9223372036854775808) (h10 : a10 < 9223372036854775808) (h11 : a11 < 9223372036854775808) (h12 : a12 < 9223372036854775808) (h13 : a13 < 9223372036854775808) (h14 : a14 < 9223372036854775808) (h15 : a15 < 9223372036854775808) (w : World) : (binOp .neq 38 (.agg #[.int .i64 (a0 : Int), .int .i64 (a1 : Int), .int .i64 (a2 : Int), .int .i64 (a3 : Int), .int .i64 (a4 : Int), .int .i64 (a5 : Int), .int .i64 (a6 : Int), .int .i64 (a7 : Int), .int .i64 (a8 : Int), .int .i64 (a9 : Int), .int .i64 (a10 : Int), .int .i64 (a11 : Int), .int .i64 (a12 : Int), .int .i64 (a13 : Int), .int .i64 (a14 : Int), .int .i64 (a15 : Int)]) (.agg #[.int .i64 (a0 : Int), .int .i64 (a1 : Int), .int .i64 (a2 : Int), .int .i64 (a3 : Int), .int .i64 (a4 : Int), .int .i64 (a5 : Int), .int .i64 (a6 : Int), .int .i64 (a7 : Int), .int .i64 (a8 : Int), .int .i64 (a9 : Int), .int .i64 (a10 : Int), .int .i64 (a11 : Int), .int .i64 (a12 : Int), .int .i64 (a13 : Int), .int .i64 (a14 : Int), .int .i64 (a15 : Int)])).run Tryd.prog w = .ok (.bool false) w := by
  rw [run_neq_struct, in_i16 a0 a1 a2 a3 a4 a5 a6 a7 a8 a9 a10 a11 a12 a13 a14 a15 h0 h1 h2 h3 h4 h5 h6 h7 h8 h9 h10 h11 h12 h13 h14 h15]; rfl
theorem nesame_i16 (L : List Nat) (hl : L.length = 16) (hw : ∀ x ∈ L, x < 9223372036854775808) (w : World) : (binOp .neq 38 (.agg (iq L)) (.agg (iq L))).run Tryd.prog w = .ok (.bool false) w := by
  rw [run_neq_struct, insame_i16 L hl hw]; rfl
end Go.Proofs.YtfdoikdfhjjohaaDoor

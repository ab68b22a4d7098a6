/- Two steps that are the same; chapter 13's example by the calls' contracts. No condition but those typed. -/
import Derived.Test.YticjndlgjbbemaaEqSame
import Derived.Laws.StructEq
import Derived.DeepKeys
namespace Go.Proofs.Yticjndlgjbbemaa
set_option maxRecDepth 50000
open Go.RowKit

theorem trace_reads (a b : ByteArray) (ha : a.size ≤ 17592186044416) (w : World) :
    Calls Try.prog 7 #[.string a, .string b] w fun e w' => ∃ A c, e = .returned (.tuple #[.bool (eqB a b), .slice A (cnt a b) c]) ∧ Reads w' w'.heap.size A (stp (cnt a b)) ∧ Below w.heap.size w w' :=
  (trace_any a b ha w).mono fun e w' ⟨v, h1, h2, h3⟩ => by
    obtain ⟨A, c, rfl, _⟩ := own_form h2
    exact ⟨A, c, h1, Reads.of_own h2, h3⟩

theorem wf_step (i : Nat) (h : i ≤ 140737488351232) : (Lit.int .i64 (i : Int)).wf = true := by
  have e1 : IntKind.i64.min = -9223372036854775808 := rfl
  have e2 : IntKind.i64.max = 9223372036854775807 := rfl
  simp [Lit.wf, e1, e2]
  omega
theorem k_int (d i : Nat) (h : i ≤ 140737488351232) : Try.prog.keyLits (d + 1) 3 [.int .i64 (i : Int)] = some [.int .i64 (i : Int)] := by
  unfold Program.keyLits
  simp only [Try.underlying3]
  simp [wf_step i h]
theorem key_step (d i : Nat) (h : i ≤ 140737488351232) : Try.prog.keyLits (d + 2) 28 [.int .i64 (i : Int)] = some [.int .i64 (i : Int)] := by
  have k := k_int d i h
  unfold Program.keyLits
  simp only [Try.underlying28]
  have c1 : Try.prog.cellsOf 28 = 1 := by kernel_rfl
  have c2 : Try.prog.cellsOf 3 = 1 := by kernel_rfl
  simp [c1, c2, k]
theorem nestep (i : Nat) (h : i ≤ 140737488351232) (w : World) : (binOp .neq 28 (.agg #[.int .i64 (i : Int)]) (.agg #[.int .i64 (i : Int)])).run Try.prog w = .ok (.bool false) w := by
  obtain ⟨r, q1, q2⟩ := run_equalIn_deep (P := Try.prog) 9990 10 28 (by kernel_rfl) w 10 10 (.agg #[.int .i64 (i : Int)]) (.agg #[.int .i64 (i : Int)]) _ _ (by kernel_rfl) (by kernel_rfl) (key_step 8 i h) (key_step 8 i h)
  have hr : r = true := q2.2 rfl
  subst hr
  rw [run_neq_struct, show (10000 : Nat) = 9990 + 10 from rfl, q1]
  rfl
theorem neq_run (w : World) (xs ys : Array Value) (ev : Operand → Value) (x y : Operand) {t ty : TypeId} {o : Oper} (hop : o.op = .binOp .neq t x y ty) (hx : ev x = .agg xs) (hy : ev y = .agg ys) (hm : Try.prog.eqGuardType Try.prog.depth t = false) (hr : (binOp .neq t (.agg xs) (.agg ys)).run Try.prog w = .ok (.bool false) w) : (execOp ev o).run Try.prog w = .ok (.value (.bool false)) w := by
  have hg := run_eqGuard_agg (P := Try.prog) w .neq t x y xs ys hm
  simp only [execOp, hop, hx, hy, Sem.run_bind, hg, Result.andThen_ok, hr, Sem.run_pure]
theorem wpList_value_want {P : Program} {ops : Array Oper} {rest : List Oper} {o : Oper} {a : Act} {w w' : World} {Q : Exit → Act → World → Prop} (hw : Region.wanted o (yielded ops a.tmps) = true) (v : Value) (hr : (execOp a.eval o).run P w = .ok (.value v) w') (h : wpList P ops Q rest (a.put o.dst v) w') : wpList P ops Q (o :: rest) a w := wpList_step fun K hK => by
  rw [if_pos hw]
  unfold Oper.wp
  rw [hr]
  exact hK _ _ h
theorem g_step : Try.prog.eqGuardType Try.prog.depth 28 = false := by kernel_rfl

theorem awake_any (w : World) : Calls Try.prog 6 #[] w fun e w' => e = .returned (.bool true) ∧ Below w.heap.size w w' := by
  have C1 : Hid (∀ w, Calls Try.prog 7 #[.string ⟨#[97, 98]⟩, .string ⟨#[97, 99]⟩] w fun e w' => ∃ A c, e = .returned (.tuple #[.bool false, .slice A 2 c]) ∧ Reads w' w'.heap.size A (stp 2) ∧ Below w.heap.size w w') := Lib.hid fun w => by
    have h := trace_reads ⟨#[97, 98]⟩ ⟨#[97, 99]⟩ (by decide) w
    rw [show eqB ⟨#[97, 98]⟩ ⟨#[97, 99]⟩ = false from rfl, show cnt ⟨#[97, 98]⟩ ⟨#[97, 99]⟩ = 2 from rfl] at h
    exact h
  have C2 : Hid (∀ w, Calls Try.prog 7 #[.string ⟨#[97]⟩, .string ⟨#[97, 98]⟩] w fun e w' => ∃ A c, e = .returned (.tuple #[.bool false, .slice A 0 c]) ∧ Below w.heap.size w w') := Lib.hid fun w => by
    have h := trace_reads ⟨#[97]⟩ ⟨#[97, 98]⟩ (by decide) w
    rw [show eqB ⟨#[97]⟩ ⟨#[97, 98]⟩ = false from rfl, show cnt ⟨#[97]⟩ ⟨#[97, 98]⟩ = 0 from rfl] at h
    exact h.mono fun e w' ⟨A, c, h1, _, h3⟩ => ⟨A, c, h1, h3⟩
  have C3 : Hid (∀ w, Calls Try.prog 9 #[.string ⟨#[97]⟩, .string ⟨#[97]⟩] w fun e w' => e = .returned (.bool true) ∧ Below w.heap.size w w') := Lib.hid fun w => by
    have h := esame_any ⟨#[97]⟩ ⟨#[97]⟩ (by decide) w
    rw [eqB_self] at h
    exact h
  go_enter Try.func6, Try.ntmps6
  go_wp2_with fail
  refine (C1.out _).mono ?_
  rintro e w1 ⟨A, c, rfl, hr1, hb1⟩
  have B1 := Lib.hid hb1
  have R1 := Lib.hid hr1
  clear hb1 hr1
  go_wp2_with fail
  refine (C2.out _).mono ?_
  rintro e w2 ⟨A2, c2, rfl, hb2⟩
  have B2 := Lib.hid (below_step B1.out hb2)
  obtain ⟨b, off, rfl, hbB, hcell⟩ := (R1.out.below hb2) 1 (by rw [stp_length]; decide)
  rw [stp_at] at hcell
  clear hb2 R1
  go_wp2_with fail
  refine (C3.out _).mono ?_
  rintro e w3 ⟨rfl, hb3⟩
  have B3 := Lib.hid (below_step B2.out hb3)
  clear hb3 hcell
  go_wp2
  go_ret
  exact ⟨rfl, B3.out⟩
end Go.Proofs.Yticjndlgjbbemaa

/- New of package grid, the document's Few, and a grid with an arena of its own, by their contracts. Conditions: those typed. -/
import Derived.Test.YtpampgkhjcfeaaaDoorGdStore
namespace Go.Proofs.YtpampgkhjcfeaaaDoor
set_option maxRecDepth 50000
open Go.RowKit Bb

theorem key_wf (i : Nat) (h : i ≤ 140737488351232) : (Lit.int .i64 (i : Int)).wf = true := by
  have e1 : IntKind.i64.min = -9223372036854775808 := rfl
  have e2 : IntKind.i64.max = 9223372036854775807 := rfl
  simp [Lit.wf, e1, e2]
  omega
theorem key_int (d i : Nat) (h : i ≤ 140737488351232) : Tryd.prog.keyLits (d + 1) 3 [.int .i64 (i : Int)] = some [.int .i64 (i : Int)] := by
  unfold Program.keyLits
  simp only [Tryd.underlying3]
  simp [key_wf i h]
theorem key_sp (d : Nat) {a t l m b c g z : Nat} (h : ∀ x ∈ [a, t, l, m, b, c, g, z], x ≤ 140737488351232) : Tryd.prog.keyLits (d + 2) 47 (spc a t l m b c g z).toList = some [.int .i64 (a : Int), .int .i64 (t : Int), .int .i64 (l : Int), .int .i64 (m : Int), .int .i64 (b : Int), .int .i64 (c : Int), .int .i64 (g : Int), .int .i64 (z : Int)] := by
  have k1 := key_int d a (h a (by simp))
  have k2 := key_int d t (h t (by simp))
  have k3 := key_int d l (h l (by simp))
  have k4 := key_int d m (h m (by simp))
  have k5 := key_int d b (h b (by simp))
  have k6 := key_int d c (h c (by simp))
  have k7 := key_int d g (h g (by simp))
  have k8 := key_int d z (h z (by simp))
  unfold Program.keyLits
  simp only [Tryd.underlying47]
  have c1 : Tryd.prog.cellsOf 47 = 8 := by kernel_rfl
  have c2 : Tryd.prog.cellsOf 3 = 1 := by kernel_rfl
  simp [c1, c2, k1, k2, k3, k4, k5, k6, k7, k8]
theorem sp_is (a t l m b c g z : Nat) (h : ∀ x ∈ [a, t, l, m, b, c, g, z], x ≤ 140737488351232) (k : Bool) (hk : decide (a = 0 ∧ t = 0 ∧ l = 0 ∧ m = 0 ∧ b = 0 ∧ c = 0 ∧ g = 0 ∧ z = 0) = k) (w : World) : (binOp .eql 47 (spv a t l m b c g z) spz).run Tryd.prog w = .ok (.bool k) w := by
  have k2 := key_sp 8 (a := 0) (t := 0) (l := 0) (m := 0) (b := 0) (c := 0) (g := 0) (z := 0) (by simp)
  obtain ⟨r, q1, q2⟩ := run_equalIn_deep (P := Tryd.prog) 9990 10 47 (by kernel_rfl) w 10 10 (spv a t l m b c g z) spz _ _ (by kernel_rfl) (by kernel_rfl) (key_sp 8 h) k2
  rw [run_eql_struct, q1]
  have : r = k := by
    rw [← hk]
    cases r with
    | true =>
      have e := q2.1 rfl
      simp at e
      rw [eq_comm, decide_eq_true_iff]
      omega
    | false =>
      rw [eq_comm, decide_eq_false_iff_not]
      intro e
      obtain ⟨rfl, rfl, rfl, rfl, rfl, rfl, rfl, rfl⟩ := e
      have := q2.2 rfl
      simp at this
  rw [this]
  rfl
theorem g_sp : Tryd.prog.eqGuardType Tryd.prog.depth 47 = false := by kernel_rfl
theorem cmp_run (w : World) {xs ys : Array Value} {k : Bool} {c : BinOp} (ev : Operand → Value) (x y : Operand) {t ty : TypeId} {o : Oper} (hop : o.op = .binOp c t x y ty) (hx : ev x = .agg xs) (hy : ev y = .agg ys) (hm : Tryd.prog.eqGuardType Tryd.prog.depth t = false) (hr : (binOp c t (.agg xs) (.agg ys)).run Tryd.prog w = .ok (.bool k) w) : (execOp ev o).run Tryd.prog w = .ok (.value (.bool k)) w := by
  have hg := run_eqGuard_agg (P := Tryd.prog) w c t x y xs ys hm
  simp only [execOp, hop, hx, hy, Sem.run_bind, hg, Result.andThen_ok, hr, Sem.run_pure]
theorem spz_build (w : World) : (Instr.build 47 #[]).run Tryd.prog w = .ok spz w := run_build w _ _ _ (by kernel_rfl)
theorem spz_run {w : World} {ev : Operand → Value} {o : Oper} (hop : o.op = .build 47 #[]) : (execOp ev o).run Tryd.prog w = .ok (.value spz) w := by
  simp only [execOp, hop, List.map_toArray, List.map_nil, Sem.run_bind, spz_build, Result.andThen_ok, Sem.run_pure]
theorem gr_build (w : World) (p a t l m b c g z : Nat) : (Instr.build 49 #[(0, .pointer (some ⟨p, 0, none⟩)), (1, spv a t l m b c g z)]).run Tryd.prog w = .ok (.agg (grc p a t l m b c g z)) w := by
  have h : ∀ (P : Option Addr) (a t l m b c g z : Int), Tryd.prog.built 49 [(0, .pointer P), (1, .agg #[.int .i64 a, .int .i64 t, .int .i64 l, .int .i64 m, .int .i64 b, .int .i64 c, .int .i64 g, .int .i64 z])] = some (#[.pointer P, .int .i64 a, .int .i64 t, .int .i64 l, .int .i64 m, .int .i64 b, .int .i64 c, .int .i64 g, .int .i64 z]) := fun P a t l m b c g z => by kernel_rfl
  exact run_build w _ _ _ (h ..)
theorem gr_run {w : World} {ev : Operand → Value} {o : Oper} {x0 x1 : Operand} {p a t l m b c g z : Nat} (hop : o.op = .build 49 #[(0, x0), (1, x1)]) (h0 : ev x0 = .pointer (some ⟨p, 0, none⟩)) (h1 : ev x1 = spv a t l m b c g z) : (execOp ev o).run Tryd.prog w = .ok (.value (.agg (grc p a t l m b c g z))) w := by
  simp only [execOp, hop, List.map_toArray, List.map_cons, List.map_nil, h0, h1, Sem.run_bind, gr_build, Result.andThen_ok, Sem.run_pure]

/-- there is no shape -/
theorem gnew_none (p : Nat) (w : World) : Calls Tryd.prog 21 #[.pointer (some ⟨p, 0, none⟩), spz] w fun e w' => e = .returned (.tuple #[.pointer none, .int .i64 11]) ∧ Below w.heap.size w w' := by
  have HS := Lib.hid (RowAt.new w 47 spzc)
  have HB := Lib.hid (one_box w (.cells spzc 47))
  have HE := Lib.hid fun w => sp_is 0 0 0 0 0 0 0 0 (by simp) true rfl w
  go_enter Tryd.func21, Tryd.ntmps21
  go_wp2_with (first
    | refine wpList_load_want rfl 47 _ rfl _ _ rfl (sp_load (a := 0) (t := 0) (l := 0) (m := 0) (b := 0) (c := 0) (g := 0) (z := 0) HS.out) ?_
    | refine wpList_value_want rfl _ (spz_run rfl) ?_
    | refine wpList_value_want rfl _ (cmp_run _ _ _ _ rfl rfl rfl g_sp (HE.out _)) ?_)
  exact bodyPost_ret (results_tmp2 rfl _ _ _) rfl ⟨rfl, HB.out⟩
section
variable {w : World} {p h n a t l m b c g z : Nat} {v : Value} {live : Bool}
/-- the piece has too few blocks, or as many as there must be -/
theorem gnew_at (hP : PceAt w p h n live v) (hN : ∀ x ∈ [a, t, l, m, b, c, g, z], x ≤ 140737488351232) (hb : 1 ≤ b) (k : Bool) (hk : decide ((n : Int) < (b : Int)) = k) : Calls Tryd.prog 21 #[.pointer (some ⟨p, 0, none⟩), spv a t l m b c g z] w fun e w' => (if k then e = .returned (.tuple #[.pointer none, .int .i64 9]) else ∃ q, e = .returned (.tuple #[.pointer (some ⟨q, 0, none⟩), .int .i64 0]) ∧ w.heap.size ≤ q ∧ GrRow w' q p a t l m b c g z) ∧ Below w.heap.size w w' := by
  have HS := Lib.hid (RowAt.new w 47 (spc a t l m b c g z))
  have HB := Lib.hid (one_box w (.cells (spc a t l m b c g z) 47))
  have HP := Lib.hid (RowAt.alloc hP (.cells (spc a t l m b c g z) 47))
  have HE := Lib.hid fun w => sp_is a t l m b c g z hN false (decide_eq_false (by omega)) w
  have hbb : b ≤ 140737488351232 := hN b (by simp)
  have CL := Lib.hid (fun w' (hb : Below (w.alloc (.cells (spc a t l m b c g z) 47)).heap.size (w.alloc (.cells (spc a t l m b c g z) 47)) w') => len_any (RowAt.step HP.out hb))
  have HK : Hid (decide (n < b) = k) := Lib.hid (by rw [← hk]; congr 1; simp)
  clear hP hN hk
  go_enter Tryd.func21, Tryd.ntmps21
  go_wp2_with (first
    | refine wpList_load_want rfl 47 _ rfl _ _ rfl (sp_load HS.out) ?_
    | refine wpList_value_want rfl _ (spz_run rfl) ?_
    | refine wpList_value_want rfl _ (cmp_run _ _ _ _ rfl rfl rfl g_sp (HE.out _)) ?_)
  refine wp_region_text [Is (.pointer (some ⟨p, 0, none⟩)), Is (.int .i64 (n : Int)), Is (.pointer (some ⟨w.heap.size, 0 + 4, none⟩)), Is (.int .i64 (b : Int)), Is (.bool k), Is (.bool k)] (by kernel_rfl) (by kernel_rfl) rfl ⟨stable_is _, stable_is _, stable_is _, stable_is _, stable_is _, stable_is _, trivial⟩ ⟨?_, ?_, ?_, ?_, ?_, ?_, trivial⟩ ?_
  · intro a w C
    exact part_on (wanted_free rfl _) (op_move (.inl rfl) (C.was 0 (by kernel_rfl)))
  · intro a w C
    exact part_on (wanted_free rfl _) (op_call1 rfl (reg_enters Tryd.func39 (by kernel_rfl) (by kernel_rfl)) (C.on (j := 0) (by kernel_rfl) rfl rfl) (calls_same (Calls.mono (CL.out _ C.below) fun e w2 h => ⟨h.1, h.2.symm⟩)))
  · intro a w C
    exact part_on (wanted_free rfl _) (op_value (spf_all (k := 4) rfl (by decide) (C.was 3 (by kernel_rfl))) rfl)
  · intro a w C
    exact part_on (wanted_free rfl _) (op_value (int_run rfl (C.on (j := 2) (by kernel_rfl) rfl rfl) ((RowAt.step HS.out C.below).cell 4)) rfl)
  · intro a w C
    exact part_on (wanted_free rfl _) (op_bin rfl (C.on (j := 1) (by kernel_rfl) rfl rfl) (C.on (j := 3) (by kernel_rfl) rfl rfl) rfl (by simp [go_sem, HK.out]) rfl)
  · intro a w C
    exact part_on (wanted_free rfl _) (op_move (.inr rfl) (C.on (j := 4) (by kernel_rfl) rfl rfl))
  rintro wF hbF _ rfl _ rfl _ rfl _ rfl _ rfl _ rfl
  simp only [Fin, setAt, Exit.then, List.setIfInBounds_toArray, List.set_cons_succ, List.set_cons_zero]
  have HS2 := Lib.hid (RowAt.step HS.out hbF)
  have HB2 := Lib.hid (below_step HB.out hbF)
  clear hbF HS HB HP CL HE
  cases k with
  | true =>
    go_wp2
    exact bodyPost_ret (results_tmp2 rfl _ _ _) rfl ⟨rfl, HB2.out⟩
  | false =>
    go_wp2_with (first
      | refine wpList_load_want rfl 47 _ rfl _ _ rfl (sp_load HS2.out) ?_
      | refine wpList_value_want rfl _ (gr_run rfl rfl rfl) ?_)
    refine bodyPost_ret (results_tmp2 rfl _ _ _) rfl ⟨?_, HB2.out.alloc HB2.out.size _⟩
    exact ⟨wF.heap.size, rfl, HB2.out.size, RowAt.new wF _ _⟩
end

/-- few enough -/
def fewB (t l b : Nat) : Bool := decide (t ≤ 3) && (decide (l ≤ 4) && decide (b ≤ 80))
theorem few_any (a t l m b c g z : Nat) (w : World) : Calls Tryd.prog 30 #[spv a t l m b c g z] w fun e w' => e = .returned (.bool (fewB t l b)) ∧ Below w.heap.size w w' := by
  have HB := Lib.hid (one_box w (.cells (spc a t l m b c g z) 45))
  obtain ⟨r, hr⟩ : ∃ r, r = fewB t l b := ⟨_, rfl⟩
  rw [← hr]
  have e1 : decide ((t : Int) ≤ 3) = decide (t ≤ 3) := by congr 1; simp; omega
  have e2 : decide ((l : Int) ≤ 4) = decide (l ≤ 4) := by congr 1; simp; omega
  have e3 : decide ((b : Int) ≤ 80) = decide (b ≤ 80) := by congr 1; simp; omega
  unfold fewB at hr
  cases k1 : decide (t ≤ 3) <;> cases k2 : decide (l ≤ 4) <;> cases k3 : decide (b ≤ 80)
  all_goals
    rw [k1] at e1 hr
    rw [k2] at e2 hr
    rw [k3] at e3 hr
    simp only [Bool.and_true, Bool.and_false] at hr
    subst hr
    clear k1 k2 k3
    go_enter Tryd.func30, Tryd.ntmps30
    go_wp2
    go_ret
    exact ⟨rfl, HB.out⟩
end Go.Proofs.YtpampgkhjcfeaaaDoor

/- New of package grid, the document's Few, and a grid with an arena of its own, by their contracts. Conditions: those typed. A grid of parameters with an arena of its own, and the chapter's example, by their contracts. Conditions: those typed. The document's grid: rows of blocks, by lanes and columns, as they lie in memory, told by one list of blocks; an empty one. Conditions: those typed. The document's empty grid by its contract. Conditions: those typed. All of a grid as the law lays it: the document's grid of the same blocks. Conditions: those typed. The document's Same, of two grids of the same blocks, by its contract. Conditions: those typed. What a grid that is none answers; the ways in which the law's grid is made; a block that begins with a word. Conditions: those typed. -/
import Derived.Test.YtfoodaobiknihaaDoorGd
import Derived.OwnWalk
import Derived.Test.YtfoodaobiknihaaDoorSp
namespace Go.Proofs.YtfoodaobiknihaaDoor
set_option maxRecDepth 50000
open Go.RowKit Bb

theorem b_cells : Tryd.prog.cellsOf 91 = 128 := by kernel_rfl
theorem b_u64 : Tryd.prog.cellsOf 89 = 1 := by kernel_rfl
theorem wfb_u64 (a : Nat) (h : a < 18446744073709551616) : (Lit.int .u64 (a : Int)).wf = true := by
  have e1 : IntKind.u64.min = 0 := rfl
  have e2 : IntKind.u64.max = 18446744073709551615 := rfl
  simp [Lit.wf, e1, e2]
  omega
theorem kb_u64 (d a : Nat) (h : a < 18446744073709551616) : Tryd.prog.keyLits (d + 1) 89 [.int .u64 (a : Int)] = some [.int .u64 (a : Int)] := by
  unfold Program.keyLits
  simp only [Tryd.underlying89]
  simp [wfb_u64 a h]
theorem mapM_some {α β : Type} (f : α → Option β) (g : α → β) : ∀ l : List α, (∀ x ∈ l, f x = some (g x)) → l.mapM f = some (l.map g)
  | [], _ => rfl
  | x :: l, h => by
    rw [List.mapM_cons, h x (by simp), mapM_some f g l fun y hy => h y (by simp [hy])]; rfl
def litsB (L : List Nat) : List Lit := L.map fun x : Nat => Lit.int .u64 (x : Int)
theorem litsB_inj : ∀ {a b : List Nat}, litsB a = litsB b → a = b
  | [], [], _ => rfl
  | [], _ :: _, h => by simp [litsB] at h
  | _ :: _, [], h => by simp [litsB] at h
  | x :: a, y :: b, h => by
    simp only [litsB, List.map_cons, List.cons.injEq, Lit.int.injEq, true_and] at h
    rw [litsB_inj (a := a) (b := b) h.2]
    have := h.1
    congr 1
    omega
theorem flat_one {α β : Type} (f : α → β) : ∀ l : List α, (l.map fun x => [f x]).flatten = l.map f
  | [] => rfl
  | x :: l => by rw [List.map_cons, List.flatten_cons, flat_one f l]; rfl
theorem key_b (d : Nat) {L : List Nat} (h : okb L) : Tryd.prog.keyLits (d + 2) 91 (wq L).toList = some (litsB L) := by
  have hl : (wq L).toList.length = 128 := by rw [Array.length_toList, wq_size]; exact h.1
  have E : (List.range 128).mapM (fun i => Tryd.prog.keyLits (d + 1) 89 (((wq L).toList.drop (i * 1)).take 1)) = some ((List.range 128).map fun i => [Lit.int .u64 (L.getD i 0 : Nat)]) := by
    refine mapM_some _ _ _ fun i hi => ?_
    have hi := List.mem_range.1 hi
    have e : ((wq L).toList.drop (i * 1)).take 1 = [.int .u64 ((L.getD i 0 : Nat) : Int)] := by
      rw [Nat.mul_one, List.drop_eq_getElem_cons (by omega), List.take_succ_cons, List.take_zero]
      congr 1
      have := wq_at L i (by rw [h.1]; exact hi)
      rw [← Array.getElem?_toList, List.getElem?_eq_getElem (by omega)] at this
      exact Option.some.inj this
    rw [e, kb_u64 d _ (ok_at h i)]
  unfold Program.keyLits
  simp only [Tryd.underlying91, b_cells, b_u64, hl, if_true, E, Option.map_some]
  congr 1
  have e2 : (List.range 128).map (fun i => [Lit.int .u64 (L.getD i 0 : Nat)]) = (tb fun k => L.getD k 0).map fun x : Nat => [Lit.int .u64 (x : Int)] := by
    simp [tb, Function.comp_def]
  rw [e2, tb_self L h.1]
  exact flat_one _ L
theorem in_b {a b : List Nat} (ha : okb a) (hb : okb b) (w : World) : (Op.equalIn 10000 91 (.agg (wq a)) (.agg (wq b))).run Tryd.prog w = .ok (decide (a = b)) w := by
  obtain ⟨r, q1, q2⟩ := run_equalIn_deep (P := Tryd.prog) 9990 10 91 (by kernel_rfl) w 10 10 (.agg (wq a)) (.agg (wq b)) _ _ (by simp [Value.formed, Tryd.underlying91, wq_size, ha.1, b_cells]) (by simp [Value.formed, Tryd.underlying91, wq_size, hb.1, b_cells]) (key_b 8 ha) (key_b 8 hb)
  have hr : r = decide (a = b) := by
    cases r with
    | true => exact (decide_eq_true (litsB_inj (q2.1 rfl))).symm
    | false => exact (decide_eq_false fun e => by subst e; cases q2.2 rfl).symm
  subst hr
  rw [show (10000 : Nat) = 9990 + 10 from rfl, q1]
theorem neq_b {a b : List Nat} (ha : okb a) (hb : okb b) (w : World) : (binOp .neq 91 (.agg (wq a)) (.agg (wq b))).run Tryd.prog w = .ok (.bool (!decide (a = b))) w := by
  rw [run_neq_struct, in_b ha hb w]; rfl
theorem g_b : Tryd.prog.eqGuardType Tryd.prog.depth 91 = false := by kernel_rfl
theorem bneq_run (w : World) {xs ys : List Nat} (hxs : okb xs) (hys : okb ys) {k : Bool} (hk : decide (xs = ys) = !k) (ev : Operand → Value) (x y : Operand) {ty : TypeId} {o : Oper} (hop : o.op = .binOp .neq 91 x y ty) (hx : ev x = .agg (wq xs)) (hy : ev y = .agg (wq ys)) : (execOp ev o).run Tryd.prog w = .ok (.value (.bool k)) w := by
  have hg := run_eqGuard_agg (P := Tryd.prog) w .neq 91 x y (wq xs) (wq ys) g_b
  simp only [execOp, hop, hx, hy, Sem.run_bind, hg, Result.andThen_ok, neq_b hxs hys, Sem.run_pure, hk, Bool.not_not]


theorem key_wf (i : Nat) (h : i ≤ 140737488351232) : (Lit.int .i64 (i : Int)).wf = true := by
  have e1 : IntKind.i64.min = -9223372036854775808 := rfl
  have e2 : IntKind.i64.max = 9223372036854775807 := rfl
  simp [Lit.wf, e1, e2]
  omega
theorem key_int (d i : Nat) (h : i ≤ 140737488351232) : Tryd.prog.keyLits (d + 1) 3 [.int .i64 (i : Int)] = some [.int .i64 (i : Int)] := by
  unfold Program.keyLits
  simp only [Tryd.underlying3]
  simp [key_wf i h]
theorem key_sp (d : Nat) {a t l m b c g z : Nat} (h : ∀ x ∈ [a, t, l, m, b, c, g, z], x ≤ 140737488351232) : Tryd.prog.keyLits (d + 2) 33 (spc a t l m b c g z).toList = some [.int .i64 (a : Int), .int .i64 (t : Int), .int .i64 (l : Int), .int .i64 (m : Int), .int .i64 (b : Int), .int .i64 (c : Int), .int .i64 (g : Int), .int .i64 (z : Int)] := by
  have k1 := key_int d a (h a (by simp))
  have k2 := key_int d t (h t (by simp))
  have k3 := key_int d l (h l (by simp))
  have k4 := key_int d m (h m (by simp))
  have k5 := key_int d b (h b (by simp))
  have k6 := key_int d c (h c (by simp))
  have k7 := key_int d g (h g (by simp))
  have k8 := key_int d z (h z (by simp))
  unfold Program.keyLits
  simp only [Tryd.underlying33]
  have c1 : Tryd.prog.cellsOf 33 = 8 := by kernel_rfl
  have c2 : Tryd.prog.cellsOf 3 = 1 := by kernel_rfl
  simp [c1, c2, k1, k2, k3, k4, k5, k6, k7, k8]
theorem sp_is (a t l m b c g z : Nat) (h : ∀ x ∈ [a, t, l, m, b, c, g, z], x ≤ 140737488351232) (k : Bool) (hk : decide (a = 0 ∧ t = 0 ∧ l = 0 ∧ m = 0 ∧ b = 0 ∧ c = 0 ∧ g = 0 ∧ z = 0) = k) (w : World) : (binOp .eql 33 (spv a t l m b c g z) spz).run Tryd.prog w = .ok (.bool k) w := by
  have k2 := key_sp 8 (a := 0) (t := 0) (l := 0) (m := 0) (b := 0) (c := 0) (g := 0) (z := 0) (by simp)
  obtain ⟨r, q1, q2⟩ := run_equalIn_deep (P := Tryd.prog) 9990 10 33 (by kernel_rfl) w 10 10 (spv a t l m b c g z) spz _ _ (by kernel_rfl) (by kernel_rfl) (key_sp 8 h) k2
  rw [run_eql_struct, q1]
  have : r = k := by
    rw [← hk]
    cases r with
    | true =>
      have e := q2.1 rfl
      simp at e
      rw [eq_comm, decide_eq_true_iff]
      omega
    | false =>
      rw [eq_comm, decide_eq_false_iff_not]
      intro e
      obtain ⟨rfl, rfl, rfl, rfl, rfl, rfl, rfl, rfl⟩ := e
      have := q2.2 rfl
      simp at this
  rw [this]
  rfl
theorem g_sp : Tryd.prog.eqGuardType Tryd.prog.depth 33 = false := by kernel_rfl
theorem cmp_run (w : World) {xs ys : Array Value} {k : Bool} {c : BinOp} (ev : Operand → Value) (x y : Operand) {t ty : TypeId} {o : Oper} (hop : o.op = .binOp c t x y ty) (hx : ev x = .agg xs) (hy : ev y = .agg ys) (hm : Tryd.prog.eqGuardType Tryd.prog.depth t = false) (hr : (binOp c t (.agg xs) (.agg ys)).run Tryd.prog w = .ok (.bool k) w) : (execOp ev o).run Tryd.prog w = .ok (.value (.bool k)) w := by
  have hg := run_eqGuard_agg (P := Tryd.prog) w c t x y xs ys hm
  simp only [execOp, hop, hx, hy, Sem.run_bind, hg, Result.andThen_ok, hr, Sem.run_pure]
theorem spz_build (w : World) : (Instr.build 33 #[]).run Tryd.prog w = .ok spz w := run_build w _ _ _ (by kernel_rfl)
theorem spz_run {w : World} {ev : Operand → Value} {o : Oper} (hop : o.op = .build 33 #[]) : (execOp ev o).run Tryd.prog w = .ok (.value spz) w := by
  simp only [execOp, hop, List.map_toArray, List.map_nil, Sem.run_bind, spz_build, Result.andThen_ok, Sem.run_pure]
theorem gr_build (w : World) (p a t l m b c g z : Nat) : (Instr.build 35 #[(0, .pointer (some ⟨p, 0, none⟩)), (1, spv a t l m b c g z)]).run Tryd.prog w = .ok (.agg (grc p a t l m b c g z)) w := by
  have h : ∀ (P : Option Addr) (a t l m b c g z : Int), Tryd.prog.built 35 [(0, .pointer P), (1, .agg #[.int .i64 a, .int .i64 t, .int .i64 l, .int .i64 m, .int .i64 b, .int .i64 c, .int .i64 g, .int .i64 z])] = some (#[.pointer P, .int .i64 a, .int .i64 t, .int .i64 l, .int .i64 m, .int .i64 b, .int .i64 c, .int .i64 g, .int .i64 z]) := fun P a t l m b c g z => by kernel_rfl
  exact run_build w _ _ _ (h ..)
theorem gr_run {w : World} {ev : Operand → Value} {o : Oper} {x0 x1 : Operand} {p a t l m b c g z : Nat} (hop : o.op = .build 35 #[(0, x0), (1, x1)]) (h0 : ev x0 = .pointer (some ⟨p, 0, none⟩)) (h1 : ev x1 = spv a t l m b c g z) : (execOp ev o).run Tryd.prog w = .ok (.value (.agg (grc p a t l m b c g z))) w := by
  simp only [execOp, hop, List.map_toArray, List.map_cons, List.map_nil, h0, h1, Sem.run_bind, gr_build, Result.andThen_ok, Sem.run_pure]

/-- there is no shape -/
theorem gnew_none (p : Nat) (w : World) : Calls Tryd.prog 16 #[.pointer (some ⟨p, 0, none⟩), spz] w fun e w' => e = .returned (.tuple #[.pointer none, .int .i64 11]) ∧ Below w.heap.size w w' := by
  have HS := Lib.hid (RowAt.new w 33 spzc)
  have HB := Lib.hid (one_box w (.cells spzc 33))
  have HE := Lib.hid fun w => sp_is 0 0 0 0 0 0 0 0 (by simp) true rfl w
  go_enter Tryd.func16, Tryd.ntmps16
  go_wp2_with (first
    | refine wpList_load_want rfl 33 _ rfl _ _ rfl (sp_load (a := 0) (t := 0) (l := 0) (m := 0) (b := 0) (c := 0) (g := 0) (z := 0) HS.out) ?_
    | refine wpList_value_want rfl _ (spz_run rfl) ?_
    | refine wpList_value_want rfl _ (cmp_run _ _ _ _ rfl rfl rfl g_sp (HE.out _)) ?_)
  exact bodyPost_ret (results_tmp2 rfl _ _ _) rfl ⟨rfl, HB.out⟩
section
variable {w : World} {p h n a t l m b c g z : Nat} {v : Value} {live : Bool}
/-- the piece has too few blocks, or as many as there must be -/
theorem gnew_at (hP : PceAt w p h n live v) (hN : ∀ x ∈ [a, t, l, m, b, c, g, z], x ≤ 140737488351232) (hb : 1 ≤ b) (k : Bool) (hk : decide ((n : Int) < (b : Int)) = k) : Calls Tryd.prog 16 #[.pointer (some ⟨p, 0, none⟩), spv a t l m b c g z] w fun e w' => (if k then e = .returned (.tuple #[.pointer none, .int .i64 9]) else ∃ q, e = .returned (.tuple #[.pointer (some ⟨q, 0, none⟩), .int .i64 0]) ∧ w.heap.size ≤ q ∧ GrRow w' q p a t l m b c g z) ∧ Below w.heap.size w w' := by
  have HS := Lib.hid (RowAt.new w 33 (spc a t l m b c g z))
  have HB := Lib.hid (one_box w (.cells (spc a t l m b c g z) 33))
  have HP := Lib.hid (RowAt.alloc hP (.cells (spc a t l m b c g z) 33))
  have HE := Lib.hid fun w => sp_is a t l m b c g z hN false (decide_eq_false (by omega)) w
  have hbb : b ≤ 140737488351232 := hN b (by simp)
  have CL := Lib.hid (fun w' (hb : Below (w.alloc (.cells (spc a t l m b c g z) 33)).heap.size (w.alloc (.cells (spc a t l m b c g z) 33)) w') => len_any (RowAt.step HP.out hb))
  have HK : Hid (decide (n < b) = k) := Lib.hid (by rw [← hk]; congr 1; simp)
  clear hP hN hk
  go_enter Tryd.func16, Tryd.ntmps16
  go_wp2_with (first
    | refine wpList_load_want rfl 33 _ rfl _ _ rfl (sp_load HS.out) ?_
    | refine wpList_value_want rfl _ (spz_run rfl) ?_
    | refine wpList_value_want rfl _ (cmp_run _ _ _ _ rfl rfl rfl g_sp (HE.out _)) ?_)
  refine wp_region_text [Is (.pointer (some ⟨p, 0, none⟩)), Is (.int .i64 (n : Int)), Is (.pointer (some ⟨w.heap.size, 0 + 4, none⟩)), Is (.int .i64 (b : Int)), Is (.bool k), Is (.bool k)] (by kernel_rfl) (by kernel_rfl) rfl ⟨stable_is _, stable_is _, stable_is _, stable_is _, stable_is _, stable_is _, trivial⟩ ⟨?_, ?_, ?_, ?_, ?_, ?_, trivial⟩ ?_
  · intro a w C
    exact part_on (wanted_free rfl _) (op_move (.inl rfl) (C.was 0 (by kernel_rfl)))
  · intro a w C
    exact part_on (wanted_free rfl _) (op_call1 rfl (reg_enters Tryd.func25 (by kernel_rfl) (by kernel_rfl)) (C.on (j := 0) (by kernel_rfl) rfl rfl) (calls_same (Calls.mono (CL.out _ C.below) fun e w2 h => ⟨h.1, h.2.symm⟩)))
  · intro a w C
    exact part_on (wanted_free rfl _) (op_value (spf_all (k := 4) rfl (by decide) (C.was 3 (by kernel_rfl))) rfl)
  · intro a w C
    exact part_on (wanted_free rfl _) (op_value (int_run rfl (C.on (j := 2) (by kernel_rfl) rfl rfl) ((RowAt.step HS.out C.below).cell 4)) rfl)
  · intro a w C
    exact part_on (wanted_free rfl _) (op_bin rfl (C.on (j := 1) (by kernel_rfl) rfl rfl) (C.on (j := 3) (by kernel_rfl) rfl rfl) rfl (by simp [go_sem, HK.out]) rfl)
  · intro a w C
    exact part_on (wanted_free rfl _) (op_move (.inr rfl) (C.on (j := 4) (by kernel_rfl) rfl rfl))
  rintro wF hbF _ rfl _ rfl _ rfl _ rfl _ rfl _ rfl
  simp only [Fin, setAt, Exit.then, List.setIfInBounds_toArray, List.set_cons_succ, List.set_cons_zero]
  have HS2 := Lib.hid (RowAt.step HS.out hbF)
  have HB2 := Lib.hid (below_step HB.out hbF)
  clear hbF HS HB HP CL HE
  cases k with
  | true =>
    go_wp2
    exact bodyPost_ret (results_tmp2 rfl _ _ _) rfl ⟨rfl, HB2.out⟩
  | false =>
    go_wp2_with (first
      | refine wpList_load_want rfl 33 _ rfl _ _ rfl (sp_load HS2.out) ?_
      | refine wpList_value_want rfl _ (gr_run rfl rfl rfl) ?_)
    refine bodyPost_ret (results_tmp2 rfl _ _ _) rfl ⟨?_, HB2.out.alloc HB2.out.size _⟩
    exact ⟨wF.heap.size, rfl, HB2.out.size, RowAt.new wF _ _⟩
end

/-- few enough -/
def fewB (t l b : Nat) : Bool := decide (t ≤ 3) && (decide (l ≤ 4) && decide (b ≤ 80))
theorem few_any (a t l m b c g z : Nat) (w : World) : Calls Tryd.prog 13 #[spv a t l m b c g z] w fun e w' => e = .returned (.bool (fewB t l b)) ∧ Below w.heap.size w w' := by
  have HB := Lib.hid (one_box w (.cells (spc a t l m b c g z) 51))
  obtain ⟨r, hr⟩ : ∃ r, r = fewB t l b := ⟨_, rfl⟩
  rw [← hr]
  have e1 : decide ((t : Int) ≤ 3) = decide (t ≤ 3) := by congr 1; simp; omega
  have e2 : decide ((l : Int) ≤ 4) = decide (l ≤ 4) := by congr 1; simp; omega
  have e3 : decide ((b : Int) ≤ 80) = decide (b ≤ 80) := by congr 1; simp; omega
  unfold fewB at hr
  cases k1 : decide (t ≤ 3) <;> cases k2 : decide (l ≤ 4) <;> cases k3 : decide (b ≤ 80)
  all_goals
    rw [k1] at e1 hr
    rw [k2] at e2 hr
    rw [k3] at e3 hr
    simp only [Bool.and_true, Bool.and_false] at hr
    subst hr
    clear k1 k2 k3
    go_enter Tryd.func13, Tryd.ntmps13
    go_wp2
    go_ret
    exact ⟨rfl, HB.out⟩
end Go.Proofs.YtfoodaobiknihaaDoor

namespace Go.Proofs.YtfoodaobiknihaaDoor
set_option maxRecDepth 50000
open Go.RowKit Bb

theorem LiveAt.kept {w w' : World} {p h G : Nat} {L : List (List Nat)} {M : Nat → Prop} (H : LiveAt w p h G L) (hk : Kept M w w') (hp : ¬ M p) (hg : ¬ M G) : LiveAt w' p h G L := ⟨RowAt.kept H.row hk hp, RowAt.kept H.blk hk hg, H.ok⟩
/-- parameters that have no shape: no grid -/
theorem made_bad (a t m l z : Int) (h : mayB a t m l z = false) (w : World) : Calls Tryd.prog 5 #[pav a t m l z] w fun e w' => e = .returned (.pointer none) ∧ Below w.heap.size w w' := by
  have CO := Lib.hid (of_bad a t m l z h)
  have HP := Lib.hid (RowAt.new w 23 (pac a t m l z))
  have HB := Lib.hid (one_box w (.cells (pac a t m l z) 23))
  clear h
  go_enter Tryd.func5, Tryd.ntmps5
  go_wp2_with fail
  refine (CO.out _).mono ?_
  rintro e w2 ⟨rfl, hb⟩
  have HB2 := Lib.hid (below_step HB.out hb)
  have HB3 := Lib.hid (HB2.out.alloc HB2.out.size (.cells spzc 33))
  clear hb CO HP HB HB2
  go_wp2
  go_ret
  exact ⟨rfl, HB3.out⟩
section
variable {pa pt pm pl pz : Int} {a t l m b c g z : Nat} (CO : ∀ w : World, Calls Tryd.prog 12 #[pav pa pt pm pl pz] w fun e w' => e = .returned (.tuple #[spv a t l m b c g z, .int .i64 0]) ∧ Below w.heap.size w w')
include CO
/-- too many -/
theorem made_many (hf : fewB t l b = false) (w : World) : Calls Tryd.prog 5 #[pav pa pt pm pl pz] w fun e w' => e = .returned (.pointer none) ∧ Below w.heap.size w w' := by
  have CF := Lib.hid (few_any a t l m b c g z)
  rw [hf] at CF
  have CO := Lib.hid CO
  have HP := Lib.hid (RowAt.new w 23 (pac pa pt pm pl pz))
  have HB := Lib.hid (one_box w (.cells (pac pa pt pm pl pz) 23))
  clear hf
  go_enter Tryd.func5, Tryd.ntmps5
  go_wp2_with fail
  refine (CO.out _).mono ?_
  rintro e w2 ⟨rfl, hb⟩
  have HB2 := Lib.hid (below_step HB.out hb)
  have HB3 := Lib.hid (HB2.out.alloc HB2.out.size (.cells (spc a t l m b c g z) 33))
  have HS := Lib.hid (RowAt.new w2 33 (spc a t l m b c g z))
  clear hb CO HP HB HB2
  go_wp2_with (refine wpList_load_want rfl 33 _ rfl _ _ rfl (sp_load HS.out) ?_)
  refine (CF.out _).mono ?_
  rintro e w3 ⟨rfl, hb⟩
  have HB4 := Lib.hid (below_step HB3.out hb)
  clear hb CF HS HB3
  go_wp2
  go_ret
  exact ⟨rfl, HB4.out⟩
set_option maxHeartbeats 1600000 in
/-- the grid -/
theorem made_any (hf : fewB t l b = true) (hN : ∀ x ∈ [a, t, l, m, b, c, g, z], x ≤ 140737488351232) (hb1 : 1 ≤ b) (w : World) : Calls Tryd.prog 5 #[pav pa pt pm pl pz] w fun e w' => ∃ q p h G, e = .returned (.pointer (some ⟨q, 0, none⟩)) ∧ GrAt w' q p h G a t l m b c g z (List.replicate b zb) ∧ w.heap.size ≤ G ∧ Below w.heap.size w w' := by
  have hb80 : b ≤ 80 := by
    unfold fewB at hf
    simp only [Bool.and_eq_true, decide_eq_true_eq] at hf
    omega
  have CF := Lib.hid (few_any a t l m b c g z)
  rw [hf] at CF
  have CA := Lib.hid (anew_any b (by omega))
  have CO := Lib.hid CO
  have HP := Lib.hid (RowAt.new w 23 (pac pa pt pm pl pz))
  have HB := Lib.hid (one_box w (.cells (pac pa pt pm pl pz) 23))
  have HN := Lib.hid hN
  clear hf hN
  go_enter Tryd.func5, Tryd.ntmps5
  go_wp2_with fail
  refine (CO.out _).mono ?_
  rintro e w2 ⟨rfl, hb⟩
  have HB2 := Lib.hid (below_step HB.out hb)
  have HB3 := Lib.hid (HB2.out.alloc HB2.out.size (.cells (spc a t l m b c g z) 33))
  have HS := Lib.hid (RowAt.new w2 33 (spc a t l m b c g z))
  clear hb CO HP HB HB2
  go_wp2_with (refine wpList_load_want rfl 33 _ rfl _ _ rfl (sp_load HS.out) ?_)
  refine (CF.out _).mono ?_
  rintro e w3 ⟨rfl, hb⟩
  have HS3 := Lib.hid (RowAt.step HS.out hb)
  have k4 : w3.cell? ⟨w2.heap.size, 4, none⟩ = some (.int .i64 (b : Int)) := (HS3.out.cell 4).trans rfl
  have HB4 := Lib.hid (below_step HB3.out hb)
  clear hb CF HS HB3
  go_wp2_with fail
  refine (CA.out _).mono ?_
  rintro e w4 ⟨rfl, hA, hb⟩
  have HS4 := Lib.hid (RowAt.step HS3.out hb)
  have k5 : w4.cell? ⟨w2.heap.size, 4, none⟩ = some (.int .i64 (b : Int)) := (HS4.out.cell 4).trans rfl
  have HB5 := Lib.hid (below_step HB4.out hb)
  have CR := Lib.hid (ares_any hA b (by omega) (by omega) (by omega))
  have HA := Lib.hid hA
  have hw3 := HB4.out.size
  clear hb CA HS3 HB4 k4 hA
  go_wp2_with fail
  refine CR.out.mono ?_
  rintro e w5 ⟨⟨p, G, rfl, hL, hp, hG⟩, hA, hk⟩
  have HL := Lib.hid hL
  have HS5 := Lib.hid (RowAt.kept HS4.out hk (RowAt.unlike HS4.out HA.out (by rfl)))
  have HB6 := Lib.hid (HB5.out.trans (hk.below (B := w.heap.size) HB5.out.size fun x hx => by omega))
  have CN := Lib.hid (gnew_at hL.row HN.out hb1 false (by simp))
  have hw4 := HB5.out.size
  clear hL hA hk CR HS4 HB5 k5 HA
  go_wp2_with (refine wpList_load_want rfl 33 _ rfl _ _ rfl (sp_load HS5.out) ?_)
  refine CN.out.mono ?_
  rintro e w6 ⟨hq, hb⟩
  rw [if_neg (by simp)] at hq
  obtain ⟨q, rfl, hq, hR⟩ := hq
  have HL6 := Lib.hid (HL.out.step hb)
  have HB7 := Lib.hid (below_step HB6.out hb)
  have HR := Lib.hid hR
  clear hb CN HS5 HB6 HL hR
  go_wp2
  go_ret
  exact ⟨q, p, w3.heap.size, G, rfl, ⟨HR.out, HL6.out⟩, by omega, HB7.out⟩
end

end Go.Proofs.YtfoodaobiknihaaDoor

namespace Go.Proofs.YtfoodaobiknihaaDoor
set_option maxRecDepth 50000
open Go.RowKit Bb

/-- the columns of one lane -/
def lane (c : Nat) (L : List (List Nat)) (i : Nat) : List (List Nat) := (L.drop (i * c)).take c
theorem lane_length {c n i : Nat} {L : List (List Nat)} (hL : L.length = n * c) (hi : i < n) : (lane c L i).length = c := by
  have h1 : (i + 1) * c ≤ n * c := Nat.mul_le_mul_right c hi
  rw [Nat.add_mul, Nat.one_mul] at h1
  unfold lane
  rw [List.length_take, List.length_drop]
  omega
theorem lane_ok {c i : Nat} {L : List (List Nat)} (h : ∀ b ∈ L, okb b) : ∀ b ∈ lane c L i, okb b := fun b hb => h b (List.mem_of_mem_drop (List.mem_of_mem_take hb))
theorem lane_at {c i k : Nat} {L : List (List Nat)} (hk : k < c) : (lane c L i).getD k [] = L.getD (i * c + k) [] := by
  unfold lane
  simp only [List.getD_eq_getElem?_getD]
  rw [List.getElem?_take_of_lt hk, List.getElem?_drop]
theorem lane_set {c i k : Nat} {L : List (List Nat)} (_ : k < c) (x : List Nat) : lane c (L.set (i * c + k) x) i = (lane c L i).set k x := by
  unfold lane
  rw [List.drop_set, if_neg (by omega), show i * c + k - i * c = k by omega, List.take_set]
theorem lane_other {c i j k : Nat} {L : List (List Nat)} (hk : k < c) (h : j ≠ i) (x : List Nat) : lane c (L.set (i * c + k) x) j = lane c L j := by
  unfold lane
  rcases Nat.lt_or_ge i j with hij | hij
  · have h1 : (i + 1) * c ≤ j * c := Nat.mul_le_mul_right c hij
    rw [Nat.add_mul, Nat.one_mul] at h1
    rw [List.drop_set, if_pos (by omega)]
  · have h1 : (j + 1) * c ≤ i * c := Nat.mul_le_mul_right c (by omega)
    rw [Nat.add_mul, Nat.one_mul] at h1
    rw [List.drop_set, if_neg (by omega), List.take_set, List.set_eq_of_length_le]
    rw [List.length_take]; omega
theorem lane_rep {c i n : Nat} (hi : i < n) : lane c (List.replicate (n * c) zb) i = List.replicate c zb := by
  have h1 : (i + 1) * c ≤ n * c := Nat.mul_le_mul_right c hi
  rw [Nat.add_mul, Nat.one_mul] at h1
  unfold lane
  rw [List.drop_replicate, List.take_replicate, show min c (n * c - i * c) = c by omega]

/-- a row of blocks, as a slice -/
def hdr (c g : Nat) : Value := .slice (some ⟨g, 0, none⟩) c c
def hds (c : Nat) (gs : List Nat) : List Value := gs.map (hdr c)
theorem hds_one (c : Nat) (gs : List Nat) : ∀ u ∈ hds c gs, u.oneCell' = true := fun u hu => by
  obtain ⟨g, _, rfl⟩ := List.mem_map.1 hu
  rfl
theorem hds_at (c : Nat) (gs : List Nat) (i : Nat) (hi : i < gs.length) : (hds c gs)[i]? = some (hdr c (gs.getD i 0)) := by
  simp [hds, List.getD_eq_getElem?_getD, List.getElem?_eq_getElem hi]

theorem own_unlike {w : World} {N s n b : Nat} {e t : TypeId} {v : Value} {xs : List Value} {C : Array Value} (h : w.ownsRow N e s v n xs) (hr : RowAt w b t C) (ht : (e == t) = false) : v.ownBlock ≠ some b := by
  rcases h.2 with ⟨rfl, _⟩ | ⟨g, cap, cur, rfl, _, hg, _⟩
  · simp [Value.ownBlock]
  · intro e'
    simp only [Value.ownBlock, Option.some.injEq] at e'
    exact RowAt.unlike hg hr ht e'
theorem wpList_append_of {P : Program} {ops : Array Oper} {rest : List Oper} {o : Oper} {a : Act} {w w' : World} {Q : Exit → Act → World → Prop} (hgd : o.guard = none) (x y : Operand) (t : TypeId) (ho : o.op = .call { callee := .builtin .append, args := #[x, y], argTypes := #[t, t] }) (vx vy v' : Value) (hx : a.eval x = vx) (hy : a.eval y = vy)
    (hr : (Builtin.append_ #[t, t] o.type #[vx, vy]).run P w = .ok v' w') (h : wpList P ops Q rest (a.put o.dst v') w') : wpList P ops Q (o :: rest) a w := wpList_plain hgd fun _ hK => by
  unfold Oper.wp execOp
  simp only [ho, resolve, invoke, builtin, Sem.run_bind, Sem.run_pure, Result.andThen_ok, List.map_toArray, List.map_cons, List.map_nil, hx, hy, hr]
  exact hK _ _ h

theorem hd_info : (Tryd.prog.info? 71).map (fun i => (i.zero, i.size, i.bytes)) = some (some (.slice none 0 0), 1, 24) := by kernel_rfl
/-- the document's grid: a row of its rows' slices, and each row's blocks; all of it made since N -/
structure DocAt (w : World) (N : Nat) (v : Value) (c : Nat) (gs : List Nat) (L : List (List Nat)) : Prop where
  own : w.ownsRow N 71 1 v gs.length (hds c gs)
  ge : ∀ g ∈ gs, N ≤ g
  nd : gs.Nodup
  blk : ∀ i, i < gs.length → BlkAt w (gs.getD i 0) (lane c L i)
  ok : ∀ b ∈ L, okb b
  len : L.length = gs.length * c
theorem getD_mem {gs : List Nat} {i : Nat} (hi : i < gs.length) : gs.getD i 0 ∈ gs := by
  rw [List.getD_eq_getElem?_getD, List.getElem?_eq_getElem hi]
  exact List.getElem_mem hi
section
variable {w w' : World} {N c : Nat} {v : Value} {gs : List Nat} {L : List (List Nat)}
theorem DocAt.own_ge (h : DocAt w N v c gs L) : ∀ k, v.ownBlock = some k → N ≤ k := fun k hk => (h.own.lt k hk).1
theorem DocAt.kept {M : Nat → Prop} (h : DocAt w N v c gs L) (hk : Kept M w w') (hM : ∀ k, M k → k < N) : DocAt w' N v c gs L :=
  ⟨own_kept h.own hk fun k hv hm => by have := h.own_ge k hv; have := hM k hm; omega, h.ge, h.nd, fun i hi => RowAt.kept (h.blk i hi) hk fun hm => by have := h.ge _ (getD_mem hi); have := hM _ hm; omega, h.ok, h.len⟩
theorem DocAt.step (h : DocAt w N v c gs L) (hb : Below w.heap.size w w') : DocAt w' N v c gs L := h.kept (M := fun _ => False) (Kept.of_below hb) fun _ h => h.elim
theorem DocAt.drew (h : DocAt w N v c gs L) : DocAt w.drew N v c gs L := ⟨h.own, h.ge, h.nd, h.blk, h.ok, h.len⟩
theorem DocAt.nil (w : World) (N c : Nat) : DocAt w N (.slice none 0 0) c [] [] :=
  ⟨⟨rfl, .inl ⟨rfl, rfl⟩⟩, fun _ h => absurd h (by simp), List.nodup_nil, fun i h => absurd h (by simp), fun _ h => absurd h (by simp), by simp⟩
/-- where row i lies, and what its slice is -/
theorem DocAt.form (h : DocAt w N v c gs L) : ∃ A k, v = .slice A gs.length k ∧ Reads w w.heap.size A (hds c gs) := by
  obtain ⟨A, k, rfl, _, _, _⟩ := own_form h.own
  exact ⟨A, k, rfl, Reads.of_own h.own⟩
theorem gs_other {gs : List Nat} (h : gs.Nodup) {i j : Nat} (hi : i < gs.length) (hj : j < gs.length) (hij : j ≠ i) : gs.getD j 0 ≠ gs.getD i 0 := by
  rw [List.getD_eq_getElem?_getD, List.getD_eq_getElem?_getD, List.getElem?_eq_getElem hi, List.getElem?_eq_getElem hj]
  intro e
  exact hij ((List.getElem_inj h).1 e)
/-- a block is stored -/
theorem DocAt.store (h : DocAt w N v c gs L) {i k : Nat} (hi : i < gs.length) (hk : k < c) {x : List Nat} (hx : okb x) : ∃ w', (storeVar 91 ⟨gs.getD i 0, k * 128, none⟩ (.agg (wq x))).run Tryd.prog w = .ok () w' ∧ DocAt w' N v c gs (L.set (i * c + k) x) ∧ Kept (fun j => j = gs.getD i 0) w w' := by
  have hB := h.blk i hi
  have hll := lane_length h.len hi
  have hK : Kept (fun j => j = gs.getD i 0) w (w.setRow (gs.getD i 0) (bcs ((lane c L i).set k x)).toArray) := ⟨rfl, rfl, rfl, Nat.le_of_eq (setRow_size _ _ _).symm, fun j _ hj => setRow_other _ _ _ _ fun e => hj e⟩
  refine ⟨_, hB.store (lane_ok h.ok) k (by omega) hx, ⟨?_, h.ge, h.nd, ?_, okl_set h.ok _ hx, ?_⟩, hK⟩
  · exact own_kept h.own hK fun j hv hj => by subst hj; exact own_unlike h.own hB (by rfl) hv
  · intro j hj
    by_cases e : j = i
    · subst e
      rw [lane_set hk]
      exact RowAt.setRow hB _
    · rw [lane_other hk e]
      exact RowAt.kept (h.blk j hj) hK (gs_other h.nd hi hj e)
  · rw [List.length_set]; exact h.len
end
end Go.Proofs.YtfoodaobiknihaaDoor

namespace Go.Proofs.YtfoodaobiknihaaDoor
set_option maxRecDepth 50000
open Go.RowKit Bb

theorem DocAt.weak {w : World} {N N' c : Nat} {v : Value} {gs : List Nat} {L : List (List Nat)} (h : DocAt w N v c gs L) (hN : N' ≤ N) : DocAt w N' v c gs L :=
  ⟨own_base h.own fun k hk => Nat.le_trans hN (h.own_ge k hk), fun g hg => Nat.le_trans hN (h.ge g hg), h.nd, h.blk, h.ok, h.len⟩
theorem DocAt.not_new {w : World} {N c : Nat} {v : Value} {gs : List Nat} {L : List (List Nat)} (h : DocAt w N v c gs L) : w.heap.size ∉ gs := fun hm => by
  obtain ⟨i, hi, e⟩ := List.getElem_of_mem hm
  have := (h.blk i hi).lt
  rw [List.getD_eq_getElem?_getD, List.getElem?_eq_getElem hi] at this
  simp [e] at this

end Go.Proofs.YtfoodaobiknihaaDoor

namespace Go.Proofs.YtfoodaobiknihaaDoor
set_option maxRecDepth 50000
open Go.RowKit Bb

theorem ixr_run {w : World} {b i n c : Nat} {ev : Operand → Value} {x y : Operand} {o : Oper} (hop : o.op = .indexAddr 71 x y) (hx : ev x = .slice (some ⟨b, 0, none⟩) n c) (hy : ev y = .int .i64 (i : Int)) (hi : i < n) : (execOp ev o).run Tryd.prog w = .ok (.value (.pointer (some ⟨b, i * 128, none⟩))) w := by
  have h1 : (i : Int) < (n : Int) := by omega
  simp [execOp, hop, hx, hy, go_sem, h1]
theorem so_build (w : World) (x y : Int) : (Instr.build 42 #[(0, .int .i64 x), (1, .int .i64 y)]).run Tryd.prog w = .ok (sov x y) w := by
  have h : ∀ x y : Int, Tryd.prog.built 42 [(0, .int .i64 x), (1, .int .i64 y)] = some (#[.int .i64 x, .int .i64 y]) := fun x y => by kernel_rfl
  exact run_build w _ _ _ (h ..)
theorem so_run {w : World} {ev : Operand → Value} {o : Oper} {x0 x1 : Operand} {x y : Int} (hop : o.op = .build 42 #[(0, x0), (1, x1)]) (h0 : ev x0 = .int .i64 x) (h1 : ev x1 = .int .i64 y) : (execOp ev o).run Tryd.prog w = .ok (.value (sov x y)) w := by
  simp only [execOp, hop, List.map_toArray, List.map_cons, List.map_nil, h0, h1, Sem.run_bind, so_build, Result.andThen_ok, Sem.run_pure]

section
variable {w w' : World} {N c : Nat} {v : Value} {gs : List Nat} {L : List (List Nat)}
/-- where the rows' slices lie -/
theorem DocAt.head (h : DocAt w N v c gs L) (hg : 0 < gs.length) : ∃ o k, v = .slice (some ⟨o, 0, none⟩) gs.length k := by
  obtain ⟨A, k, rfl, _, h0, _⟩ := own_form h.own
  obtain ⟨o, rfl, _⟩ := h0 hg
  exact ⟨o, k, rfl⟩
theorem DocAt.row {o n k : Nat} (h : DocAt w N (.slice (some ⟨o, 0, none⟩) n k) c gs L) {i : Nat} (hi : i < gs.length) : w.cell? ⟨o, i, none⟩ = some (.slice (some ⟨gs.getD i 0, 0, none⟩) c c) := by
  have hr := Reads.of_own (n := gs.length) (c := k) (A := some ⟨o, 0, none⟩) (by
    obtain ⟨A, k', e, _, _, _⟩ := own_form h.own
    injection e with e1 e2 e3
    subst e2
    exact h.own)
  obtain ⟨b, off, e, _, hc⟩ := hr i (by rw [hds, List.length_map]; exact hi)
  injection e with e
  injection e with e1 e2 e3
  subst e1
  subst e2
  rw [Nat.zero_add] at hc
  rw [hc, ← List.getElem?_eq_getElem, hds_at c gs i hi]
  rfl
end

/-- the first n blocks, the others clean -/
def mixL (L : List (List Nat)) (n : Nat) : List (List Nat) := L.take n ++ List.replicate (L.length - n) zb
theorem mix_zero (L : List (List Nat)) : mixL L 0 = List.replicate L.length zb := by simp [mixL]
theorem mix_all (L : List (List Nat)) : mixL L L.length = L := by simp [mixL]
theorem mix_next (L : List (List Nat)) (n : Nat) (hn : n < L.length) : (mixL L n).set n (L.getD n []) = mixL L (n + 1) := by
  unfold mixL
  have h1 : (L.take n).length = n := by rw [List.length_take]; omega
  obtain ⟨m, hm⟩ : ∃ m, L.length - n = m + 1 := ⟨L.length - n - 1, by omega⟩
  rw [List.set_append_right _ _ (by omega), h1, Nat.sub_self, hm, show L.length - (n + 1) = m by omega, List.replicate_succ, List.set_cons_zero, List.take_succ_eq_append_getElem hn, List.getD_eq_getElem?_getD, List.getElem?_eq_getElem hn, List.append_assoc]
  rfl

end Go.Proofs.YtfoodaobiknihaaDoor

namespace Go.Proofs.YtfoodaobiknihaaDoor
set_option maxRecDepth 50000
open Go.RowKit Bb

end Go.Proofs.YtfoodaobiknihaaDoor

namespace Go.Proofs.YtfoodaobiknihaaDoor
set_option maxRecDepth 50000
open Go.RowKit Bb

/-- a block's variable that is made, and set -/
theorem set_new (w : World) {x : List Nat} (hx : x.length = 128) : (storeVar 91 ⟨w.heap.size, 0, none⟩ (.agg (wq x))).run Tryd.prog (w.alloc (.cells (wq zb) 91)) = .ok () ((w.alloc (.cells (wq zb) 91)).setRow w.heap.size (wq x)) :=
  (RowAt.new w 91 (wq zb)).store (C' := wq x) (by rw [wq_size, hx]; exact b_size) (by rw [wq_size, wq_size, hx]; exact zb_ok.1) (wq_one _)
theorem set_below (w : World) (x : List Nat) : Below w.heap.size w ((w.alloc (.cells (wq zb) 91)).setRow w.heap.size (wq x)) := below_setRow ((Below.refl _ _).alloc (Nat.le_refl _) _) (Nat.le_refl _) _
/-- the numbers of a grid that the law makes -/
structure Few (l b c z : Nat) : Prop where
  l0 : 0 < l
  l4 : l ≤ 4
  c8 : 8 ≤ c
  c80 : c ≤ 80
  b80 : b ≤ 80
  bl : b = l * c
  z4 : 4 ≤ z
  z1024 : z ≤ 1024
theorem made_ways (pa pt pm pl pz : Int) : (∀ w, Calls Tryd.prog 5 #[pav pa pt pm pl pz] w fun e w' => e = .returned (.pointer none) ∧ Below w.heap.size w w') ∨
    (∃ a t l m b c g z : Nat, Few l b c z ∧ ∀ w, Calls Tryd.prog 5 #[pav pa pt pm pl pz] w fun e w' => ∃ q p h G, e = .returned (.pointer (some ⟨q, 0, none⟩)) ∧ GrAt w' q p h G a t l m b c g z (List.replicate b zb) ∧ w.heap.size ≤ G ∧ Below w.heap.size w w') := by
  cases hM : mayB pa pt pm pl pz with
  | false => exact .inl fun w => made_bad pa pt pm pl pz hM w
  | true =>
    obtain ⟨a, t, m, l, z, rfl, rfl, rfl, rfl, rfl, hO⟩ := may_nats hM
    obtain ⟨b, c, g, hg, hc, hb, hbm, hgm, CO⟩ := of_good hO
    obtain ⟨h1, h2, h3, h4, h5, h6, h7, h8, h9⟩ := hO
    cases hf : fewB t l b with
    | false => exact .inl fun w => made_many CO hf w
    | true =>
      have hf' := hf
      unfold fewB at hf'
      simp only [Bool.and_eq_true, decide_eq_true_eq] at hf'
      obtain ⟨f1, f2, f3⟩ := hf'
      have hcb : c ≤ b := by rw [hb]; exact Nat.le_mul_of_pos_left c h4
      have hgb : g ≤ c := by omega
      refine .inr ⟨a, t, l, m, b, c, g, z, ⟨h4, f2, by omega, by omega, f3, hb, h8, h9⟩, fun w => made_any CO hf ?_ (by omega) w⟩
      intro x hx
      simp only [List.mem_cons, List.not_mem_nil, or_false] at hx
      omega

/-- a block that begins with a word -/
def ob (u : Nat) : List Nat := u :: List.replicate 127 0
theorem ob_ok {u : Nat} (h : u < 18446744073709551616) : okb (ob u) := ⟨by simp [ob], fun x hx => by
  rcases List.mem_cons.1 hx with rfl | hx
  · exact h
  · rw [List.eq_of_mem_replicate hx]; decide⟩
theorem ob_build (w : World) (u : Nat) : (Instr.build 91 #[(0, .int .u64 (u : Int))]).run Tryd.prog w = .ok (.agg (wq (ob u))) w := by
  have h : ∀ p : Nat, Tryd.prog.built 91 [(0, .int .u64 (p : Int))] = some (wq (p :: List.replicate 127 0)) := fun p => by kernel_rfl
  exact run_build w _ _ _ (h u)
theorem ob_run {w : World} {ev : Operand → Value} {o : Oper} {x0 : Operand} {u : Nat} (hop : o.op = .build 91 #[(0, x0)]) (h0 : ev x0 = .int .u64 (u : Int)) : (execOp ev o).run Tryd.prog w = .ok (.value (.agg (wq (ob u)))) w := by
  simp only [execOp, hop, List.map_toArray, List.map_cons, List.map_nil, h0, Sem.run_bind, ob_build, Result.andThen_ok, Sem.run_pure]
end Go.Proofs.YtfoodaobiknihaaDoor

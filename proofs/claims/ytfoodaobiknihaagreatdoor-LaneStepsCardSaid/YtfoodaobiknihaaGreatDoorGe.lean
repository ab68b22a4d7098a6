/- New of package grid, the document's Few, and a grid with an arena of its own, by their contracts. Conditions: those typed. A grid of parameters with an arena of its own, and the chapter's example, by their contracts. Conditions: those typed. The document's grid: rows of blocks, by lanes and columns, as they lie in memory, told by one list of blocks; an empty one. Conditions: those typed. The document's empty grid by its contract. Conditions: those typed. All of a grid as the law lays it: the document's grid of the same blocks. Conditions: those typed. The document's Same, of two grids of the same blocks, by its contract. Conditions: those typed. What a grid that is none answers; the ways in which the law's grid is made; a block that begins with a word. Conditions: those typed. -/
import Derived.Test.YtfoodaobiknihaaGreatDoorGd
import Derived.OwnWalk
import Derived.Test.YtfoodaobiknihaaGreatDoorSp
namespace Go.Proofs.YtfoodaobiknihaaGreatDoor
set_option maxRecDepth 50000
open Go.RowKit Bb
theorem b_cells : Tryz.prog.cellsOf 83 = 128 := by kernel_rfl
theorem b_u64 : Tryz.prog.cellsOf 52 = 1 := by kernel_rfl
theorem wfb_u64 (a : Nat) (h : a < 18446744073709551616) : (Lit.int .u64 (a : Int)).wf = true := by
  have e1 : IntKind.u64.min = 0 := rfl
  have e2 : IntKind.u64.max = 18446744073709551615 := rfl
  simp [Lit.wf, e1, e2]
  omega
theorem kb_u64 (d a : Nat) (h : a < 18446744073709551616) : Tryz.prog.keyLits (d + 1) 52 [.int .u64 (a : Int)] = some [.int .u64 (a : Int)] := by
  unfold Program.keyLits
  simp only [Tryz.underlying52]
  simp [wfb_u64 a h]
theorem mapM_some {α β : Type} (f : α → Option β) (g : α → β) : ∀ l : List α, (∀ x ∈ l, f x = some (g x)) → l.mapM f = some (l.map g)
  | [], _ => rfl
  | x :: l, h => by
    rw [List.mapM_cons, h x (by simp), mapM_some f g l fun y hy => h y (by simp [hy])]; rfl
def litsB (L : List Nat) : List Lit := L.map fun x : Nat => Lit.int .u64 (x : Int)
theorem litsB_inj : ∀ {a b : List Nat}, litsB a = litsB b → a = b
  | [], [], _ => rfl
  | [], _ :: _, h => by simp [litsB] at h
  | _ :: _, [], h => by simp [litsB] at h
  | x :: a, y :: b, h => by
    simp only [litsB, List.map_cons, List.cons.injEq, Lit.int.injEq, true_and] at h
    rw [litsB_inj (a := a) (b := b) h.2]
    have := h.1
    congr 1
    omega
theorem flat_one {α β : Type} (f : α → β) : ∀ l : List α, (l.map fun x => [f x]).flatten = l.map f
  | [] => rfl
  | x :: l => by rw [List.map_cons, List.flatten_cons, flat_one f l]; rfl
theorem key_b (d : Nat) {L : List Nat} (h : okb L) : Tryz.prog.keyLits (d + 2) 83 (wq L).toList = some (litsB L) := by
  have hl : (wq L).toList.length = 128 := by rw [Array.length_toList, wq_size]; exact h.1
  have E : (List.range 128).mapM (fun i => Tryz.prog.keyLits (d + 1) 52 (((wq L).toList.drop (i * 1)).take 1)) = some ((List.range 128).map fun i => [Lit.int .u64 (L.getD i 0 : Nat)]) := by
    refine mapM_some _ _ _ fun i hi => ?_
    have hi := List.mem_range.1 hi
    have e : ((wq L).toList.drop (i * 1)).take 1 = [.int .u64 ((L.getD i 0 : Nat) : Int)] := by
      rw [Nat.mul_one, List.drop_eq_getElem_cons (by omega), List.take_succ_cons, List.take_zero]
      congr 1
      have := wq_at L i (by rw [h.1]; exact hi)
      rw [← Array.getElem?_toList, List.getElem?_eq_getElem (by omega)] at this
      exact Option.some.inj this
    rw [e, kb_u64 d _ (ok_at h i)]
  unfold Program.keyLits
  simp only [Tryz.underlying83, b_cells, b_u64, hl, if_true, E, Option.map_some]
  congr 1
  have e2 : (List.range 128).map (fun i => [Lit.int .u64 (L.getD i 0 : Nat)]) = (tb fun k => L.getD k 0).map fun x : Nat => [Lit.int .u64 (x : Int)] := by
    simp [tb, Function.comp_def]
  rw [e2, tb_self L h.1]
  exact flat_one _ L
theorem in_b {a b : List Nat} (ha : okb a) (hb : okb b) (w : World) : (Op.equalIn 10000 83 (.agg (wq a)) (.agg (wq b))).run Tryz.prog w = .ok (decide (a = b)) w := by
  obtain ⟨r, q1, q2⟩ := run_equalIn_deep (P := Tryz.prog) 9990 10 83 (by kernel_rfl) w 10 10 (.agg (wq a)) (.agg (wq b)) _ _ (by simp [Value.formed, Tryz.underlying83, wq_size, ha.1, b_cells]) (by simp [Value.formed, Tryz.underlying83, wq_size, hb.1, b_cells]) (key_b 8 ha) (key_b 8 hb)
  have hr : r = decide (a = b) := by
    cases r with
    | true => exact (decide_eq_true (litsB_inj (q2.1 rfl))).symm
    | false => exact (decide_eq_false fun e => by subst e; cases q2.2 rfl).symm
  subst hr
  rw [show (10000 : Nat) = 9990 + 10 from rfl, q1]
theorem neq_b {a b : List Nat} (ha : okb a) (hb : okb b) (w : World) : (binOp .neq 83 (.agg (wq a)) (.agg (wq b))).run Tryz.prog w = .ok (.bool (!decide (a = b))) w := by
  rw [run_neq_struct, in_b ha hb w]; rfl
theorem g_b : Tryz.prog.eqGuardType Tryz.prog.depth 83 = false := by kernel_rfl
theorem bneq_run (w : World) {xs ys : List Nat} (hxs : okb xs) (hys : okb ys) {k : Bool} (hk : decide (xs = ys) = !k) (ev : Operand → Value) (x y : Operand) {ty : TypeId} {o : Oper} (hop : o.op = .binOp .neq 83 x y ty) (hx : ev x = .agg (wq xs)) (hy : ev y = .agg (wq ys)) : (execOp ev o).run Tryz.prog w = .ok (.value (.bool k)) w := by
  have hg := run_eqGuard_agg (P := Tryz.prog) w .neq 83 x y (wq xs) (wq ys) g_b
  simp only [execOp, hop, hx, hy, Sem.run_bind, hg, Result.andThen_ok, neq_b hxs hys, Sem.run_pure, hk, Bool.not_not]
theorem key_wf (i : Nat) (h : i ≤ 140737488351232) : (Lit.int .i64 (i : Int)).wf = true := by
  have e1 : IntKind.i64.min = -9223372036854775808 := rfl
  have e2 : IntKind.i64.max = 9223372036854775807 := rfl
  simp [Lit.wf, e1, e2]
  omega
theorem key_int (d i : Nat) (h : i ≤ 140737488351232) : Tryz.prog.keyLits (d + 1) 3 [.int .i64 (i : Int)] = some [.int .i64 (i : Int)] := by
  unfold Program.keyLits
  simp only [Tryz.underlying3]
  simp [key_wf i h]
theorem key_sp (d : Nat) {a t l m b c g z : Nat} (h : ∀ x ∈ [a, t, l, m, b, c, g, z], x ≤ 140737488351232) : Tryz.prog.keyLits (d + 2) 44 (spc a t l m b c g z).toList = some [.int .i64 (a : Int), .int .i64 (t : Int), .int .i64 (l : Int), .int .i64 (m : Int), .int .i64 (b : Int), .int .i64 (c : Int), .int .i64 (g : Int), .int .i64 (z : Int)] := by
  have k1 := key_int d a (h a (by simp))
  have k2 := key_int d t (h t (by simp))
  have k3 := key_int d l (h l (by simp))
  have k4 := key_int d m (h m (by simp))
  have k5 := key_int d b (h b (by simp))
  have k6 := key_int d c (h c (by simp))
  have k7 := key_int d g (h g (by simp))
  have k8 := key_int d z (h z (by simp))
  unfold Program.keyLits
  simp only [Tryz.underlying44]
  have c1 : Tryz.prog.cellsOf 44 = 8 := by kernel_rfl
  have c2 : Tryz.prog.cellsOf 3 = 1 := by kernel_rfl
  simp [c1, c2, k1, k2, k3, k4, k5, k6, k7, k8]
theorem sp_is (a t l m b c g z : Nat) (h : ∀ x ∈ [a, t, l, m, b, c, g, z], x ≤ 140737488351232) (k : Bool) (hk : decide (a = 0 ∧ t = 0 ∧ l = 0 ∧ m = 0 ∧ b = 0 ∧ c = 0 ∧ g = 0 ∧ z = 0) = k) (w : World) : (binOp .eql 44 (spv a t l m b c g z) spz).run Tryz.prog w = .ok (.bool k) w := by
  have k2 := key_sp 8 (a := 0) (t := 0) (l := 0) (m := 0) (b := 0) (c := 0) (g := 0) (z := 0) (by simp)
  obtain ⟨r, q1, q2⟩ := run_equalIn_deep (P := Tryz.prog) 9990 10 44 (by kernel_rfl) w 10 10 (spv a t l m b c g z) spz _ _ (by kernel_rfl) (by kernel_rfl) (key_sp 8 h) k2
  rw [run_eql_struct, q1]
  have : r = k := by
    rw [← hk]
    cases r with
    | true =>
      have e := q2.1 rfl
      simp at e
      rw [eq_comm, decide_eq_true_iff]
      omega
    | false =>
      rw [eq_comm, decide_eq_false_iff_not]
      intro e
      obtain ⟨rfl, rfl, rfl, rfl, rfl, rfl, rfl, rfl⟩ := e
      have := q2.2 rfl
      simp at this
  rw [this]
  rfl
theorem g_sp : Tryz.prog.eqGuardType Tryz.prog.depth 44 = false := by kernel_rfl
theorem cmp_run (w : World) {xs ys : Array Value} {k : Bool} {c : BinOp} (ev : Operand → Value) (x y : Operand) {t ty : TypeId} {o : Oper} (hop : o.op = .binOp c t x y ty) (hx : ev x = .agg xs) (hy : ev y = .agg ys) (hm : Tryz.prog.eqGuardType Tryz.prog.depth t = false) (hr : (binOp c t (.agg xs) (.agg ys)).run Tryz.prog w = .ok (.bool k) w) : (execOp ev o).run Tryz.prog w = .ok (.value (.bool k)) w := by
  have hg := run_eqGuard_agg (P := Tryz.prog) w c t x y xs ys hm
  simp only [execOp, hop, hx, hy, Sem.run_bind, hg, Result.andThen_ok, hr, Sem.run_pure]
theorem spz_build (w : World) : (Instr.build 44 #[]).run Tryz.prog w = .ok spz w := run_build w _ _ _ (by kernel_rfl)
theorem spz_run {w : World} {ev : Operand → Value} {o : Oper} (hop : o.op = .build 44 #[]) : (execOp ev o).run Tryz.prog w = .ok (.value spz) w := by
  simp only [execOp, hop, List.map_toArray, List.map_nil, Sem.run_bind, spz_build, Result.andThen_ok, Sem.run_pure]
theorem gr_build (w : World) (p a t l m b c g z : Nat) : (Instr.build 46 #[(0, .pointer (some ⟨p, 0, none⟩)), (1, spv a t l m b c g z)]).run Tryz.prog w = .ok (.agg (grc p a t l m b c g z)) w := by
  have h : ∀ (P : Option Addr) (a t l m b c g z : Int), Tryz.prog.built 46 [(0, .pointer P), (1, .agg #[.int .i64 a, .int .i64 t, .int .i64 l, .int .i64 m, .int .i64 b, .int .i64 c, .int .i64 g, .int .i64 z])] = some (#[.pointer P, .int .i64 a, .int .i64 t, .int .i64 l, .int .i64 m, .int .i64 b, .int .i64 c, .int .i64 g, .int .i64 z]) := fun P a t l m b c g z => by kernel_rfl
  exact run_build w _ _ _ (h ..)
theorem gr_run {w : World} {ev : Operand → Value} {o : Oper} {x0 x1 : Operand} {p a t l m b c g z : Nat} (hop : o.op = .build 46 #[(0, x0), (1, x1)]) (h0 : ev x0 = .pointer (some ⟨p, 0, none⟩)) (h1 : ev x1 = spv a t l m b c g z) : (execOp ev o).run Tryz.prog w = .ok (.value (.agg (grc p a t l m b c g z))) w := by
  simp only [execOp, hop, List.map_toArray, List.map_cons, List.map_nil, h0, h1, Sem.run_bind, gr_build, Result.andThen_ok, Sem.run_pure]
section
variable {w : World} {p h n a t l m b c g z : Nat} {v : Value} {live : Bool}
theorem gnew_at (hP : PceAt w p h n live v) (hN : ∀ x ∈ [a, t, l, m, b, c, g, z], x ≤ 140737488351232) (hb : 1 ≤ b) (k : Bool) (hk : decide ((n : Int) < (b : Int)) = k) : Calls Tryz.prog 29 #[.pointer (some ⟨p, 0, none⟩), spv a t l m b c g z] w fun e w' => (if k then e = .returned (.tuple #[.pointer none, .int .i64 9]) else ∃ q, e = .returned (.tuple #[.pointer (some ⟨q, 0, none⟩), .int .i64 0]) ∧ w.heap.size ≤ q ∧ GrRow w' q p a t l m b c g z) ∧ Below w.heap.size w w' := by
  have HS := Lib.hid (RowAt.new w 44 (spc a t l m b c g z))
  have HB := Lib.hid (one_box w (.cells (spc a t l m b c g z) 44))
  have HP := Lib.hid (RowAt.alloc hP (.cells (spc a t l m b c g z) 44))
  have HE := Lib.hid fun w => sp_is a t l m b c g z hN false (decide_eq_false (by omega)) w
  have hbb : b ≤ 140737488351232 := hN b (by simp)
  have CL := Lib.hid (fun w' (hb : Below (w.alloc (.cells (spc a t l m b c g z) 44)).heap.size (w.alloc (.cells (spc a t l m b c g z) 44)) w') => len_any (RowAt.step HP.out hb))
  have HK : Hid (decide (n < b) = k) := Lib.hid (by rw [← hk]; congr 1; simp)
  clear hP hN hk
  go_enter Tryz.func29, Tryz.ntmps29
  go_wp2_with (first
    | refine wpList_load_want rfl 44 _ rfl _ _ rfl (sp_load HS.out) ?_
    | refine wpList_value_want rfl _ (spz_run rfl) ?_
    | refine wpList_value_want rfl _ (cmp_run _ _ _ _ rfl rfl rfl g_sp (HE.out _)) ?_)
  refine wp_region_text [Is (.pointer (some ⟨p, 0, none⟩)), Is (.int .i64 (n : Int)), Is (.pointer (some ⟨w.heap.size, 0 + 4, none⟩)), Is (.int .i64 (b : Int)), Is (.bool k), Is (.bool k)] (by kernel_rfl) (by kernel_rfl) rfl ⟨stable_is _, stable_is _, stable_is _, stable_is _, stable_is _, stable_is _, trivial⟩ ⟨?_, ?_, ?_, ?_, ?_, ?_, trivial⟩ ?_
  · intro a w C
    exact part_on (wanted_free rfl _) (op_move (.inl rfl) (C.was 0 (by kernel_rfl)))
  · intro a w C
    exact part_on (wanted_free rfl _) (op_call1 rfl (reg_enters Tryz.func48 (by kernel_rfl) (by kernel_rfl)) (C.on (j := 0) (by kernel_rfl) rfl rfl) (calls_same (Calls.mono (CL.out _ C.below) fun e w2 h => ⟨h.1, h.2.symm⟩)))
  · intro a w C
    exact part_on (wanted_free rfl _) (op_value (spf_all (k := 4) rfl (by decide) (C.was 3 (by kernel_rfl))) rfl)
  · intro a w C
    exact part_on (wanted_free rfl _) (op_value (int_run rfl (C.on (j := 2) (by kernel_rfl) rfl rfl) ((RowAt.step HS.out C.below).cell 4)) rfl)
  · intro a w C
    exact part_on (wanted_free rfl _) (op_bin rfl (C.on (j := 1) (by kernel_rfl) rfl rfl) (C.on (j := 3) (by kernel_rfl) rfl rfl) rfl (by simp [go_sem, HK.out]) rfl)
  · intro a w C
    exact part_on (wanted_free rfl _) (op_move (.inr rfl) (C.on (j := 4) (by kernel_rfl) rfl rfl))
  rintro wF hbF _ rfl _ rfl _ rfl _ rfl _ rfl _ rfl
  simp only [Fin, setAt, Exit.then, List.setIfInBounds_toArray, List.set_cons_succ, List.set_cons_zero]
  have HS2 := Lib.hid (RowAt.step HS.out hbF)
  have HB2 := Lib.hid (below_step HB.out hbF)
  clear hbF HS HB HP CL HE
  cases k with
  | true =>
    go_wp2
    exact bodyPost_ret (results_tmp2 rfl _ _ _) rfl ⟨rfl, HB2.out⟩
  | false =>
    go_wp2_with (first
      | refine wpList_load_want rfl 44 _ rfl _ _ rfl (sp_load HS2.out) ?_
      | refine wpList_value_want rfl _ (gr_run rfl rfl rfl) ?_)
    refine bodyPost_ret (results_tmp2 rfl _ _ _) rfl ⟨?_, HB2.out.alloc HB2.out.size _⟩
    exact ⟨wF.heap.size, rfl, HB2.out.size, RowAt.new wF _ _⟩
end
def fewB (t l b : Nat) : Bool := decide (t ≤ 3) && (decide (l ≤ 4) && decide (b ≤ 80))
theorem few_any (a t l m b c g z : Nat) (w : World) : Calls Tryz.prog 26 #[spv a t l m b c g z] w fun e w' => e = .returned (.bool (fewB t l b)) ∧ Below w.heap.size w w' := by
  have HB := Lib.hid (one_box w (.cells (spc a t l m b c g z) 48))
  obtain ⟨r, hr⟩ : ∃ r, r = fewB t l b := ⟨_, rfl⟩
  rw [← hr]
  have e1 : decide ((t : Int) ≤ 3) = decide (t ≤ 3) := by congr 1; simp; omega
  have e2 : decide ((l : Int) ≤ 4) = decide (l ≤ 4) := by congr 1; simp; omega
  have e3 : decide ((b : Int) ≤ 80) = decide (b ≤ 80) := by congr 1; simp; omega
  unfold fewB at hr
  cases k1 : decide (t ≤ 3) <;> cases k2 : decide (l ≤ 4) <;> cases k3 : decide (b ≤ 80)
  all_goals
    rw [k1] at e1 hr
    rw [k2] at e2 hr
    rw [k3] at e3 hr
    simp only [Bool.and_true, Bool.and_false] at hr
    subst hr
    clear k1 k2 k3
    go_enter Tryz.func26, Tryz.ntmps26
    go_wp2
    go_ret
    exact ⟨rfl, HB.out⟩
open Go.RowKit Bb
theorem LiveAt.kept {w w' : World} {p h G : Nat} {L : List (List Nat)} {M : Nat → Prop} (H : LiveAt w p h G L) (hk : Kept M w w') (hp : ¬ M p) (hg : ¬ M G) : LiveAt w' p h G L := ⟨RowAt.kept H.row hk hp, RowAt.kept H.blk hk hg, H.ok⟩
theorem made_bad (a t m l z : Int) (h : mayB a t m l z = false) (w : World) : Calls Tryz.prog 10 #[pav a t m l z] w fun e w' => e = .returned (.pointer none) ∧ Below w.heap.size w w' := by
  have CO := Lib.hid (of_bad a t m l z h)
  have HP := Lib.hid (RowAt.new w 23 (pac a t m l z))
  have HB := Lib.hid (one_box w (.cells (pac a t m l z) 23))
  clear h
  go_enter Tryz.func10, Tryz.ntmps10
  go_wp2_with fail
  refine (CO.out _).mono ?_
  rintro e w2 ⟨rfl, hb⟩
  have HB2 := Lib.hid (below_step HB.out hb)
  have HB3 := Lib.hid (HB2.out.alloc HB2.out.size (.cells spzc 44))
  clear hb CO HP HB HB2
  go_wp2
  go_ret
  exact ⟨rfl, HB3.out⟩
section
variable {pa pt pm pl pz : Int} {a t l m b c g z : Nat} (CO : ∀ w : World, Calls Tryz.prog 25 #[pav pa pt pm pl pz] w fun e w' => e = .returned (.tuple #[spv a t l m b c g z, .int .i64 0]) ∧ Below w.heap.size w w')
include CO
theorem made_many (hf : fewB t l b = false) (w : World) : Calls Tryz.prog 10 #[pav pa pt pm pl pz] w fun e w' => e = .returned (.pointer none) ∧ Below w.heap.size w w' := by
  have CF := Lib.hid (few_any a t l m b c g z)
  rw [hf] at CF
  have CO := Lib.hid CO
  have HP := Lib.hid (RowAt.new w 23 (pac pa pt pm pl pz))
  have HB := Lib.hid (one_box w (.cells (pac pa pt pm pl pz) 23))
  clear hf
  go_enter Tryz.func10, Tryz.ntmps10
  go_wp2_with fail
  refine (CO.out _).mono ?_
  rintro e w2 ⟨rfl, hb⟩
  have HB2 := Lib.hid (below_step HB.out hb)
  have HB3 := Lib.hid (HB2.out.alloc HB2.out.size (.cells (spc a t l m b c g z) 44))
  have HS := Lib.hid (RowAt.new w2 44 (spc a t l m b c g z))
  clear hb CO HP HB HB2
  go_wp2_with (refine wpList_load_want rfl 44 _ rfl _ _ rfl (sp_load HS.out) ?_)
  refine (CF.out _).mono ?_
  rintro e w3 ⟨rfl, hb⟩
  have HB4 := Lib.hid (below_step HB3.out hb)
  clear hb CF HS HB3
  go_wp2
  go_ret
  exact ⟨rfl, HB4.out⟩
set_option maxHeartbeats 1600000 in
theorem made_any (hf : fewB t l b = true) (hN : ∀ x ∈ [a, t, l, m, b, c, g, z], x ≤ 140737488351232) (hb1 : 1 ≤ b) (w : World) : Calls Tryz.prog 10 #[pav pa pt pm pl pz] w fun e w' => ∃ q p h G, e = .returned (.pointer (some ⟨q, 0, none⟩)) ∧ GrAt w' q p h G a t l m b c g z (List.replicate b zb) ∧ w.heap.size ≤ G ∧ Below w.heap.size w w' := by
  have hb80 : b ≤ 80 := by
    unfold fewB at hf
    simp only [Bool.and_eq_true, decide_eq_true_eq] at hf
    omega
  have CF := Lib.hid (few_any a t l m b c g z)
  rw [hf] at CF
  have CA := Lib.hid (anew_any b (by omega))
  have CO := Lib.hid CO
  have HP := Lib.hid (RowAt.new w 23 (pac pa pt pm pl pz))
  have HB := Lib.hid (one_box w (.cells (pac pa pt pm pl pz) 23))
  have HN := Lib.hid hN
  clear hf hN
  go_enter Tryz.func10, Tryz.ntmps10
  go_wp2_with fail
  refine (CO.out _).mono ?_
  rintro e w2 ⟨rfl, hb⟩
  have HB2 := Lib.hid (below_step HB.out hb)
  have HB3 := Lib.hid (HB2.out.alloc HB2.out.size (.cells (spc a t l m b c g z) 44))
  have HS := Lib.hid (RowAt.new w2 44 (spc a t l m b c g z))
  clear hb CO HP HB HB2
  go_wp2_with (refine wpList_load_want rfl 44 _ rfl _ _ rfl (sp_load HS.out) ?_)
  refine (CF.out _).mono ?_
  rintro e w3 ⟨rfl, hb⟩
  have HS3 := Lib.hid (RowAt.step HS.out hb)
  have k4 : w3.cell? ⟨w2.heap.size, 4, none⟩ = some (.int .i64 (b : Int)) := (HS3.out.cell 4).trans rfl
  have HB4 := Lib.hid (below_step HB3.out hb)
  clear hb CF HS HB3
  go_wp2_with fail
  refine (CA.out _).mono ?_
  rintro e w4 ⟨rfl, hA, hb⟩
  have HS4 := Lib.hid (RowAt.step HS3.out hb)
  have k5 : w4.cell? ⟨w2.heap.size, 4, none⟩ = some (.int .i64 (b : Int)) := (HS4.out.cell 4).trans rfl
  have HB5 := Lib.hid (below_step HB4.out hb)
  have CR := Lib.hid (ares_any hA b (by omega) (by omega) (by omega))
  have HA := Lib.hid hA
  have hw3 := HB4.out.size
  clear hb CA HS3 HB4 k4 hA
  go_wp2_with fail
  refine CR.out.mono ?_
  rintro e w5 ⟨⟨p, G, rfl, hL, hp, hG⟩, hA, hk⟩
  have HL := Lib.hid hL
  have HS5 := Lib.hid (RowAt.kept HS4.out hk (RowAt.unlike HS4.out HA.out (by rfl)))
  have HB6 := Lib.hid (HB5.out.trans (hk.below (B := w.heap.size) HB5.out.size fun x hx => by omega))
  have CN := Lib.hid (gnew_at hL.row HN.out hb1 false (by simp))
  have hw4 := HB5.out.size
  clear hL hA hk CR HS4 HB5 k5 HA
  go_wp2_with (refine wpList_load_want rfl 44 _ rfl _ _ rfl (sp_load HS5.out) ?_)
  refine CN.out.mono ?_
  rintro e w6 ⟨hq, hb⟩
  rw [if_neg (by simp)] at hq
  obtain ⟨q, rfl, hq, hR⟩ := hq
  have HL6 := Lib.hid (HL.out.step hb)
  have HB7 := Lib.hid (below_step HB6.out hb)
  have HR := Lib.hid hR
  clear hb CN HS5 HB6 HL hR
  go_wp2
  go_ret
  exact ⟨q, p, w3.heap.size, G, rfl, ⟨HR.out, HL6.out⟩, by omega, HB7.out⟩
end
open Go.RowKit Bb
def lane (c : Nat) (L : List (List Nat)) (i : Nat) : List (List Nat) := (L.drop (i * c)).take c
theorem lane_length {c n i : Nat} {L : List (List Nat)} (hL : L.length = n * c) (hi : i < n) : (lane c L i).length = c := by
  have h1 : (i + 1) * c ≤ n * c := Nat.mul_le_mul_right c hi
  rw [Nat.add_mul, Nat.one_mul] at h1
  unfold lane
  rw [List.length_take, List.length_drop]
  omega
theorem lane_ok {c i : Nat} {L : List (List Nat)} (h : ∀ b ∈ L, okb b) : ∀ b ∈ lane c L i, okb b := fun b hb => h b (List.mem_of_mem_drop (List.mem_of_mem_take hb))
theorem lane_at {c i k : Nat} {L : List (List Nat)} (hk : k < c) : (lane c L i).getD k [] = L.getD (i * c + k) [] := by
  unfold lane
  simp only [List.getD_eq_getElem?_getD]
  rw [List.getElem?_take_of_lt hk, List.getElem?_drop]
theorem lane_set {c i k : Nat} {L : List (List Nat)} (_ : k < c) (x : List Nat) : lane c (L.set (i * c + k) x) i = (lane c L i).set k x := by
  unfold lane
  rw [List.drop_set, if_neg (by omega), show i * c + k - i * c = k by omega, List.take_set]
theorem lane_other {c i j k : Nat} {L : List (List Nat)} (hk : k < c) (h : j ≠ i) (x : List Nat) : lane c (L.set (i * c + k) x) j = lane c L j := by
  unfold lane
  rcases Nat.lt_or_ge i j with hij | hij
  · have h1 : (i + 1) * c ≤ j * c := Nat.mul_le_mul_right c hij
    rw [Nat.add_mul, Nat.one_mul] at h1
    rw [List.drop_set, if_pos (by omega)]
  · have h1 : (j + 1) * c ≤ i * c := Nat.mul_le_mul_right c (by omega)
    rw [Nat.add_mul, Nat.one_mul] at h1
    rw [List.drop_set, if_neg (by omega), List.take_set, List.set_eq_of_length_le]
    rw [List.length_take]; omega
theorem lane_rep {c i n : Nat} (hi : i < n) : lane c (List.replicate (n * c) zb) i = List.replicate c zb := by
  have h1 : (i + 1) * c ≤ n * c := Nat.mul_le_mul_right c hi
  rw [Nat.add_mul, Nat.one_mul] at h1
  unfold lane
  rw [List.drop_replicate, List.take_replicate, show min c (n * c - i * c) = c by omega]
def hdr (c g : Nat) : Value := .slice (some ⟨g, 0, none⟩) c c
def hds (c : Nat) (gs : List Nat) : List Value := gs.map (hdr c)
theorem hds_at (c : Nat) (gs : List Nat) (i : Nat) (hi : i < gs.length) : (hds c gs)[i]? = some (hdr c (gs.getD i 0)) := by
  simp [hds, List.getD_eq_getElem?_getD, List.getElem?_eq_getElem hi]
theorem own_unlike {w : World} {N s n b : Nat} {e t : TypeId} {v : Value} {xs : List Value} {C : Array Value} (h : w.ownsRow N e s v n xs) (hr : RowAt w b t C) (ht : (e == t) = false) : v.ownBlock ≠ some b := by
  rcases h.2 with ⟨rfl, _⟩ | ⟨g, cap, cur, rfl, _, hg, _⟩
  · simp [Value.ownBlock]
  · intro e'
    simp only [Value.ownBlock, Option.some.injEq] at e'
    exact RowAt.unlike hg hr ht e'
theorem wpList_append_of {P : Program} {ops : Array Oper} {rest : List Oper} {o : Oper} {a : Act} {w w' : World} {Q : Exit → Act → World → Prop} (hgd : o.guard = none) (x y : Operand) (t : TypeId) (ho : o.op = .call { callee := .builtin .append, args := #[x, y], argTypes := #[t, t] }) (vx vy v' : Value) (hx : a.eval x = vx) (hy : a.eval y = vy)
    (hr : (Builtin.append_ #[t, t] o.type #[vx, vy]).run P w = .ok v' w') (h : wpList P ops Q rest (a.put o.dst v') w') : wpList P ops Q (o :: rest) a w := wpList_plain hgd fun _ hK => by
  unfold Oper.wp execOp
  simp only [ho, resolve, invoke, builtin, Sem.run_bind, Sem.run_pure, Result.andThen_ok, List.map_toArray, List.map_cons, List.map_nil, hx, hy, hr]
  exact hK _ _ h
theorem hd_info : (Tryz.prog.info? 91).map (fun i => (i.zero, i.size, i.bytes)) = some (some (.slice none 0 0), 1, 24) := by kernel_rfl
structure DocAt (w : World) (N : Nat) (v : Value) (c : Nat) (gs : List Nat) (L : List (List Nat)) : Prop where
  own : w.ownsRow N 91 1 v gs.length (hds c gs)
  ge : ∀ g ∈ gs, N ≤ g
  nd : gs.Nodup
  blk : ∀ i, i < gs.length → BlkAt w (gs.getD i 0) (lane c L i)
  ok : ∀ b ∈ L, okb b
  len : L.length = gs.length * c
theorem getD_mem {gs : List Nat} {i : Nat} (hi : i < gs.length) : gs.getD i 0 ∈ gs := by
  rw [List.getD_eq_getElem?_getD, List.getElem?_eq_getElem hi]
  exact List.getElem_mem hi
section
variable {w w' : World} {N c : Nat} {v : Value} {gs : List Nat} {L : List (List Nat)}
theorem DocAt.own_ge (h : DocAt w N v c gs L) : ∀ k, v.ownBlock = some k → N ≤ k := fun k hk => (h.own.lt k hk).1
theorem DocAt.kept {M : Nat → Prop} (h : DocAt w N v c gs L) (hk : Kept M w w') (hM : ∀ k, M k → k < N) : DocAt w' N v c gs L :=
  ⟨own_kept h.own hk fun k hv hm => by have := h.own_ge k hv; have := hM k hm; omega, h.ge, h.nd, fun i hi => RowAt.kept (h.blk i hi) hk fun hm => by have := h.ge _ (getD_mem hi); have := hM _ hm; omega, h.ok, h.len⟩
theorem DocAt.step (h : DocAt w N v c gs L) (hb : Below w.heap.size w w') : DocAt w' N v c gs L := h.kept (M := fun _ => False) (Kept.of_below hb) fun _ h => h.elim
theorem DocAt.nil (w : World) (N c : Nat) : DocAt w N (.slice none 0 0) c [] [] :=
  ⟨⟨rfl, .inl ⟨rfl, rfl⟩⟩, fun _ h => absurd h (by simp), List.nodup_nil, fun i h => absurd h (by simp), fun _ h => absurd h (by simp), by simp⟩
theorem gs_other {gs : List Nat} (h : gs.Nodup) {i j : Nat} (hi : i < gs.length) (hj : j < gs.length) (hij : j ≠ i) : gs.getD j 0 ≠ gs.getD i 0 := by
  rw [List.getD_eq_getElem?_getD, List.getD_eq_getElem?_getD, List.getElem?_eq_getElem hi, List.getElem?_eq_getElem hj]
  intro e
  exact hij ((List.getElem_inj h).1 e)
theorem DocAt.store (h : DocAt w N v c gs L) {i k : Nat} (hi : i < gs.length) (hk : k < c) {x : List Nat} (hx : okb x) : ∃ w', (storeVar 83 ⟨gs.getD i 0, k * 128, none⟩ (.agg (wq x))).run Tryz.prog w = .ok () w' ∧ DocAt w' N v c gs (L.set (i * c + k) x) ∧ Kept (fun j => j = gs.getD i 0) w w' := by
  have hB := h.blk i hi
  have hll := lane_length h.len hi
  have hK : Kept (fun j => j = gs.getD i 0) w (w.setRow (gs.getD i 0) (bcs ((lane c L i).set k x)).toArray) := ⟨rfl, rfl, rfl, Nat.le_of_eq (setRow_size _ _ _).symm, fun j _ hj => setRow_other _ _ _ _ fun e => hj e⟩
  refine ⟨_, hB.store (lane_ok h.ok) k (by omega) hx, ⟨?_, h.ge, h.nd, ?_, okl_set h.ok _ hx, ?_⟩, hK⟩
  · exact own_kept h.own hK fun j hv hj => by subst hj; exact own_unlike h.own hB (by rfl) hv
  · intro j hj
    by_cases e : j = i
    · subst e
      rw [lane_set hk]
      exact RowAt.setRow hB _
    · rw [lane_other hk e]
      exact RowAt.kept (h.blk j hj) hK (gs_other h.nd hi hj e)
  · rw [List.length_set]; exact h.len
theorem DocAt.more (h : DocAt w N v c gs (List.replicate (gs.length * c) zb)) (hN : N ≤ w.heap.size) {b g : Nat} (hb : RowAt w b 91 #[hdr c g]) (hg : BlkAt w g (List.replicate c zb)) (hgN : N ≤ g) (hgn : g ∉ gs) (hl : gs.length ≤ 1000000) (ty : TypeId) :
    ∃ v' w', (Builtin.append_ #[50, 50] ty #[v, .slice (some ⟨b, 0, none⟩) 1 1]).run Tryz.prog w = .ok v' w' ∧ DocAt w' N v' c (gs ++ [g]) (List.replicate ((gs ++ [g]).length * c) zb) ∧ Below N w w' := by
  obtain ⟨i, hi, hz, hs, hby⟩ := info_parts hd_info
  obtain ⟨v', w', hr, ho, hgr, _, _⟩ := run_append_own_at (P := Tryz.prog) w N 50 ty 91 i _ 1 24 Tryz.underlying50 hi hz hs hby rfl (by decide) v gs.length (hds c gs) h.own ⟨b, 0, none⟩ 1 1 [hdr c g] rfl
    (fun j u hj => by
      rw [Go.WideShapes.add_plain, Nat.zero_add, hb.cell j]
      simpa using hj) (fun u hu => by rw [List.mem_singleton.1 hu]; rfl) (by unfold maxLen; omega) (by omega) hN
  have hK : Kept (fun k => v.ownBlock = some k) w w' := (Kept.refl _ w).grown hgr fun k hk => .inl hk
  refine ⟨v', w', hr, ⟨?_, ?_, ?_, ?_, zeros_ok _, by simp⟩, (Below.refl N w).grown hgr hN (fun k hk => (h.own.lt k hk).1)⟩
  · rw [show hds c (gs ++ [g]) = hds c gs ++ [hdr c g] by simp [hds], List.length_append]
    exact ho
  · intro x hx
    rcases List.mem_append.1 hx with hx | hx
    · exact h.ge x hx
    · rw [List.mem_singleton.1 hx]; exact hgN
  · rw [List.nodup_append]
    refine ⟨h.nd, by simp, ?_⟩
    intro x hx y hy e
    rw [List.mem_singleton.1 hy] at e
    exact hgn (e ▸ hx)
  · intro j hj
    rw [lane_rep hj]
    rw [List.length_append] at hj
    rcases Nat.lt_or_ge j gs.length with hlt | hge
    · have hB := h.blk j hlt
      rw [lane_rep hlt] at hB
      rw [show (gs ++ [g]).getD j 0 = gs.getD j 0 by rw [List.getD_eq_getElem?_getD, List.getD_eq_getElem?_getD, List.getElem?_append_left hlt]]
      exact RowAt.kept hB hK (own_unlike h.own hB (by rfl))
    · obtain rfl : j = gs.length := by simp at hj; omega
      rw [show (gs ++ [g]).getD gs.length 0 = g by simp [List.getD_eq_getElem?_getD]]
      exact RowAt.kept hg hK (own_unlike h.own hg (by rfl))
end
open Go.RowKit Bb
theorem DocAt.weak {w : World} {N N' c : Nat} {v : Value} {gs : List Nat} {L : List (List Nat)} (h : DocAt w N v c gs L) (hN : N' ≤ N) : DocAt w N' v c gs L :=
  ⟨own_base h.own fun k hk => Nat.le_trans hN (h.own_ge k hk), fun g hg => Nat.le_trans hN (h.ge g hg), h.nd, h.blk, h.ok, h.len⟩
theorem DocAt.not_new {w : World} {N c : Nat} {v : Value} {gs : List Nat} {L : List (List Nat)} (h : DocAt w N v c gs L) : w.heap.size ∉ gs := fun hm => by
  obtain ⟨i, hi, e⟩ := List.getElem_of_mem hm
  have := (h.blk i hi).lt
  rw [List.getD_eq_getElem?_getD, List.getElem?_eq_getElem hi] at this
  simp [e] at this
set_option maxHeartbeats 1600000 in
theorem rempty_any (a t l m b c g z : Nat) (hl : l ≤ 1000) (hc : c ≤ 4194304) (w : World) : Calls Tryz.prog 32 #[spv a t l m b c g z] w fun e w' => ∃ v gs, e = .returned v ∧ DocAt w' w.heap.size v c gs (List.replicate (l * c) zb) ∧ gs.length = l ∧ Below w.heap.size w w' := by
  obtain ⟨N, hN⟩ : ∃ N, N = w.heap.size := ⟨_, rfl⟩
  obtain ⟨w1, e1⟩ : ∃ w1, w1 = w.alloc (.cells (spc a t l m b c g z) 48) := ⟨_, rfl⟩
  have HB1 : Hid (Below N w w1) := Lib.hid (by rw [e1, hN]; exact one_box _ _)
  have HS1 : Hid (RowAt w1 N 48 (spc a t l m b c g z)) := Lib.hid (by rw [e1, hN]; exact RowAt.new _ _ _)
  have hs1 : w1.heap.size = N + 1 := by rw [e1, hN, World.size_alloc]
  have E1 := Lib.hid e1
  have HN := Lib.hid hN
  have hmk := make_blocks c hc
  have HR : Hid (∀ wr : World, ∀ v gs, DocAt wr (N + 1) v c gs (List.replicate (gs.length * c) zb) → Below (N + 1) w1 wr → gs.length ≤ 1000 → ∃ v' w', (Builtin.append_ #[50, 50] 50 #[v, .slice (some ⟨wr.heap.size + 1, 0, none⟩) 1 1]).run Tryz.prog ((wr.alloc (.cells (bcs (List.replicate c zb)).toArray 83)).alloc (.cells #[.slice (some ⟨wr.heap.size, 0, none⟩) c c] 91)) = .ok v' w' ∧ DocAt w' (N + 1) v' c (gs ++ [wr.heap.size]) (List.replicate ((gs ++ [wr.heap.size]).length * c) zb) ∧ Below (N + 1) w1 w') := Lib.hid fun wr v gs hd hb hg => by
    have hs := hb.size
    have b2 : Below wr.heap.size wr ((wr.alloc (.cells (bcs (List.replicate c zb)).toArray 83)).alloc (.cells #[.slice (some ⟨wr.heap.size, 0, none⟩) c c] 91)) := two_box _ _ _
    have r1 : RowAt ((wr.alloc (.cells (bcs (List.replicate c zb)).toArray 83)).alloc (.cells #[.slice (some ⟨wr.heap.size, 0, none⟩) c c] 91)) wr.heap.size 83 (bcs (List.replicate c zb)).toArray := (RowAt.new wr _ _).alloc _
    have r2 := RowAt.new (wr.alloc (.cells (bcs (List.replicate c zb)).toArray 83)) 91 #[.slice (some ⟨wr.heap.size, 0, none⟩) c c]
    rw [World.size_alloc] at r2
    obtain ⟨v', w', hr, hd', hb'⟩ := (hd.step b2).more (by have := b2.size; omega) r2 r1 (by omega) hd.not_new (by omega) 50
    exact ⟨v', w', hr, hd', hb.trans ((b2.mono (by omega)).trans hb')⟩
  have HD0 : Hid (DocAt w1 (N + 1) (.slice none 0 0) c [] (List.replicate (([] : List Nat).length * c) zb)) := Lib.hid (by simpa using DocAt.nil w1 (N + 1) c)
  clear e1 hN
  go_enter Tryz.func32, Tryz.ntmps32
  go_wp2
  rw [← E1.out, ← HN.out]
  go_loopw [3, 4] (fun v3 v4 wr => ∃ i gs, i ≤ l ∧ v4 = .int .i64 (i : Int) ∧ Hid (gs.length = i) ∧ Hid (DocAt wr (N + 1) v3 c gs (List.replicate (gs.length * c) zb)) ∧ Hid (Below (N + 1) w1 wr)) (fun _ v4 _ => l - (intOf v4).toNat)
  case atStart => exact ⟨0, [], Nat.zero_le _, rfl, Lib.hid rfl, HD0, Lib.hid (Below.refl _ _)⟩
  case round =>
    obtain ⟨i, gs, hi, rfl, HG, HD, HB⟩ := hrel
    have hS := HS1.out.below HB.out (by omega)
    have k2 : wr.cell? ⟨N, 2, none⟩ = some (.int .i64 (l : Int)) := (hS.cell 2).trans rfl
    have k5 : wr.cell? ⟨N, 5, none⟩ = some (.int .i64 (c : Int)) := (hS.cell 5).trans rfl
    clear hS
    by_cases h : i < l
    · have hd : decide ((i : Int) < (l : Int)) = true := by simp; omega
      have hd2 : decide (i < l) = true := by simp; omega
      obtain ⟨v', w', hr, hd', hb'⟩ := HR.out wr _ gs HD.out HB.out (by have := HG.out; omega)
      have HAP := Lib.hid hr
      have HD' := Lib.hid hd'
      have HB' := Lib.hid hb'
      clear hr hd' hb'
      go_wp2_with (at_builtin; refine wpList_append_of rfl (.tmp 11) (.tmp 15) 50 rfl _ _ _ rfl rfl HAP.out ?_)
      go_roundw
      case measure => simp [intOf]; omega
      case rel => exact ⟨i + 1, gs ++ [wr.heap.size], by omega, by go_num, Lib.hid (by rw [List.length_append, HG.out]; rfl), HD', HB'⟩
    · obtain rfl : i = l := by omega
      have hd : decide ((i : Int) < (i : Int)) = false := by simp
      go_wp2
      refine bodyPost_ret (results_tmp rfl _ _ _) rfl ⟨_, gs, rfl, ?_, HG.out, ?_⟩
      · rw [← HN.out]
        have h := HD.out.weak (Nat.le_succ N)
        rw [HG.out] at h
        exact h
      · rw [← HN.out]
        exact HB1.out.trans (HB.out.mono (Nat.le_succ N))
open Go.RowKit Bb
theorem ixg_run {w : World} {b i n c : Nat} {ev : Operand → Value} {x y : Operand} {o : Oper} (hop : o.op = .indexAddr 50 x y) (hx : ev x = .slice (some ⟨b, 0, none⟩) n c) (hy : ev y = .int .i64 (i : Int)) (hi : i < n) : (execOp ev o).run Tryz.prog w = .ok (.value (.pointer (some ⟨b, i, none⟩))) w := by
  have h1 : (i : Int) < (n : Int) := by omega
  simp [execOp, hop, hx, hy, go_sem, h1]
theorem ixr_run {w : World} {b i n c : Nat} {ev : Operand → Value} {x y : Operand} {o : Oper} (hop : o.op = .indexAddr 91 x y) (hx : ev x = .slice (some ⟨b, 0, none⟩) n c) (hy : ev y = .int .i64 (i : Int)) (hi : i < n) : (execOp ev o).run Tryz.prog w = .ok (.value (.pointer (some ⟨b, i * 128, none⟩))) w := by
  have h1 : (i : Int) < (n : Int) := by omega
  simp [execOp, hop, hx, hy, go_sem, h1]
theorem so_build (w : World) (x y : Int) : (Instr.build 30 #[(0, .int .i64 x), (1, .int .i64 y)]).run Tryz.prog w = .ok (sov x y) w := by
  have h : ∀ x y : Int, Tryz.prog.built 30 [(0, .int .i64 x), (1, .int .i64 y)] = some (#[.int .i64 x, .int .i64 y]) := fun x y => by kernel_rfl
  exact run_build w _ _ _ (h ..)
theorem so_run {w : World} {ev : Operand → Value} {o : Oper} {x0 x1 : Operand} {x y : Int} (hop : o.op = .build 30 #[(0, x0), (1, x1)]) (h0 : ev x0 = .int .i64 x) (h1 : ev x1 = .int .i64 y) : (execOp ev o).run Tryz.prog w = .ok (.value (sov x y)) w := by
  simp only [execOp, hop, List.map_toArray, List.map_cons, List.map_nil, h0, h1, Sem.run_bind, so_build, Result.andThen_ok, Sem.run_pure]
section
variable {w w' : World} {N c : Nat} {v : Value} {gs : List Nat} {L : List (List Nat)}
theorem DocAt.head (h : DocAt w N v c gs L) (hg : 0 < gs.length) : ∃ o k, v = .slice (some ⟨o, 0, none⟩) gs.length k := by
  obtain ⟨A, k, rfl, _, h0, _⟩ := own_form h.own
  obtain ⟨o, rfl, _⟩ := h0 hg
  exact ⟨o, k, rfl⟩
theorem DocAt.row {o n k : Nat} (h : DocAt w N (.slice (some ⟨o, 0, none⟩) n k) c gs L) {i : Nat} (hi : i < gs.length) : w.cell? ⟨o, i, none⟩ = some (.slice (some ⟨gs.getD i 0, 0, none⟩) c c) := by
  have hr := Reads.of_own (n := gs.length) (c := k) (A := some ⟨o, 0, none⟩) (by
    obtain ⟨A, k', e, _, _, _⟩ := own_form h.own
    injection e with e1 e2 e3
    subst e2
    exact h.own)
  obtain ⟨b, off, e, _, hc⟩ := hr i (by rw [hds, List.length_map]; exact hi)
  injection e with e
  injection e with e1 e2 e3
  subst e1
  subst e2
  rw [Nat.zero_add] at hc
  rw [hc, ← List.getElem?_eq_getElem, hds_at c gs i hi]
  rfl
end
def mixL (L : List (List Nat)) (n : Nat) : List (List Nat) := L.take n ++ List.replicate (L.length - n) zb
theorem mix_zero (L : List (List Nat)) : mixL L 0 = List.replicate L.length zb := by simp [mixL]
theorem mix_all (L : List (List Nat)) : mixL L L.length = L := by simp [mixL]
theorem mix_next (L : List (List Nat)) (n : Nat) (hn : n < L.length) : (mixL L n).set n (L.getD n []) = mixL L (n + 1) := by
  unfold mixL
  have h1 : (L.take n).length = n := by rw [List.length_take]; omega
  obtain ⟨m, hm⟩ : ∃ m, L.length - n = m + 1 := ⟨L.length - n - 1, by omega⟩
  rw [List.set_append_right _ _ (by omega), h1, Nat.sub_self, hm, show L.length - (n + 1) = m by omega, List.replicate_succ, List.set_cons_zero, List.take_succ_eq_append_getElem hn, List.getD_eq_getElem?_getD, List.getElem?_eq_getElem hn, List.append_assoc]
  rfl
set_option maxHeartbeats 6400000 in
theorem all_any {w : World} {q p h G a t l m b c g z : Nat} {L : List (List Nat)} (hG : GrAt w q p h G a t l m b c g z L) (hl0 : 0 < l) (hl : l ≤ 1000) (hc : c ≤ 4194304) (hL : L.length = l * c) (hLm : L.length ≤ 4194304) :
    Calls Tryz.prog 19 #[.pointer (some ⟨q, 0, none⟩)] w fun e w' => ∃ v gs, e = .returned v ∧ DocAt w' w.heap.size v c gs L ∧ gs.length = l ∧ Below w.heap.size w w' := by
  obtain ⟨N, hN⟩ : ∃ N, N = w.heap.size := ⟨_, rfl⟩
  have CE := Lib.hid (rempty_any a t l m b c g z hl hc w)
  have HG := Lib.hid hG
  have HL := Lib.hid hL
  have HLm := Lib.hid hLm
  have HN := Lib.hid hN
  have k0 := hG.row.shape
  clear hG hL hLm hN
  go_enter Tryz.func19, Tryz.ntmps19
  go_wp2_with (refine wpList_load_want rfl 44 _ rfl _ _ rfl k0 ?_)
  refine CE.out.mono ?_
  rintro e w1 ⟨v, gs, rfl, hD, rfl, hb⟩
  rw [← HN.out] at hD hb
  obtain ⟨o, kk, rfl⟩ := hD.head hl0
  rw [← HL.out, ← mix_zero] at hD
  have HD0 := Lib.hid hD
  have HB0 := Lib.hid hb
  clear hD hb CE k0
  go_wp2
  go_loopw [13] (fun v13 wr => ∃ i : Nat, i ≤ gs.length ∧ v13 = .int .i64 (i : Int) ∧ Hid (DocAt wr N (.slice (some ⟨o, 0, none⟩) gs.length kk) c gs (mixL L (i * c))) ∧ Hid (Below N w wr)) (fun v13 _ => gs.length - (intOf v13).toNat)
  case atStart => exact ⟨0, Nat.zero_le _, rfl, Lib.hid (by rw [Nat.zero_mul]; exact HD0.out), HB0⟩
  case round =>
    obtain ⟨i, hi, rfl, HD, HB⟩ := hrel
    by_cases h : i < gs.length
    · have hd : decide ((i : Int) < (gs.length : Int)) = true := by simp; omega
      have hd2 : decide (i < gs.length) = true := by simp; omega
      have hi0 : (0 : Int) ≤ (i : Int) := by omega
      have hi1 : (i : Int) < (gs.length : Int) := by omega
      have kr := HD.out.row h
      have hil : i ≤ 1000 := by omega
      generalize hgi : gs.getD i 0 = gi at *
      have HGI := Lib.hid hgi
      have hic : (i + 1) * c ≤ gs.length * c := Nat.mul_le_mul_right c h
      rw [Nat.add_mul, Nat.one_mul] at hic
      have HIC := Lib.hid hic
      have HI := Lib.hid h
      clear hgi hic
      go_wp2
      go_loopw [21] (fun v21 wr => ∃ k : Nat, k ≤ c ∧ v21 = .int .i64 (k : Int) ∧ Hid (DocAt wr N (.slice (some ⟨o, 0, none⟩) gs.length kk) c gs (mixL L (i * c + k))) ∧ Hid (Below N w wr)) (fun v21 _ => c - (intOf v21).toNat)
      case atStart => exact ⟨0, Nat.zero_le _, rfl, HD, HB⟩
      case round =>
        obtain ⟨k, hk, rfl, HD3, HB3⟩ := hrel
        clear kr
        by_cases hkc : k < c
        · have hd3 : decide ((k : Int) < (c : Int)) = true := by simp; omega
          have hd4 : decide (k < c) = true := by simp; omega
          obtain ⟨n, hn⟩ : ∃ n, n = i * c + k := ⟨_, rfl⟩
          have hnL : n < L.length := by rw [hn, HL.out]; have := HIC.out; omega
          have HX := Lib.hid (block_ok HG.out.live.ok n hnL)
          have HKc := Lib.hid hkc
          have hD3 := HD3.out
          rw [← hn] at hD3
          have HS : Hid ((mixL L n).set n (L.getD n []) = mixL L (i * c + (k + 1))) := Lib.hid (by rw [mix_next L n hnL, hn]; rfl)
          have CG : Hid (∀ u, Below N w u → Calls Tryz.prog 38 #[.pointer (some ⟨q, 0, none⟩), sov (i : Int) (k : Int)] u fun e w2 => e = .returned (.tuple #[.agg (wq (L.getD n [])), .int .i64 0]) ∧ Below u.heap.size u w2) := Lib.hid fun u hu => gload_any (HG.out.step (by rw [← HN.out]; exact hu)) (by omega) (by omega) i k n h hkc hn.symm hnL HLm.out
          generalize L.getD n [] = x at *
          obtain ⟨W, hWd⟩ : ∃ W : Nat → World → Prop, W = fun j u => if j = 0 then Below wr.heap.size wr u else (DocAt u N (.slice (some ⟨o, 0, none⟩) gs.length kk) c gs (mixL L (i * c + (k + 1))) ∧ Below N w u) := ⟨_, rfl⟩
          have hsN : N ≤ wr.heap.size := by have := HB3.out.size; have := HN.out; omega
          have HWS : Hid (∀ k w w', W k w → Below w.heap.size w w' → W k w') := Lib.hid fun j u u' hu hb => by
            subst hWd
            by_cases hj : j = 0
            · simp only [if_pos hj] at hu ⊢; exact below_step hu hb
            · simp only [if_neg hj] at hu ⊢; exact ⟨hu.1.step hb, hu.2.trans (hb.mono (by have := hu.2.size; have := HN.out; omega))⟩
          have HW0 : Hid (W 0 wr) := Lib.hid (by subst hWd; exact Below.refl _ _)
          have HF : Hid (∀ u, W 0 u → (loadVar 91 ⟨o, i, none⟩).run Tryz.prog u = .ok (.slice (some ⟨gi, 0, none⟩) c c) u ∧ Calls Tryz.prog 38 #[.pointer (some ⟨q, 0, none⟩), sov (i : Int) (k : Int)] u fun e w2 => e = .returned (.tuple #[.agg (wq x), .int .i64 0]) ∧ Below u.heap.size u w2) := Lib.hid fun u hu => by
            subst hWd
            have hr := (hD3.step hu).row HI.out
            rw [HGI.out] at hr
            exact ⟨by simp [hr, go_sem], CG.out u (HB3.out.trans (hu.mono hsN))⟩
          have HT : Hid (∀ u, W 0 u → ∃ w3, (storeVar 83 ⟨gi, k * 128, none⟩ (.agg (wq x))).run Tryz.prog u = .ok () w3 ∧ W 1 w3) := Lib.hid fun u hu => by
            subst hWd
            obtain ⟨u2, hs, hd, hk⟩ := (hD3.step hu).store HI.out HKc.out HX.out
            rw [HGI.out] at hs hk
            rw [← hn, HS.out] at hd
            have hge : N ≤ gi := by rw [← HGI.out]; exact hD3.ge _ (getD_mem HI.out)
            exact ⟨u2, hs, hd, (HB3.out.trans (hu.mono hsN)).trans (hk.below (by have := hu.size; omega) fun x hx => by omega)⟩
          have HW1 : Hid (∀ u, W 1 u → DocAt u N (.slice (some ⟨o, 0, none⟩) gs.length kk) c gs (mixL L (i * c + (k + 1))) ∧ Below N w u) := Lib.hid fun u hu => by subst hWd; exact hu
          clear hWd CG hD3 HX HS hn hnL HB3 HD3 hsN
          go_wp2
          refine wp_region_seq [14] [.slice (some ⟨o, 0, none⟩) gs.length kk, .int .i64 (i : Int), .pointer (some ⟨o, i, none⟩), .slice (some ⟨gi, 0, none⟩) c c, .int .i64 (k : Int), .pointer (some ⟨q, 0, none⟩), .int .i64 (i : Int), .int .i64 (k : Int), sov (i : Int) (k : Int), .tuple #[.agg (wq x), .int .i64 0], .tuple #[.agg (wq x), .int .i64 0], .agg (wq x), .int .i64 0, .pointer (some ⟨gi, k * 128, none⟩), undef] W (by kernel_rfl) (by kernel_rfl) rfl (HWS.out 0 _ _ HW0.out (Below.refl _ _).drew) ⟨?_, ?_, ?_, ?_, ?_, ?_, ?_, ?_, ?_, ?_, ?_, ?_, ?_, ?_, ?_, trivial⟩ ?_
          · exact seq_head (by kernel_rfl) (HWS.out 0) fun a w C hW => op_move (.inl rfl) (C.was 3 (by kernel_rfl))
          · exact seq_head (by kernel_rfl) (HWS.out 0) fun a w C hW => op_move (.inl rfl) (C.was 4 (by kernel_rfl))
          · exact seq_head (by kernel_rfl) (HWS.out 0) fun a w C hW => op_value (ixg_run rfl (C.on (j := 0) (by kernel_rfl) rfl rfl) (C.on (j := 1) (by kernel_rfl) rfl rfl) HI.out) rfl
          · exact seq_head (by kernel_rfl) (HWS.out 0) fun a w C hW => op_value (load_run rfl (C.on (j := 2) (by kernel_rfl) rfl rfl) (HF.out w hW).1) rfl
          · exact seq_head (by kernel_rfl) (HWS.out 0) fun a w C hW => op_move (.inl rfl) (C.was 5 (by kernel_rfl))
          · exact seq_head (by kernel_rfl) (HWS.out 0) fun a w C hW => op_move (.inl rfl) (C.was 0 (by kernel_rfl))
          · exact seq_head (by kernel_rfl) (HWS.out 0) fun a w C hW => op_move (.inl rfl) (C.was 4 (by kernel_rfl))
          · exact seq_head (by kernel_rfl) (HWS.out 0) fun a w C hW => op_move (.inl rfl) (C.was 5 (by kernel_rfl))
          · exact seq_head (by kernel_rfl) (HWS.out 0) fun a w C hW => op_value (so_run rfl (C.on (j := 6) (by kernel_rfl) rfl rfl) (C.on (j := 7) (by kernel_rfl) rfl rfl)) rfl
          · exact seq_head (by kernel_rfl) (HWS.out 0) fun a w C hW => op_call2 rfl (reg_enters Tryz.func38 (by kernel_rfl) (by kernel_rfl)) (C.on (j := 5) (by kernel_rfl) rfl rfl) (C.on (j := 8) (by kernel_rfl) rfl rfl) (calls_is (HF.out w hW).2)
          · exact seq_head (by kernel_rfl) (HWS.out 0) fun a w C hW => op_move (.inl rfl) (C.on (j := 9) (by kernel_rfl) rfl rfl)
          · exact seq_head (by kernel_rfl) (HWS.out 0) fun a w C hW => op_value (ext_run (v := .agg (wq x)) rfl (C.on (j := 10) (by kernel_rfl) rfl rfl) rfl) rfl
          · exact seq_float (by kernel_rfl) HWS.out fun a w C => op_value (ext_run (v := .int .i64 0) rfl (C.on (j := 10) (by kernel_rfl) rfl rfl) rfl) rfl
          · exact seq_head (by kernel_rfl) (HWS.out 0) fun a w C hW => op_value (ixr_run rfl (C.on (j := 3) (by kernel_rfl) rfl rfl) (C.on (j := 4) (by kernel_rfl) rfl rfl) HKc.out) rfl
          · exact seq_turn 0 (by kernel_rfl) fun a w C hW => by
                obtain ⟨w2, hs, hn⟩ := HT.out w hW
                exact sto_does rfl (C.on (j := 13) (by kernel_rfl) rfl rfl) (C.on (j := 11) (by kernel_rfl) rfl rfl) hs hn
          intro w3 hw
          obtain ⟨D3, B3⟩ := HW1.out w3 hw
          have HD4 := Lib.hid D3
          have HB4 := Lib.hid B3
          clear hw HWS HW0 HF HT HW1 B3 D3
          simp only [setAll, setAt, List.setIfInBounds_toArray, List.set_cons_succ, List.set_cons_zero]
          go_wp2
          go_roundw
          case rel => exact ⟨k + 1, by omega, by go_num, HD4, HB4⟩
          case measure => simp [intOf]; omega
        · obtain rfl : k = c := by omega
          have hd3 : decide ((k : Int) < (k : Int)) = false := by simp
          go_wp2
          go_roundw
          case rel => exact ⟨i + 1, by omega, by go_num, Lib.hid (by rw [Nat.add_mul, Nat.one_mul]; exact HD3.out), HB3⟩
          case measure => simp [intOf]; omega
    · obtain rfl : i = gs.length := by omega
      have hd : decide ((gs.length : Int) < (gs.length : Int)) = false := by simp
      go_wp2
      refine bodyPost_ret (results_tmp rfl _ _ _) rfl ⟨_, gs, rfl, ?_, rfl, by rw [← HN.out]; exact HB.out⟩
      have h := HD.out
      rw [← HN.out]
      rw [← HL.out, mix_all] at h
      exact h
open Go.RowKit Bb
set_option maxHeartbeats 6400000 in
theorem same_at {w : World} {N1 N2 c l o1 o2 kk1 kk2 : Nat} {gs1 gs2 : List Nat} {L : List (List Nat)} (h1 : DocAt w N1 (.slice (some ⟨o1, 0, none⟩) l kk1) c gs1 L) (h2 : DocAt w N2 (.slice (some ⟨o2, 0, none⟩) l kk2) c gs2 L) (hl1 : gs1.length = l) (hl2 : gs2.length = l) (hl : l ≤ 1000) (hc : c ≤ 4194304) :
    Calls Tryz.prog 18 #[.slice (some ⟨o1, 0, none⟩) l kk1, .slice (some ⟨o2, 0, none⟩) l kk2] w fun e w' => e = .returned (.bool true) ∧ Below w.heap.size w w' := by
  have HL1 := Lib.hid hl1
  have HL2 := Lib.hid hl2
  have H1 := Lib.hid h1
  have H2 := Lib.hid h2
  clear h1 h2 hl1 hl2
  go_enter Tryz.func18, Tryz.ntmps18
  go_wp2
  go_loopw [5] (fun v5 wr => ∃ i : Nat, i ≤ l ∧ v5 = .int .i64 (i : Int) ∧ Hid (Below w.heap.size w wr)) (fun v5 _ => l - (intOf v5).toNat)
  case atStart => exact ⟨0, Nat.zero_le _, rfl, Lib.hid (Below.refl _ _)⟩
  case round =>
    obtain ⟨i, hi, rfl, HB⟩ := hrel
    by_cases h : i < l
    · have hd : decide ((i : Int) < (l : Int)) = true := by simp; omega
      have hd2 : decide (i < l) = true := by simp; omega
      have hi0 : (0 : Int) ≤ (i : Int) := by omega
      have hi1 : (i : Int) < (l : Int) := by omega
      have HI := Lib.hid h
      obtain ⟨g1, hg1⟩ : ∃ g1, g1 = gs1.getD i 0 := ⟨_, rfl⟩
      obtain ⟨g2, hg2⟩ : ∃ g2, g2 = gs2.getD i 0 := ⟨_, rfl⟩
      have HR : Hid (∀ u, Below w.heap.size w u → (loadVar 91 ⟨o1, i, none⟩).run Tryz.prog u = .ok (.slice (some ⟨g1, 0, none⟩) c c) u ∧ (loadVar 91 ⟨o2, i, none⟩).run Tryz.prog u = .ok (.slice (some ⟨g2, 0, none⟩) c c) u ∧ u.cell? ⟨o1, i, none⟩ = some (.slice (some ⟨g1, 0, none⟩) c c) ∧ BlkAt u g1 (lane c L i) ∧ BlkAt u g2 (lane c L i)) := Lib.hid fun u hu => by
        have r1 := (H1.out.step hu).row (i := i) (by rw [HL1.out]; exact h)
        have r2 := (H2.out.step hu).row (i := i) (by rw [HL2.out]; exact h)
        have b1 := (H1.out.step hu).blk i (by rw [HL1.out]; exact h)
        have b2 := (H2.out.step hu).blk i (by rw [HL2.out]; exact h)
        rw [← hg1] at r1 b1
        rw [← hg2] at r2 b2
        exact ⟨by simp [r1, go_sem], by simp [r2, go_sem], r1, b1, b2⟩
      have HF : Hid (∀ u, Below wr.heap.size wr u → (loadVar 91 ⟨o1, i, none⟩).run Tryz.prog u = .ok (.slice (some ⟨g1, 0, none⟩) c c) u ∧ (loadVar 91 ⟨o2, i, none⟩).run Tryz.prog u = .ok (.slice (some ⟨g2, 0, none⟩) c c) u ∧ True) := Lib.hid fun u hu => by
        obtain ⟨a1, a2, _⟩ := HR.out u (below_step HB.out hu)
        exact ⟨a1, a2, trivial⟩
      have HO := Lib.hid (lane_ok (i := i) (c := c) H1.out.ok)
      have HLn := Lib.hid (lane_length (i := i) H1.out.len (by rw [HL1.out]; exact h))
      clear hg1 hg2
      go_wp2
      refine wp_region_text [Is (.slice (some ⟨o1, 0, none⟩) l kk1), Is (.int .i64 (i : Int)), Is (.pointer (some ⟨o1, i, none⟩)), Is (.slice (some ⟨g1, 0, none⟩) c c), Is (.int .i64 (c : Int)), Is (.slice (some ⟨o2, 0, none⟩) l kk2), Is (.int .i64 (i : Int)), Is (.pointer (some ⟨o2, i, none⟩)), Is (.slice (some ⟨g2, 0, none⟩) c c), Is (.int .i64 (c : Int)), Is (.bool false)] (by kernel_rfl) (by kernel_rfl) rfl ⟨stable_is _, stable_is _, stable_is _, stable_is _, stable_is _, stable_is _, stable_is _, stable_is _, stable_is _, stable_is _, stable_is _, trivial⟩ ⟨?_, ?_, ?_, ?_, ?_, ?_, ?_, ?_, ?_, ?_, ?_, trivial⟩ ?_
      · intro a w C
        exact part_on (wanted_free rfl _) (op_move (.inl rfl) (C.was 0 (by kernel_rfl)))
      · intro a w C
        exact part_on (wanted_free rfl _) (op_move (.inl rfl) (C.was 5 (by kernel_rfl)))
      · intro a w C
        exact part_on (wanted_free rfl _) (op_value (ixg_run rfl (C.on (j := 0) (by kernel_rfl) rfl rfl) (C.on (j := 1) (by kernel_rfl) rfl rfl) HI.out) rfl)
      · intro a w C
        exact part_on (wanted_free rfl _) (op_value (load_run rfl (C.on (j := 2) (by kernel_rfl) rfl rfl) (HF.out _ C.below).1) rfl)
      · intro a w C
        exact part_on (wanted_free rfl _) (op_len_slice rfl Tryz.underlying91 (C.on (j := 3) (by kernel_rfl) rfl rfl) rfl)
      · intro a w C
        exact part_on (wanted_free rfl _) (op_move (.inl rfl) (C.was 1 (by kernel_rfl)))
      · intro a w C
        exact part_on (wanted_free rfl _) (op_move (.inl rfl) (C.was 5 (by kernel_rfl)))
      · intro a w C
        exact part_on (wanted_free rfl _) (op_value (ixg_run rfl (C.on (j := 5) (by kernel_rfl) rfl rfl) (C.on (j := 6) (by kernel_rfl) rfl rfl) HI.out) rfl)
      · intro a w C
        exact part_on (wanted_free rfl _) (op_value (load_run rfl (C.on (j := 7) (by kernel_rfl) rfl rfl) (HF.out _ C.below).2.1) rfl)
      · intro a w C
        exact part_on (wanted_free rfl _) (op_len_slice rfl Tryz.underlying91 (C.on (j := 8) (by kernel_rfl) rfl rfl) rfl)
      · intro a w C
        exact part_on (wanted_free rfl _) (op_bin rfl (C.on (j := 4) (by kernel_rfl) rfl rfl) (C.on (j := 9) (by kernel_rfl) rfl rfl) rfl (by simp [go_sem]) rfl)
      rintro wF hbF _ rfl _ rfl _ rfl _ rfl _ rfl _ rfl _ rfl _ rfl _ rfl _ rfl _ rfl
      simp only [Fin, setAt, Exit.then, List.setIfInBounds_toArray, List.set_cons_succ, List.set_cons_zero]
      have HBF := Lib.hid (below_step HB.out hbF)
      clear hbF HF HB
      go_wp2
      go_loopw [6] (fun v6 wr => ∃ k : Nat, k ≤ c ∧ v6 = .int .i64 (k : Int) ∧ Hid (Below w.heap.size w wr)) (fun v6 _ => c - (intOf v6).toNat)
      case atStart => exact ⟨0, Nat.zero_le _, rfl, HBF⟩
      case round =>
        obtain ⟨k, hk, rfl, HB3⟩ := hrel
        obtain ⟨-, -, kr, -, -⟩ := HR.out _ HB3.out
        by_cases hkc : k < c
        · have hd3 : decide ((k : Int) < (c : Int)) = true := by simp; omega
          have hd4 : decide (k < c) = true := by simp; omega
          have HKc := Lib.hid hkc
          have HX := Lib.hid (block_ok HO.out k (by rw [HLn.out]; exact hkc))
          have HF2 : Hid (∀ u, Below wr.heap.size wr u → (loadVar 91 ⟨o1, i, none⟩).run Tryz.prog u = .ok (.slice (some ⟨g1, 0, none⟩) c c) u ∧ (loadVar 91 ⟨o2, i, none⟩).run Tryz.prog u = .ok (.slice (some ⟨g2, 0, none⟩) c c) u ∧ (loadVar 83 ⟨g1, k * 128, none⟩).run Tryz.prog u = .ok (.agg (wq ((lane c L i).getD k []))) u ∧ (loadVar 83 ⟨g2, k * 128, none⟩).run Tryz.prog u = .ok (.agg (wq ((lane c L i).getD k []))) u) := Lib.hid fun u hu => by
            obtain ⟨a1, a2, _, b1, b2⟩ := HR.out u (below_step HB3.out hu)
            exact ⟨a1, a2, b1.load HO.out k (by rw [HLn.out]; exact hkc), b2.load HO.out k (by rw [HLn.out]; exact hkc)⟩
          generalize (lane c L i).getD k [] = x at *
          go_wp2
          refine wp_region_text [Is (.slice (some ⟨o1, 0, none⟩) l kk1), Is (.int .i64 (i : Int)), Is (.pointer (some ⟨o1, i, none⟩)), Is (.slice (some ⟨g1, 0, none⟩) c c), Is (.int .i64 (k : Int)), Is (.pointer (some ⟨g1, k * 128, none⟩)), Is (.agg (wq x)), Is (.slice (some ⟨o2, 0, none⟩) l kk2), Is (.int .i64 (i : Int)), Is (.pointer (some ⟨o2, i, none⟩)), Is (.slice (some ⟨g2, 0, none⟩) c c), Is (.int .i64 (k : Int)), Is (.pointer (some ⟨g2, k * 128, none⟩)), Is (.agg (wq x)), Is (.bool false)] (by kernel_rfl) (by kernel_rfl) rfl ⟨stable_is _, stable_is _, stable_is _, stable_is _, stable_is _, stable_is _, stable_is _, stable_is _, stable_is _, stable_is _, stable_is _, stable_is _, stable_is _, stable_is _, stable_is _, trivial⟩ ⟨?_, ?_, ?_, ?_, ?_, ?_, ?_, ?_, ?_, ?_, ?_, ?_, ?_, ?_, ?_, trivial⟩ ?_
          · intro a w C
            exact part_on (wanted_free rfl _) (op_move (.inl rfl) (C.was 0 (by kernel_rfl)))
          · intro a w C
            exact part_on (wanted_free rfl _) (op_move (.inl rfl) (C.was 5 (by kernel_rfl)))
          · intro a w C
            exact part_on (wanted_free rfl _) (op_value (ixg_run rfl (C.on (j := 0) (by kernel_rfl) rfl rfl) (C.on (j := 1) (by kernel_rfl) rfl rfl) HI.out) rfl)
          · intro a w C
            exact part_on (wanted_free rfl _) (op_value (load_run rfl (C.on (j := 2) (by kernel_rfl) rfl rfl) (HF2.out _ C.below).1) rfl)
          · intro a w C
            exact part_on (wanted_free rfl _) (op_move (.inl rfl) (C.was 6 (by kernel_rfl)))
          · intro a w C
            exact part_on (wanted_free rfl _) (op_value (ixr_run rfl (C.on (j := 3) (by kernel_rfl) rfl rfl) (C.on (j := 4) (by kernel_rfl) rfl rfl) HKc.out) rfl)
          · intro a w C
            exact part_on (wanted_free rfl _) (op_value (load_run rfl (C.on (j := 5) (by kernel_rfl) rfl rfl) (HF2.out _ C.below).2.2.1) rfl)
          · intro a w C
            exact part_on (wanted_free rfl _) (op_move (.inl rfl) (C.was 1 (by kernel_rfl)))
          · intro a w C
            exact part_on (wanted_free rfl _) (op_move (.inl rfl) (C.was 5 (by kernel_rfl)))
          · intro a w C
            exact part_on (wanted_free rfl _) (op_value (ixg_run rfl (C.on (j := 7) (by kernel_rfl) rfl rfl) (C.on (j := 8) (by kernel_rfl) rfl rfl) HI.out) rfl)
          · intro a w C
            exact part_on (wanted_free rfl _) (op_value (load_run rfl (C.on (j := 9) (by kernel_rfl) rfl rfl) (HF2.out _ C.below).2.1) rfl)
          · intro a w C
            exact part_on (wanted_free rfl _) (op_move (.inl rfl) (C.was 6 (by kernel_rfl)))
          · intro a w C
            exact part_on (wanted_free rfl _) (op_value (ixr_run rfl (C.on (j := 10) (by kernel_rfl) rfl rfl) (C.on (j := 11) (by kernel_rfl) rfl rfl) HKc.out) rfl)
          · intro a w C
            exact part_on (wanted_free rfl _) (op_value (load_run rfl (C.on (j := 12) (by kernel_rfl) rfl rfl) (HF2.out _ C.below).2.2.2) rfl)
          · intro a w C
            exact part_on (wanted_free rfl _) (op_value (bneq_run _ HX.out HX.out (k := false) (by simp) _ _ _ rfl (C.on (j := 6) (by kernel_rfl) rfl rfl) (C.on (j := 13) (by kernel_rfl) rfl rfl)) rfl)
          rintro wF hbF _ rfl _ rfl _ rfl _ rfl _ rfl _ rfl _ rfl _ rfl _ rfl _ rfl _ rfl _ rfl _ rfl _ rfl _ rfl
          simp only [Fin, setAt, Exit.then, List.setIfInBounds_toArray, List.set_cons_succ, List.set_cons_zero]
          have HB4 := Lib.hid (below_step HB3.out hbF)
          clear hbF HF2 HB3 HX
          go_wp2
          go_roundw
          case rel => exact ⟨k + 1, by omega, by go_num, HB4⟩
          case measure => simp [intOf]; omega
        · obtain rfl : k = c := by omega
          have hd3 : decide ((k : Int) < (k : Int)) = false := by simp
          go_wp2
          go_roundw
          case rel => exact ⟨i + 1, by omega, by go_num, HB3⟩
          case measure => simp [intOf]; omega
    · obtain rfl : i = l := by omega
      have hd : decide ((i : Int) < (i : Int)) = false := by simp
      go_wp2
      go_ret
      exact ⟨rfl, HB.out⟩
theorem same_any {w : World} {N1 N2 c l : Nat} {v1 v2 : Value} {gs1 gs2 : List Nat} {L : List (List Nat)} (h1 : DocAt w N1 v1 c gs1 L) (h2 : DocAt w N2 v2 c gs2 L) (hl1 : gs1.length = l) (hl2 : gs2.length = l) (hl0 : 0 < l) (hl : l ≤ 1000) (hc : c ≤ 4194304) :
    Calls Tryz.prog 18 #[v1, v2] w fun e w' => e = .returned (.bool true) ∧ Below w.heap.size w w' := by
  obtain ⟨o1, k1, rfl⟩ := h1.head (by omega)
  obtain ⟨o2, k2, rfl⟩ := h2.head (by omega)
  rw [hl1] at h1 ⊢
  rw [hl2] at h2 ⊢
  exact same_at h1 h2 hl1 hl2 hl hc
open Go.RowKit Bb
theorem set_new (w : World) {x : List Nat} (hx : x.length = 128) : (storeVar 83 ⟨w.heap.size, 0, none⟩ (.agg (wq x))).run Tryz.prog (w.alloc (.cells (wq zb) 83)) = .ok () ((w.alloc (.cells (wq zb) 83)).setRow w.heap.size (wq x)) :=
  (RowAt.new w 83 (wq zb)).store (C' := wq x) (by rw [wq_size, hx]; exact b_size) (by rw [wq_size, wq_size, hx]; exact zb_ok.1) (wq_one _)
theorem set_below (w : World) (x : List Nat) : Below w.heap.size w ((w.alloc (.cells (wq zb) 83)).setRow w.heap.size (wq x)) := below_setRow ((Below.refl _ _).alloc (Nat.le_refl _) _) (Nat.le_refl _) _
end Go.Proofs.YtfoodaobiknihaaGreatDoor

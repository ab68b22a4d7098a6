/- Grids made, and the document's, by their contracts. Conditions: those typed. -/
import Derived.Test.YtcbccjcnllifjaaGreatDoorGd
import Derived.OwnWalk
import Derived.Test.YtcbccjcnllifjaaGreatDoorSp
namespace Go.Proofs.YtcbccjcnllifjaaGreatDoor
set_option maxRecDepth 50000
open Go.RowKit Bb
theorem key_wf (i : Nat) (h : i ≤ 140737488351232) : (Lit.int .i64 (i : Int)).wf = true := by
  have e1 : IntKind.i64.min = -9223372036854775808 := rfl
  have e2 : IntKind.i64.max = 9223372036854775807 := rfl
  simp [Lit.wf, e1, e2]
  omega
theorem key_int (d i : Nat) (h : i ≤ 140737488351232) : Tryz.prog.keyLits (d + 1) 3 [.int .i64 (i : Int)] = some [.int .i64 (i : Int)] := by
  unfold Program.keyLits
  simp only [Tryz.underlying3]
  simp [key_wf i h]
theorem key_sp (d : Nat) {a t l m b c g z : Nat} (h : ∀ x ∈ [a, t, l, m, b, c, g, z], x ≤ 140737488351232) : Tryz.prog.keyLits (d + 2) 57 (spc a t l m b c g z).toList = some [.int .i64 (a : Int), .int .i64 (t : Int), .int .i64 (l : Int), .int .i64 (m : Int), .int .i64 (b : Int), .int .i64 (c : Int), .int .i64 (g : Int), .int .i64 (z : Int)] := by
  have k1 := key_int d a (h a (by simp))
  have k2 := key_int d t (h t (by simp))
  have k3 := key_int d l (h l (by simp))
  have k4 := key_int d m (h m (by simp))
  have k5 := key_int d b (h b (by simp))
  have k6 := key_int d c (h c (by simp))
  have k7 := key_int d g (h g (by simp))
  have k8 := key_int d z (h z (by simp))
  unfold Program.keyLits
  simp only [Tryz.underlying57]
  have c1 : Tryz.prog.cellsOf 57 = 8 := by kernel_rfl
  have c2 : Tryz.prog.cellsOf 3 = 1 := by kernel_rfl
  simp [c1, c2, k1, k2, k3, k4, k5, k6, k7, k8]
theorem sp_is (a t l m b c g z : Nat) (h : ∀ x ∈ [a, t, l, m, b, c, g, z], x ≤ 140737488351232) (k : Bool) (hk : decide (a = 0 ∧ t = 0 ∧ l = 0 ∧ m = 0 ∧ b = 0 ∧ c = 0 ∧ g = 0 ∧ z = 0) = k) (w : World) : (binOp .eql 57 (spv a t l m b c g z) spz).run Tryz.prog w = .ok (.bool k) w := by
  have k2 := key_sp 8 (a := 0) (t := 0) (l := 0) (m := 0) (b := 0) (c := 0) (g := 0) (z := 0) (by simp)
  obtain ⟨r, q1, q2⟩ := run_equalIn_deep (P := Tryz.prog) 9990 10 57 (by kernel_rfl) w 10 10 (spv a t l m b c g z) spz _ _ (by kernel_rfl) (by kernel_rfl) (key_sp 8 h) k2
  rw [run_eql_struct, q1]
  have : r = k := by
    rw [← hk]
    cases r with
    | true =>
      have e := q2.1 rfl
      simp at e
      rw [eq_comm, decide_eq_true_iff]
      omega
    | false =>
      rw [eq_comm, decide_eq_false_iff_not]
      intro e
      obtain ⟨rfl, rfl, rfl, rfl, rfl, rfl, rfl, rfl⟩ := e
      have := q2.2 rfl
      simp at this
  rw [this]
  rfl
theorem g_sp : Tryz.prog.eqGuardType Tryz.prog.depth 57 = false := by kernel_rfl
theorem cmp_run (w : World) {xs ys : Array Value} {k : Bool} {c : BinOp} (ev : Operand → Value) (x y : Operand) {t ty : TypeId} {o : Oper} (hop : o.op = .binOp c t x y ty) (hx : ev x = .agg xs) (hy : ev y = .agg ys) (hm : Tryz.prog.eqGuardType Tryz.prog.depth t = false) (hr : (binOp c t (.agg xs) (.agg ys)).run Tryz.prog w = .ok (.bool k) w) : (execOp ev o).run Tryz.prog w = .ok (.value (.bool k)) w := by
  have hg := run_eqGuard_agg (P := Tryz.prog) w c t x y xs ys hm
  simp only [execOp, hop, hx, hy, Sem.run_bind, hg, Result.andThen_ok, hr, Sem.run_pure]
theorem spz_build (w : World) : (Instr.build 57 #[]).run Tryz.prog w = .ok spz w := run_build w _ _ _ (by kernel_rfl)
theorem spz_run {w : World} {ev : Operand → Value} {o : Oper} (hop : o.op = .build 57 #[]) : (execOp ev o).run Tryz.prog w = .ok (.value spz) w := by
  simp only [execOp, hop, List.map_toArray, List.map_nil, Sem.run_bind, spz_build, Result.andThen_ok, Sem.run_pure]
theorem gr_build (w : World) (p a t l m b c g z : Nat) : (Instr.build 108 #[(0, .pointer (some ⟨p, 0, none⟩)), (1, spv a t l m b c g z)]).run Tryz.prog w = .ok (.agg (grc p a t l m b c g z)) w := by
  have h : ∀ (P : Option Addr) (a t l m b c g z : Int), Tryz.prog.built 108 [(0, .pointer P), (1, .agg #[.int .i64 a, .int .i64 t, .int .i64 l, .int .i64 m, .int .i64 b, .int .i64 c, .int .i64 g, .int .i64 z])] = some (#[.pointer P, .int .i64 a, .int .i64 t, .int .i64 l, .int .i64 m, .int .i64 b, .int .i64 c, .int .i64 g, .int .i64 z]) := fun P a t l m b c g z => by kernel_rfl
  exact run_build w _ _ _ (h ..)
theorem gr_run {w : World} {ev : Operand → Value} {o : Oper} {x0 x1 : Operand} {p a t l m b c g z : Nat} (hop : o.op = .build 108 #[(0, x0), (1, x1)]) (h0 : ev x0 = .pointer (some ⟨p, 0, none⟩)) (h1 : ev x1 = spv a t l m b c g z) : (execOp ev o).run Tryz.prog w = .ok (.value (.agg (grc p a t l m b c g z))) w := by
  simp only [execOp, hop, List.map_toArray, List.map_cons, List.map_nil, h0, h1, Sem.run_bind, gr_build, Result.andThen_ok, Sem.run_pure]
section
variable {w : World} {p h n a t l m b c g z : Nat} {v : Value} {live : Bool}
theorem gnew_at (hP : PceAt w p h n live v) (hN : ∀ x ∈ [a, t, l, m, b, c, g, z], x ≤ 140737488351232) (hb : 1 ≤ b) (k : Bool) (hk : decide ((n : Int) < (b : Int)) = k) : Calls Tryz.prog 38 #[.pointer (some ⟨p, 0, none⟩), spv a t l m b c g z] w fun e w' => (if k then e = .returned (.tuple #[.pointer none, .int .i64 9]) else ∃ q, e = .returned (.tuple #[.pointer (some ⟨q, 0, none⟩), .int .i64 0]) ∧ w.heap.size ≤ q ∧ GrRow w' q p a t l m b c g z) ∧ Below w.heap.size w w' := by
  have HS := Lib.hid (RowAt.new w 57 (spc a t l m b c g z))
  have HB := Lib.hid (one_box w (.cells (spc a t l m b c g z) 57))
  have HP := Lib.hid (RowAt.alloc hP (.cells (spc a t l m b c g z) 57))
  have HE := Lib.hid fun w => sp_is a t l m b c g z hN false (decide_eq_false (by omega)) w
  have hbb : b ≤ 140737488351232 := hN b (by simp)
  have CL := Lib.hid (fun w' (hb : Below (w.alloc (.cells (spc a t l m b c g z) 57)).heap.size (w.alloc (.cells (spc a t l m b c g z) 57)) w') => len_any (RowAt.step HP.out hb))
  have HK : Hid (decide (n < b) = k) := Lib.hid (by rw [← hk]; congr 1; simp)
  clear hP hN hk
  go_enter Tryz.func38, Tryz.ntmps38
  go_wp2_with (first
    | refine wpList_load_want rfl 57 _ rfl _ _ rfl (sp_load HS.out) ?_
    | refine wpList_value_want rfl _ (spz_run rfl) ?_
    | refine wpList_value_want rfl _ (cmp_run _ _ _ _ rfl rfl rfl g_sp (HE.out _)) ?_)
  refine wp_region_text [Is (.pointer (some ⟨p, 0, none⟩)), Is (.int .i64 (n : Int)), Is (.pointer (some ⟨w.heap.size, 0 + 4, none⟩)), Is (.int .i64 (b : Int)), Is (.bool k), Is (.bool k)] (by kernel_rfl) (by kernel_rfl) rfl ⟨stable_is _, stable_is _, stable_is _, stable_is _, stable_is _, stable_is _, trivial⟩ ⟨?_, ?_, ?_, ?_, ?_, ?_, trivial⟩ ?_
  · intro a w C
    exact part_on (wanted_free rfl _) (op_move (.inl rfl) (C.was 0 (by kernel_rfl)))
  · intro a w C
    exact part_on (wanted_free rfl _) (op_call1 rfl (reg_enters Tryz.func63 (by kernel_rfl) (by kernel_rfl)) (C.on (j := 0) (by kernel_rfl) rfl rfl) (calls_same (Calls.mono (CL.out _ C.below) fun e w2 h => ⟨h.1, h.2.symm⟩)))
  · intro a w C
    exact part_on (wanted_free rfl _) (op_value (spf_all (k := 4) rfl (by decide) (C.was 3 (by kernel_rfl))) rfl)
  · intro a w C
    exact part_on (wanted_free rfl _) (op_value (int_run rfl (C.on (j := 2) (by kernel_rfl) rfl rfl) ((RowAt.step HS.out C.below).cell 4)) rfl)
  · intro a w C
    exact part_on (wanted_free rfl _) (op_bin rfl (C.on (j := 1) (by kernel_rfl) rfl rfl) (C.on (j := 3) (by kernel_rfl) rfl rfl) rfl (by simp [go_sem, HK.out]) rfl)
  · intro a w C
    exact part_on (wanted_free rfl _) (op_move (.inr rfl) (C.on (j := 4) (by kernel_rfl) rfl rfl))
  rintro wF hbF _ rfl _ rfl _ rfl _ rfl _ rfl _ rfl
  simp only [Fin, setAt, Exit.then, List.setIfInBounds_toArray, List.set_cons_succ, List.set_cons_zero]
  have HS2 := Lib.hid (RowAt.step HS.out hbF)
  have HB2 := Lib.hid (below_step HB.out hbF)
  clear hbF HS HB HP CL HE
  cases k with
  | true =>
    go_wp2
    exact bodyPost_ret (results_tmp2 rfl _ _ _) rfl ⟨rfl, HB2.out⟩
  | false =>
    go_wp2_with (first
      | refine wpList_load_want rfl 57 _ rfl _ _ rfl (sp_load HS2.out) ?_
      | refine wpList_value_want rfl _ (gr_run rfl rfl rfl) ?_)
    refine bodyPost_ret (results_tmp2 rfl _ _ _) rfl ⟨?_, HB2.out.alloc HB2.out.size _⟩
    exact ⟨wF.heap.size, rfl, HB2.out.size, RowAt.new wF _ _⟩
end
def fewB (t l b : Nat) : Bool := decide (t ≤ 3) && (decide (l ≤ 4) && decide (b ≤ 80))
theorem few_any (a t l m b c g z : Nat) (w : World) : Calls Tryz.prog 16 #[spv a t l m b c g z] w fun e w' => e = .returned (.bool (fewB t l b)) ∧ Below w.heap.size w w' := by
  have HB := Lib.hid (one_box w (.cells (spc a t l m b c g z) 44))
  obtain ⟨r, hr⟩ : ∃ r, r = fewB t l b := ⟨_, rfl⟩
  rw [← hr]
  have e1 : decide ((t : Int) ≤ 3) = decide (t ≤ 3) := by congr 1; simp; omega
  have e2 : decide ((l : Int) ≤ 4) = decide (l ≤ 4) := by congr 1; simp; omega
  have e3 : decide ((b : Int) ≤ 80) = decide (b ≤ 80) := by congr 1; simp; omega
  unfold fewB at hr
  cases k1 : decide (t ≤ 3) <;> cases k2 : decide (l ≤ 4) <;> cases k3 : decide (b ≤ 80)
  all_goals
    rw [k1] at e1 hr
    rw [k2] at e2 hr
    rw [k3] at e3 hr
    simp only [Bool.and_true, Bool.and_false] at hr
    subst hr
    clear k1 k2 k3
    go_enter Tryz.func16, Tryz.ntmps16
    go_wp2
    go_ret
    exact ⟨rfl, HB.out⟩
end Go.Proofs.YtcbccjcnllifjaaGreatDoor
namespace Go.Proofs.YtcbccjcnllifjaaGreatDoor
set_option maxRecDepth 50000
open Go.RowKit Bb
theorem LiveAt.kept {w w' : World} {p h G : Nat} {L : List (List Nat)} {M : Nat → Prop} (H : LiveAt w p h G L) (hk : Kept M w w') (hp : ¬ M p) (hg : ¬ M G) : LiveAt w' p h G L := ⟨RowAt.kept H.row hk hp, RowAt.kept H.blk hk hg, H.ok⟩
section
variable {pa pt pm pl pz : Int} {a t l m b c g z : Nat} (CO : ∀ w : World, Calls Tryz.prog 23 #[pav pa pt pm pl pz] w fun e w' => e = .returned (.tuple #[spv a t l m b c g z, .int .i64 0]) ∧ Below w.heap.size w w')
include CO
end
end Go.Proofs.YtcbccjcnllifjaaGreatDoor
namespace Go.Proofs.YtcbccjcnllifjaaGreatDoor
set_option maxRecDepth 50000
open Go.RowKit Bb
def lane (c : Nat) (L : List (List Nat)) (i : Nat) : List (List Nat) := (L.drop (i * c)).take c
theorem lane_length {c n i : Nat} {L : List (List Nat)} (hL : L.length = n * c) (hi : i < n) : (lane c L i).length = c := by
  have h1 : (i + 1) * c ≤ n * c := Nat.mul_le_mul_right c hi
  rw [Nat.add_mul, Nat.one_mul] at h1
  unfold lane
  rw [List.length_take, List.length_drop]
  omega
theorem lane_ok {c i : Nat} {L : List (List Nat)} (h : ∀ b ∈ L, okb b) : ∀ b ∈ lane c L i, okb b := fun b hb => h b (List.mem_of_mem_drop (List.mem_of_mem_take hb))
theorem lane_at {c i k : Nat} {L : List (List Nat)} (hk : k < c) : (lane c L i).getD k [] = L.getD (i * c + k) [] := by
  unfold lane
  simp only [List.getD_eq_getElem?_getD]
  rw [List.getElem?_take_of_lt hk, List.getElem?_drop]
theorem lane_set {c i k : Nat} {L : List (List Nat)} (_ : k < c) (x : List Nat) : lane c (L.set (i * c + k) x) i = (lane c L i).set k x := by
  unfold lane
  rw [List.drop_set, if_neg (by omega), show i * c + k - i * c = k by omega, List.take_set]
theorem lane_other {c i j k : Nat} {L : List (List Nat)} (hk : k < c) (h : j ≠ i) (x : List Nat) : lane c (L.set (i * c + k) x) j = lane c L j := by
  unfold lane
  rcases Nat.lt_or_ge i j with hij | hij
  · have h1 : (i + 1) * c ≤ j * c := Nat.mul_le_mul_right c hij
    rw [Nat.add_mul, Nat.one_mul] at h1
    rw [List.drop_set, if_pos (by omega)]
  · have h1 : (j + 1) * c ≤ i * c := Nat.mul_le_mul_right c (by omega)
    rw [Nat.add_mul, Nat.one_mul] at h1
    rw [List.drop_set, if_neg (by omega), List.take_set, List.set_eq_of_length_le]
    rw [List.length_take]; omega
theorem lane_rep {c i n : Nat} (hi : i < n) : lane c (List.replicate (n * c) zb) i = List.replicate c zb := by
  have h1 : (i + 1) * c ≤ n * c := Nat.mul_le_mul_right c hi
  rw [Nat.add_mul, Nat.one_mul] at h1
  unfold lane
  rw [List.drop_replicate, List.take_replicate, show min c (n * c - i * c) = c by omega]
def hdr (c g : Nat) : Value := .slice (some ⟨g, 0, none⟩) c c
def hds (c : Nat) (gs : List Nat) : List Value := gs.map (hdr c)
theorem hds_at (c : Nat) (gs : List Nat) (i : Nat) (hi : i < gs.length) : (hds c gs)[i]? = some (hdr c (gs.getD i 0)) := by
  simp [hds, List.getD_eq_getElem?_getD, List.getElem?_eq_getElem hi]
theorem own_unlike {w : World} {N s n b : Nat} {e t : TypeId} {v : Value} {xs : List Value} {C : Array Value} (h : w.ownsRow N e s v n xs) (hr : RowAt w b t C) (ht : (e == t) = false) : v.ownBlock ≠ some b := by
  rcases h.2 with ⟨rfl, _⟩ | ⟨g, cap, cur, rfl, _, hg, _⟩
  · simp [Value.ownBlock]
  · intro e'
    simp only [Value.ownBlock, Option.some.injEq] at e'
    exact RowAt.unlike hg hr ht e'
theorem wpList_append_of {P : Program} {ops : Array Oper} {rest : List Oper} {o : Oper} {a : Act} {w w' : World} {Q : Exit → Act → World → Prop} (hgd : o.guard = none) (x y : Operand) (t : TypeId) (ho : o.op = .call { callee := .builtin .append, args := #[x, y], argTypes := #[t, t] }) (vx vy v' : Value) (hx : a.eval x = vx) (hy : a.eval y = vy)
    (hr : (Builtin.append_ #[t, t] o.type #[vx, vy]).run P w = .ok v' w') (h : wpList P ops Q rest (a.put o.dst v') w') : wpList P ops Q (o :: rest) a w := wpList_plain hgd fun _ hK => by
  unfold Oper.wp execOp
  simp only [ho, resolve, invoke, builtin, Sem.run_bind, Sem.run_pure, Result.andThen_ok, List.map_toArray, List.map_cons, List.map_nil, hx, hy, hr]
  exact hK _ _ h
theorem hd_info : (Tryz.prog.info? 77).map (fun i => (i.zero, i.size, i.bytes)) = some (some (.slice none 0 0), 1, 24) := by kernel_rfl
structure DocAt (w : World) (N : Nat) (v : Value) (c : Nat) (gs : List Nat) (L : List (List Nat)) : Prop where
  own : w.ownsRow N 77 1 v gs.length (hds c gs)
  ge : ∀ g ∈ gs, N ≤ g
  nd : gs.Nodup
  blk : ∀ i, i < gs.length → BlkAt w (gs.getD i 0) (lane c L i)
  ok : ∀ b ∈ L, okb b
  len : L.length = gs.length * c
theorem getD_mem {gs : List Nat} {i : Nat} (hi : i < gs.length) : gs.getD i 0 ∈ gs := by
  rw [List.getD_eq_getElem?_getD, List.getElem?_eq_getElem hi]
  exact List.getElem_mem hi
section
variable {w w' : World} {N c : Nat} {v : Value} {gs : List Nat} {L : List (List Nat)}
theorem DocAt.own_ge (h : DocAt w N v c gs L) : ∀ k, v.ownBlock = some k → N ≤ k := fun k hk => (h.own.lt k hk).1
theorem DocAt.kept {M : Nat → Prop} (h : DocAt w N v c gs L) (hk : Kept M w w') (hM : ∀ k, M k → k < N) : DocAt w' N v c gs L :=
  ⟨own_kept h.own hk fun k hv hm => by have := h.own_ge k hv; have := hM k hm; omega, h.ge, h.nd, fun i hi => RowAt.kept (h.blk i hi) hk fun hm => by have := h.ge _ (getD_mem hi); have := hM _ hm; omega, h.ok, h.len⟩
theorem DocAt.step (h : DocAt w N v c gs L) (hb : Below w.heap.size w w') : DocAt w' N v c gs L := h.kept (M := fun _ => False) (Kept.of_below hb) fun _ h => h.elim
theorem DocAt.nil (w : World) (N c : Nat) : DocAt w N (.slice none 0 0) c [] [] :=
  ⟨⟨rfl, .inl ⟨rfl, rfl⟩⟩, fun _ h => absurd h (by simp), List.nodup_nil, fun i h => absurd h (by simp), fun _ h => absurd h (by simp), by simp⟩
theorem gs_other {gs : List Nat} (h : gs.Nodup) {i j : Nat} (hi : i < gs.length) (hj : j < gs.length) (hij : j ≠ i) : gs.getD j 0 ≠ gs.getD i 0 := by
  rw [List.getD_eq_getElem?_getD, List.getD_eq_getElem?_getD, List.getElem?_eq_getElem hi, List.getElem?_eq_getElem hj]
  intro e
  exact hij ((List.getElem_inj h).1 e)
theorem DocAt.store (h : DocAt w N v c gs L) {i k : Nat} (hi : i < gs.length) (hk : k < c) {x : List Nat} (hx : okb x) : ∃ w', (storeVar 111 ⟨gs.getD i 0, k * 128, none⟩ (.agg (wq x))).run Tryz.prog w = .ok () w' ∧ DocAt w' N v c gs (L.set (i * c + k) x) ∧ Kept (fun j => j = gs.getD i 0) w w' := by
  have hB := h.blk i hi
  have hll := lane_length h.len hi
  have hK : Kept (fun j => j = gs.getD i 0) w (w.setRow (gs.getD i 0) (bcs ((lane c L i).set k x)).toArray) := ⟨rfl, rfl, rfl, Nat.le_of_eq (setRow_size _ _ _).symm, fun j _ hj => setRow_other _ _ _ _ fun e => hj e⟩
  refine ⟨_, hB.store (lane_ok h.ok) k (by omega) hx, ⟨?_, h.ge, h.nd, ?_, okl_set h.ok _ hx, ?_⟩, hK⟩
  · exact own_kept h.own hK fun j hv hj => by subst hj; exact own_unlike h.own hB (by rfl) hv
  · intro j hj
    by_cases e : j = i
    · subst e
      rw [lane_set hk]
      exact RowAt.setRow hB _
    · rw [lane_other hk e]
      exact RowAt.kept (h.blk j hj) hK (gs_other h.nd hi hj e)
  · rw [List.length_set]; exact h.len
theorem DocAt.more (h : DocAt w N v c gs (List.replicate (gs.length * c) zb)) (hN : N ≤ w.heap.size) {b g : Nat} (hb : RowAt w b 77 #[hdr c g]) (hg : BlkAt w g (List.replicate c zb)) (hgN : N ≤ g) (hgn : g ∉ gs) (hl : gs.length ≤ 1000000) (ty : TypeId) :
    ∃ v' w', (Builtin.append_ #[74, 74] ty #[v, .slice (some ⟨b, 0, none⟩) 1 1]).run Tryz.prog w = .ok v' w' ∧ DocAt w' N v' c (gs ++ [g]) (List.replicate ((gs ++ [g]).length * c) zb) ∧ Below N w w' := by
  obtain ⟨i, hi, hz, hs, hby⟩ := info_parts hd_info
  obtain ⟨v', w', hr, ho, hgr, _, _⟩ := run_append_own_at (P := Tryz.prog) w N 74 ty 77 i _ 1 24 Tryz.underlying74 hi hz hs hby rfl (by decide) v gs.length (hds c gs) h.own ⟨b, 0, none⟩ 1 1 [hdr c g] rfl
    (fun j u hj => by
      rw [Go.WideShapes.add_plain, Nat.zero_add, hb.cell j]
      simpa using hj) (fun u hu => by rw [List.mem_singleton.1 hu]; rfl) (by unfold maxLen; omega) (by omega) hN
  have hK : Kept (fun k => v.ownBlock = some k) w w' := (Kept.refl _ w).grown hgr fun k hk => .inl hk
  refine ⟨v', w', hr, ⟨?_, ?_, ?_, ?_, zeros_ok _, by simp⟩, (Below.refl N w).grown hgr hN (fun k hk => (h.own.lt k hk).1)⟩
  · rw [show hds c (gs ++ [g]) = hds c gs ++ [hdr c g] by simp [hds], List.length_append]
    exact ho
  · intro x hx
    rcases List.mem_append.1 hx with hx | hx
    · exact h.ge x hx
    · rw [List.mem_singleton.1 hx]; exact hgN
  · rw [List.nodup_append]
    refine ⟨h.nd, by simp, ?_⟩
    intro x hx y hy e
    rw [List.mem_singleton.1 hy] at e
    exact hgn (e ▸ hx)
  · intro j hj
    rw [lane_rep hj]
    rw [List.length_append] at hj
    rcases Nat.lt_or_ge j gs.length with hlt | hge
    · have hB := h.blk j hlt
      rw [lane_rep hlt] at hB
      rw [show (gs ++ [g]).getD j 0 = gs.getD j 0 by rw [List.getD_eq_getElem?_getD, List.getD_eq_getElem?_getD, List.getElem?_append_left hlt]]
      exact RowAt.kept hB hK (own_unlike h.own hB (by rfl))
    · obtain rfl : j = gs.length := by simp at hj; omega
      rw [show (gs ++ [g]).getD gs.length 0 = g by simp [List.getD_eq_getElem?_getD]]
      exact RowAt.kept hg hK (own_unlike h.own hg (by rfl))
end
end Go.Proofs.YtcbccjcnllifjaaGreatDoor
namespace Go.Proofs.YtcbccjcnllifjaaGreatDoor
set_option maxRecDepth 50000
open Go.RowKit Bb
theorem DocAt.weak {w : World} {N N' c : Nat} {v : Value} {gs : List Nat} {L : List (List Nat)} (h : DocAt w N v c gs L) (hN : N' ≤ N) : DocAt w N' v c gs L :=
  ⟨own_base h.own fun k hk => Nat.le_trans hN (h.own_ge k hk), fun g hg => Nat.le_trans hN (h.ge g hg), h.nd, h.blk, h.ok, h.len⟩
theorem DocAt.not_new {w : World} {N c : Nat} {v : Value} {gs : List Nat} {L : List (List Nat)} (h : DocAt w N v c gs L) : w.heap.size ∉ gs := fun hm => by
  obtain ⟨i, hi, e⟩ := List.getElem_of_mem hm
  have := (h.blk i hi).lt
  rw [List.getD_eq_getElem?_getD, List.getElem?_eq_getElem hi] at this
  simp [e] at this
set_option maxHeartbeats 1600000 in
theorem rempty_any (a t l m b c g z : Nat) (hl : l ≤ 1000) (hc : c ≤ 4194304) (w : World) : Calls Tryz.prog 61 #[spv a t l m b c g z] w fun e w' => ∃ v gs, e = .returned v ∧ DocAt w' w.heap.size v c gs (List.replicate (l * c) zb) ∧ gs.length = l ∧ Below w.heap.size w w' := by
  obtain ⟨N, hN⟩ : ∃ N, N = w.heap.size := ⟨_, rfl⟩
  obtain ⟨w1, e1⟩ : ∃ w1, w1 = w.alloc (.cells (spc a t l m b c g z) 44) := ⟨_, rfl⟩
  have HB1 : Hid (Below N w w1) := Lib.hid (by rw [e1, hN]; exact one_box _ _)
  have HS1 : Hid (RowAt w1 N 44 (spc a t l m b c g z)) := Lib.hid (by rw [e1, hN]; exact RowAt.new _ _ _)
  have hs1 : w1.heap.size = N + 1 := by rw [e1, hN, World.size_alloc]
  have E1 := Lib.hid e1
  have HN := Lib.hid hN
  have hmk := make_blocks c hc
  have HR : Hid (∀ wr : World, ∀ v gs, DocAt wr (N + 1) v c gs (List.replicate (gs.length * c) zb) → Below (N + 1) w1 wr → gs.length ≤ 1000 → ∃ v' w', (Builtin.append_ #[74, 74] 74 #[v, .slice (some ⟨wr.heap.size + 1, 0, none⟩) 1 1]).run Tryz.prog ((wr.alloc (.cells (bcs (List.replicate c zb)).toArray 111)).alloc (.cells #[.slice (some ⟨wr.heap.size, 0, none⟩) c c] 77)) = .ok v' w' ∧ DocAt w' (N + 1) v' c (gs ++ [wr.heap.size]) (List.replicate ((gs ++ [wr.heap.size]).length * c) zb) ∧ Below (N + 1) w1 w') := Lib.hid fun wr v gs hd hb hg => by
    have hs := hb.size
    have b2 : Below wr.heap.size wr ((wr.alloc (.cells (bcs (List.replicate c zb)).toArray 111)).alloc (.cells #[.slice (some ⟨wr.heap.size, 0, none⟩) c c] 77)) := two_box _ _ _
    have r1 : RowAt ((wr.alloc (.cells (bcs (List.replicate c zb)).toArray 111)).alloc (.cells #[.slice (some ⟨wr.heap.size, 0, none⟩) c c] 77)) wr.heap.size 111 (bcs (List.replicate c zb)).toArray := (RowAt.new wr _ _).alloc _
    have r2 := RowAt.new (wr.alloc (.cells (bcs (List.replicate c zb)).toArray 111)) 77 #[.slice (some ⟨wr.heap.size, 0, none⟩) c c]
    rw [World.size_alloc] at r2
    obtain ⟨v', w', hr, hd', hb'⟩ := (hd.step b2).more (by have := b2.size; omega) r2 r1 (by omega) hd.not_new (by omega) 74
    exact ⟨v', w', hr, hd', hb.trans ((b2.mono (by omega)).trans hb')⟩
  have HD0 : Hid (DocAt w1 (N + 1) (.slice none 0 0) c [] (List.replicate (([] : List Nat).length * c) zb)) := Lib.hid (by simpa using DocAt.nil w1 (N + 1) c)
  clear e1 hN
  go_enter Tryz.func61, Tryz.ntmps61
  go_wp2
  rw [← E1.out, ← HN.out]
  go_loopw [3, 4] (fun v3 v4 wr => ∃ i gs, i ≤ l ∧ v4 = .int .i64 (i : Int) ∧ Hid (gs.length = i) ∧ Hid (DocAt wr (N + 1) v3 c gs (List.replicate (gs.length * c) zb)) ∧ Hid (Below (N + 1) w1 wr)) (fun _ v4 _ => l - (intOf v4).toNat)
  case atStart => exact ⟨0, [], Nat.zero_le _, rfl, Lib.hid rfl, HD0, Lib.hid (Below.refl _ _)⟩
  case round =>
    obtain ⟨i, gs, hi, rfl, HG, HD, HB⟩ := hrel
    have hS := HS1.out.below HB.out (by omega)
    have k2 : wr.cell? ⟨N, 2, none⟩ = some (.int .i64 (l : Int)) := (hS.cell 2).trans rfl
    have k5 : wr.cell? ⟨N, 5, none⟩ = some (.int .i64 (c : Int)) := (hS.cell 5).trans rfl
    clear hS
    by_cases h : i < l
    · have hd : decide ((i : Int) < (l : Int)) = true := by simp; omega
      have hd2 : decide (i < l) = true := by simp; omega
      obtain ⟨v', w', hr, hd', hb'⟩ := HR.out wr _ gs HD.out HB.out (by have := HG.out; omega)
      have HAP := Lib.hid hr
      have HD' := Lib.hid hd'
      have HB' := Lib.hid hb'
      clear hr hd' hb'
      go_wp2_with (at_builtin; refine wpList_append_of rfl (.tmp 11) (.tmp 15) 74 rfl _ _ _ rfl rfl HAP.out ?_)
      go_roundw
      case measure => simp [intOf]; omega
      case rel => exact ⟨i + 1, gs ++ [wr.heap.size], by omega, by go_num, Lib.hid (by rw [List.length_append, HG.out]; rfl), HD', HB'⟩
    · obtain rfl : i = l := by omega
      have hd : decide ((i : Int) < (i : Int)) = false := by simp
      go_wp2
      refine bodyPost_ret (results_tmp rfl _ _ _) rfl ⟨_, gs, rfl, ?_, HG.out, ?_⟩
      · rw [← HN.out]
        have h := HD.out.weak (Nat.le_succ N)
        rw [HG.out] at h
        exact h
      · rw [← HN.out]
        exact HB1.out.trans (HB.out.mono (Nat.le_succ N))
end Go.Proofs.YtcbccjcnllifjaaGreatDoor
namespace Go.Proofs.YtcbccjcnllifjaaGreatDoor
set_option maxRecDepth 50000
open Go.RowKit Bb
theorem ixg_run {w : World} {b i n c : Nat} {ev : Operand → Value} {x y : Operand} {o : Oper} (hop : o.op = .indexAddr 74 x y) (hx : ev x = .slice (some ⟨b, 0, none⟩) n c) (hy : ev y = .int .i64 (i : Int)) (hi : i < n) : (execOp ev o).run Tryz.prog w = .ok (.value (.pointer (some ⟨b, i, none⟩))) w := by
  have h1 : (i : Int) < (n : Int) := by omega
  simp [execOp, hop, hx, hy, go_sem, h1]
theorem ixr_run {w : World} {b i n c : Nat} {ev : Operand → Value} {x y : Operand} {o : Oper} (hop : o.op = .indexAddr 77 x y) (hx : ev x = .slice (some ⟨b, 0, none⟩) n c) (hy : ev y = .int .i64 (i : Int)) (hi : i < n) : (execOp ev o).run Tryz.prog w = .ok (.value (.pointer (some ⟨b, i * 128, none⟩))) w := by
  have h1 : (i : Int) < (n : Int) := by omega
  simp [execOp, hop, hx, hy, go_sem, h1]
theorem so_build (w : World) (x y : Int) : (Instr.build 121 #[(0, .int .i64 x), (1, .int .i64 y)]).run Tryz.prog w = .ok (sov x y) w := by
  have h : ∀ x y : Int, Tryz.prog.built 121 [(0, .int .i64 x), (1, .int .i64 y)] = some (#[.int .i64 x, .int .i64 y]) := fun x y => by kernel_rfl
  exact run_build w _ _ _ (h ..)
theorem so_run {w : World} {ev : Operand → Value} {o : Oper} {x0 x1 : Operand} {x y : Int} (hop : o.op = .build 121 #[(0, x0), (1, x1)]) (h0 : ev x0 = .int .i64 x) (h1 : ev x1 = .int .i64 y) : (execOp ev o).run Tryz.prog w = .ok (.value (sov x y)) w := by
  simp only [execOp, hop, List.map_toArray, List.map_cons, List.map_nil, h0, h1, Sem.run_bind, so_build, Result.andThen_ok, Sem.run_pure]
section
variable {w w' : World} {N c : Nat} {v : Value} {gs : List Nat} {L : List (List Nat)}
theorem DocAt.head (h : DocAt w N v c gs L) (hg : 0 < gs.length) : ∃ o k, v = .slice (some ⟨o, 0, none⟩) gs.length k := by
  obtain ⟨A, k, rfl, _, h0, _⟩ := own_form h.own
  obtain ⟨o, rfl, _⟩ := h0 hg
  exact ⟨o, k, rfl⟩
theorem DocAt.row {o n k : Nat} (h : DocAt w N (.slice (some ⟨o, 0, none⟩) n k) c gs L) {i : Nat} (hi : i < gs.length) : w.cell? ⟨o, i, none⟩ = some (.slice (some ⟨gs.getD i 0, 0, none⟩) c c) := by
  have hr := Reads.of_own (n := gs.length) (c := k) (A := some ⟨o, 0, none⟩) (by
    obtain ⟨A, k', e, _, _, _⟩ := own_form h.own
    injection e with e1 e2 e3
    subst e2
    exact h.own)
  obtain ⟨b, off, e, _, hc⟩ := hr i (by rw [hds, List.length_map]; exact hi)
  injection e with e
  injection e with e1 e2 e3
  subst e1
  subst e2
  rw [Nat.zero_add] at hc
  rw [hc, ← List.getElem?_eq_getElem, hds_at c gs i hi]
  rfl
end
end Go.Proofs.YtcbccjcnllifjaaGreatDoor
namespace Go.Proofs.YtcbccjcnllifjaaGreatDoor
set_option maxRecDepth 50000
open Go.RowKit Bb
end Go.Proofs.YtcbccjcnllifjaaGreatDoor
namespace Go.Proofs.YtcbccjcnllifjaaGreatDoor
set_option maxRecDepth 50000
open Go.RowKit Bb
theorem set_new (w : World) {x : List Nat} (hx : x.length = 128) : (storeVar 111 ⟨w.heap.size, 0, none⟩ (.agg (wq x))).run Tryz.prog (w.alloc (.cells (wq zb) 111)) = .ok () ((w.alloc (.cells (wq zb) 111)).setRow w.heap.size (wq x)) :=
  (RowAt.new w 111 (wq zb)).store (C' := wq x) (by rw [wq_size, hx]; exact b_size) (by rw [wq_size, wq_size, hx]; exact zb_ok.1) (wq_one _)
theorem set_below (w : World) (x : List Nat) : Below w.heap.size w ((w.alloc (.cells (wq zb) 111)).setRow w.heap.size (wq x)) := below_setRow ((Below.refl _ _).alloc (Nat.le_refl _) _) (Nat.le_refl _) _
end Go.Proofs.YtcbccjcnllifjaaGreatDoor

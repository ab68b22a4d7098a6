/- The law BlakeMixes, for every eight words and round. Condition: the package's table lies at its place. -/
import Derived.Test.YtfdoikdfhjjohaaDoorBkAwake
import Derived.Test.YtfdoikdfhjjohaaDoorBkRef
import Derived.Test.YtfdoikdfhjjohaaDoorBkRord
import Derived.Test.YtfdoikdfhjjohaaDoorBkEq
namespace Go.Proofs.YtfdoikdfhjjohaaDoor
set_option maxRecDepth 50000
open Go.RowKit Bl

def sb (o : List Nat) : Nat → List Bool
  | 0 => List.replicate 16 false
  | j + 1 => (sb o j).set (o.getD j 0) true
theorem sb_length (o : List Nat) : ∀ j, (sb o j).length = 16
  | 0 => by simp [sb]
  | j + 1 => by simp [sb, sb_length o j]
theorem sb_new (r j : Nat) (hj : j < 16) : (sb (order r) j).getD ((order r).getD j 0) false = false := by
  have h : ((List.range 10).all fun m => (List.range 16).all fun j => !((sb (ords.getD m []) j).getD ((ords.getD m []).getD j 0) false)) = true := by kernel_rfl
  have := List.all_eq_true.1 (List.all_eq_true.1 h (r % 10) (List.mem_range.2 (Nat.mod_lt _ (by decide)))) j (List.mem_range.2 hj)
  simpa [order] using this
def bq (l : List Bool) : Array Value := (l.map Value.bool).toArray
theorem bq_at (l : List Bool) (i : Nat) (h : i < l.length) : (bq l)[i]? = some (.bool (l.getD i false)) := by
  simp [bq, List.getD_eq_getElem?_getD, List.getElem?_eq_getElem h]
theorem bq_set (l : List Bool) (i : Nat) (x : Bool) : (bq l).setIfInBounds i (.bool x) = bq (l.set i x) := by
  simp [bq, List.map_set]
theorem lrow_run {w : World} {ev : Operand → Value} {x : Operand} {o : Oper} {B : Nat} {C : Array Value} (hop : o.op = .load 38 x) (hx : ev x = .pointer (some ⟨B, 0, none⟩)) (hR : RowAt w B 38 C) (h16 : C.size = 16) : (execOp ev o).run Tryd.prog w = .ok (.value (.agg C)) w := by
  have h := RowAt.loadAt (P := Tryd.prog) hR Tryd.underlying38 (by rw [h16]; exact q_int16)
  simp [execOp, hop, hx, h]
theorem zs_size : (iq (List.replicate 16 0)).size = 16 := by rw [iq_size]; simp
theorem neq_run (w : World) (xs ys : Array Value) (ev : Operand → Value) (x y : Operand) {t ty : TypeId} {o : Oper} (hop : o.op = .binOp .neq t x y ty) (hx : ev x = .agg xs) (hy : ev y = .agg ys) (hm : Tryd.prog.eqGuardType Tryd.prog.depth t = false) (hr : (binOp .neq t (.agg xs) (.agg ys)).run Tryd.prog w = .ok (.bool false) w) : (execOp ev o).run Tryd.prog w = .ok (.value (.bool false)) w := by
  have hg := run_eqGuard_agg (P := Tryd.prog) w .neq t x y xs ys hm
  simp only [execOp, hop, hx, hy, Sem.run_bind, hg, Result.andThen_ok, hr, Sem.run_pure]
theorem eql_run (w : World) (xs ys : Array Value) (ev : Operand → Value) (x y : Operand) {t ty : TypeId} {o : Oper} (hop : o.op = .binOp .eql t x y ty) (hx : ev x = .agg xs) (hy : ev y = .agg ys) (hm : Tryd.prog.eqGuardType Tryd.prog.depth t = false) (hr : (binOp .eql t (.agg xs) (.agg ys)).run Tryd.prog w = .ok (.bool true) w) : (execOp ev o).run Tryd.prog w = .ok (.value (.bool true)) w := by
  have hg := run_eqGuard_agg (P := Tryd.prog) w .eql t x y xs ys hm
  simp only [execOp, hop, hx, hy, Sem.run_bind, hg, Result.andThen_ok, hr, Sem.run_pure]
theorem ixv_run {w : World} {ev : Operand → Value} {x y : Operand} {o : Oper} {L : List Nat} {j : Nat} (hop : o.op = .index 38 x y) (hx : ev x = .agg (iq L)) (hy : ev y = .int .i64 (j : Int)) (hj : j < 16) (hL : L.length = 16) : (execOp ev o).run Tryd.prog w = .ok (.value (.int .i64 (L.getD j 0 : Nat))) w := by
  have h := run_index_arr (P := Tryd.prog) w Tryd.underlying38 (by kernel_rfl) Tryd.underlying3 j hj (iq_at L j (by omega))
  simp only [execOp, hop, hx, hy, Sem.run_bind, h, Result.andThen_ok, Sem.run_pure]
theorem wpList_value_want {P : Program} {ops : Array Oper} {rest : List Oper} {o : Oper} {a : Act} {w w' : World} {Q : Exit → Act → World → Prop} (hw : Region.wanted o (yielded ops a.tmps) = true) (v : Value) (hr : (execOp a.eval o).run P w = .ok (.value v) w') (h : wpList P ops Q rest (a.put o.dst v) w') : wpList P ops Q (o :: rest) a w := wpList_step fun K hK => by
  rw [if_pos hw]
  unfold Oper.wp
  rw [hr]
  exact hK _ _ h
set_option maxHeartbeats 1600000 in
theorem bmixes_any (st : List Nat) (hs : st.length = 8) (hst : okw st) (z : Int) (hz : -9223372036854775808 ≤ z ∧ z ≤ 9223372036854775807) (w : World) (hk : QAt w) :
    Calls Tryd.prog 4 #[.agg (wq st), .int .i64 z] w fun e w' => e = .returned (.bool true) ∧ Below w.heap.size w w' := by
  obtain ⟨q, hq⟩ : ∃ q : Q, q = ⟨st.getD 0 0, st.getD 1 0, st.getD 2 0, st.getD 3 0⟩ := ⟨_, rfl⟩
  have ea : q.a = st.getD 0 0 := by rw [hq]
  have eb : q.b = st.getD 1 0 := by rw [hq]
  have ec : q.c = st.getD 2 0 := by rw [hq]
  have ed : q.d = st.getD 3 0 := by rw [hq]
  have hqo : q.ok := by rw [hq]; exact ⟨hst.at_ 0, hst.at_ 1, hst.at_ 2, hst.at_ 3⟩
  have hro := quarter_ok hqo (st.getD 4 0) (st.getD 5 0)
  have CQ := Lib.hid fun w => quarter_any q hqo (st.getD 4 0) (st.getD 5 0) w
  have CR : Hid (∀ w, Calls Tryd.prog 14 #[.agg #[.int .u64 (q.a : Int), .int .u64 (q.b : Int), .int .u64 (q.c : Int), .int .u64 (q.d : Int)], .int .u64 (st.getD 4 0 : Nat), .int .u64 (st.getD 5 0 : Nat)] w fun e w' =>
      e = .returned (.agg #[.int .u64 ((quarter q (st.getD 4 0) (st.getD 5 0)).a : Int), .int .u64 ((quarter q (st.getD 4 0) (st.getD 5 0)).b : Int), .int .u64 ((quarter q (st.getD 4 0) (st.getD 5 0)).c : Int), .int .u64 ((quarter q (st.getD 4 0) (st.getD 5 0)).d : Int)]) ∧ Below w.heap.size w w') := Lib.hid fun w => by
    have h := rquarter_any q hqo (st.getD 4 0) (st.getD 5 0) w
    simp only [wq, u64s, List.map_cons, List.map_nil] at h
    exact h
  have hsame := fun w => neq_q4 _ _ _ _ hro.1 hro.2.1 hro.2.2.1 hro.2.2.2 w
  generalize quarter q (st.getD 4 0) (st.getD 5 0) = r at *
  have hR : ∀ w', Below w.heap.size (w.alloc (.cells (wq st) 23)) w' ∨ True → True := fun _ _ => trivial
  clear hR hro hq
  rw [ea, eb, ec, ed] at CQ CR
  clear ea eb ec ed
  have c0 : (wq st)[0]? = some (.int .u64 (st.getD 0 0 : Nat)) := wq_at st 0 (by omega)
  have c1 : (wq st)[1]? = some (.int .u64 (st.getD 1 0 : Nat)) := wq_at st 1 (by omega)
  have c2 : (wq st)[2]? = some (.int .u64 (st.getD 2 0 : Nat)) := wq_at st 2 (by omega)
  have c3 : (wq st)[3]? = some (.int .u64 (st.getD 3 0 : Nat)) := wq_at st 3 (by omega)
  have c4 : (wq st)[4]? = some (.int .u64 (st.getD 4 0 : Nat)) := wq_at st 4 (by omega)
  have c5 : (wq st)[5]? = some (.int .u64 (st.getD 5 0 : Nat)) := wq_at st 5 (by omega)
  have HG4 := Lib.hid hsame
  clear hsame
  have hg4 : Tryd.prog.eqGuardType Tryd.prog.depth 36 = false := by kernel_rfl
  have hg16 : Tryd.prog.eqGuardType Tryd.prog.depth 38 = false := by kernel_rfl
  have HK := Lib.hid hk
  clear hk hqo hs hst
  go_enter Tryd.func4, Tryd.ntmps4
  go_wp2_with fail
  refine (awake_any _ (HK.out.next ((Below.refl _ w).alloc (Nat.le_refl _) _))).mono ?_
  rintro e w1 ⟨rfl, b1⟩
  have R0 : RowAt w1 w.heap.size 23 (wq st) := (RowAt.new w 23 (wq st)).below b1 (by simp)
  have B1 := Lib.hid (((Below.refl _ w).alloc (Nat.le_refl _) (.cells (wq st) 23)).trans (b1.mono (by simp)))
  have HR0 := Lib.hid R0
  have d0 := (R0.cell 0).trans c0
  have d1 := (R0.cell 1).trans c1
  have d2 := (R0.cell 2).trans c2
  have d3 := (R0.cell 3).trans c3
  have d4 := (R0.cell 4).trans c4
  have d5 := (R0.cell 5).trans c5
  clear R0 b1 c0 c1 c2 c3 c4 c5
  generalize st.getD 0 0 = s0 at *
  generalize st.getD 1 0 = s1 at *
  generalize st.getD 2 0 = s2 at *
  generalize st.getD 3 0 = s3 at *
  generalize st.getD 4 0 = s4 at *
  generalize st.getD 5 0 = s5 at *
  go_wp2_with fail
  refine (CQ.out _).mono ?_
  rintro e w2 ⟨rfl, rfl⟩
  go_wp2_with fail
  refine (CR.out _).mono ?_
  rintro e w3 ⟨rfl, b3⟩
  have B3 := Lib.hid (below_step B1.out b3)
  clear b3 CQ CR d0 d1 d2 d3 d4 d5 HR0
  go_wp2_with (refine wpList_value_of rfl (.bool false) (neq_run w3 _ _ _ _ _ rfl rfl rfl hg4 (HG4.out w3)) ?_)
  have hsz3 := B3.out.size
  obtain ⟨L, hL16, hLs, CO0, CP0, hLn, hLo⟩ : ∃ L : List Nat, L.length = 16 ∧ (∀ x ∈ L, x < 9223372036854775808) ∧ (∀ w, Calls Tryd.prog 15 #[.int .i64 z] w fun e w' => e = .returned (.agg (iq L)) ∧ Below w.heap.size w w') ∧
      (∀ w, Calls Tryd.prog 16 #[.int .i64 z] w fun e w' => e = .returned (.agg (iq L)) ∧ Below w.heap.size w w') ∧ (z < 0 → L = List.replicate 16 0) ∧ (0 ≤ z → ∃ r, L = order r) := by
    by_cases hneg : z < 0
    · exact ⟨List.replicate 16 0, by simp, by simp, fun w => order_neg z hneg w, fun w => rorder_neg z hneg w, fun _ => rfl, fun h => by omega⟩
    · obtain ⟨n, rfl⟩ : ∃ n : Nat, z = (n : Int) := ⟨z.toNat, by omega⟩
      refine ⟨order n, order_length n, fun x hx => ?_, fun w => order_any n w, fun w => rorder_any n w, fun h => by omega, fun _ => ⟨n, rfl⟩⟩
      obtain ⟨i, hi, rfl⟩ := List.getElem_of_mem hx
      have := order_lt n i
      rw [List.getD_eq_getElem?_getD, List.getElem?_eq_getElem hi] at this
      exact Nat.lt_trans this (by decide)
  have CO := Lib.hid CO0
  have CP := Lib.hid CP0
  have EQ := Lib.hid fun w => nesame_i16 L hL16 hLs w
  have HL := Lib.hid (And.intro hL16 (And.intro hLs (And.intro hLn hLo)))
  have hO16 : (iq L).size = 16 := by rw [iq_size]; exact hL16
  have HOS := Lib.hid hO16
  clear CO0 CP0 hL16 hLs hLn hLo hO16
  refine (CO.out _).mono ?_
  rintro e w4 ⟨rfl, b4⟩
  have B4 := Lib.hid (below_step B3.out b4)
  clear b4
  go_wp2_with (refine wpList_store_row rfl 38 (.tmp 9) (.tmp 54) rfl w4.heap.size (iq L) rfl rfl 38 _ (RowAt.new _ _ _) (by rw [HOS.out]; exact q_int16) (by rw [HOS.out]; rfl) (iq_one _) ?_)
  simp only [Act.put]
  obtain ⟨b9, hb9⟩ : ∃ b9, b9 = w4.heap.size := ⟨_, rfl⟩
  rw [← hb9]
  generalize hW : World.setRow _ _ _ = w5
  have R9 : RowAt w5 b9 38 (iq L) := by subst hW; subst hb9; exact (RowAt.new _ _ _).setRow _
  have B5 := Lib.hid (below_step B4.out (show Below w4.heap.size w4 w5 by subst hW; exact below_setRow ((Below.refl _ w4).alloc (Nat.le_refl _) _) (by omega) _))
  have HR9 := Lib.hid R9
  clear hW R9 hb9
  refine wp_region_text [Is (.agg (iq L)), Is (.int .i64 z), Is (.agg (iq L)), Is (.bool false), Is (.bool false), Is (.int .i64 z), Is (.bool (decide (z < 0))), Is (.bool (decide (z < 0)))] (by kernel_rfl) (by kernel_rfl) rfl ⟨stable_is _, stable_is _, stable_is _, stable_is _, stable_is _, stable_is _, stable_is _, stable_is _, trivial⟩ ⟨?_, ?_, ?_, ?_, ?_, ?_, ?_, ?_, trivial⟩ ?_
  · intro a w C
    exact part_on (wanted_free rfl _) (op_value (lrow_run rfl (C.was 9 (by kernel_rfl)) (HR9.out.below C.below HR9.out.lt) HOS.out) rfl)
  · intro a w C
    exact part_on (wanted_free rfl _) (op_move (.inl rfl) (C.was 1 (by kernel_rfl)))
  · intro a w C
    exact part_on (wanted_free rfl _) (op_call1 rfl (reg_enters Tryd.func16 (by kernel_rfl) (by kernel_rfl)) (C.on (j := 1) (by kernel_rfl) rfl rfl) ((CP.out w).mono fun e w2 h => by obtain ⟨rfl, hb⟩ := h; exact ⟨_, rfl, rfl, hb⟩))
  · intro a w C
    exact part_on (wanted_free rfl _) (op_value (neq_run _ _ _ _ _ _ rfl (C.on (j := 0) (by kernel_rfl) rfl rfl) (C.on (j := 2) (by kernel_rfl) rfl rfl) (by kernel_rfl) (EQ.out w)) rfl)
  · intro a w C
    exact part_on (wanted_free rfl _) (op_move (.inl rfl) (C.on (j := 3) (by kernel_rfl) rfl rfl))
  · intro a w C
    exact part_on (wanted_on (j := 4) rfl rfl rfl (C.on (j := 4) (by kernel_rfl) rfl rfl)) (op_move (.inl rfl) (C.was 1 (by kernel_rfl)))
  · intro a w C
    exact part_on (wanted_on (j := 4) rfl rfl rfl (C.on (j := 4) (by kernel_rfl) rfl rfl)) (op_bin rfl (C.on (j := 5) (by kernel_rfl) rfl rfl) rfl rfl (by simp [go_sem]) rfl)
  · intro a w C
    exact part_on (wanted_free rfl _) (op_pick (k := false) rfl (C.on (j := 4) (by kernel_rfl) rfl rfl) (C.on (j := 6) (by kernel_rfl) rfl rfl))
  rintro wF hbF _ rfl _ rfl _ rfl _ rfl _ rfl _ rfl _ rfl _ rfl
  simp only [Fin, setAt, Exit.then, List.setIfInBounds_toArray, List.set_cons_succ, List.set_cons_zero]
  have RF := Lib.hid (HR9.out.below hbF HR9.out.lt)
  have BF := Lib.hid (below_step B5.out hbF)
  clear hbF HR9 CO CP EQ
  by_cases hneg : z < 0
  · have hdn : decide (z < 0) = true := decide_eq_true hneg
    rw [hdn]
    have hLz := HL.out.2.2.1 hneg
    have e0 : (#[.int .i64 0, .int .i64 0, .int .i64 0, .int .i64 0, .int .i64 0, .int .i64 0, .int .i64 0, .int .i64 0, .int .i64 0, .int .i64 0, .int .i64 0, .int .i64 0, .int .i64 0, .int .i64 0, .int .i64 0, .int .i64 0] : Array Value) = iq L := by rw [hLz]; rfl
    have EQ2 := Lib.hid fun w => same_i16 L HL.out.1 HL.out.2.1 w
    have EQ3 : Hid (∀ w, (binOp .eql 38 (.agg (iq L)) (.agg #[.int .i64 0, .int .i64 0, .int .i64 0, .int .i64 0, .int .i64 0, .int .i64 0, .int .i64 0, .int .i64 0, .int .i64 0, .int .i64 0, .int .i64 0, .int .i64 0, .int .i64 0, .int .i64 0, .int .i64 0, .int .i64 0])).run Tryd.prog w = .ok (.bool true) w) := Lib.hid fun w => by rw [e0]; exact EQ2.out w
    clear e0 hLz EQ2
    go_wp2_with (first
      | refine wpList_value_want rfl _ (lrow_run rfl rfl RF.out HOS.out) ?_
      | refine wpList_value_want rfl (.bool true) (eql_run wF _ _ _ _ _ rfl rfl rfl hg16 (EQ3.out wF)) ?_)
    go_ret
    exact ⟨rfl, BF.out⟩
  · have hdn : decide (z < 0) = false := decide_eq_false hneg
    rw [hdn]
    obtain ⟨r10, hr10⟩ := HL.out.2.2.2 (by omega)
    have HR10 := Lib.hid hr10
    clear hr10
    go_wp2_with (first
      | refine wpList_value_of rfl _ (lrow_run rfl rfl (RF.out.alloc _) HOS.out) ?_)
    generalize hW : World.alloc _ _ = W2
    obtain ⟨F, hF⟩ : ∃ F, F = wF.heap.size := ⟨_, rfl⟩
    rw [← hF]
    have hF2 : w.heap.size ≤ F := by have := BF.out.size; omega
    have R2 : RowAt W2 F 40 (bq (sb (order r10) 0)) := by subst hW; subst hF; exact RowAt.new _ _ _
    have B2 := Lib.hid (show Below w.heap.size w W2 by subst hW; exact BF.out.alloc (by omega) _)
    have H2 := Lib.hid R2
    clear hW hF R2 RF BF
    have HLL := HL.out.1
    have HL16 := Lib.hid HLL
    clear HLL
    go_loopw [12, 71] (fun _ v71 wr => ∃ j : Nat, j ≤ 16 ∧ v71 = .int .i64 (j : Int) ∧ RowAt wr F 40 (bq (sb (order r10) j)) ∧ Below w.heap.size w wr) (fun _ v71 _ => 16 - (intOf v71).toNat)
    case atStart => exact ⟨0, by omega, rfl, H2.out, B2.out⟩
    case round =>
      clear H2 B2
      obtain ⟨j, hj, rfl, R2, hB⟩ := hrel
      by_cases h : j < 16
      · have hdt : decide ((j : Int) < 16) = true := by simp; omega
        have hn := sb_new r10 j h
        have hlt := order_lt r10 j
        have hix : L.getD j 0 = (order r10).getD j 0 := by rw [HR10.out]
        have hso := sb_length (order r10) j
        have hset : (bq (sb (order r10) j)).setIfInBounds ((order r10).getD j 0) (.bool true) = bq (sb (order r10) (j + 1)) := by rw [bq_set]; rfl
        rw [← hix] at hn hlt hset
        generalize hd : L.getD j 0 = d at *
        have cd := (R2.cell d).trans (bq_at _ _ (by omega))
        rw [hn] at cd
        have fd := R2.frozen d
        have HD := Lib.hid hd
        have HS := Lib.hid hset
        have H2 := Lib.hid R2
        have HB := Lib.hid hB
        have h1 : decide ((d : Int) < 0) = false := by simp
        have h2 : decide ((d : Int) > 15) = false := by simp; omega
        have h3 : decide ((15 : Int) < (d : Int)) = false := by simp; omega
        clear R2 hB hn hset hix hso hd
        go_wp2_with (first
          | refine wpList_value_of rfl (.int .i64 (d : Int)) (by rw [← HD.out]; exact ixv_run rfl rfl rfl h HL16.out) ?_)
        refine ⟨⟨j + 1, by omega, by go_num, ?_, HB.out.setCell (by simp; omega) _⟩, by simp [intOf]; omega⟩
        rw [← HS.out]
        exact H2.out.setCell d _
      · obtain rfl : j = 16 := by omega
        have hdt : decide (((16 : Nat) : Int) < 16) = false := by simp
        have HB := Lib.hid hB
        clear R2 hB
        go_wp2
        go_ret
        exact ⟨rfl, HB.out⟩
end Go.Proofs.YtfdoikdfhjjohaaDoor

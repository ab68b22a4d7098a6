/- The law SalsaQuarters by the calls' contracts. Condition: the package's table reads as it was laid. -/
import Derived.Test.YtnmhcmjpcamoeaaDoorSlAwake
import Derived.Test.YtnmhcmjpcamoeaaDoorReg
namespace Go.Proofs.YtnmhcmjpcamoeaaDoor
set_option maxRecDepth 50000
open Go.RowKit Rot Sl

theorem build4_run {w : World} {ev : Operand → Value} {x y z u : Operand} {o : Oper} {a b c d : Nat} (hop : o.op = .build 27 #[(0, x), (1, y), (2, z), (3, u)]) (hx : ev x = .int .u32 (a : Int)) (hy : ev y = .int .u32 (b : Int)) (hz : ev z = .int .u32 (c : Int)) (hu : ev u = .int .u32 (d : Int)) :
    (execOp ev o).run Tryd.prog w = .ok (.value (.agg (wd [a, b, c, d]))) w := by
  simp [execOp, hop, hx, hy, hz, hu, go_sem, wd, u32s]
theorem lrow_run {w : World} {ev : Operand → Value} {x : Operand} {o : Oper} {B : Nat} {L : List Nat} {hL : L.length = 4} (hop : o.op = .load 27 x) (hx : ev x = .pointer (some ⟨B, 0, none⟩)) (hR : RowAt w B 27 (wd L)) : (execOp ev o).run Tryd.prog w = .ok (.value (.agg (wd L))) w := by
  have h := RowAt.loadAt (P := Tryd.prog) hR Tryd.underlying27 (by rw [wd_size, hL]; exact size_4)
  simp [execOp, hop, hx, h]
theorem Q.list_ok {q : Q} (h : q.ok) : okw q.list := by
  obtain ⟨h1, h2, h3, h4⟩ := h
  intro x hx
  simp only [Q.list, List.mem_cons, List.not_mem_nil, or_false] at hx
  rcases hx with rfl | rfl | rfl | rfl <;> assumption

set_option maxHeartbeats 1600000 in
theorem squarters_any (x : List Nat) (hx : x.length = 16) (ho : okw x) (w : World) (hk : QAt w) :
    Calls Tryd.prog 3 #[.agg (wd x)] w fun e w' => e = .returned (.bool true) ∧ Below w.heap.size w w' := by
  obtain ⟨q, hq⟩ : ∃ q : Q, q = ⟨x.getD 0 0, x.getD 1 0, x.getD 2 0, x.getD 3 0⟩ := ⟨_, rfl⟩
  have hqo : q.ok := by rw [hq]; exact ⟨ho.at_ 0, ho.at_ 1, ho.at_ 2, ho.at_ 3⟩
  have hro := quarter_ok hqo
  have CQ := Lib.hid fun w => quarter_any q hqo w
  have CR := Lib.hid fun w => rquarter_any q hqo w
  have CU := Lib.hid fun w => rundone_any q hqo w
  have EQ := Lib.hid fun w => same_w4 _ (show (quarter q).list.length = 4 from rfl) (Q.list_ok hro) w
  have EU := Lib.hid fun w => same_w4 _ (show q.list.length = 4 from rfl) (Q.list_ok hqo) w
  generalize quarter q = r at *
  obtain ⟨ra, rb, rc, rd⟩ := r
  have e0 := (wd_at x 0 (by omega))
  have e1 := (wd_at x 1 (by omega))
  have e2 := (wd_at x 2 (by omega))
  have e3 := (wd_at x 3 (by omega))
  have hqa : x.getD 0 0 = q.a := by rw [hq]
  have hqb : x.getD 1 0 = q.b := by rw [hq]
  have hqc : x.getD 2 0 = q.c := by rw [hq]
  have hqd : x.getD 3 0 = q.d := by rw [hq]
  rw [hqa] at e0; rw [hqb] at e1; rw [hqc] at e2; rw [hqd] at e3
  have HK := Lib.hid (hk.next ((Below.refl _ w).alloc (Nat.le_refl _) (.cells (wd x) 23)))
  clear hqa hqb hqc hqd hq hqo hro hk hx ho
  go_enter Tryd.func3, Tryd.ntmps3
  go_wp2_with fail
  refine (awake_any _ HK.out).mono ?_
  rintro e w1 ⟨rfl, b1⟩
  have R0 : RowAt w1 w.heap.size 23 (wd x) := (RowAt.new w 23 (wd x)).below b1 (by simp)
  have B1 := Lib.hid (((Below.refl _ w).alloc (Nat.le_refl _) (.cells (wd x) 23)).trans (b1.mono (by simp)))
  have d0 := (R0.cell 0).trans e0
  have d1 := (R0.cell 1).trans e1
  have d2 := (R0.cell 2).trans e2
  have d3 := (R0.cell 3).trans e3
  clear R0 b1 e0 e1 e2 e3 HK
  go_wp2_with fail
  refine (CQ.out _).mono ?_
  rintro e w2 ⟨rfl, rfl⟩
  have RN := Lib.hid (RowAt.new w1 27 (wd q.list))
  have hbn : Below w.heap.size w (w1.alloc (.cells (wd q.list) 27)) := B1.out.alloc B1.out.size _
  have BN := Lib.hid hbn
  clear hbn CQ
  go_wp2
  generalize hW : World.alloc _ _ = w3
  obtain ⟨B, hB⟩ : ∃ B, B = w1.heap.size := ⟨_, rfl⟩
  rw [← hB]
  have HR : Hid (RowAt w3 B 27 (wd q.list)) := Lib.hid (by subst hW; subst hB; exact RN.out)
  have HB3 : Hid (Below w.heap.size w w3) := Lib.hid (by subst hW; exact BN.out)
  clear hW hB RN BN B1 d0 d1 d2 d3
  refine wp_region_text [Is (.int .u32 (ra : Int)), Is (.int .u32 (rb : Int)), Is (.int .u32 (rc : Int)), Is (.int .u32 (rd : Int)), Is (.agg (wd [ra, rb, rc, rd])), Is (.agg (wd q.list)), Is (.agg (wd [ra, rb, rc, rd])), Is (.bool true), Is (.bool true), Is (.int .u32 (ra : Int)), Is (.int .u32 (rb : Int)), Is (.int .u32 (rc : Int)), Is (.int .u32 (rd : Int)), Is (.agg (wd [ra, rb, rc, rd])), Is (.agg (wd q.list)), Is (.agg (wd q.list)), Is (.bool true), Is (.bool true), Is (.bool true)] (by kernel_rfl) (by kernel_rfl) rfl ⟨stable_is _, stable_is _, stable_is _, stable_is _, stable_is _, stable_is _, stable_is _, stable_is _, stable_is _, stable_is _, stable_is _, stable_is _, stable_is _, stable_is _, stable_is _, stable_is _, stable_is _, stable_is _, stable_is _, trivial⟩ ⟨?_, ?_, ?_, ?_, ?_, ?_, ?_, ?_, ?_, ?_, ?_, ?_, ?_, ?_, ?_, ?_, ?_, ?_, ?_, trivial⟩ ?_
  · intro a w C
    exact part_on (wanted_free rfl _) (op_move (.inl rfl) (C.was 3 (by kernel_rfl)))
  · intro a w C
    exact part_on (wanted_free rfl _) (op_move (.inl rfl) (C.was 4 (by kernel_rfl)))
  · intro a w C
    exact part_on (wanted_free rfl _) (op_move (.inl rfl) (C.was 5 (by kernel_rfl)))
  · intro a w C
    exact part_on (wanted_free rfl _) (op_move (.inl rfl) (C.was 6 (by kernel_rfl)))
  · intro a w C
    exact part_on (wanted_free rfl _) (op_value (build4_run rfl (C.on (j := 0) (by kernel_rfl) rfl rfl) (C.on (j := 1) (by kernel_rfl) rfl rfl) (C.on (j := 2) (by kernel_rfl) rfl rfl) (C.on (j := 3) (by kernel_rfl) rfl rfl)) rfl)
  · intro a w C
    exact part_on (wanted_free rfl _) (op_value (lrow_run (hL := rfl) rfl (C.was 7 (by kernel_rfl)) (HR.out.below C.below HR.out.lt)) rfl)
  · intro a w C
    exact part_on (wanted_free rfl _) (op_call1 rfl (reg_enters Tryd.func8 (by kernel_rfl) (by kernel_rfl)) (C.on (j := 5) (by kernel_rfl) rfl rfl) ((CR.out w).mono fun e w2 h => by obtain ⟨rfl, hb⟩ := h; exact ⟨_, rfl, rfl, hb⟩))
  · intro a w C
    exact part_on (wanted_free rfl _) (op_value (eql_run _ _ _ _ _ _ rfl (C.on (j := 4) (by kernel_rfl) rfl rfl) (C.on (j := 6) (by kernel_rfl) rfl rfl) g_w4 (EQ.out w)) rfl)
  · intro a w C
    exact part_on (wanted_free rfl _) (op_move (.inl rfl) (C.on (j := 7) (by kernel_rfl) rfl rfl))
  · intro a w C
    exact part_on (wanted_on (j := 8) rfl rfl rfl (C.on (j := 8) (by kernel_rfl) rfl rfl)) (op_move (.inl rfl) (C.was 3 (by kernel_rfl)))
  · intro a w C
    exact part_on (wanted_on (j := 8) rfl rfl rfl (C.on (j := 8) (by kernel_rfl) rfl rfl)) (op_move (.inl rfl) (C.was 4 (by kernel_rfl)))
  · intro a w C
    exact part_on (wanted_on (j := 8) rfl rfl rfl (C.on (j := 8) (by kernel_rfl) rfl rfl)) (op_move (.inl rfl) (C.was 5 (by kernel_rfl)))
  · intro a w C
    exact part_on (wanted_on (j := 8) rfl rfl rfl (C.on (j := 8) (by kernel_rfl) rfl rfl)) (op_move (.inl rfl) (C.was 6 (by kernel_rfl)))
  · intro a w C
    exact part_on (wanted_on (j := 8) rfl rfl rfl (C.on (j := 8) (by kernel_rfl) rfl rfl)) (op_value (build4_run rfl (C.on (j := 9) (by kernel_rfl) rfl rfl) (C.on (j := 10) (by kernel_rfl) rfl rfl) (C.on (j := 11) (by kernel_rfl) rfl rfl) (C.on (j := 12) (by kernel_rfl) rfl rfl)) rfl)
  · intro a w C
    exact part_on (wanted_on (j := 8) rfl rfl rfl (C.on (j := 8) (by kernel_rfl) rfl rfl)) (op_call1 rfl (reg_enters Tryd.func9 (by kernel_rfl) (by kernel_rfl)) (C.on (j := 13) (by kernel_rfl) rfl rfl) ((CU.out w).mono fun e w2 h => by obtain ⟨rfl, hb⟩ := h; exact ⟨_, rfl, rfl, hb⟩))
  · intro a w C
    exact part_on (wanted_on (j := 8) rfl rfl rfl (C.on (j := 8) (by kernel_rfl) rfl rfl)) (op_value (lrow_run (hL := rfl) rfl (C.was 7 (by kernel_rfl)) (HR.out.below C.below HR.out.lt)) rfl)
  · intro a w C
    exact part_on (wanted_on (j := 8) rfl rfl rfl (C.on (j := 8) (by kernel_rfl) rfl rfl)) (op_value (eql_run _ _ _ _ _ _ rfl (C.on (j := 14) (by kernel_rfl) rfl rfl) (C.on (j := 15) (by kernel_rfl) rfl rfl) g_w4 (EU.out w)) rfl)
  · intro a w C
    exact part_on (wanted_free rfl _) (op_pick (k := true) rfl (C.on (j := 8) (by kernel_rfl) rfl rfl) (C.on (j := 16) (by kernel_rfl) rfl rfl))
  · intro a w C
    exact part_on (wanted_free rfl _) (op_move (.inr rfl) (C.on (j := 17) (by kernel_rfl) rfl rfl))
  rintro wF hbF _ rfl _ rfl _ rfl _ rfl _ rfl _ rfl _ rfl _ rfl _ rfl _ rfl _ rfl _ rfl _ rfl _ rfl _ rfl _ rfl _ rfl _ rfl _ rfl
  simp only [Fin, setAt, Exit.then, List.setIfInBounds_toArray, List.set_cons_succ, List.set_cons_zero]
  have BF := Lib.hid (below_step HB3.out hbF)
  clear hbF HR CR CU EQ EU HB3
  go_wp2
  go_ret
  exact ⟨rfl, BF.out⟩
end Go.Proofs.YtnmhcmjpcamoeaaDoor

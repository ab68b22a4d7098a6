/- Load and Store of package grid by their contracts. Conditions: those typed. -/
import Derived.Test.YtpampgkhjcfeaaaDoorGdHold
namespace Go.Proofs.YtpampgkhjcfeaaaDoor
set_option maxRecDepth 50000
open Go.RowKit Bb

theorem ext_run {w : World} {ev : Operand → Value} {y : Operand} {o : Oper} {k : Nat} {vs : Array Value} {v : Value} (hop : o.op = .extract y k) (hy : ev y = .tuple vs) (hv : vs[k]? = some v) : (execOp ev o).run Tryd.prog w = .ok (.value v) w := by
  simp [execOp, hop, hy, hv, go_sem]
theorem reg_call3 {P : Program} {o : Oper} {a : Act} {w : World} {f : FuncId} {x y z : Operand} {ts : Array TypeId} {v1 v2 v3 : Value} (ho : o.op = .call { callee := .value (.func f), args := #[x, y, z], argTypes := ts }) (he : ∀ (args : Array Value) (w : World), (callFunc f args).run P w = .ok (.enter f args) w)
    (hx : a.eval x = v1) (hy : a.eval y = v2) (hz : a.eval z = v3) : (execOp a.eval o).run P w = .ok (.enter f #[v1, v2, v3]) w := by
  subst hx; subst hy; subst hz
  simp [execOp, ho, resolve, invoke, he, go_sem]

/-- a call that does not find the place: nothing is read -/
theorem gload_way (P : Option Addr) (x y : Int) (w : World) (C : ∀ w', Below w.heap.size w w' → Calls Tryd.prog 22 #[.pointer P, sov x y] w' fun e w2 => e = .returned (.bool false) ∧ Below w'.heap.size w' w2) :
    Calls Tryd.prog 6 #[.pointer P, sov x y] w fun e w' => e = .returned (.tuple #[.agg (wq zb), .int .i64 11]) ∧ Below w.heap.size w w' := by
  obtain ⟨w1, e1⟩ : ∃ w1, w1 = (w.alloc (.cells (soc x y) 34)).alloc (.cells (wq zb) 29) := ⟨_, rfl⟩
  have B1 : Below w.heap.size w w1 := by rw [e1]; exact two_box _ _ _
  have HS : Hid (RowAt w1 w.heap.size 34 (soc x y)) := Lib.hid (by rw [e1]; exact (RowAt.new w _ _).alloc _)
  have HR : Hid (RowAt w1 (w.heap.size + 1) 29 (wq zb)) := Lib.hid (by
    rw [e1]
    have := RowAt.new (w.alloc (.cells (soc x y) 34)) 29 (wq zb)
    rwa [World.size_alloc] at this)
  have C := Lib.hid (C w1 B1)
  have HB := Lib.hid B1
  have HZ := Lib.hid zero_b
  have hz := zero_b
  have E1 := Lib.hid e1
  clear B1 e1
  go_enter Tryd.func6, Tryd.ntmps6
  go_wp2_with fail
  rw [← E1.out]
  refine C.out.mono ?_
  rintro e w2 ⟨rfl, b2⟩
  have HR2 := Lib.hid (RowAt.step HR.out b2)
  have HB2 := Lib.hid (below_step HB.out b2)
  clear C HR HS b2 HB
  go_wp2_with (first
    | refine wpList_value_want rfl _ (bbuild_run _ _ rfl) ?_
    | refine wpList_store_row rfl 29 (.tmp 4) (.tmp 10) rfl (w.heap.size + 1) (wq zb) rfl rfl 29 _ HR2.out b_size rfl (wq_one _) ?_)
  have hR := RowAt.setRow HR2.out (wq zb)
  refine bodyPost_ret (results_row_tmp rfl _ (p := 4) rfl hR Tryd.underlying29 rfl b_size) rfl ⟨rfl, ?_⟩
  exact below_setRow HB2.out (by omega) _
theorem gload_nil (x y : Int) (w : World) : Calls Tryd.prog 6 #[.pointer none, sov x y] w fun e w' => e = .returned (.tuple #[.agg (wq zb), .int .i64 11]) ∧ Below w.heap.size w w' :=
  gload_way none x y w fun u _ => holds_nil x y u

theorem gstore_way (P : Option Addr) (x y : Int) (v : List Nat) (w : World) (C : ∀ w', Below w.heap.size w w' → Calls Tryd.prog 22 #[.pointer P, sov x y] w' fun e w2 => e = .returned (.bool false) ∧ Below w'.heap.size w' w2) :
    Calls Tryd.prog 9 #[.pointer P, sov x y, .agg (wq v)] w fun e w' => e = .returned (.int .i64 11) ∧ Below w.heap.size w w' := by
  obtain ⟨w1, e1⟩ : ∃ w1, w1 = (w.alloc (.cells (soc x y) 34)).alloc (.cells (wq v) 29) := ⟨_, rfl⟩
  have B1 : Below w.heap.size w w1 := by rw [e1]; exact two_box _ _ _
  have HS : Hid (RowAt w1 w.heap.size 34 (soc x y)) := Lib.hid (by rw [e1]; exact (RowAt.new w _ _).alloc _)
  have C := Lib.hid (C w1 B1)
  have HB := Lib.hid B1
  have E1 := Lib.hid e1
  clear B1 e1
  go_enter Tryd.func9, Tryd.ntmps9
  go_wp2_with fail
  rw [← E1.out]
  refine C.out.mono ?_
  rintro e w2 ⟨rfl, b2⟩
  have HB2 := Lib.hid (below_step HB.out b2)
  clear C HS b2 HB
  go_wp2
  go_ret
  exact ⟨rfl, HB2.out⟩
theorem gstore_nil (x y : Int) (v : List Nat) (w : World) : Calls Tryd.prog 9 #[.pointer none, sov x y, .agg (wq v)] w fun e w' => e = .returned (.int .i64 11) ∧ Below w.heap.size w w' :=
  gstore_way none x y v w fun u _ => holds_nil x y u
section
variable {w : World} {q p h G a t l m b c g z : Nat} {L : List (List Nat)}
theorem gload_bad (hG : GrRow w q p a t l m b c g z) (hl : l ≤ 16777215) (hc : c ≤ 4294967295) (x y : Int) (hb : inG l c x y = false) : Calls Tryd.prog 6 #[.pointer (some ⟨q, 0, none⟩), sov x y] w fun e w' => e = .returned (.tuple #[.agg (wq zb), .int .i64 11]) ∧ Below w.heap.size w w' :=
  gload_way _ x y w fun _ h => holds_any (hG.step h) hl hc x y hb
theorem gstore_bad (hG : GrRow w q p a t l m b c g z) (hl : l ≤ 16777215) (hc : c ≤ 4294967295) (x y : Int) (v : List Nat) (hb : inG l c x y = false) : Calls Tryd.prog 9 #[.pointer (some ⟨q, 0, none⟩), sov x y, .agg (wq v)] w fun e w' => e = .returned (.int .i64 11) ∧ Below w.heap.size w w' :=
  gstore_way _ x y v w fun _ h => holds_any (hG.step h) hl hc x y hb

set_option maxHeartbeats 3200000 in
theorem gload_any (hG : GrAt w q p h G a t l m b c g z L) (hl : l ≤ 16777215) (hc : c ≤ 4294967295) (i k n : Nat) (hi : i < l) (hk : k < c) (hn : i * c + k = n) (hnL : n < L.length) (hL : L.length ≤ 4194304) : Calls Tryd.prog 6 #[.pointer (some ⟨q, 0, none⟩), sov (i : Int) (k : Int)] w fun e w' => e = .returned (.tuple #[.agg (wq (L.getD n [])), .int .i64 0]) ∧ Below w.heap.size w w' := by
  obtain ⟨w1, e1⟩ : ∃ w1, w1 = (w.alloc (.cells (soc i k) 34)).alloc (.cells (wq zb) 29) := ⟨_, rfl⟩
  have B1 : Below w.heap.size w w1 := by rw [e1]; exact two_box _ _ _
  have S1 : RowAt w1 w.heap.size 34 (soc i k) := by rw [e1]; exact (RowAt.new w _ _).alloc _
  have R1 : RowAt w1 (w.heap.size + 1) 29 (wq zb) := by
    rw [e1]
    have := RowAt.new (w.alloc (.cells (soc i k) 34)) 29 (wq zb)
    rwa [World.size_alloc] at this
  have CH := Lib.hid (holds_any (hG.step B1).row hl hc i k (inG_at hi hk))
  have HX := Lib.hid (block_ok hG.live.ok n hnL)
  have CP := Lib.hid fun w => spplace_any a t l m b c g z i k (by omega) w
  rw [hn] at CP
  have CG : Hid (∀ w', Below w.heap.size w w' → Calls Tryd.prog 23 #[.pointer (some ⟨p, 0, none⟩), .int .i64 (n : Int)] w' fun e w2 => e = .returned (.tuple #[.agg (wq (L.getD n [])), .int .i64 0]) ∧ Below w'.heap.size w' w2) := Lib.hid fun w' hb => get_any (hG.step hb).live n hnL
  generalize L.getD n [] = x at *
  have HB := Lib.hid B1
  have HS := Lib.hid S1
  have HR := Lib.hid R1
  have HG := Lib.hid hG
  have hz := zero_b
  have E1 := Lib.hid e1
  clear B1 e1 S1 R1 hG hi hk hnL hn hL
  go_enter Tryd.func6, Tryd.ntmps6
  go_wp2_with fail
  rw [← E1.out]
  refine CH.out.mono ?_
  rintro e w2 ⟨rfl, b2⟩
  have S2 := RowAt.step HS.out b2
  have R2 := RowAt.step HR.out b2
  have B2 := below_step HB.out b2
  have G2 := HG.out.step B2
  obtain ⟨W, hWd⟩ : ∃ W : Nat → World → Prop, W = fun j w' => if j = 0 then Below w2.heap.size w2 w' else (RowAt w' (w.heap.size + 1) 29 (wq x) ∧ Below w.heap.size w w') := ⟨_, rfl⟩
  have HWS : Hid (∀ k w w', W k w → Below w.heap.size w w' → W k w') := Lib.hid fun j u u' h hb => by
    subst hWd
    by_cases hj : j = 0
    · simp only [if_pos hj] at h ⊢; exact below_step h hb
    · simp only [if_neg hj] at h ⊢; exact ⟨RowAt.step h.1 hb, below_step h.2 hb⟩
  have HW0 : Hid (W 0 w2) := Lib.hid (by subst hWd; exact Below.refl _ _)
  have HF : Hid (∀ w', W 0 w' → (loadVar 46 ⟨q, 0 + 0, none⟩).run Tryd.prog w' = .ok (.pointer (some ⟨p, 0, none⟩)) w' ∧ (loadVar 47 ⟨q, 0 + 1, none⟩).run Tryd.prog w' = .ok (spv a t l m b c g z) w' ∧ w'.cell? ⟨w.heap.size, 0 + 0, none⟩ = some (.int .i64 (i : Int)) ∧ w'.cell? ⟨w.heap.size, 0 + 1, none⟩ = some (.int .i64 (k : Int)) ∧ Calls Tryd.prog 23 #[.pointer (some ⟨p, 0, none⟩), .int .i64 (n : Int)] w' fun e w2 => e = .returned (.tuple #[.agg (wq x), .int .i64 0]) ∧ Below w'.heap.size w' w2) := Lib.hid fun w' h => by
    subst hWd
    exact ⟨(G2.step h).row.kind, (G2.step h).row.shape, (so_cells (RowAt.step S2 h)).1, (so_cells (RowAt.step S2 h)).2, CG.out w' (below_step B2 h)⟩
  have HT : Hid (∀ w', W 0 w' → ∃ w3, (storeVar 29 ⟨w.heap.size + 1, 0, none⟩ (.agg (wq x))).run Tryd.prog w' = .ok () w3 ∧ W 1 w3) := Lib.hid fun w' h => by
    subst hWd
    have hr := RowAt.step R2 h
    exact ⟨_, hr.store (C' := wq x) (by rw [wq_size, HX.out.1]; exact b_size) (by rw [wq_size, wq_size, HX.out.1]; exact zb_ok.1) (wq_one _), hr.setRow _, below_setRow (below_step B2 h) (by omega) _⟩
  have HW1 : Hid (∀ w', W 1 w' → RowAt w' (w.heap.size + 1) 29 (wq x) ∧ Below w.heap.size w w') := Lib.hid fun w' h => by subst hWd; exact h
  have HXX := Lib.hid HX.out.1
  clear hWd CG S2 R2 B2 G2 b2 HB HS HR HG CH HX
  go_wp2
  refine wp_region_seq [16] [.pointer (some ⟨q, 0, none⟩), .pointer (some ⟨q, 0, none⟩), .pointer (some ⟨q, 0 + 0, none⟩), .pointer (some ⟨p, 0, none⟩), .pointer (some ⟨q, 0, none⟩), .pointer (some ⟨q, 0, none⟩), .pointer (some ⟨q, 0 + 1, none⟩), spv a t l m b c g z, .pointer (some ⟨w.heap.size, 0 + 0, none⟩), .int .i64 (i : Int), .pointer (some ⟨w.heap.size, 0 + 1, none⟩), .int .i64 (k : Int), .int .i64 ((n : Nat) : Int), .tuple #[.agg (wq x), .int .i64 0], .agg (wq x), .int .i64 0, undef, .int .i64 0] W (by kernel_rfl) (by kernel_rfl) rfl (HWS.out 0 _ _ HW0.out (Below.refl _ _).drew) ⟨?_, ?_, ?_, ?_, ?_, ?_, ?_, ?_, ?_, ?_, ?_, ?_, ?_, ?_, ?_, ?_, ?_, ?_, trivial⟩ ?_
  · exact seq_head (by kernel_rfl) (HWS.out 0) fun a w C hW => op_move (.inl rfl) (C.was 0 (by kernel_rfl))
  · exact seq_head (by kernel_rfl) (HWS.out 0) fun a w C hW => op_value (nil_run rfl (C.on (j := 0) (by kernel_rfl) rfl rfl)) rfl
  · exact seq_head (by kernel_rfl) (HWS.out 0) fun a w C hW => op_value (grf_run (k := 0) rfl (by decide) (C.on (j := 1) (by kernel_rfl) rfl rfl)) rfl
  · exact seq_head (by kernel_rfl) (HWS.out 0) fun a w C hW => op_value (load_run rfl (C.on (j := 2) (by kernel_rfl) rfl rfl) (HF.out w hW).1) rfl
  · exact seq_head (by kernel_rfl) (HWS.out 0) fun a w C hW => op_move (.inl rfl) (C.was 0 (by kernel_rfl))
  · exact seq_head (by kernel_rfl) (HWS.out 0) fun a w C hW => op_value (nil_run rfl (C.on (j := 4) (by kernel_rfl) rfl rfl)) rfl
  · exact seq_head (by kernel_rfl) (HWS.out 0) fun a w C hW => op_value (grf_run (k := 1) rfl (by decide) (C.on (j := 5) (by kernel_rfl) rfl rfl)) rfl
  · exact seq_head (by kernel_rfl) (HWS.out 0) fun a w C hW => op_value (load_run rfl (C.on (j := 6) (by kernel_rfl) rfl rfl) (HF.out w hW).2.1) rfl
  · exact seq_head (by kernel_rfl) (HWS.out 0) fun a w C hW => op_value (sof_run (k := 0) rfl (by decide) (C.was 3 (by kernel_rfl))) rfl
  · exact seq_head (by kernel_rfl) (HWS.out 0) fun a w C hW => op_value (int_run rfl (C.on (j := 8) (by kernel_rfl) rfl rfl) (HF.out w hW).2.2.1) rfl
  · exact seq_head (by kernel_rfl) (HWS.out 0) fun a w C hW => op_value (sof_run (k := 1) rfl (by decide) (C.was 3 (by kernel_rfl))) rfl
  · exact seq_head (by kernel_rfl) (HWS.out 0) fun a w C hW => op_value (int_run rfl (C.on (j := 10) (by kernel_rfl) rfl rfl) (HF.out w hW).2.2.2.1) rfl
  · exact seq_head (by kernel_rfl) (HWS.out 0) fun a w C hW => op_call3 rfl (reg_enters Tryd.func24 (by kernel_rfl) (by kernel_rfl)) (C.on (j := 7) (by kernel_rfl) rfl rfl) (C.on (j := 9) (by kernel_rfl) rfl rfl) (C.on (j := 11) (by kernel_rfl) rfl rfl) (calls_is (CP.out w))
  · exact seq_head (by kernel_rfl) (HWS.out 0) fun a w C hW => op_call2 rfl (reg_enters Tryd.func23 (by kernel_rfl) (by kernel_rfl)) (C.on (j := 3) (by kernel_rfl) rfl rfl) (C.on (j := 12) (by kernel_rfl) rfl rfl) (calls_is ((HF.out w hW).2.2.2.2))
  · exact seq_head (by kernel_rfl) (HWS.out 0) fun a w C hW => op_value (ext_run (v := .agg (wq x)) rfl (C.on (j := 13) (by kernel_rfl) rfl rfl) rfl) rfl
  · exact seq_head (by kernel_rfl) (HWS.out 0) fun a w C hW => op_value (ext_run (v := .int .i64 0) rfl (C.on (j := 13) (by kernel_rfl) rfl rfl) rfl) rfl
  · exact seq_turn 0 (by kernel_rfl) fun a w C hW => by
        obtain ⟨w2, hs, hn⟩ := HT.out w hW
        exact sto_does rfl (C.was 4 (by kernel_rfl)) (C.on (j := 14) (by kernel_rfl) rfl rfl) hs hn
  · exact seq_float (by kernel_rfl) HWS.out fun a w C => op_move (.inr rfl) (C.on (j := 15) (by kernel_rfl) rfl rfl)
  intro w3 hw
  obtain ⟨R3, B3⟩ := HW1.out w3 hw
  have HB3 := Lib.hid B3
  clear hw HWS HW0 HF HT HW1 B3 CP
  simp only [setAll, setAt, List.setIfInBounds_toArray, List.set_cons_succ, List.set_cons_zero]
  go_wp2
  refine bodyPost_ret (results_row_tmp rfl _ (p := 4) rfl R3 Tryd.underlying29 rfl (by rw [wq_size, HXX.out]; exact b_size)) rfl ⟨rfl, HB3.out⟩
end
end Go.Proofs.YtpampgkhjcfeaaaDoor

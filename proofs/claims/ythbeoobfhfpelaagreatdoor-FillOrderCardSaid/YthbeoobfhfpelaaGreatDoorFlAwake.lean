/- The law's grid by its numbers, and chapter 32's example, by their contracts. Conditions: those typed. -/
import Derived.Test.YthbeoobfhfpelaaGreatDoorFlAll
namespace Go.Proofs.YthbeoobfhfpelaaGreatDoor
set_option maxRecDepth 50000
open Go.RowKit Bb Bn

/-- the law's grid: none, or of few blocks -/
theorem made_sh (pa pt pm pl pz : Int) : (∀ w, Calls Tryz.prog 7 #[pav pa pt pm pl pz] w fun e w' => e = .returned (.pointer none) ∧ Below w.heap.size w w') ∨
    (∃ a t l m b c g z : Nat, Sh a t l b c g ∧ t ≤ 3 ∧ l ≤ 4 ∧ b ≤ 80 ∧ ∀ w, Calls Tryz.prog 7 #[pav pa pt pm pl pz] w fun e w' => ∃ q p h G, e = .returned (.pointer (some ⟨q, 0, none⟩)) ∧ GrAt w' q p h G a t l m b c g z (List.replicate b zb) ∧ w.heap.size ≤ G ∧ Below w.heap.size w w') := by
  cases hM : mayB pa pt pm pl pz with
  | false => exact .inl fun w => made_bad pa pt pm pl pz hM w
  | true =>
    obtain ⟨a, t, m, l, z, rfl, rfl, rfl, rfl, rfl, hO⟩ := may_nats hM
    obtain ⟨b, c, g, hg, hc, hb, hbm, hgm, CO⟩ := of_good hO
    obtain ⟨h1, h2, h3, h4, h5, h6, h7, h8, h9⟩ := hO
    cases hf : fewB t l b with
    | false => exact .inl fun w => made_many CO hf w
    | true =>
      have hf' := hf
      unfold fewB at hf'
      simp only [Bool.and_eq_true, decide_eq_true_eq] at hf'
      obtain ⟨f1, f2, f3⟩ := hf'
      have hcb : c ≤ b := by rw [hb]; exact Nat.le_mul_of_pos_left c h4
      have hgb : g ≤ c := by omega
      refine .inr ⟨a, t, l, m, b, c, g, z, ⟨h1, h2, h3, h4, by omega, hg, hc, by omega, hb⟩, f1, f2, f3, fun w => made_any CO hf ?_ (by omega) w⟩
      intro x hx
      simp only [List.mem_cons, List.not_mem_nil, or_false] at hx
      omega
theorem made_ex (w : World) : Calls Tryz.prog 7 #[pav 1 1 16 1 32] w fun e w' => ∃ q p h G, e = .returned (.pointer (some ⟨q, 0, none⟩)) ∧ GrAt w' q p h G 1 1 1 16 16 16 4 32 (List.replicate 16 zb) ∧ w.heap.size ≤ G ∧ Below w.heap.size w w' := by
  obtain ⟨b, c, g, hg, hc, hb, hbm, hgm, CO⟩ := of_good (a := 1) (t := 1) (m := 16) (l := 1) (z := 32) ⟨.inl rfl, by decide, by decide, by decide, by decide, by decide, by decide, by decide, by decide⟩
  obtain rfl : g = 4 := hgm
  obtain rfl : c = 16 := hc
  obtain rfl : b = 16 := by omega
  exact made_any CO rfl (by intro x hx; simp only [List.mem_cons, List.not_mem_nil, or_false] at hx; omega) (by decide) w

theorem turn_none (w : World) : (Instr.build 48 #[]).run Tryz.prog w = .ok (tuv 0 0) w := run_build w _ _ _ (by kernel_rfl)
theorem turn_none_run {w : World} {ev : Operand → Value} {o : Oper} (hop : o.op = .build 48 #[]) : (execOp ev o).run Tryz.prog w = .ok (.value (tuv 0 0)) w := by
  simp only [execOp, hop, List.map_toArray, List.map_nil, Sem.run_bind, turn_none, Result.andThen_ok, Sem.run_pure]
theorem col_build (w : World) (y : Int) : (Instr.build 58 #[(1, .int .i64 y)]).run Tryz.prog w = .ok (sov 0 y) w := by
  have h : ∀ y : Int, Tryz.prog.built 58 [(1, .int .i64 y)] = some (#[.int .i64 0, .int .i64 y]) := fun y => by kernel_rfl
  exact run_build w _ _ _ (h ..)
theorem col_run {w : World} {ev : Operand → Value} {o : Oper} {x : Operand} {y : Int} (hop : o.op = .build 58 #[(1, x)]) (hx : ev x = .int .i64 y) : (execOp ev o).run Tryz.prog w = .ok (.value (sov 0 y)) w := by
  simp only [execOp, hop, List.map_toArray, List.map_cons, List.map_nil, hx, Sem.run_bind, col_build, Result.andThen_ok, Sem.run_pure]
theorem spot_none (w : World) : (Instr.build 58 #[]).run Tryz.prog w = .ok (sov 0 0) w := run_build w _ _ _ (by kernel_rfl)
theorem spot_none_run {w : World} {ev : Operand → Value} {o : Oper} (hop : o.op = .build 58 #[]) : (execOp ev o).run Tryz.prog w = .ok (.value (sov 0 0)) w := by
  simp only [execOp, hop, List.map_toArray, List.map_nil, Sem.run_bind, spot_none, Result.andThen_ok, Sem.run_pure]
theorem spot_same (x y : Nat) (hx : x ≤ 140737488351232) (hy : y ≤ 140737488351232) (w : World) : (binOp .eql 58 (sov x y) (sov x y)).run Tryz.prog w = .ok (.bool true) w := by
  have h := so_eql x y x y hx hy hx hy w
  rwa [show decide (x = x ∧ y = y) = true by simp] at h
theorem spot_still (x y : Nat) (hx : x ≤ 140737488351232) (hy : y ≤ 140737488351232) (w : World) : (binOp .neq 58 (sov x y) (sov x y)).run Tryz.prog w = .ok (.bool false) w := by
  have h := so_equal x y x y hx hy hx hy w
  rw [show decide (x = x ∧ y = y) = true by simp] at h
  rw [run_neq_struct]
  exact (congrArg (fun r => Result.andThen r _) h).trans rfl
theorem ex_word : numW 1 1 16 16 4 (List.replicate 16 zb) 0 0 0 2 = 0 := by
  unfold numW
  rw [if_neg (by decide)]
  rfl
theorem ex_lane : ofL 1 0 0 0 0 = 0 := by decide
theorem ex_col : ofC 1 16 4 0 0 0 2 0 = 0 := by decide

set_option maxHeartbeats 12800000 in
theorem awake32_any (w : World) (hT : TAt w) : Calls Tryz.prog 6 #[] w fun e w' => e = .returned (.bool true) ∧ Below w.heap.size w w' := by
  have HT := Lib.hid hT
  clear hT
  go_enter Tryz.func6, Tryz.ntmps6
  go_wp2_with fail
  refine (made_ex _).mono ?_
  rintro e w1 ⟨q, pc, h, G, rfl, hG, hGe, hb⟩
  have HG := Lib.hid hG
  have HB := Lib.hid hb
  clear hG hb
  go_wp2_with fail
  refine (fillall_nil _).mono ?_
  rintro e w2 ⟨rfl, hb⟩
  have HG2 := Lib.hid (HG.out.step hb)
  have HB2 := Lib.hid (HB.out.trans (hb.mono HB.out.size))
  have CN := Lib.hid (srcp_new w2.heap.size 1 1 1 16 16 16 4 32 0 0 0 w2 (Nat.le_refl _))
  have k0 := HG2.out.row.shape
  clear HG HB hb
  go_wp2_with (first
    | refine wpList_load_want rfl 32 _ rfl _ _ rfl k0 ?_
    | refine wpList_value_want rfl _ (turn_none_run rfl) ?_)
  refine CN.out.mono ?_
  rintro e w3 ⟨_, rfl, ⟨x, rfl, hx, hs⟩, hb⟩
  have S : Sh 1 1 1 16 16 4 := ⟨.inl rfl, by decide, by decide, by decide, by decide, by decide, by decide, by decide, by decide⟩
  have R : Fl 1 1 16 4 0 0 0 2 := ⟨by decide, by decide, by decide, by decide, by decide⟩
  have hT3 : TAt w3 := (HT.out.next HB2.out).next hb
  have HC := look_any S R (HG2.out.step hb) (by simp) hs hT3 (N0 := w2.heap.size) ⟨(HT.out.next HB2.out).1.1, (HT.out.next HB2.out).2.1⟩ hx 0 ex_word
  rw [ex_lane, ex_col] at HC
  have HC : Hid (Calls Tryz.prog 21 #[.pointer (some ⟨q, 0, none⟩), tuv 0 0, .int .i64 0, .int .i64 2, .pointer (some ⟨x, 0, none⟩)] w3 fun e w' => e = .returned (.tuple #[stpv 0 2 0 1 0 0, .int .i64 0]) ∧ Kept (fun j => j = x) w3 w') := Lib.hid (HC.mono fun e w' ⟨h1, _, h2⟩ => ⟨h1, h2⟩)
  have HB3 := Lib.hid (HB2.out.trans (hb.mono HB2.out.size))
  have HXW : Hid (w.heap.size ≤ x) := Lib.hid (Nat.le_trans HB2.out.size hx)
  clear CN HG2 HB2 hb hx hs hT3 k0
  go_wp2_with fail
  refine HC.out.mono ?_
  rintro e w4 ⟨rfl, hk4⟩
  have HB4 := Lib.hid (HB3.out.trans (hk4.below HB3.out.size fun y hy => by have := HXW.out; omega))
  obtain ⟨w5, e5⟩ : ∃ w5, w5 = w4.alloc (.cells (stpc 0 2 0 1 0 0) 62) := ⟨_, rfl⟩
  have HR5 : Hid (RowAt w5 w4.heap.size 62 (stpc 0 2 0 1 0 0)) := Lib.hid (by rw [e5]; exact RowAt.new _ _ _)
  have HB5 : Hid (Below w.heap.size w w5) := Lib.hid (by rw [e5]; exact HB4.out.alloc HB4.out.size _)
  have E5 := Lib.hid e5
  have h1 := spot_same 0 2 (by decide) (by decide)
  have h2 := spot_same 0 1 (by decide) (by decide)
  have h3 := spot_same 0 0 (by decide) (by decide)
  have H1 := Lib.hid h1
  have H2 := Lib.hid h2
  have H3 := Lib.hid h3
  clear hk4 e5 HB4 HB3 HXW HC h1 h2 h3
  go_upto_region 5 with fail
  rw [← E5.out]
  clear E5
  generalize w4.heap.size = S2 at *
  go_wp2_with (first
    | refine wpList_load_want rfl 58 _ rfl _ _ rfl (step_loads HR5.out).1 ?_
    | refine wpList_load_want rfl 58 _ rfl _ _ rfl (step_loads HR5.out).2.1 ?_
    | refine wpList_load_want rfl 58 _ rfl _ _ rfl (step_loads HR5.out).2.2 ?_
    | refine wpList_value_want rfl _ (col_run (y := 2) rfl rfl) ?_
    | refine wpList_value_want rfl _ (col_run (y := 1) rfl rfl) ?_
    | refine wpList_value_want rfl _ (spot_none_run rfl) ?_
    | refine wpList_value_want rfl _ (cmp_run _ _ _ _ rfl rfl rfl g_so (H1.out _)) ?_
    | refine wpList_value_want rfl _ (cmp_run _ _ _ _ rfl rfl rfl g_so (H2.out _)) ?_
    | refine wpList_value_want rfl _ (cmp_run _ _ _ _ rfl rfl rfl g_so (H3.out _)) ?_)
  go_ret
  exact ⟨rfl, HB5.out⟩
end Go.Proofs.YthbeoobfhfpelaaGreatDoor

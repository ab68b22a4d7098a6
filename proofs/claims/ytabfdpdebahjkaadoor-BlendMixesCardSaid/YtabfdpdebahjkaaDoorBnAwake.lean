/- The example of chapter 28 by its contract. Condition: the package's tables read as they were laid. -/
import Derived.Test.YtabfdpdebahjkaaDoorBnOver
namespace Go.Proofs.YtabfdpdebahjkaaDoor
set_option maxRecDepth 50000
open Go.RowKit Rot Bb Bn

theorem build_ex (w : World) : (Instr.build 32 #[(0, .int .u64 1), (1, .int .u64 2), (2, .int .u64 3)]).run Tryd.prog w = .ok (.agg (wq exb)) w := run_build w _ _ _ (by kernel_rfl)
theorem bbuild3_run (w : World) (ev : Operand → Value) {o : Oper} (hop : o.op = .build 32 #[(0, .const (.int .u64 1)), (1, .const (.int .u64 2)), (2, .const (.int .u64 3))]) (h1 : ev (.const (.int .u64 1)) = .int .u64 1) (h2 : ev (.const (.int .u64 2)) = .int .u64 2) (h3 : ev (.const (.int .u64 3)) = .int .u64 3) : (execOp ev o).run Tryd.prog w = .ok (.value (.agg (wq exb))) w := by
  simp only [execOp, hop, List.map_toArray, List.map_cons, List.map_nil, h1, h2, h3, Sem.run_bind, build_ex, Result.andThen_ok, Sem.run_pure]
theorem quarter_ex (w : World) : ∃ b c d : Nat, Calls Tryd.prog 7 #[.int .u64 1, .int .u64 0, .int .u64 0, .int .u64 0] w fun e w' => e = .returned (.tuple #[.int .u64 769, .int .u64 (b : Int), .int .u64 (c : Int), .int .u64 (d : Int)]) ∧ w = w' := by
  have h := quarter_any ⟨1, 0, 0, 0⟩ ⟨by decide, by decide, by decide, by decide⟩ w
  rw [quarter_one] at h
  exact ⟨_, _, _, h⟩

set_option maxHeartbeats 3200000 in
theorem awake28_any (w : World) (ht : TAt w) : Calls Tryd.prog 6 #[] w fun e w' => e = .returned (.bool true) ∧ Below w.heap.size w w' := by
  have HTT := Lib.hid ht
  have HEO := Lib.hid exb_ok
  have HZO := Lib.hid zb_ok
  have HSE : Hid ((wq exb).size = 128) := Lib.hid (by rw [wq_size]; exact exb_ok.1)
  have HM1 := Lib.hid (mix_same exb)
  have HM2 := Lib.hid ex_ne
  have HMO := Lib.hid (mix_ok exb_ok zb_ok)
  have C1 := Lib.hid fun w (ht : TAt w) => mix_any exb_ok exb_ok w ht
  have C2 := Lib.hid fun w (ht : TAt w) => mix_any exb_ok zb_ok w ht
  rw [HM1.out] at C1
  have hz := zero_b
  have H3 := Lib.hid @bbuild3_run
  have HN := Lib.hid (newb w exb)
  clear ht
  generalize exb = x at *
  generalize mix x zb = m at *
  go_enter Tryd.func6, Tryd.ntmps6
  go_wp2_with (first
    | refine wpList_value_want rfl _ (H3.out _ _ rfl rfl rfl rfl) ?_
    | refine wpList_store_row rfl 32 (.tmp 1) (.tmp 6) rfl w.heap.size (wq x) rfl rfl 32 _ (RowAt.new _ _ _) (by rw [HSE.out]; exact b_size) (by rw [HSE.out]; rfl) (wq_one _) ?_)
  obtain ⟨g, hg⟩ : ∃ g, g = w.heap.size := ⟨_, rfl⟩
  rw [← hg] at HN ⊢
  generalize World.setRow _ _ _ = w1 at *
  obtain ⟨qb, qc, qd, CQ⟩ := quarter_ex w1
  refine CQ.mono ?_
  rintro e w2 ⟨rfl, rfl⟩
  clear CQ
  have HB1 : Hid (Below w.heap.size w w1) := Lib.hid (by rw [← hg]; exact HN.out.2)
  have HR1 := Lib.hid HN.out.1
  have HD : Hid (decide (m = zb) = !true) := Lib.hid (by simp [HM2.out])
  clear HN hg
  go_wp2_with (refine wpList_value_want rfl _ (bload_run rfl rfl HR1.out HSE.out) ?_)
  refine (C1.out _ (HTT.out.next HB1.out)).mono ?_
  rintro e w3 ⟨rfl, hb⟩
  have HR3 := Lib.hid (HR1.out.below hb HR1.out.lt)
  have HB3 := Lib.hid (HB1.out.trans (hb.mono HB1.out.size))
  clear hb HR1 HB1
  go_wp2_with (first
    | refine wpList_value_want rfl _ (bload_run rfl rfl HR3.out HSE.out) ?_
    | refine wpList_value_want rfl _ (bbuild_run _ _ rfl) ?_
    | refine wpList_value_want rfl _ (beql_run _ HZO.out HZO.out (k := true) (by simp) _ _ _ rfl rfl rfl) ?_)
  refine (C2.out _ (HTT.out.next HB3.out)).mono ?_
  rintro e w4 ⟨rfl, hb⟩
  have HB4 := Lib.hid (HB3.out.trans (hb.mono HB3.out.size))
  clear hb HR3 HB3
  go_wp2_with (first
    | refine wpList_value_want rfl _ (bbuild_run _ _ rfl) ?_
    | refine wpList_value_want rfl _ (bneq_run _ HMO.out HZO.out (k := true) HD.out _ _ _ rfl rfl rfl) ?_)
  go_ret
  exact ⟨rfl, HB4.out⟩
end Go.Proofs.YtabfdpdebahjkaaDoor

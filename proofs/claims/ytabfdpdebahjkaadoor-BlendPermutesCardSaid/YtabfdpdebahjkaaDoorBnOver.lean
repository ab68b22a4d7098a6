/- Over of package blend by its contract. Condition: the package's tables read as they were laid. -/
import Derived.Test.YtabfdpdebahjkaaDoorBnMix
namespace Go.Proofs.YtabfdpdebahjkaaDoor
set_option maxRecDepth 50000
open Go.RowKit Rot Bb Bn

set_option maxHeartbeats 3200000 in
theorem over_any {x y : List Nat} (hx : okb x) (hy : okb y) {l : List (List Nat)} (ho : ∀ b ∈ l, okb b) (A : Option Addr) (c : Nat) (w : World) (hr : Reads w w.heap.size A (bcs l)) (hl : l.length ≤ 900000) (ht : TAt w) :
    Calls Tryd.prog 15 #[.agg (wq x), .agg (wq y), .slice A l.length c] w fun e w' => e = .returned (.agg (wq (xB (mix x y :: l)))) ∧ Below w.heap.size w w' := by
  have HSX : Hid ((wq x).size = 128) := Lib.hid (by rw [wq_size]; exact hx.1)
  have HSY : Hid ((wq y).size = 128) := Lib.hid (by rw [wq_size]; exact hy.1)
  have H3 := Lib.hid (three_new w x y zb)
  have hz := zero_b
  have HMO := Lib.hid (mix_ok hx hy)
  have HLO := Lib.hid ho
  have HR := Lib.hid hr
  have HTT := Lib.hid ht
  have CM := Lib.hid fun w (ht : TAt w) => mix_any hx hy w ht
  clear hx hy ho hr ht
  go_enter Tryd.func15, Tryd.ntmps15
  go_wp2_with (first
    | refine wpList_value_want rfl _ (bload_run rfl rfl H3.out.1 HSX.out) ?_
    | refine wpList_value_want rfl _ (bload_run rfl rfl H3.out.2.1 HSY.out) ?_)
  generalize hW0 : World.alloc (World.alloc (World.alloc w _) _) _ = w0 at *
  clear hW0
  refine (CM.out _ (HTT.out.next H3.out.2.2.2)).mono ?_
  rintro e w2 ⟨rfl, hb2⟩
  have HB2 := Lib.hid (H3.out.2.2.2.trans (hb2.mono H3.out.2.2.2.size))
  have HZ2 := Lib.hid (H3.out.2.2.1.below hb2 H3.out.2.2.1.lt)
  clear hb2 H3 HSX HSY CM HTT
  obtain ⟨m, hm⟩ : ∃ m, m = mix x y := ⟨_, rfl⟩
  rw [← hm] at HMO ⊢
  have HMM := Lib.hid hm
  clear hm
  have HN := Lib.hid (RowAt.new w2 32 (wq m))
  have HNB := Lib.hid ((Below.refl _ w2).alloc (Nat.le_refl _) (.cells (wq m) 32))
  have hl' : l.length ≤ 1000000 := by omega
  have hrr := (HR.out.below HB2.out).below (HNB.out.mono HB2.out.size)
  obtain ⟨v3, w3, hrun, hrd, hb3⟩ := app_one (c := c) HMO.out HN.out HLO.out hrr hl' 33
  have HRUN := Lib.hid hrun
  have HRD := Lib.hid hrd
  have HB3 := Lib.hid (HB2.out.trans ((below_step HNB.out hb3).mono HB2.out.size))
  have HZ3 := Lib.hid (HZ2.out.below (below_step HNB.out hb3) HZ2.out.lt)
  clear hrun hrd hb3 HB2 HZ2 HN HNB hrr hl'
  go_wp2_with (first
    | refine wpList_made rfl _ _ (build_one_run HMO.out.1 rfl rfl) ?_
    | refine wpList_made rfl _ _ (op_append rfl rfl rfl HRUN.out) ?_)
  have HLL : Hid (∀ b ∈ m :: l, okb b) := Lib.hid fun b hb => by
    rcases List.mem_cons.1 hb with rfl | hb
    · exact HMO.out
    · exact HLO.out b hb
  refine (xor_rd HLL.out (by simp; omega) HRD.out).mono ?_
  rintro e w4 ⟨_, rfl, rfl, hb4⟩
  have HZ5 := Lib.hid (HZ3.out.below hb4 HZ3.out.lt)
  have HB5 := Lib.hid (HB3.out.trans (hb4.mono HB3.out.size))
  clear hb4 HZ3 HB3 HRUN HRD
  obtain ⟨z, hzz⟩ : ∃ z, z = xB (m :: l) := ⟨_, rfl⟩
  have HSZ : Hid ((wq z).size = 128) := Lib.hid (by rw [wq_size, hzz]; exact (xB_ok _ HLL.out).1)
  rw [← hzz]
  have HZZ := Lib.hid hzz
  clear hzz
  go_wp2_with (refine wpList_store_row rfl 32 (.tmp 6) (.tmp 13) rfl (w.heap.size + 1 + 1) (wq z) rfl rfl 32 _ HZ5.out (by rw [HSZ.out]; exact b_size) (by rw [HSZ.out]; rfl) (wq_one _) ?_)
  have hR := RowAt.setRow HZ5.out (wq z)
  refine bodyPost_ret (v := .agg (wq z)) (results_cell_row rfl _ _ (w.heap.size + 1 + 1) 32 (wq z) (0, 0) _ rfl hR Tryd.underlying32 rfl (by rw [HSZ.out]; exact b_size)) rfl ⟨by rw [HZZ.out, HMM.out], ?_⟩
  exact below_setRow HB5.out (by omega) _
end Go.Proofs.YtabfdpdebahjkaaDoor

/- The law GridStores by the calls' contracts. No condition. -/
import Derived.Test.YtpampgkhjcfeaaaDoorGdNil
import Derived.Deep.LoopGhost
import Derived.Deep.CutBlock
import Derived.Deep.CutRange
import Derived.WalkMore
import Derived.Deep.RegionWith
namespace Go.Proofs.YtpampgkhjcfeaaaDoor
set_option maxRecDepth 50000
open Go.RowKit Bb

theorem so0_build (w : World) : (Instr.build 34 #[]).run Tryd.prog w = .ok (sov 0 0) w := run_build w _ _ _ (by kernel_rfl)
theorem so0_run {w : World} {ev : Operand → Value} {o : Oper} (hop : o.op = .build 34 #[]) : (execOp ev o).run Tryd.prog w = .ok (.value (sov 0 0)) w := by
  simp only [execOp, hop, List.map_toArray, List.map_nil, Sem.run_bind, so0_build, Result.andThen_ok, Sem.run_pure]
/-- an act's variable, and a block's behind it -/
theorem act_new (w : World) (x y : Int) {u : Nat} (hu : u < 18446744073709551616) :
    (storeVar 29 ⟨w.heap.size + 1, 0, none⟩ (.agg (wq (ob u)))).run Tryd.prog ((w.alloc (.cells #[.int .i64 x, .int .i64 y, .int .u64 (u : Int)] 51)).alloc (.cells (wq zb) 29)) = .ok () (((w.alloc (.cells #[.int .i64 x, .int .i64 y, .int .u64 (u : Int)] 51)).alloc (.cells (wq zb) 29)).setRow (w.heap.size + 1) (wq (ob u))) ∧
    RowAt (((w.alloc (.cells #[.int .i64 x, .int .i64 y, .int .u64 (u : Int)] 51)).alloc (.cells (wq zb) 29)).setRow (w.heap.size + 1) (wq (ob u))) w.heap.size 51 #[.int .i64 x, .int .i64 y, .int .u64 (u : Int)] ∧
    RowAt (((w.alloc (.cells #[.int .i64 x, .int .i64 y, .int .u64 (u : Int)] 51)).alloc (.cells (wq zb) 29)).setRow (w.heap.size + 1) (wq (ob u))) (w.heap.size + 1) 29 (wq (ob u)) ∧
    Below w.heap.size w (((w.alloc (.cells #[.int .i64 x, .int .i64 y, .int .u64 (u : Int)] 51)).alloc (.cells (wq zb) 29)).setRow (w.heap.size + 1) (wq (ob u))) := by
  have h := set_new (w.alloc (.cells #[.int .i64 x, .int .i64 y, .int .u64 (u : Int)] 51)) (ob_ok hu).1
  have r1 := RowAt.new w 51 #[.int .i64 x, .int .i64 y, .int .u64 (u : Int)]
  have r2 := RowAt.new (w.alloc (.cells #[.int .i64 x, .int .i64 y, .int .u64 (u : Int)] 51)) 29 (wq zb)
  rw [World.size_alloc] at h r2
  exact ⟨h, RowAt.setRowOther (RowAt.alloc r1 _) _ (by omega) _, RowAt.setRow r2 _, below_setRow (two_box _ _ _) (by omega) _⟩

set_option maxHeartbeats 12800000 in
theorem stores31_any (pa pt pm pl pz : Int) {A : Option Addr} (cp : Nat) (ls : List Ac) (W : World) (hR : Reads W W.heap.size A (acs ls)) (hU : ∀ x ∈ ls, x.w < 18446744073709551616) :
    Calls Tryd.prog 3 #[pav pa pt pm pl pz, .slice A ls.length cp] W fun e w' => e = .returned (.bool true) ∧ Below W.heap.size W w' := by
  have CA := Lib.hid awake31_any
  have CM := made_ways pa pt pm pl pz
  have HRd := Lib.hid hR
  have HU := Lib.hid hU
  have HP := Lib.hid (RowAt.new W 23 (pac pa pt pm pl pz))
  have HB := Lib.hid (one_box W (.cells (pac pa pt pm pl pz) 23))
  have hz := zero_b
  clear hR hU
  go_enter Tryd.func3, Tryd.ntmps3
  go_wp2_with fail
  refine (CA.out _).mono ?_
  rintro e w1 ⟨rfl, hb⟩
  have HP1 := Lib.hid (RowAt.step HP.out hb)
  have HB1 := Lib.hid (below_step HB.out hb)
  clear CA HP HB hb
  go_wp2_with (refine wpList_value_want rfl _ (so0_run rfl) ?_)
  refine (gload_nil 0 0 w1).mono ?_
  rintro e w2 ⟨rfl, hb⟩
  have HP2 := Lib.hid (RowAt.step HP1.out (below_step hb (set_below w2 zb)))
  have HB2 := Lib.hid (below_step HB1.out (below_step hb (set_below w2 zb)))
  clear HP1 HB1 hb
  go_wp2_with (refine wpList_store_of rfl _ _ _ rfl ⟨w2.heap.size, 0, none⟩ _ rfl rfl (set_new w2 zb_ok.1) ?_)
  generalize World.setRow _ _ _ = w3 at *
  refine (last_nil w3).mono ?_
  rintro e w4 ⟨rfl, hb⟩
  have HP4 := Lib.hid (RowAt.step HP2.out (below_step hb (set_below w4 zb)))
  have HB4 := Lib.hid (below_step HB2.out (below_step hb (set_below w4 zb)))
  clear HP2 HB2 hb
  go_wp2_with (refine wpList_store_of rfl _ _ _ rfl ⟨w4.heap.size, 0, none⟩ _ rfl rfl (set_new w4 zb_ok.1) ?_)
  generalize World.setRow _ _ _ = w5 at *
  refine (tag_nil w5).mono ?_
  rintro e w6 ⟨rfl, hb⟩
  have HP6 := Lib.hid (RowAt.step HP4.out hb)
  have HB6 := Lib.hid (below_step HB4.out hb)
  clear HP4 HB4 hb
  go_wp2_with (first
    | refine wpList_value_want rfl _ (so0_run rfl) ?_
    | refine wpList_value_want rfl _ (bbuild_run _ _ rfl) ?_)
  refine (gstore_nil 0 0 zb w6).mono ?_
  rintro e w7 ⟨rfl, hb⟩
  have HP7 := Lib.hid (RowAt.step HP6.out hb)
  have HB7 := Lib.hid (below_step HB6.out hb)
  clear HP6 HB6 hb
  go_wp2_with fail
  refine (begin_nil _ w7).mono ?_
  rintro e w8 ⟨rfl, hb⟩
  have HP8 := Lib.hid (RowAt.step HP7.out hb)
  have HB8 := Lib.hid (below_step HB7.out hb)
  clear HP7 HB7 hb
  go_wp2_with (refine wpList_load_want rfl 23 _ rfl _ _ rfl (pa_load HP8.out) ?_)
  rcases CM with CM | ⟨a, t, l, m, b, c, g, z, HFw, CM⟩
  · refine (CM _).mono ?_
    rintro e w9 ⟨rfl, hb⟩
    have HB9 := Lib.hid (below_step HB8.out hb)
    clear HP8 HB8 hb CM
    go_wp2
    go_ret
    exact ⟨rfl, HB9.out⟩
  refine (CM _).mono ?_
  rintro e w9 ⟨q, p, h, G, rfl, hG, hGe, hb⟩
  have HB9 := Lib.hid (below_step HB8.out hb)
  have hGW : W.heap.size ≤ G := by have := HB8.out.size; omega
  have HG := Lib.hid hG
  clear HP8 HB8 hb CM hGe hG
  by_cases hlong : 50 < ls.length
  · have d1 : decide ((50 : Int) < (ls.length : Int)) = true := by simp; omega
    have d2 : decide (50 < ls.length) = true := by simp; omega
    go_wp2
    go_ret
    exact ⟨rfl, HB9.out⟩
  have d1 : decide ((50 : Int) < (ls.length : Int)) = false := by simp; omega
  have d2 : decide (50 < ls.length) = false := by simp; omega
  have hls : ls.length ≤ 50 := by omega
  clear hlong
  have k0 := HG.out.row.shape
  obtain ⟨hl0, hl4, hc8, hc80, hb80, hbl, hz4, hz10⟩ := HFw
  have CE := Lib.hid (rempty_any a t l m b c g z (by omega) (by omega) w9)
  have HBL := Lib.hid hbl
  clear hbl
  go_wp2_with (refine wpList_load_want rfl 47 _ rfl _ _ rfl k0 ?_)
  refine CE.out.mono ?_
  rintro e w10 ⟨v, gs, rfl, hD, rfl, hb⟩
  obtain ⟨N, hN⟩ : ∃ N, N = w9.heap.size := ⟨_, rfl⟩
  rw [← hN] at hD hb
  have hGN : G < N := by rw [hN]; exact HG.out.live.blk.lt
  have hWN : W.heap.size ≤ N := by rw [hN]; exact HB9.out.size
  have hqN : q < N := by rw [hN]; exact RowAt.lt HG.out.row
  have hpN : p < N := by rw [hN]; exact RowAt.lt HG.out.live.row
  obtain ⟨o, kk, rfl⟩ := hD.head hl0
  have HG10 := Lib.hid (HG.out.step (by rw [← hN]; exact hb))
  have HB10 := Lib.hid (HB9.out.trans (hb.mono hWN))
  have hs10 : N ≤ w10.heap.size := by have := hb.size; omega
  rw [← HBL.out] at hD
  have HD10 := Lib.hid hD
  have HN := Lib.hid hN
  clear hN hD hb CE k0 HG HB9
  go_wp2
  go_loopw [74] (fun v74 wr => ∃ j L, j ≤ ls.length ∧ v74 = .int .i64 (j : Int) ∧ Hid (GrAt wr q p h G a t gs.length m b c g z L) ∧ Hid (DocAt wr N (.slice (some ⟨o, 0, none⟩) gs.length kk) c gs L) ∧ Hid (L.length = b) ∧ Hid (Below W.heap.size W wr) ∧ N ≤ wr.heap.size) (fun v74 _ => ls.length - (intOf v74).toNat)
  case atStart => exact ⟨0, _, Nat.zero_le _, rfl, HG10, HD10, Lib.hid (by simp), HB10, hs10⟩
  case round =>
    obtain ⟨j, L, hj, rfl, HG, HD, HL, HB, hsN⟩ := hrel
    by_cases hjl : j < ls.length
    · have d3 : decide ((j : Int) < (ls.length : Int)) = true := by simp; omega
      have d4 : decide (j < ls.length) = true := by simp; omega
      have hj0 : (0 : Int) ≤ (j : Int) := by omega
      have hj1 : (j : Int) < (ls.length : Int) := by omega
      obtain ⟨rb, ro, rfl, _, y0, y1, y2⟩ := act_reads (HRd.out.below HB.out) j hjl
      have hu := HU.out _ (List.getElem_mem hjl)
      generalize ls[j] = zz at *
      obtain ⟨x, y, u⟩ := zz
      simp only at y0 y1 y2 hu
      obtain ⟨hst, hx, hy, hb⟩ := act_new wr x y hu
      have HST := Lib.hid hst
      obtain ⟨w11, e11⟩ : ∃ w11, w11 = ((wr.alloc (.cells #[.int .i64 x, .int .i64 y, .int .u64 (u : Int)] 51)).alloc (.cells (wq zb) 29)).setRow (wr.heap.size + 1) (wq (ob u)) := ⟨_, rfl⟩
      rw [← e11] at hx hy hb
      have HX := Lib.hid hx
      have HY := Lib.hid hy
      have HG11 := Lib.hid (HG.out.step hb)
      have HD11 := Lib.hid (HD.out.step hb)
      have HB11 := Lib.hid (below_step HB.out hb)
      have HO := Lib.hid (ob_ok hu)
      have hs11 := hb.size
      have E11 := Lib.hid e11
      clear hst hx hy hb e11 HG HD HB hu
      go_upto_region 17 with (first
        | refine wpList_value_want rfl _ (ob_run rfl rfl) ?_
        | refine wpList_store_of rfl _ _ _ rfl ⟨wr.heap.size + 1, 0, none⟩ _ rfl rfl HST.out ?_)
      rw [← E11.out]
      clear E11 HST
      generalize hX : wr.heap.size = X at *
      clear hX
      have k0 : w11.cell? ⟨X, 0, none⟩ = some (.int .i64 x) := (HX.out.cell 0).trans rfl
      have k1 : w11.cell? ⟨X, 1, none⟩ = some (.int .i64 y) := (HX.out.cell 1).trans rfl
      have kY := RowAt.load HY.out Tryd.underlying29 (by rw [wq_size, HO.out.1]; exact b_size)
      clear y0 y1 y2
      go_wp2_with (first
        | refine wpList_value_want rfl _ (so_run rfl rfl rfl) ?_
        | refine wpList_load_want rfl 29 _ rfl _ _ rfl kY ?_)
      cases hin : inG gs.length c x y with
      | false =>
        refine (gstore_bad HG11.out.row (by omega) (by omega) x y (ob u) hin).mono ?_
        rintro e w12 ⟨rfl, hb⟩
        have hG := HG11.out.step hb
        have hD := HD11.out.step hb
        have hB := below_step HB11.out hb
        have hX := RowAt.step HX.out hb
        have n1 : w12.cell? ⟨q, 3, none⟩ = some (.int .i64 (gs.length : Int)) := hG.row.lanes
        have n2 : w12.cell? ⟨q, 6, none⟩ = some (.int .i64 (c : Int)) := hG.row.columns
        have n3 : w12.cell? ⟨X, 0, none⟩ = some (.int .i64 x) := (hX.cell 0).trans rfl
        have n4 : w12.cell? ⟨X, 1, none⟩ = some (.int .i64 y) := (hX.cell 1).trans rfl
        have HG12 := Lib.hid hG
        have HD12 := Lib.hid hD
        have HB12 := Lib.hid hB
        have hs12 := hb.size
        have ways : (x < 0) ∨ (0 ≤ x ∧ (gs.length : Int) ≤ x) ∨ (0 ≤ x ∧ x < (gs.length : Int) ∧ y < 0) ∨ (0 ≤ x ∧ x < (gs.length : Int) ∧ 0 ≤ y ∧ (c : Int) ≤ y) := by
          unfold inG inB at hin
          simp only [Bool.and_eq_false_iff, decide_eq_false_iff_not] at hin
          omega
        clear hG hD hB hX k0 k1 kY HG11 HD11 HB11 HX HY hb hin HO
        rcases ways with e1 | ⟨e1, e2⟩ | ⟨e1, e2, e3⟩ | ⟨e1, e2, e3, e4⟩
        · have q1 : decide (x < 0) = true := by simp; omega
          go_wp2
          go_quiet (fail)
          go_wp2
          go_roundw
          case rel => exact ⟨j + 1, L, by omega, by go_num, Lib.hid ⟨HG12.out.row, HG12.out.live.drewN _⟩, Lib.hid (HD12.out.step (below_drewN (Below.refl _ _) _)), HL, Lib.hid (below_drewN HB12.out _), by show N ≤ w12.heap.size; omega⟩
          case measure => simp [intOf]; omega
        · have q1 : decide (x < 0) = false := by simp; omega
          have q2 : decide ((gs.length : Int) ≤ x) = true := by simp; omega
          go_wp2
          go_quiet (fail)
          go_wp2
          go_roundw
          case rel => exact ⟨j + 1, L, by omega, by go_num, Lib.hid ⟨HG12.out.row, HG12.out.live.drewN _⟩, Lib.hid (HD12.out.step (below_drewN (Below.refl _ _) _)), HL, Lib.hid (below_drewN HB12.out _), by show N ≤ w12.heap.size; omega⟩
          case measure => simp [intOf]; omega
        · have q1 : decide (x < 0) = false := by simp; omega
          have q2 : decide ((gs.length : Int) ≤ x) = false := by simp; omega
          have q3 : decide (y < 0) = true := by simp; omega
          go_wp2
          go_quiet (fail)
          go_wp2
          go_roundw
          case rel => exact ⟨j + 1, L, by omega, by go_num, Lib.hid ⟨HG12.out.row, HG12.out.live.drewN _⟩, Lib.hid (HD12.out.step (below_drewN (Below.refl _ _) _)), HL, Lib.hid (below_drewN HB12.out _), by show N ≤ w12.heap.size; omega⟩
          case measure => simp [intOf]; omega
        · have q1 : decide (x < 0) = false := by simp; omega
          have q2 : decide ((gs.length : Int) ≤ x) = false := by simp; omega
          have q3 : decide (y < 0) = false := by simp; omega
          have q4 : decide ((c : Int) ≤ y) = true := by simp; omega
          go_wp2
          go_quiet (fail)
          go_wp2
          go_roundw
          case rel => exact ⟨j + 1, L, by omega, by go_num, Lib.hid ⟨HG12.out.row, HG12.out.live.drewN _⟩, Lib.hid (HD12.out.step (below_drewN (Below.refl _ _) _)), HL, Lib.hid (below_drewN HB12.out _), by show N ≤ w12.heap.size; omega⟩
          case measure => simp [intOf]; omega
      | true =>
        obtain ⟨i, k, hi, hk, rfl, rfl⟩ := inG_yes hin
        have hic : (i + 1) * c ≤ gs.length * c := Nat.mul_le_mul_right c hi
        rw [Nat.add_mul, Nat.one_mul, ← HBL.out] at hic
        obtain ⟨n, hn⟩ : ∃ n, n = i * c + k := ⟨_, rfl⟩
        have hnL : n < L.length := by rw [HL.out]; omega
        refine (gstore_any HG11.out (by omega) (by omega) i k n hi hk hn.symm hnL (by rw [HL.out]; omega) HO.out).mono ?_
        rintro e w12 ⟨rfl, hG, hk12⟩
        have hGX : G < X := by omega
        have hD := HD11.out.kept hk12 fun j hj => by omega
        have hB := HB11.out.trans (hk12.below (B := W.heap.size) HB11.out.size fun x hx => by omega)
        have hX := RowAt.kept HX.out hk12 (by omega)
        have hY := RowAt.kept HY.out hk12 (by omega)
        have n1 : w12.cell? ⟨q, 3, none⟩ = some (.int .i64 (gs.length : Int)) := hG.row.lanes
        have n2 : w12.cell? ⟨q, 6, none⟩ = some (.int .i64 (c : Int)) := hG.row.columns
        have n3 : w12.cell? ⟨X, 0, none⟩ = some (.int .i64 (i : Int)) := (hX.cell 0).trans rfl
        have n4 : w12.cell? ⟨X, 1, none⟩ = some (.int .i64 (k : Int)) := (hX.cell 1).trans rfl
        have HG12 := Lib.hid hG
        have HD12 := Lib.hid hD
        have HB12 := Lib.hid hB
        have HY12 := Lib.hid hY
        have HX12 := Lib.hid hX
        have hs12 := hk12.size
        have HI := Lib.hid hi
        have HKc := Lib.hid hk
        have HNN := Lib.hid hn
        have q1 : decide ((i : Int) < 0) = false := by simp
        have q2 : decide ((gs.length : Int) ≤ (i : Int)) = false := by simp; omega
        have q2' : decide (gs.length ≤ i) = false := by simp; omega
        have q3 : decide ((k : Int) < 0) = false := by simp
        have q4 : decide ((c : Int) ≤ (k : Int)) = false := by simp; omega
        have q4' : decide (c ≤ k) = false := by simp; omega
        have hi0 : (0 : Int) ≤ (i : Int) := by omega
        have hi1 : (i : Int) < (gs.length : Int) := by omega
        have hk0 : (0 : Int) ≤ (k : Int) := by omega
        have hk1 : (k : Int) < (c : Int) := by omega
        clear hG hD hB hX hY k0 k1 kY HG11 HD11 HB11 HX HY hk12 hin hic hn hnL
        go_wp2
        go_quiet (fail)
        go_upto_region 21 with fail
        have hb13 : Below w12.heap.size w12 (w12.drewN nq) := below_drewN (Below.refl _ _) _
        have HG13 := Lib.hid (HG12.out.step hb13)
        have HB13 := Lib.hid (below_step HB12.out hb13)
        have hD13 := (HD12.out.step hb13).drew
        have hX13 := RowAt.step HX12.out hb13
        have hY13 := RowAt.step HY12.out hb13
        have hsN13 : N ≤ (w12.drewN nq).heap.size := by have := hb13.size; omega
        generalize w12.drewN nq = w13 at *
        have n5 : w13.cell? ⟨X, 0, none⟩ = some (.int .i64 (i : Int)) := (hX13.cell 0).trans rfl
        have n6 : w13.cell? ⟨X, 1, none⟩ = some (.int .i64 (k : Int)) := (hX13.cell 1).trans rfl
        have kr : w13.cell? ⟨o, i, none⟩ = some (.slice (some ⟨gs.getD i 0, 0, none⟩) c c) := hD13.row HI.out
        obtain ⟨w14, hst, hd14, hk14⟩ := hD13.store HI.out HKc.out HO.out
        have hge : N ≤ gs.getD i 0 := hD13.ge _ (getD_mem HI.out)
        rw [← HNN.out] at hd14
        have HLY := Lib.hid (show (loadVar 29 ⟨X + 1, 0, none⟩).run Tryd.prog w13.drew = .ok (.agg (wq (ob u))) w13.drew from RowAt.load (RowAt.drew hY13) Tryd.underlying29 (by rw [wq_size, HO.out.1]; exact b_size))
        generalize gs.getD i 0 = gi at *
        have HST := Lib.hid hst
        have HD14 := Lib.hid hd14
        have HG14 := Lib.hid (show GrAt w14 q p h G a t gs.length m b c g z (L.set n (ob u)) from ⟨RowAt.kept (RowAt.drew HG13.out.row) hk14 (by have := RowAt.lt HG13.out.row; intro e; have h2 := hqN; omega), HG13.out.live.drew.kept hk14 (by intro e; have h2 := hpN; omega) (by intro e; omega)⟩)
        have HB14 := Lib.hid ((below_drewN HB13.out 1).trans (hk14.below (B := W.heap.size) (by have := HB13.out.size; have : w13.drew.heap.size = w13.heap.size := rfl; omega) fun x hx => by omega))
        have hsN14 : N ≤ w14.heap.size := by have := hk14.size; have : w13.drew.heap.size = w13.heap.size := rfl; omega
        clear hst hd14 hk14 hD13 hX13 hY13 hb13 HG12 HD12 HB12 HX12 HY12 HG13 HB13 n1 n2 n3 n4 HI HKc HNN hge
        refine wp_region_still_tail 9 (by kernel_rfl) (by kernel_rfl) ?_
        simp only [List.take_succ_cons, List.take_zero, List.drop_succ_cons, List.drop_zero]
        repeat still_step
        refine wpStill_load_b rfl 29 (.tmp 16) rfl ⟨X + 1, 0, none⟩ _ rfl HLY.out ?_
        simp only [Act.put, List.setIfInBounds_toArray, List.set_cons_succ, List.set_cons_zero]
        repeat still_step
        refine wpStill_nil ?_
        change wpList _ _ _ _ _ w13.drew
        go_wp2_with (refine wpList_store_of rfl 29 (.tmp 127) (.tmp 126) rfl ⟨gi, k * 128, none⟩ (.agg (wq (ob u))) (by first | rfl | simp [Act.eval]) rfl HST.out ?_)
        go_roundw
        case rel => exact ⟨j + 1, L.set n (ob u), by omega, by go_num, HG14, HD14, Lib.hid (by rw [List.length_set]; exact HL.out), HB14, hsN14⟩
        case measure => simp [intOf]; omega
    · obtain rfl : j = ls.length := by omega
      have d3 : decide ((ls.length : Int) < (ls.length : Int)) = false := by simp
      have C1 := Lib.hid (all_any HG.out hl0 (by omega) (by omega) (by rw [HL.out]; exact HBL.out) (by rw [HL.out]; omega))
      have HD2 := Lib.hid HD
      go_wp2_with fail
      refine C1.out.mono ?_
      rintro e w11 ⟨v2, gs2, rfl, hD2, hg2, hb⟩
      have HB2 := Lib.hid (below_step HB.out hb)
      have C2 := Lib.hid (same_any hD2 (HD.out.step hb) hg2 rfl hl0 (by omega) (by omega))
      clear hD2 hb C1
      go_wp2_with fail
      refine C2.out.mono ?_
      rintro e w12 ⟨rfl, hb⟩
      have HB3 := Lib.hid (below_step HB2.out hb)
      go_wp2
      go_ret
      exact ⟨rfl, HB3.out⟩
end Go.Proofs.YtpampgkhjcfeaaaDoor

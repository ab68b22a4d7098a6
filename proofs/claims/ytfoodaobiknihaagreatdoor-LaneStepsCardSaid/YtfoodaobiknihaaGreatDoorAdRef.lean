/- The document's Block and Word of chapter 30 by their contracts. No condition but those typed. -/
import Derived.Test.YtfoodaobiknihaaGreatDoorAd
namespace Go.Proofs.YtfoodaobiknihaaGreatDoor
set_option maxRecDepth 50000
open Go.RowKit Bb Bn
structure Rk (w wr : World) (a t l m b c g z : Nat) (v : List Nat) : Prop where
  sh : RowAt wr w.heap.size 48 (spc a t l m b c g z)
  rz : RowAt wr (w.heap.size + 1) 83 (wq zb)
  rn : RowAt wr (w.heap.size + 1 + 1) 83 (wq zb)
  rv : RowAt wr (w.heap.size + 1 + 1 + 1) 83 (wq v)
  below : Below w.heap.size w wr
section
variable {w wr w' : World} {a t l m b c g z : Nat} {v : List Nat}
theorem Rk.new (w : World) (a t l m b c g z : Nat) : Rk w ((((w.alloc (.cells (spc a t l m b c g z) 48)).alloc (.cells (wq zb) 83)).alloc (.cells (wq zb) 83)).alloc (.cells (wq zb) 83)) a t l m b c g z zb := by
  have r0 := RowAt.new w 48 (spc a t l m b c g z)
  have B := one_box w (.cells (spc a t l m b c g z) 48)
  have hs : (w.alloc (.cells (spc a t l m b c g z) 48)).heap.size = w.heap.size + 1 := by simp
  generalize w.alloc (.cells (spc a t l m b c g z) 48) = w1 at *
  have H3 := three_new w1 zb zb zb
  rw [hs] at H3
  exact ⟨((r0.alloc _).alloc _).alloc _, H3.1, H3.2.1, H3.2.2.1, B.trans (H3.2.2.2.mono (by omega))⟩
theorem Rk.set (H : Rk w wr a t l m b c g z v) (i x : Nat) : Rk w (wr.setCell ⟨w.heap.size + 1 + 1 + 1, i, none⟩ (.int .u64 (x : Int))) a t l m b c g z (v.set i x) := by
  have r := H.rv.setCell i (.int .u64 (x : Int))
  rw [wq_set] at r
  exact ⟨H.sh.setOther _ (by simp; omega) _, H.rz.setOther _ (by simp; omega) _, H.rn.setOther _ (by simp) _, r, H.below.setCell (by show w.heap.size ≤ w.heap.size + 1 + 1 + 1; omega) _⟩
end
theorem rsp_aggN (w : World) : (isAgg 48).run Tryz.prog w = .ok true w := by
  unfold isAgg
  rw [Sem.run_bind, run_underlying Tryz.underlying48 w]
  rfl
theorem rsp_sizeN : (Tryz.prog.info? 48).map (·.size) = some 8 := by kernel_rfl
theorem rsp_loadN {w : World} {k : Nat} {a t l m b c g z : Nat} (h : RowAt w k 48 (spc a t l m b c g z)) : (loadVar 48 ⟨k, 0, none⟩).run Tryz.prog w = .ok (spv a t l m b c g z) w :=
  sub_load h rsp_aggN rsp_sizeN 0 (spc a t l m b c g z).toList rfl (fun j v hv => by simpa using hv)
theorem seed_is (p k s b t a c : Int) : (((((((zb.set 0 (w64 p)).set 1 (w64 k)).set 2 (w64 s)).set 3 (w64 b)).set 4 (w64 t)).set 5 (w64 a)).set 6 (w64 c)) = seedL p k s b t a c := by
  have h : ∀ p k s b t a c : Nat, (((((((zb.set 0 p).set 1 k).set 2 s).set 3 b).set 4 t).set 5 a).set 6 c) = [p, k, s, b, t, a, c] ++ List.replicate 121 0 := fun p k s b t a c => by kernel_rfl
  exact h ..
set_option maxHeartbeats 3200000 in
theorem rblock_any (a t l m b c g z : Nat) (ha : a ≤ 4294967295) (p s k n : Int) (w : World) : Calls Tryz.prog 80 #[spv a t l m b c g z, .int .i64 p, .int .i64 s, .int .i64 k, .int .i64 n] w fun e w' => e = .returned (.agg (wq (addL p k s b t ((a : Int) - 1) n))) ∧ Below w.heap.size w w' := by
  have HQ : Hid (addL p k s b t ((a : Int) - 1) n = mix zb (mix zb (seedL p k s b t ((a : Int) - 1) n))) := Lib.hid rfl
  have HO := Lib.hid (seed_ok p k s b t ((a : Int) - 1) n)
  have HR0 := Lib.hid (Rk.new w a t l m b c g z)
  have hz := zero_b
  have hwa : IntKind.i64.wrap ((a : Int) - 1) = (a : Int) - 1 := by rw [IntKind.wrap_i64]; omega
  have e0 := w64_wrap (p)
  have e1 := w64_wrap (k)
  have e2 := w64_wrap (s)
  have e3 := w64_wrap ((b : Int))
  have e4 := w64_wrap ((t : Int))
  have e5 := w64_wrap ((a : Int) - 1)
  have e6 := w64_wrap (n)
  have HSI := Lib.hid (seed_is p k s b t ((a : Int) - 1) n)
  have HRS : Hid (∀ (wr : World) (v : List Nat) (i x : Nat), Rk w wr a t l m b c g z v → Rk w (wr.setCell ⟨w.heap.size + 1 + 1 + 1, i, none⟩ (.int .u64 (x : Int))) a t l m b c g z (v.set i x)) := Lib.hid fun _ _ i x h => h.set i x
  generalize w64 (p) = y0 at *
  generalize w64 (k) = y1 at *
  generalize w64 (s) = y2 at *
  generalize w64 ((b : Int)) = y3 at *
  generalize w64 ((t : Int)) = y4 at *
  generalize w64 ((a : Int) - 1) = y5 at *
  generalize w64 (n) = y6 at *
  have HR7 : Hid (∀ wr, Rk w wr a t l m b c g z zb → Rk w (((((((wr.setCell ⟨w.heap.size + 1 + 1 + 1, 0, none⟩ (.int .u64 (y0 : Int))).setCell ⟨w.heap.size + 1 + 1 + 1, 1, none⟩ (.int .u64 (y1 : Int))).setCell ⟨w.heap.size + 1 + 1 + 1, 2, none⟩ (.int .u64 (y2 : Int))).setCell ⟨w.heap.size + 1 + 1 + 1, 3, none⟩ (.int .u64 (y3 : Int))).setCell ⟨w.heap.size + 1 + 1 + 1, 4, none⟩ (.int .u64 (y4 : Int))).setCell ⟨w.heap.size + 1 + 1 + 1, 5, none⟩ (.int .u64 (y5 : Int))).setCell ⟨w.heap.size + 1 + 1 + 1, 6, none⟩ (.int .u64 (y6 : Int))) a t l m b c g z (seedL p k s b t ((a : Int) - 1) n)) := Lib.hid fun wr h => by
    have h7 := HRS.out _ _ 6 y6 (HRS.out _ _ 5 y5 (HRS.out _ _ 4 y4 (HRS.out _ _ 3 y3 (HRS.out _ _ 2 y2 (HRS.out _ _ 1 y1 (HRS.out _ _ 0 y0 h))))))
    rw [HSI.out] at h7
    exact h7
  clear HRS HSI ha
  generalize seedL p k s b t ((a : Int) - 1) n = q at *
  go_enter Tryz.func80, Tryz.ntmps80
  obtain ⟨w0, hW0⟩ : ∃ w0, (((w.alloc (.cells (spc a t l m b c g z) 48)).alloc (.cells (wq zb) 83)).alloc (.cells (wq zb) 83)).alloc (.cells (wq zb) 83) = w0 := ⟨_, rfl⟩
  have HR : Hid (Rk w w0 a t l m b c g z zb) := Lib.hid (by subst hW0; exact HR0.out)
  have ck : ∀ i, i < 7 → w0.cell? ⟨w.heap.size + 1 + 1 + 1, i, none⟩ = some (.int .u64 0) := fun i hi => by
    refine (HR.out.rv.cell i).trans ?_
    rw [wq_at _ i (by simp [zb]; omega)]
    rcases (show i = 0 ∨ i = 1 ∨ i = 2 ∨ i = 3 ∨ i = 4 ∨ i = 5 ∨ i = 6 by omega) with rfl | rfl | rfl | rfl | rfl | rfl | rfl
    all_goals rfl
  have c0 := ck 0 (by decide)
  have c1 := ck 1 (by decide)
  have c2 := ck 2 (by decide)
  have c3 := ck 3 (by decide)
  have c4 := ck 4 (by decide)
  have c5 := ck 5 (by decide)
  have c6 := ck 6 (by decide)
  have fz := fun i => HR.out.rv.frozen i
  have f0 := fz 0
  have f1 := fz 1
  have f2 := fz 2
  have f3 := fz 3
  have f4 := fz 4
  have f5 := fz 5
  have f6 := fz 6
  have k0 : w0.cell? ⟨w.heap.size, 0, none⟩ = some (.int .i64 (a : Int)) := HR.out.sh.cell 0
  have k1 : w0.cell? ⟨w.heap.size, 1, none⟩ = some (.int .i64 (t : Int)) := HR.out.sh.cell 1
  have k4 : w0.cell? ⟨w.heap.size, 4, none⟩ = some (.int .i64 (b : Int)) := HR.out.sh.cell 4
  have HR7 := Lib.hid (HR7.out w0 HR.out)
  clear ck fz HR HR0
  go_wp2
  clear hW0 c0 c1 c2 c3 c4 c5 c6 f0 f1 f2 f3 f4 f5 f6 k0 k1 k4 e0 e1 e2 e3 e4 e5 e6 hwa
  generalize World.setCell _ _ _ = w1 at *
  have HSQ : Hid ((wq q).size = 128) := Lib.hid (by rw [wq_size]; exact HO.out.1)
  have HSZ : Hid ((wq zb).size = 128) := Lib.hid (by rw [wq_size]; simp [zb])
  have HO2 := Lib.hid (mix_ok zb_ok HO.out)
  have CM1 : Hid (∀ w, Calls Tryz.prog 60 #[.agg (wq zb), .agg (wq q)] w fun e w2 => ∃ v, e = .returned v ∧ Is (.agg (wq (mix zb q))) v w2 ∧ Below w.heap.size w w2) := Lib.hid fun w => calls_isL (rmix_any zb_ok HO.out w)
  generalize mix zb q = r at *
  have CM2 : Hid (∀ w, Calls Tryz.prog 60 #[.agg (wq zb), .agg (wq r)] w fun e w2 => ∃ v, e = .returned v ∧ Is (.agg (wq (mix zb r))) v w2 ∧ Below w.heap.size w w2) := Lib.hid fun w => calls_isL (rmix_any zb_ok HO2.out w)
  have HLL : Hid ((wq (mix zb r)).size = 128) := Lib.hid (by rw [wq_size]; exact (mix_ok zb_ok HO2.out).1)
  generalize mix zb r = y at *
  clear HO HO2
  refine wp_region_last 5 _ [Is (.agg (wq zb)), Is (.agg (wq zb)), Is (.agg (wq q)), Is (.agg (wq r)), Is (.agg (wq y))] rfl rfl (by kernel_rfl) rfl (by kernel_rfl) rfl ⟨stable_is _, stable_is _, stable_is _, stable_is _, stable_is _, trivial⟩ ?_ ?_
  · simp only [List.take_succ_cons, List.take_zero]
    refine ⟨?_, ?_, ?_, ?_, ?_, trivial⟩
    · intro a w' C
      exact ⟨rfl, op_value (bload_run rfl (C.was 11 (by kernel_rfl)) (HR7.out.rn.below C.below HR7.out.rn.lt) HSZ.out) rfl⟩
    · intro a w' C
      exact ⟨rfl, op_value (bload_run rfl (C.was 11 (by kernel_rfl)) (HR7.out.rn.below C.below HR7.out.rn.lt) HSZ.out) rfl⟩
    · intro a w' C
      exact ⟨rfl, op_value (bload_run rfl (C.was 12 (by kernel_rfl)) (HR7.out.rv.below C.below HR7.out.rv.lt) HSQ.out) rfl⟩
    · intro a w' C
      exact ⟨rfl, op_call2 rfl (reg_enters Tryz.func60 (by kernel_rfl) (by kernel_rfl)) (C.on (j := 1) (by kernel_rfl) rfl rfl) (C.on (j := 2) (by kernel_rfl) rfl rfl) (CM1.out w')⟩
    · intro a w' C
      exact ⟨rfl, op_call2 rfl (reg_enters Tryz.func60 (by kernel_rfl) (by kernel_rfl)) (C.on (j := 0) (by kernel_rfl) rfl rfl) (C.on (j := 3) (by kernel_rfl) rfl rfl) (CM2.out w')⟩
  simp only [List.take_succ_cons, List.take_zero]
  rintro wF hbF _ rfl _ rfl _ rfl _ rfl _ rfl
  simp only [setAt, Fin, List.setIfInBounds_toArray, List.set_cons_succ, List.set_cons_zero]
  have RZ := Lib.hid (HR7.out.rz.below hbF HR7.out.rz.lt)
  have HB := Lib.hid (HR7.out.below.trans (hbF.mono HR7.out.below.size))
  clear hbF HR7 CM1 CM2
  go_wp2_with (refine wpList_store_row rfl 83 (.tmp 10) (.tmp 42) rfl (w.heap.size + 1) (wq y) rfl rfl 83 _ RZ.out (by rw [HLL.out]; exact b_size) (by rw [HLL.out]; rfl) (wq_one _) ?_)
  have hR := RowAt.setRow RZ.out (wq y)
  refine bodyPost_ret (v := .agg (wq y)) (results_cell_row rfl _ _ (w.heap.size + 1) 83 (wq y) (0, 0) _ rfl hR Tryz.underlying83 rfl (by rw [HLL.out]; exact b_size)) rfl ⟨by rw [HQ.out], ?_⟩
  exact below_setRow HB.out (by omega) _
set_option maxHeartbeats 1600000 in
theorem rword_any (a t l m b c g z : Nat) (ha : a ≤ 4294967295) (p s k : Int) (i q r : Nat) (hi : i ≤ 4611686018427387904) (hq : i / 128 = q) (hr : i % 128 = r) (w : World) : Calls Tryz.prog 58 #[spv a t l m b c g z, .int .i64 p, .int .i64 s, .int .i64 k, .int .i64 (i : Int)] w fun e w' => e = .returned (.int .u64 (((addL p k s b t ((a : Int) - 1) ((q : Int) + 1)).getD r 0 : Nat) : Int)) ∧ Below w.heap.size w w' := by
  have CB := Lib.hid fun w => rblock_any a t l m b c g z ha p s k ((q : Int) + 1) w
  have HL := Lib.hid (add_ok p k s b t ((a : Int) - 1) ((q : Int) + 1)).1
  generalize addL p k s b t ((a : Int) - 1) ((q : Int) + 1) = y at *
  have HX := Lib.hid fun w => b_index w HL.out r (by omega)
  have h1 : (i : Int) / 128 = (q : Int) := by omega
  have h2 : (i : Int) % 128 = (r : Int) := by omega
  have h3 : Int.tdiv (i : Int) 128 = (q : Int) := by rw [Int.tdiv_eq_ediv_of_nonneg (by omega)]; exact h1
  have h4 : Int.tmod (i : Int) 128 = (r : Int) := by rw [Int.tmod_eq_emod_of_nonneg (by omega)]; exact h2
  have h5 : IntKind.i64.wrap (q : Int) = (q : Int) := by rw [IntKind.wrap_i64]; omega
  have h6 : IntKind.i64.wrap ((q : Int) + 1) = (q : Int) + 1 := by rw [IntKind.wrap_i64]; omega
  have h7 : IntKind.i64.wrap (r : Int) = (r : Int) := by rw [IntKind.wrap_i64]; omega
  have H0 := Lib.hid (RowAt.new w 48 (spc a t l m b c g z))
  have HB := Lib.hid (one_box w (.cells (spc a t l m b c g z) 48))
  clear hq hr
  go_enter Tryz.func58, Tryz.ntmps58
  go_wp2_with (refine wpList_load_want rfl 48 _ rfl _ _ rfl (rsp_loadN H0.out) ?_)
  refine (CB.out _).mono ?_
  rintro e w1 ⟨rfl, hb⟩
  have HB1 := Lib.hid (below_step HB.out hb)
  have hix := HX.out w1
  clear hb H0 HB CB
  go_wp2
  go_ret
  exact ⟨rfl, HB1.out⟩
end Go.Proofs.YtfoodaobiknihaaGreatDoor

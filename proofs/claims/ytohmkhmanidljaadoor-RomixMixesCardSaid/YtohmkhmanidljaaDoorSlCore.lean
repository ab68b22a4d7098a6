/- Core and Eight of package salsa by their contracts. Condition: the package's table reads as it was laid. -/
import Derived.Test.YtohmkhmanidljaaDoorSlDouble
namespace Go.Proofs.YtohmkhmanidljaaDoor
set_option maxRecDepth 50000
open Go.RowKit Rot Sl

/-- sixteen words as they came, a row for the answer, and those that are mixed -/
structure Ex (w wr : World) (Y : Nat) (x y : List Nat) : Prop where
  rx : RowAt wr w.heap.size 81 (wd x)
  rz : RowAt wr (w.heap.size + 1) 81 (wd (List.replicate 16 0))
  ry : RowAt wr Y 81 (wd y)
  below : Below w.heap.size w wr
  at_ : w.heap.size + 1 < Y
section
variable {w wr wr' : World} {Y : Nat} {x y : List Nat}
theorem Ex.step (h : Ex w wr Y x y) (hb : Below wr.heap.size wr wr') : Ex w wr' Y x y :=
  ⟨h.rx.below hb h.rx.lt, h.rz.below hb h.rz.lt, h.ry.below hb h.ry.lt, h.below.trans (hb.mono h.below.size), h.at_⟩
theorem Ex.drew (h : Ex w wr Y x y) : Ex w wr.drew Y x y := h.step (Below.refl _ _).drew
theorem Ex.drewN (h : Ex w wr Y x y) (k : Nat) : Ex w (wr.drewN k) Y x y := h.step (below_drewN (Below.refl _ _) k)
theorem Ex.set (h : Ex w wr Y x y) (i z : Nat) : Ex w (wr.setCell ⟨Y, i, none⟩ (.int .u32 (z : Int))) Y x (y.set i z) :=
  ⟨h.rx.setOther _ (by have := h.at_; simp; omega) _, h.rz.setOther _ (by have := h.at_; simp; omega) _, by rw [← wd_set]; exact h.ry.setCell i _, h.below.setCell (by have := h.at_; simp; omega) _, h.at_⟩
theorem Ex.setRow (h : Ex w wr Y x y) (y' : List Nat) : Ex w (wr.setRow Y (wd y')) Y x y' :=
  ⟨h.rx.setRowOther _ (by have := h.at_; omega) _, h.rz.setRowOther _ (by have := h.at_; omega) _, h.ry.setRow _, below_setRow h.below (by have := h.at_; omega) _, h.at_⟩
theorem Dx.more (h : Dx w wr x) (hs : wr.heap.size = w.heap.size + 1 + 1) (v : List Nat) : Ex w (wr.alloc (.cells (wd v) 81)) (w.heap.size + 1 + 1) x v := by
  refine ⟨h.rv.alloc _, h.rz.alloc _, ?_, h.below.alloc (by omega) _, by omega⟩
  have e := RowAt.new wr 81 (wd v)
  rwa [hs] at e
end

set_option maxHeartbeats 1600000 in
theorem core_bad (x : List Nat) (z : Int) (hz : z < 0 ∨ 100 < z) (w : World) :
    Calls Tryd.prog 52 #[.agg (wd x), .int .i64 z] w fun e w' => e = .returned (.tuple #[.agg (wd (List.replicate 16 0)), .int .i64 1]) ∧ Below w.heap.size w w' := by
  have HD := Lib.hid (Dx.new w x)
  rcases hz with hz | hz
  all_goals
    have h1 : decide (z < 0) = true ∨ decide (z < 0) = false := by cases decide (z < 0) <;> simp
    first
      | (have d1 : decide (z < 0) = true := by simp; omega)
      | (have d1 : decide (z < 0) = false := by simp; omega)
    have d2 : z < 0 ∨ decide (z > 100) = true := by simp; omega
    clear h1 d2
    first
      | (have d2 : decide (z > 100) = true := by simp; omega)
      | (have d2 : decide (z > 100) = false := by simp; omega)
    go_enter Tryd.func52, Tryd.ntmps52
    go_wp2
    refine bodyPost_ret ?_ rfl ⟨rfl, HD.out.below⟩
    exact results_row_tmp (fn := Tryd.f52) (p := 4) (u := 5) (b := w.heap.size + 1) (t := 81) (C := wd (List.replicate 16 0)) rfl _ rfl HD.out.rz Tryd.underlying81 rfl (by rw [wd_size]; exact size_16)

set_option maxHeartbeats 3200000 in
theorem core_any (x : List Nat) (hx : x.length = 16) (ho : okw x) (n : Nat) (hn : n ≤ 100) (w : World) (hk : QAt w) :
    Calls Tryd.prog 52 #[.agg (wd x), .int .i64 (n : Int)] w fun e w' => e = .returned (.tuple #[.agg (wd (core x n)), .int .i64 0]) ∧ Below w.heap.size w w' := by
  have HL := Lib.hid hx
  have HO := Lib.hid ho
  have HQ := Lib.hid hk
  have hsz : (wd x).size = 16 := by rw [wd_size]; exact hx
  have HSX := Lib.hid hsz
  have HD := Lib.hid (Dx.new w x)
  have HM := Lib.hid fun (v : List Nat) => (Dx.new w x).more (by simp) v
  clear hx ho hk hsz
  have d1 : decide ((n : Int) < 0) = false := by simp
  have d2 : decide ((n : Int) > 100) = false := by simp; omega
  go_enter Tryd.func52, Tryd.ntmps52
  go_wp2_with (first
    | refine wpList_load_row rfl 81 (.tmp 2) rfl w.heap.size rfl 81 (wd x) (0, 0) _ HD.out.rv Tryd.underlying81 rfl (by rw [HSX.out]; exact size_16) ?_
    | refine wpList_store_row rfl 81 (.tmp 6) (.tmp 15) rfl (w.heap.size + 1 + 1) (wd x) rfl rfl 81 _ (HM.out (List.replicate 16 0)).ry (by rw [HSX.out]; exact size_16) (by rw [HSX.out]; rfl) (wd_one _) ?_)
  obtain ⟨Y, hY⟩ : ∃ Y, Y = w.heap.size + 1 + 1 := ⟨_, rfl⟩
  have HX := Lib.hid ((HM.out (List.replicate 16 0)).setRow x)
  rw [← hY] at HX ⊢
  generalize hW : World.setRow _ _ _ = w1
  have HX1 : Hid (Ex w w1 Y x x) := Lib.hid (by subst hW; exact HX.out)
  clear hW HX HD HM hY d1 d2
  go_loopw [17] (fun v17 wr => ∃ k : Nat, k ≤ n ∧ v17 = .int .i64 (k : Int) ∧ Ex w wr Y x (dTo x k)) (fun v17 _ => n - (intOf v17).toNat)
  case atStart => exact ⟨0, by omega, rfl, HX1.out⟩
  case round =>
    clear HX1
    obtain ⟨k, hk, rfl, X⟩ := hrel
    have HX := Lib.hid X
    clear X
    by_cases h : k < n
    · have hdt : decide ((k : Int) < (n : Int)) = true := by simp; omega
      have hdl : (dTo x k).length = 16 := by rw [dTo_length]; exact HL.out
      have CD := Lib.hid (double_any (dTo x k) hdl (dTo_ok HO.out k) wr (HQ.out.next HX.out.below))
      have HN : Hid (dTo x (k + 1) = dbl (dTo x k)) := Lib.hid rfl
      have hz1 : (wd (dTo x k)).size = 16 := by rw [wd_size]; exact hdl
      have hz2 : (wd (dbl (dTo x k))).size = 16 := by rw [wd_size, dbl_length]; exact hdl
      generalize dTo x k = y at *
      have HZ1 := Lib.hid hz1
      have HZ2 := Lib.hid hz2
      generalize dbl y = y2 at *
      clear hz1 hz2 hdl
      go_wp2_with (first
        | refine wpList_load_row rfl 81 (.tmp 6) rfl Y rfl 81 (wd y) (0, 0) _ HX.out.ry Tryd.underlying81 rfl (by rw [HZ1.out]; exact size_16) ?_
        | fail)
      refine CD.out.mono ?_
      rintro e w2 ⟨rfl, hb⟩
      have HX2 := Lib.hid (HX.out.step hb)
      clear hb HX CD
      go_wp2_with (refine wpList_store_row rfl 81 (.tmp 6) (.tmp 20) rfl Y (wd y2) rfl rfl 81 _ HX2.out.ry (by rw [HZ2.out]; exact size_16) (by rw [HZ1.out, HZ2.out]) (wd_one _) ?_)
      go_roundw
      case rel => exact ⟨k + 1, by omega, by go_num, by rw [HN.out]; exact HX2.out.setRow y2⟩
      case measure => simp [intOf]; omega
    · obtain rfl : k = n := by omega
      have hdt : decide ((k : Int) < (k : Int)) = false := by simp
      have hyl : (dTo x k).length = 16 := by rw [dTo_length]; exact HL.out
      have HE : Hid (core x k = plus (dTo x k) x 16) := Lib.hid rfl
      generalize dTo x k = y at *
      have HYL := Lib.hid hyl
      clear hyl
      go_wp2
      go_loopw [7, 22] (fun _ v22 wr => ∃ j : Nat, j ≤ 16 ∧ v22 = .int .i64 (j : Int) ∧ Ex w wr Y x (plus y x j)) (fun _ v22 _ => 16 - (intOf v22).toNat)
      case atStart => exact ⟨0, by omega, rfl, HX.out⟩
      case round =>
        clear HX
        obtain ⟨j, hj, rfl, X⟩ := hrel
        have HX := Lib.hid X
        clear X
        by_cases h6 : j < 16
        · have hd : decide ((j : Int) < 16) = true := by simp; omega
          have cj := (HX.out.ry.cell j).trans (wd_at _ j (by rw [plus_length, HYL.out]; exact h6))
          rw [plus_at y x j j (Nat.le_refl _)] at cj
          have dj := (HX.out.rx.cell j).trans (wd_at _ j (by rw [HL.out]; exact h6))
          have HF : Hid (plus y x (j + 1) = (plus y x j).set j (add (y.getD j 0) (x.getD j 0))) := Lib.hid rfl
          have hv := wadd (y.getD j 0) (x.getD j 0)
          generalize y.getD j 0 = a at *
          generalize x.getD j 0 = b at *
          generalize add a b = s at *
          generalize plus y x j = z at *
          have hj0 : (0 : Int) ≤ (j : Int) := by omega
          have hj6 : (j : Int) < 16 := by omega
          have k1 : ∀ tp d os out, (World.mk wr.heap tp d os out).cell? ⟨Y, j, none⟩ = some (.int .u32 (a : Int)) := fun _ _ _ _ => cj
          have k2 : ∀ tp d os out, (World.mk wr.heap tp d os out).cell? ⟨w.heap.size, j, none⟩ = some (.int .u32 (b : Int)) := fun _ _ _ _ => dj
          clear cj dj
          go_wp2
          refine wp_region_still_tail 8 (by kernel_rfl) (by kernel_rfl) ?_
          simp only [List.take_succ_cons, List.take_zero, List.drop_succ_cons, List.drop_zero]
          repeat still_step
          refine wpStill_nil ?_
          change wpList _ _ _ _ _ wr.drew
          have HD := Lib.hid HX.out.drew
          have ck : wr.drew.cell? ⟨Y, j, none⟩ = some (.int .u32 (a : Int)) := k1 _ _ _ _
          have fk : wr.drew.frozen? ⟨Y, j, none⟩ = false := HX.out.drew.ry.frozen j
          clear k1 k2 HX
          generalize wr.drew = w2 at *
          go_wp2
          go_roundw
          case rel => exact ⟨j + 1, by omega, by go_num, by rw [HF.out]; exact HD.out.set j s⟩
          case measure => simp [intOf]; omega
        · obtain rfl : j = 16 := by omega
          have hd : decide (((16 : Nat) : Int) < 16) = false := by simp
          have hz : (wd (plus y x 16)).size = 16 := by rw [wd_size, plus_length]; exact HYL.out
          generalize plus y x 16 = z at *
          have HZ := Lib.hid hz
          clear hz
          go_wp2_with (first
            | refine wpList_load_row rfl 81 (.tmp 6) rfl Y rfl 81 (wd z) (0, 0) _ HX.out.ry Tryd.underlying81 rfl (by rw [HZ.out]; exact size_16) ?_
            | refine wpList_store_row rfl 81 (.tmp 4) (.tmp 34) rfl (w.heap.size + 1) (wd z) rfl rfl 81 _ HX.out.rz (by rw [HZ.out]; exact size_16) (by rw [HZ.out]; rfl) (wd_one _) ?_)
          have hR := HX.out.rz.setRow (wd z)
          refine bodyPost_ret (results_row_tmp (fn := Tryd.f52) (p := 4) (u := 5) (b := w.heap.size + 1) (t := 81) (C := wd z) rfl _ rfl hR Tryd.underlying81 rfl (by rw [HZ.out]; exact size_16)) rfl ⟨by rw [HE.out]; rfl, ?_⟩
          exact below_setRow HX.out.below (by omega) _

set_option maxHeartbeats 1600000 in
theorem eight_any (x : List Nat) (hx : x.length = 16) (ho : okw x) (w : World) (hk : QAt w) :
    Calls Tryd.prog 48 #[.agg (wd x)] w fun e w' => e = .returned (.agg (wd (core x 4))) ∧ Below w.heap.size w w' := by
  have hsz : (wd x).size = 16 := by rw [wd_size]; exact hx
  have HSX := Lib.hid hsz
  have hzz : (wd (core x 4)).size = 16 := by rw [wd_size, core_length]; exact hx
  have HZ := Lib.hid hzz
  have HD := Lib.hid (Dx.new w x)
  have CD := Lib.hid (core_any x hx ho 4 (by decide) _ (hk.next (Dx.new w x).below))
  clear hx ho hk hsz hzz
  generalize core x 4 = z at *
  go_enter Tryd.func48, Tryd.ntmps48
  go_wp2_with (refine wpList_load_row rfl 81 (.tmp 1) rfl w.heap.size rfl 81 (wd x) (0, 0) _ HD.out.rv Tryd.underlying81 rfl (by rw [HSX.out]; exact size_16) ?_)
  refine CD.out.mono ?_
  rintro e w2 ⟨rfl, hb⟩
  have HX2 := Lib.hid (HD.out.step hb)
  clear hb HD CD
  have RN := Lib.hid (RowAt.new w2 81 (wd (List.replicate 16 0)))
  have RN2 := Lib.hid (RN.out.setRow (wd z))
  have hb3 : Below w2.heap.size w2 ((w2.alloc (.cells (wd (List.replicate 16 0)) 81)).setRow w2.heap.size (wd z)) := below_setRow ((Below.refl _ w2).alloc (Nat.le_refl _) _) (Nat.le_refl _) _
  have HX3 := Lib.hid (HX2.out.step hb3)
  clear hb3
  go_wp2_with (first
    | refine wpList_store_row rfl 81 (.tmp 3) (.tmp 8) rfl w2.heap.size (wd z) rfl rfl 81 _ RN.out (by rw [HZ.out]; exact size_16) (by rw [HZ.out]; rfl) (wd_one _) ?_
    | refine wpList_load_row rfl 81 (.tmp 3) rfl w2.heap.size rfl 81 (wd z) (0, 0) _ RN2.out Tryd.underlying81 rfl (by rw [HZ.out]; exact size_16) ?_
    | refine wpList_store_row rfl 81 (.tmp 2) (.tmp 10) rfl (w.heap.size + 1) (wd z) rfl rfl 81 _ HX3.out.rz (by rw [HZ.out]; exact size_16) (by rw [HZ.out]; rfl) (wd_one _) ?_)
  have hR := HX3.out.rz.setRow (wd z)
  refine bodyPost_ret (v := .agg (wd z)) (results_cell_row rfl _ _ (w.heap.size + 1) 81 (wd z) (0, 0) _ rfl hR Tryd.underlying81 rfl (by rw [HZ.out]; exact size_16)) rfl ⟨rfl, ?_⟩
  exact below_setRow HX3.out.below (by omega) _
end Go.Proofs.YtohmkhmanidljaaDoor

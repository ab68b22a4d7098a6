/- The document's Core by its contract. Conditions: those typed. -/
import Derived.Test.YtohmkhmanidljaaDoorSlHalf
import Derived.Test.YtohmkhmanidljaaDoorSlCore
namespace Go.Proofs.YtohmkhmanidljaaDoor
set_option maxRecDepth 50000
open Go.RowKit Rot Sl

set_option maxHeartbeats 3200000 in
theorem rcore_any (x : List Nat) (hx : x.length = 16) (ho : okw x) (n : Nat) (hn : n ≤ 100) (w : World) :
    Calls Tryd.prog 40 #[.agg (wd x), .int .i64 (n : Int)] w fun e w' => e = .returned (.agg (wd (core x n))) ∧ Below w.heap.size w w' := by
  have HL := Lib.hid hx
  have HO := Lib.hid ho
  have hsz : (wd x).size = 16 := by rw [wd_size]; exact hx
  have HSX := Lib.hid hsz
  have HD := Lib.hid (Dx.new w x)
  have HM := Lib.hid fun (v : List Nat) => (Dx.new w x).more (by simp) v
  clear hx ho hsz
  go_enter Tryd.func40, Tryd.ntmps40
  go_wp2_with (first
    | refine wpList_load_row rfl 81 (.tmp 2) rfl w.heap.size rfl 81 (wd x) (0, 0) _ HD.out.rv Tryd.underlying81 rfl (by rw [HSX.out]; exact size_16) ?_
    | refine wpList_store_row rfl 81 (.tmp 5) (.tmp 8) rfl (w.heap.size + 1 + 1) (wd x) rfl rfl 81 _ (HM.out (List.replicate 16 0)).ry (by rw [HSX.out]; exact size_16) (by rw [HSX.out]; rfl) (wd_one _) ?_)
  obtain ⟨Y, hY⟩ : ∃ Y, Y = w.heap.size + 1 + 1 := ⟨_, rfl⟩
  have HX := Lib.hid ((HM.out (List.replicate 16 0)).setRow x)
  rw [← hY] at HX ⊢
  generalize hW : World.setRow _ _ _ = w1
  have HX1 : Hid (Ex w w1 Y x x) := Lib.hid (by subst hW; exact HX.out)
  clear hW HX HD HM hY
  go_loopw [6] (fun v17 wr => ∃ k : Nat, k ≤ n ∧ v17 = .int .i64 (k : Int) ∧ Ex w wr Y x (dTo x k)) (fun v17 _ => n - (intOf v17).toNat)
  case atStart => exact ⟨0, by omega, rfl, HX1.out⟩
  case round =>
    clear HX1
    obtain ⟨k, hk, rfl, X⟩ := hrel
    have HX := Lib.hid X
    clear X
    by_cases h : k < n
    · have hdt : decide ((k : Int) < (n : Int)) = true := by simp; omega
      have hdl : (dTo x k).length = 16 := by rw [dTo_length]; exact HL.out
      have CA := Lib.hid (half_any (dTo x k) hdl (dTo_ok HO.out k) false wr)
      have CB := Lib.hid fun w => half_any (half (dTo x k) false) (by rw [half_length]; exact hdl) (half_ok (dTo_ok HO.out k) false) true w
      have HN : Hid (dTo x (k + 1) = half (half (dTo x k) false) true) := Lib.hid (by rw [half_half]; rfl)
      have hz1 : (wd (dTo x k)).size = 16 := by rw [wd_size]; exact hdl
      have hz2 : (wd (half (half (dTo x k) false) true)).size = 16 := by rw [wd_size, half_length, half_length]; exact hdl
      generalize dTo x k = y at *
      have HZ1 := Lib.hid hz1
      have HZ2 := Lib.hid hz2
      generalize half (half y false) true = y2 at *
      generalize half y false = y1 at *
      clear hz1 hz2 hdl
      go_wp2_with (refine wpList_load_row rfl 81 (.tmp 5) rfl Y rfl 81 (wd y) (0, 0) _ HX.out.ry Tryd.underlying81 rfl (by rw [HZ1.out]; exact size_16) ?_)
      refine CA.out.mono ?_
      rintro e w2 ⟨rfl, hb⟩
      have HX1 := Lib.hid (HX.out.step hb)
      clear hb HX CA
      go_wp2_with fail
      refine (CB.out _).mono ?_
      rintro e w3 ⟨rfl, hb⟩
      have HX2 := Lib.hid (HX1.out.step hb)
      clear hb HX1 CB
      go_wp2_with (refine wpList_store_row rfl 81 (.tmp 5) (.tmp 16) rfl Y (wd y2) rfl rfl 81 _ HX2.out.ry (by rw [HZ2.out]; exact size_16) (by rw [HZ1.out, HZ2.out]) (wd_one _) ?_)
      go_roundw
      case rel => exact ⟨k + 1, by omega, by go_num, by rw [HN.out]; exact HX2.out.setRow y2⟩
      case measure => simp [intOf]; omega
    · obtain rfl : k = n := by omega
      have hdt : decide ((k : Int) < (k : Int)) = false := by simp
      have hyl : (dTo x k).length = 16 := by rw [dTo_length]; exact HL.out
      have HE : Hid (core x k = plus (dTo x k) x 16) := Lib.hid rfl
      generalize dTo x k = y at *
      have HYL := Lib.hid hyl
      clear hyl
      go_wp2
      go_loopw [7] (fun v22 wr => ∃ j : Nat, j ≤ 16 ∧ v22 = .int .i64 (j : Int) ∧ Ex w wr Y x (plus y x j)) (fun v22 _ => 16 - (intOf v22).toNat)
      case atStart => exact ⟨0, by omega, rfl, HX.out⟩
      case round =>
        clear HX
        obtain ⟨j, hj, rfl, X⟩ := hrel
        have HX := Lib.hid X
        clear X
        by_cases h6 : j < 16
        · have hd : decide ((j : Int) < 16) = true := by simp; omega
          have cj := (HX.out.ry.cell j).trans (wd_at _ j (by rw [plus_length, HYL.out]; exact h6))
          rw [plus_at y x j j (Nat.le_refl _)] at cj
          have dj := (HX.out.rx.cell j).trans (wd_at _ j (by rw [HL.out]; exact h6))
          have HF : Hid (plus y x (j + 1) = (plus y x j).set j (add (y.getD j 0) (x.getD j 0))) := Lib.hid rfl
          have hv := wadd (y.getD j 0) (x.getD j 0)
          generalize y.getD j 0 = a at *
          generalize x.getD j 0 = b at *
          generalize add a b = s at *
          generalize plus y x j = z at *
          have hj0 : (0 : Int) ≤ (j : Int) := by omega
          have hj6 : (j : Int) < 16 := by omega
          have k1 : ∀ tp d os out, (World.mk wr.heap tp d os out).cell? ⟨Y, j, none⟩ = some (.int .u32 (a : Int)) := fun _ _ _ _ => cj
          have k2 : ∀ tp d os out, (World.mk wr.heap tp d os out).cell? ⟨w.heap.size, j, none⟩ = some (.int .u32 (b : Int)) := fun _ _ _ _ => dj
          clear cj dj
          go_wp2
          refine wp_region_still_tail 9 (by kernel_rfl) (by kernel_rfl) ?_
          simp only [List.take_succ_cons, List.take_zero, List.drop_succ_cons, List.drop_zero]
          repeat still_step
          refine wpStill_nil ?_
          change wpList _ _ _ _ _ wr.drew
          have HD := Lib.hid HX.out.drew
          have ck : wr.drew.cell? ⟨Y, j, none⟩ = some (.int .u32 (a : Int)) := k1 _ _ _ _
          have fk : wr.drew.frozen? ⟨Y, j, none⟩ = false := HX.out.drew.ry.frozen j
          clear k1 k2 HX
          generalize wr.drew = w2 at *
          go_wp2
          go_roundw
          case rel => exact ⟨j + 1, by omega, by go_num, by rw [HF.out]; exact HD.out.set j s⟩
          case measure => simp [intOf]; omega
        · obtain rfl : j = 16 := by omega
          have hd : decide (((16 : Nat) : Int) < 16) = false := by simp
          have hz : (wd (plus y x 16)).size = 16 := by rw [wd_size, plus_length]; exact HYL.out
          generalize plus y x 16 = z at *
          have HZ := Lib.hid hz
          clear hz
          go_wp2_with (first
            | refine wpList_load_row rfl 81 (.tmp 5) rfl Y rfl 81 (wd z) (0, 0) _ HX.out.ry Tryd.underlying81 rfl (by rw [HZ.out]; exact size_16) ?_
            | refine wpList_store_row rfl 81 (.tmp 4) (.tmp 30) rfl (w.heap.size + 1) (wd z) rfl rfl 81 _ HX.out.rz (by rw [HZ.out]; exact size_16) (by rw [HZ.out]; rfl) (wd_one _) ?_)
          have hR := HX.out.rz.setRow (wd z)
          refine bodyPost_ret (v := .agg (wd z)) (results_cell_row rfl _ _ (w.heap.size + 1) 81 (wd z) (0, 0) _ rfl hR Tryd.underlying81 rfl (by rw [HZ.out]; exact size_16)) rfl ⟨by rw [HE.out], ?_⟩
          exact below_setRow HX.out.below (by omega) _
end Go.Proofs.YtohmkhmanidljaaDoor

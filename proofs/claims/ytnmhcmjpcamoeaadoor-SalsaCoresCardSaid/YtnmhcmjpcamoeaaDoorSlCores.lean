/- The law SalsaCores by the calls' contracts. Condition: the package's table reads as it was laid. -/
import Derived.Test.YtnmhcmjpcamoeaaDoorSlAwake
import Derived.Test.YtnmhcmjpcamoeaaDoorSlRcore
import Derived.Test.YtnmhcmjpcamoeaaDoorReg
namespace Go.Proofs.YtnmhcmjpcamoeaaDoor
set_option maxRecDepth 50000
open Go.RowKit Rot Sl

theorem lrow16_run {w : World} {ev : Operand → Value} {x : Operand} {o : Oper} {B : Nat} {L : List Nat} (hL : L.length = 16) (hop : o.op = .load 23 x) (hx : ev x = .pointer (some ⟨B, 0, none⟩)) (hR : RowAt w B 23 (wd L)) : (execOp ev o).run Tryd.prog w = .ok (.value (.agg (wd L))) w := by
  have h := RowAt.loadAt (P := Tryd.prog) hR Tryd.underlying23 (by rw [wd_size, hL]; exact size_16)
  simp [execOp, hop, hx, h]

set_option maxHeartbeats 1600000 in
theorem scores_bad (x : List Nat) (hx : x.length = 16) (z : Int) (hz : z < 0 ∨ 100 < z) (w : World) (hk : QAt w) :
    Calls Tryd.prog 4 #[.agg (wd x), .int .i64 z] w fun e w' => e = .returned (.bool true) ∧ Below w.heap.size w w' := by
  have HK := Lib.hid (hk.next ((Below.refl _ w).alloc (Nat.le_refl _) (.cells (wd x) 23)))
  have HC := Lib.hid fun w => core_bad x z hz w
  have HS := Lib.hid (show (wd x).size = 16 by rw [wd_size]; exact hx)
  have EQ : Hid (∀ w, (binOp .eql 23 (.agg (wd (List.replicate 16 0))) (.agg (wd (List.replicate 16 0)))).run Tryd.prog w = .ok (.bool true) w) := Lib.hid fun w => same_w16 _ (by simp) zeros_ok w
  clear hk hx
  rcases hz with hz | hz
  all_goals
    first
      | (have d1 : decide (z < 0) = true := by simp; omega)
      | (have d1 : decide (z < 0) = false := by simp; omega)
    first
      | (have d2 : decide (z > 100) = true := by simp; omega)
      | (have d2 : decide (z > 100) = false := by simp; omega)
    go_enter Tryd.func4, Tryd.ntmps4
    go_wp2_with fail
    refine (awake_any _ HK.out).mono ?_
    rintro e w1 ⟨rfl, b1⟩
    have R0 := Lib.hid ((RowAt.new w 23 (wd x)).below b1 (by simp))
    have B1 := Lib.hid (((Below.refl _ w).alloc (Nat.le_refl _) (.cells (wd x) 23)).trans (b1.mono (by simp)))
    clear b1
    go_wp2_with (refine wpList_load_row rfl 23 (.tmp 2) rfl w.heap.size rfl 23 (wd x) (0, 0) _ R0.out Tryd.underlying23 rfl (by rw [HS.out]; exact size_16) ?_)
    refine (HC.out w1).mono ?_
    rintro e w2 ⟨rfl, b2⟩
    have B2 := Lib.hid (below_step B1.out b2)
    clear b2 R0 B1
    have RN2 := Lib.hid ((RowAt.new w2 23 (wd (List.replicate 16 0))).setRow (wd (List.replicate 16 0)))
    have RN := Lib.hid (RowAt.new w2 23 (wd (List.replicate 16 0)))
    have hb3 : Below w2.heap.size w2 ((w2.alloc (.cells (wd (List.replicate 16 0)) 23)).setRow w2.heap.size (wd (List.replicate 16 0))) := below_setRow ((Below.refl _ w2).alloc (Nat.le_refl _) _) (Nat.le_refl _) _
    have B3 := Lib.hid (below_step B2.out hb3)
    clear hb3
    go_wp2_with (first
      | refine wpList_store_row rfl 23 (.tmp 5) (.tmp 13) rfl w2.heap.size (wd (List.replicate 16 0)) rfl rfl 23 _ RN.out (by rw [wd_size]; exact size_16) rfl (wd_one _) ?_
      | refine wpList_value_want rfl _ (lrow16_run (by simp) rfl rfl RN2.out) ?_
      | refine wpList_value_want rfl (.bool true) (eql_run _ _ _ _ _ _ rfl rfl rfl g_w16 (EQ.out _)) ?_)
    go_ret
    exact ⟨rfl, B3.out⟩
set_option maxHeartbeats 3200000 in
theorem scores_good (x : List Nat) (hx : x.length = 16) (ho : okw x) (n : Nat) (hn : n ≤ 100) (w : World) (hk : QAt w) :
    Calls Tryd.prog 4 #[.agg (wd x), .int .i64 (n : Int)] w fun e w' => e = .returned (.bool true) ∧ Below w.heap.size w w' := by
  have HK := Lib.hid (hk.next ((Below.refl _ w).alloc (Nat.le_refl _) (.cells (wd x) 23)))
  have CC := Lib.hid fun (w : World) (h : QAt w) => core_any x hx ho n hn w h
  have CE0 := Lib.hid fun (w : World) (h : QAt w) => eight_any x hx ho w h
  have CD0 := Lib.hid fun (w : World) (h : QAt w) => double_any x hx ho w h
  have CR := Lib.hid fun w => rcore_any x hx ho n hn w
  have CR4 := Lib.hid fun w => rcore_any x hx ho 4 (by decide) w
  have CA := Lib.hid fun w => half_any x hx ho false w
  have CB := Lib.hid fun w => half_any (half x false) (by rw [half_length]; exact hx) (half_ok ho false) true w
  rw [half_half] at CB
  have NY := Lib.hid fun w => nesame_w16 (core x n) (by rw [core_length]; exact hx) (core_ok ho n) w
  have NZ := Lib.hid fun w => nesame_w16 (core x 4) (by rw [core_length]; exact hx) (core_ok ho 4) w
  have ED := Lib.hid fun w => same_w16 (dbl x) (by rw [dbl_length]; exact hx) (dbl_ok ho) w
  have HYL := Lib.hid (show (core x n).length = 16 by rw [core_length]; exact hx)
  have HXL := Lib.hid hx
  generalize core x n = y at *
  generalize core x 4 = z at *
  generalize dbl x = d at *
  generalize half x false = hf at *
  have HS := Lib.hid (show (wd x).size = 16 by rw [wd_size]; exact hx)
  have HSY := Lib.hid (show (wd y).size = 16 by rw [wd_size]; exact HYL.out)
  have d1 : decide ((n : Int) < 0) = false := by simp
  have d2 : decide ((n : Int) > 100) = false := by simp; omega
  clear hx ho hk hn
  go_enter Tryd.func4, Tryd.ntmps4
  go_wp2_with fail
  refine (awake_any _ HK.out).mono ?_
  rintro e w1 ⟨rfl, b1⟩
  have R0 := Lib.hid ((RowAt.new w 23 (wd x)).below b1 (by simp))
  have B1 := Lib.hid (((Below.refl _ w).alloc (Nat.le_refl _) (.cells (wd x) 23)).trans (b1.mono (by simp)))
  have K1 := Lib.hid (HK.out.next b1)
  clear b1 HK
  go_wp2_with (refine wpList_load_row rfl 23 (.tmp 2) rfl w.heap.size rfl 23 (wd x) (0, 0) _ R0.out Tryd.underlying23 rfl (by rw [HS.out]; exact size_16) ?_)
  refine (CC.out w1 K1.out).mono ?_
  rintro e w2 ⟨rfl, b2⟩
  have R2 := Lib.hid (R0.out.below b2 R0.out.lt)
  have B2 := Lib.hid (below_step B1.out b2)
  have K2 := Lib.hid (K1.out.next b2)
  clear b2 R0 B1 K1
  have RN := Lib.hid (RowAt.new w2 23 (wd (List.replicate 16 0)))
  have RN2 := Lib.hid (RN.out.setRow (wd y))
  have hb3 : Below w2.heap.size w2 ((w2.alloc (.cells (wd (List.replicate 16 0)) 23)).setRow w2.heap.size (wd y)) := below_setRow ((Below.refl _ w2).alloc (Nat.le_refl _) _) (Nat.le_refl _) _
  have HB3 := Lib.hid hb3
  clear hb3
  go_wp2_with (refine wpList_store_row rfl 23 (.tmp 5) (.tmp 13) rfl w2.heap.size (wd y) rfl rfl 23 _ RN.out (by rw [HSY.out]; exact size_16) (by rw [HSY.out]; rfl) (wd_one _) ?_)
  generalize hW : World.setRow _ _ _ = w3
  obtain ⟨B, hB⟩ : ∃ B, B = w2.heap.size := ⟨_, rfl⟩
  rw [← hB]
  have HY : Hid (RowAt w3 B 23 (wd y)) := Lib.hid (by subst hW; subst hB; exact RN2.out)
  have hb3 : Below w2.heap.size w2 w3 := by subst hW; exact HB3.out
  have HX := Lib.hid (R2.out.below hb3 R2.out.lt)
  have BB := Lib.hid (below_step B2.out hb3)
  have K3 := Lib.hid (K2.out.next hb3)
  have CE : Hid (∀ w, Below w3.heap.size w3 w → _) := Lib.hid fun w hb => CE0.out w (K3.out.next hb)
  clear hb3 hW hB RN RN2 HB3 R2 B2 K2 CC CE0 d1 d2
  refine wp_region_text [Is (.int .i64 0), Is (.bool false), Is (.bool false), Is (.agg (wd y)), Is (.agg (wd x)), Is (.int .i64 (n : Int)), Is (.agg (wd y)), Is (.bool false), Is (.bool false), Is (.bool false), Is (.agg (wd x)), Is (.agg (wd z)), Is (.agg (wd x)), Is (.agg (wd z)), Is (.bool false), Is (.bool false)] (by kernel_rfl) (by kernel_rfl) rfl ⟨stable_is _, stable_is _, stable_is _, stable_is _, stable_is _, stable_is _, stable_is _, stable_is _, stable_is _, stable_is _, stable_is _, stable_is _, stable_is _, stable_is _, stable_is _, stable_is _, trivial⟩ ⟨?_, ?_, ?_, ?_, ?_, ?_, ?_, ?_, ?_, ?_, ?_, ?_, ?_, ?_, ?_, ?_, trivial⟩ ?_
  · intro a w C
    exact part_on (wanted_free rfl _) (op_move (.inl rfl) (C.was 6 (by kernel_rfl)))
  · intro a w C
    exact part_on (wanted_free rfl _) (op_bin rfl (C.on (j := 0) (by kernel_rfl) rfl rfl) rfl rfl (by simp [go_sem]) rfl)
  · intro a w C
    exact part_on (wanted_free rfl _) (op_move (.inl rfl) (C.on (j := 1) (by kernel_rfl) rfl rfl))
  · intro a w C
    exact part_on (wanted_on (j := 2) rfl rfl rfl (C.on (j := 2) (by kernel_rfl) rfl rfl)) (op_value (lrow16_run HYL.out rfl (C.was 5 (by kernel_rfl)) (HY.out.below C.below HY.out.lt)) rfl)
  · intro a w C
    exact part_on (wanted_on (j := 2) rfl rfl rfl (C.on (j := 2) (by kernel_rfl) rfl rfl)) (op_value (lrow16_run HXL.out rfl (C.was 2 (by kernel_rfl)) (HX.out.below C.below HX.out.lt)) rfl)
  · intro a w C
    exact part_on (wanted_on (j := 2) rfl rfl rfl (C.on (j := 2) (by kernel_rfl) rfl rfl)) (op_move (.inl rfl) (C.was 1 (by kernel_rfl)))
  · intro a w C
    exact part_on (wanted_on (j := 2) rfl rfl rfl (C.on (j := 2) (by kernel_rfl) rfl rfl)) (op_call2 rfl (reg_enters Tryd.func11 (by kernel_rfl) (by kernel_rfl)) (C.on (j := 4) (by kernel_rfl) rfl rfl) (C.on (j := 5) (by kernel_rfl) rfl rfl) ((CR.out w).mono fun e w2 h => (by obtain ⟨rfl, hb⟩ := h; exact ⟨_, rfl, rfl, hb⟩)))
  · intro a w C
    exact part_on (wanted_on (j := 2) rfl rfl rfl (C.on (j := 2) (by kernel_rfl) rfl rfl)) (op_value (neq_run _ _ _ _ _ _ rfl (C.on (j := 3) (by kernel_rfl) rfl rfl) (C.on (j := 6) (by kernel_rfl) rfl rfl) g_w16 (NY.out w)) rfl)
  · intro a w C
    exact part_on (wanted_free rfl _) (op_pick (k := false) rfl (C.on (j := 2) (by kernel_rfl) rfl rfl) (C.on (j := 7) (by kernel_rfl) rfl rfl))
  · intro a w C
    exact part_on (wanted_free rfl _) (op_move (.inl rfl) (C.on (j := 8) (by kernel_rfl) rfl rfl))
  · intro a w C
    exact part_on (wanted_on (j := 9) rfl rfl rfl (C.on (j := 9) (by kernel_rfl) rfl rfl)) (op_value (lrow16_run HXL.out rfl (C.was 2 (by kernel_rfl)) (HX.out.below C.below HX.out.lt)) rfl)
  · intro a w C
    exact part_on (wanted_on (j := 9) rfl rfl rfl (C.on (j := 9) (by kernel_rfl) rfl rfl)) (op_call1 rfl (reg_enters Tryd.func12 (by kernel_rfl) (by kernel_rfl)) (C.on (j := 10) (by kernel_rfl) rfl rfl) ((CE.out w C.below).mono fun e w2 h => (by obtain ⟨rfl, hb⟩ := h; exact ⟨_, rfl, rfl, hb⟩)))
  · intro a w C
    exact part_on (wanted_on (j := 9) rfl rfl rfl (C.on (j := 9) (by kernel_rfl) rfl rfl)) (op_value (lrow16_run HXL.out rfl (C.was 2 (by kernel_rfl)) (HX.out.below C.below HX.out.lt)) rfl)
  · intro a w C
    exact part_on (wanted_on (j := 9) rfl rfl rfl (C.on (j := 9) (by kernel_rfl) rfl rfl)) (op_call2 rfl (reg_enters Tryd.func11 (by kernel_rfl) (by kernel_rfl)) (C.on (j := 12) (by kernel_rfl) rfl rfl) rfl ((CR4.out w).mono fun e w2 h => (by obtain ⟨rfl, hb⟩ := h; exact ⟨_, rfl, rfl, hb⟩)))
  · intro a w C
    exact part_on (wanted_on (j := 9) rfl rfl rfl (C.on (j := 9) (by kernel_rfl) rfl rfl)) (op_value (neq_run _ _ _ _ _ _ rfl (C.on (j := 11) (by kernel_rfl) rfl rfl) (C.on (j := 13) (by kernel_rfl) rfl rfl) g_w16 (NZ.out w)) rfl)
  · intro a w C
    exact part_on (wanted_free rfl _) (op_pick (k := false) rfl (C.on (j := 9) (by kernel_rfl) rfl rfl) (C.on (j := 14) (by kernel_rfl) rfl rfl))
  rintro wF hbF _ rfl _ rfl _ rfl _ rfl _ rfl _ rfl _ rfl _ rfl _ rfl _ rfl _ rfl _ rfl _ rfl _ rfl _ rfl _ rfl
  simp only [Fin, setAt, Exit.then, List.setIfInBounds_toArray, List.set_cons_succ, List.set_cons_zero]
  have BF := Lib.hid (below_step BB.out hbF)
  have HX2 := Lib.hid (HX.out.below hbF HX.out.lt)
  have K4 := Lib.hid (K3.out.next hbF)
  have CD : Hid (∀ w, Below wF.heap.size wF w → _) := Lib.hid fun w hb => CD0.out w (K4.out.next hb)
  clear hbF CR CR4 CE NY NZ BB HX HY CD0 K3
  go_wp2
  clear HYL HSY
  have HX := HX2
  clear HX2
  refine wp_region_text [Is (.agg (wd x)), Is (.agg (wd d)), Is (.agg (wd x)), Is (.agg (wd hf)), Is (.agg (wd d)), Is (.bool true), Is (.bool true)] (by kernel_rfl) (by kernel_rfl) rfl ⟨stable_is _, stable_is _, stable_is _, stable_is _, stable_is _, stable_is _, stable_is _, trivial⟩ ⟨?_, ?_, ?_, ?_, ?_, ?_, ?_, trivial⟩ ?_
  · intro a w C
    exact part_on (wanted_free rfl _) (op_value (lrow16_run HXL.out rfl (C.was 2 (by kernel_rfl)) (HX.out.below C.below HX.out.lt)) rfl)
  · intro a w C
    exact part_on (wanted_free rfl _) (op_call1 rfl (reg_enters Tryd.func13 (by kernel_rfl) (by kernel_rfl)) (C.on (j := 0) (by kernel_rfl) rfl rfl) ((CD.out w C.below).mono fun e w2 h => (by obtain ⟨rfl, hb⟩ := h; exact ⟨_, rfl, rfl, hb⟩)))
  · intro a w C
    exact part_on (wanted_free rfl _) (op_value (lrow16_run HXL.out rfl (C.was 2 (by kernel_rfl)) (HX.out.below C.below HX.out.lt)) rfl)
  · intro a w C
    exact part_on (wanted_free rfl _) (op_call2 rfl (reg_enters Tryd.func14 (by kernel_rfl) (by kernel_rfl)) (C.on (j := 2) (by kernel_rfl) rfl rfl) rfl ((CA.out w).mono fun e w2 h => (by obtain ⟨rfl, hb⟩ := h; exact ⟨_, rfl, rfl, hb⟩)))
  · intro a w C
    exact part_on (wanted_free rfl _) (op_call2 rfl (reg_enters Tryd.func14 (by kernel_rfl) (by kernel_rfl)) (C.on (j := 3) (by kernel_rfl) rfl rfl) rfl ((CB.out w).mono fun e w2 h => (by obtain ⟨rfl, hb⟩ := h; exact ⟨_, rfl, rfl, hb⟩)))
  · intro a w C
    exact part_on (wanted_free rfl _) (op_value (eql_run _ _ _ _ _ _ rfl (C.on (j := 1) (by kernel_rfl) rfl rfl) (C.on (j := 4) (by kernel_rfl) rfl rfl) g_w16 (ED.out w)) rfl)
  · intro a w C
    exact part_on (wanted_free rfl _) (op_move (.inr rfl) (C.on (j := 5) (by kernel_rfl) rfl rfl))
  rintro wG hbG _ rfl _ rfl _ rfl _ rfl _ rfl _ rfl _ rfl
  simp only [Fin, setAt, Exit.then, List.setIfInBounds_toArray, List.set_cons_succ, List.set_cons_zero]
  have BG := Lib.hid (below_step BF.out hbG)
  clear hbG CA CB CD ED HX BF
  go_wp2
  go_ret
  exact ⟨rfl, BG.out⟩

theorem scores_any (x : List Nat) (hx : x.length = 16) (ho : okw x) (z : Int) (w : World) (hk : QAt w) :
    Calls Tryd.prog 4 #[.agg (wd x), .int .i64 z] w fun e w' => e = .returned (.bool true) ∧ Below w.heap.size w w' := by
  by_cases hz : z < 0 ∨ 100 < z
  · exact scores_bad x hx z hz w hk
  · obtain ⟨n, rfl⟩ : ∃ n : Nat, z = (n : Int) := ⟨z.toNat, by omega⟩
    exact scores_good x hx ho n (by omega) w hk
end Go.Proofs.YtnmhcmjpcamoeaaDoor

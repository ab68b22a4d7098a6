/- The law BlockBytes by the calls' contracts. No condition. -/
import Derived.Test.YtnolgjbehnjomaaBbHalves
namespace Go.Proofs.Ytnolgjbehnjomaa
set_option maxRecDepth 50000
open Go.RowKit Bb

theorem textl_same (s : ByteArray) : (s.toList == s.toList) = true ∧ (s.toList != s.toList) = false := by simp
theorem strOf_size (l : List Nat) (h : ∀ x ∈ l, x < 256) : (strOf l).size = l.length := by rw [← nb_length, nb_str l h]
/-- a block that is laid anew -/
theorem newb (w : World) (c : List Nat) : RowAt ((w.alloc (.cells (wq zb) 26)).setRow w.heap.size (wq c)) w.heap.size 26 (wq c) ∧ Below w.heap.size w ((w.alloc (.cells (wq zb) 26)).setRow w.heap.size (wq c)) :=
  ⟨(RowAt.new w _ _).setRow _, below_setRow ((Below.refl _ w).alloc (Nat.le_refl _) _) (Nat.le_refl _) _⟩

theorem oper_value {P : Program} {o : Oper} {a : Act} {w w' : World} {K : Act → World → Prop} {Q : Exit → Act → World → Prop} (v : Value) (hr : (execOp a.eval o).run P w = .ok (.value v) w') (h : K (a.put o.dst v) w') : o.wp P a w K Q := by
  unfold Oper.wp
  rw [hr]
  exact h
set_option maxHeartbeats 6400000 in
theorem bytes19_any {L : List Nat} (hL : okb L) (s : ByteArray) (A : Option Addr) (c : Nat) (xs : List Nat) (hx : ∀ x ∈ xs, x < 18446744073709551616) (w : World) (hr : Reads w w.heap.size A (u64s xs)) :
    Calls Try.prog 4 #[.agg (wq L), .string s, .slice A xs.length c] w fun e w' => e = .returned (.bool true) ∧ Below w.heap.size w w' := by
  obtain ⟨b3, hb3⟩ : ∃ b, b = w.heap.size := ⟨_, rfl⟩
  have HR := Lib.hid (RowAt.new w 26 (wq L))
  have HB := Lib.hid ((Below.refl _ w).alloc (Nat.le_refl _) (.cells (wq L) 26))
  have HL := Lib.hid hL
  have HSZ : Hid ((wq L).size = 128) := Lib.hid (by rw [wq_size]; exact hL.1)
  have CA := Lib.hid awake19_any
  have ht := textl_same (strOf (byB L))
  have hts : (strOf (byB L)).size = 1024 := by rw [strOf_size _ (byB_lt L), byB_length hL]
  have CB : Hid (∀ w : World, Calls Try.prog 10 #[.agg (wq L)] w fun e w' => e = .returned (.string (strOf (byB L))) ∧ Below w.heap.size w w') := Lib.hid (bytes_any hL)
  have HBY : Hid (∀ w : World, Calls Try.prog 10 #[.agg (wq L)] w fun e w' => ∃ v, e = .returned v ∧ Is (.string (strOf (byB L))) v w' ∧ Below w.heap.size w w') := Lib.hid fun w => (bytes_any hL w).mono fun e w' ⟨he, hb⟩ => ⟨_, he, rfl, hb⟩
  have HRB : Hid (∀ w : World, Calls Try.prog 11 #[.agg (wq L)] w fun e w' => ∃ v, e = .returned v ∧ Is (.string (strOf (byB L))) v w' ∧ Below w.heap.size w w') := Lib.hid fun w => (rbytes_any hL w).mono fun e w' ⟨he, hb⟩ => ⟨_, he, rfl, hb⟩
  have CF : Hid (∀ w : World, Calls Try.prog 12 #[.string (strOf (byB L))] w fun e w' => e = .returned (.tuple #[.agg (wq L), .int .i64 0]) ∧ Below w.heap.size w w') := Lib.hid fun w => by
    have h := from_any (strOf (byB L)) hts w
    rwa [nb_str _ (byB_lt L), fr_by hL] at h
  generalize strOf (byB L) = t at *
  have HXS := Lib.hid hx
  have HRD := Lib.hid hr
  clear hL hts hx hr
  rw [← hb3] at HR
  go_enter Try.func4, Try.ntmps4
  go_wp2_with fail
  rw [← hb3]
  refine (CA.out _).mono ?_
  rintro e w2 ⟨rfl, hb2⟩
  have HR2 := Lib.hid (HR.out.below hb2 HR.out.lt)
  have B2 := Lib.hid (below_step HB.out hb2)
  clear hb2 HR HB CA hb3
  go_wp2
  refine wp_region_text [Is (.agg (wq L)), Is (.string t), Is (.agg (wq L)), Is (.string t), Is (.bool false)] (by kernel_rfl) (by kernel_rfl) rfl ⟨stable_is _, stable_is _, stable_is _, stable_is _, stable_is _, trivial⟩ ⟨?_, ?_, ?_, ?_, ?_, trivial⟩ ?_
  · intro a w C
    exact part_on (wanted_free rfl _) (op_value (bload_run rfl (C.was 3 (by kernel_rfl)) (HR2.out.below C.below HR2.out.lt) (by rw [HSZ.out])) rfl)
  · intro a w C
    exact part_on (wanted_free rfl _) (op_call1 rfl (reg_enters Try.func10 (by kernel_rfl) (by kernel_rfl)) (C.on (j := 0) (by kernel_rfl) rfl rfl) (HBY.out w))
  · intro a w C
    exact part_on (wanted_free rfl _) (op_value (bload_run rfl (C.was 3 (by kernel_rfl)) (HR2.out.below C.below HR2.out.lt) (by rw [HSZ.out])) rfl)
  · intro a w C
    exact part_on (wanted_free rfl _) (op_call1 rfl (reg_enters Try.func11 (by kernel_rfl) (by kernel_rfl)) (C.on (j := 2) (by kernel_rfl) rfl rfl) (HRB.out w))
  · intro a w C
    exact part_on (wanted_free rfl _) (op_bin rfl (C.on (j := 1) (by kernel_rfl) rfl rfl) (C.on (j := 3) (by kernel_rfl) rfl rfl) rfl (by simp [go_sem]) rfl)
  rintro wF hbF _ rfl _ rfl _ rfl _ rfl _ rfl
  simp only [Fin, setAt, Exit.then, List.setIfInBounds_toArray, List.set_cons_succ, List.set_cons_zero]
  have HR3 := Lib.hid (HR2.out.below hbF HR2.out.lt)
  have B3 := Lib.hid (B2.out.trans (hbF.mono B2.out.size))
  clear hbF HR2 B2 HBY HRB
  have hz := zero_b
  go_wp2_with (refine wpList_load_row rfl 26 (.tmp 3) rfl b3 rfl 26 (wq L) (0, 0) _ HR3.out Try.underlying26 rfl (by rw [HSZ.out]; exact b_size) ?_)
  refine (CB.out _).mono ?_
  rintro e w4 ⟨rfl, hb4⟩
  have HR4 := Lib.hid (HR3.out.below hb4 HR3.out.lt)
  have B4 := Lib.hid (B3.out.trans (hb4.mono B3.out.size))
  clear hb4 HR3 B3 CB
  go_wp2_with fail
  refine (CF.out _).mono ?_
  rintro e w5 ⟨rfl, hb5⟩
  have HR5 := Lib.hid (HR4.out.below hb5 HR4.out.lt)
  have B5 := Lib.hid (B4.out.trans (hb5.mono B4.out.size))
  clear hb5 HR4 B4 CF
  have HN5 := Lib.hid (newb w5 L)
  have HR6 := Lib.hid (HR5.out.below HN5.out.2 HR5.out.lt)
  have B6 := Lib.hid (B5.out.trans (HN5.out.2.mono B5.out.size))
  obtain ⟨b7, hb7⟩ : ∃ b, b = w5.heap.size := ⟨_, rfl⟩
  go_wp2_with (first
    | refine wpList_store_row rfl 26 (.tmp 7) (.tmp 26) rfl w5.heap.size (wq L) rfl rfl 26 _ (RowAt.new _ _ _) (by rw [HSZ.out]; exact b_size) (by rw [HSZ.out]; rfl) (wq_one _) ?_
    | refine wpList_value_want rfl _ (bload_run rfl rfl HN5.out.1 HSZ.out) ?_
    | refine wpList_value_want rfl _ (bload_run rfl rfl HR6.out HSZ.out) ?_
    | refine wpList_value_want rfl _ (bneq_run _ HL.out HL.out (k := false) (by simp) _ _ _ rfl rfl rfl) ?_)
  rw [← hb7] at HN5 HR6 B6 ⊢
  generalize World.setRow _ _ _ = w6 at *
  clear HR5 B5 hb7 HL
  clear HN5 HR6 HSZ
  have HZO := Lib.hid zb_ok
  have HZS : Hid ((wq zb).size = 128) := Lib.hid (by rw [wq_size]; exact zb_ok.1)
  have ew : (xs.length ≤ 128 ∧ decide ((xs.length : Int) > 128) = false) ∨ (128 < xs.length ∧ decide ((xs.length : Int) > 128) = true) := by simp; omega
  by_cases hs : s.size = 1024
  · have h1 : ((s.size : Int) == 1024) = true := by simp; omega
    have h2 : ((s.size : Int) != 1024) = false := by simp; omega
    obtain ⟨ts1, ts2⟩ := textl_same s
    have CS := Lib.hid (from_any s hs)
    have HDO := Lib.hid (frB_ok (nb s) (nb_lt s))
    have CR : Hid (∀ w : World, Calls Try.prog 11 #[.agg (wq (frB (nb s)))] w fun e w' => e = .returned (.string s) ∧ Below w.heap.size w w') := Lib.hid fun w => by
      have h := rbytes_any HDO.out w
      rwa [by_fr (nb s) (by rw [nb_length]; exact hs) (nb_lt s), str_nb] at h
    generalize frB (nb s) = d at *
    have HSD : Hid ((wq d).size = 128) := Lib.hid (by rw [wq_size]; exact HDO.out.1)
    clear hs
    refine (CS.out _).mono ?_
    rintro e w7 ⟨rfl, hb7⟩
    have B7 := Lib.hid (B6.out.trans (hb7.mono B6.out.size))
    clear hb7 B6 CS
    have HN7 := Lib.hid (newb w7 d)
    have B8 := Lib.hid (B7.out.trans (HN7.out.2.mono B7.out.size))
    obtain ⟨b9, hb9⟩ : ∃ b, b = w7.heap.size := ⟨_, rfl⟩
    go_wp2_with (first
      | refine wpList_store_row rfl 26 (.tmp 9) (.tmp 38) rfl w7.heap.size (wq d) rfl rfl 26 _ (RowAt.new _ _ _) (by rw [HSD.out]; exact b_size) (by rw [HSD.out]; rfl) (wq_one _) ?_
      | refine wpList_value_want rfl _ (bload_run rfl rfl HN7.out.1 HSD.out) ?_)
    rw [← hb9] at HN7 B8 ⊢
    generalize World.setRow _ _ _ = w8 at *
    clear B7 hb9
    refine (CR.out _).mono ?_
    rintro e w9 ⟨rfl, hb⟩
    have B9 := Lib.hid (B8.out.trans (hb.mono B8.out.size))
    clear hb B8 CR HN7 HSD HDO
    go_wp2_with fail
    rcases ew with ⟨hw, dw⟩ | ⟨hw, dw⟩
    · have CO := Lib.hid (of_any A c xs hw HXS.out w9 ((HRD.out.below B9.out).more B9.out.size))
      have HOO := Lib.hid (ofB_ok hw HXS.out)
      have HOB : Hid (∀ i, i < 128 → (ofB xs).getD i 0 = xs.getD i 0) := Lib.hid fun i hi => by
        unfold ofB
        rw [List.getD_eq_getElem?_getD, List.getD_eq_getElem?_getD]
        by_cases h : i < xs.length
        · rw [List.getElem?_append_left h]
        · rw [List.getElem?_append_right (by omega), List.getElem?_replicate, List.getElem?_eq_none (show xs.length ≤ i by omega)]
          split <;> rfl
      generalize ofB xs = z at *
      have HSO : Hid ((wq z).size = 128) := Lib.hid (by rw [wq_size]; exact HOO.out.1)
      refine CO.out.mono ?_
      rintro e wa ⟨rfl, hba⟩
      have Ba := Lib.hid (B9.out.trans (hba.mono B9.out.size))
      clear hba B9 CO
      have HNa := Lib.hid (newb wa z)
      have Bb := Lib.hid (Ba.out.trans (HNa.out.2.mono Ba.out.size))
      obtain ⟨bb, hbb⟩ : ∃ b, b = wa.heap.size := ⟨_, rfl⟩
      go_wp2_with (first
        | refine wpList_store_row rfl 26 (.tmp 11) (.tmp 61) rfl wa.heap.size (wq z) rfl rfl 26 _ (RowAt.new _ _ _) (by rw [HSO.out]; exact b_size) (by rw [HSO.out]; rfl) (wq_one _) ?_
        | refine wpList_value_want rfl _ (bload_run rfl rfl HNa.out.1 HSO.out) ?_)
      rw [← hbb] at HNa Bb ⊢
      generalize World.setRow _ _ _ = wb at *
      clear Ba hbb
      go_loopw [13, 14, 74] (fun _ _ v74 wr => ∃ i : Nat, i ≤ 128 ∧ v74 = .int .i64 (i : Int) ∧ wr = wb) (fun _ _ v74 _ => 128 - (intOf v74).toNat)
      case atStart => exact ⟨0, by omega, rfl, rfl⟩
      case round =>
        obtain ⟨i, hi, rfl, rfl⟩ := hrel
        by_cases h : i < 128
        · have hdt : decide ((i : Int) < 128) = true := by simp; omega
          have ci := wq_at z i (by rw [HOO.out.1]; exact h)
          rw [HOB.out i h] at ci
          have hix := run_index_arr (P := Try.prog) wr Try.underlying26 (by kernel_rfl) Try.underlying24 i h ci
          clear ci
          by_cases hl : i < xs.length
          · have hdl : decide ((i : Int) < (xs.length : Int)) = true := by simp; omega
            have hi0 : (0 : Int) ≤ (i : Int) := by omega
            have hi1 : (i : Int) < (xs.length : Int) := by omega
            obtain ⟨b, off, rfl, hbw, hcw⟩ := (HRD.out.below Bb.out) i (by rw [u64s_length]; exact hl)
            rw [u64_at] at hcw
            have ex : xs.getD i 0 = xs[i] := by rw [List.getD_eq_getElem?_getD, List.getElem?_eq_getElem hl]; rfl
            rw [ex] at hix
            generalize xs[i] = x at *
            have e1 : ((x : Int) != (x : Int)) = false := by simp
            have e2 : ((x : Int) == (x : Int)) = true := by simp
            clear ex
            go_wp2
            go_roundw
            case rel => exact ⟨i + 1, by omega, by go_num, trivial⟩
            case measure => simp [intOf]; omega
          · have hdl : decide ((i : Int) < (xs.length : Int)) = false := by simp; omega
            have hdg : decide ((i : Int) ≥ (xs.length : Int)) = true := by simp; omega
            have ex : xs.getD i 0 = 0 := by rw [List.getD_eq_getElem?_getD, List.getElem?_eq_none (by omega)]; rfl
            rw [ex] at hix
            clear ex
            go_wp2
            go_roundw
            case rel => exact ⟨i + 1, by omega, by go_num, trivial⟩
            case measure => simp [intOf]; omega
        · obtain rfl : i = 128 := by omega
          have hdt : decide (((128 : Nat) : Int) < 128) = false := by simp
          go_wp2
          go_ret
          exact ⟨rfl, Bb.out⟩
    · have CO := Lib.hid (of_bad A xs.length c hw w9)
      refine CO.out.mono ?_
      rintro e wa ⟨rfl, hba⟩
      have Ba := Lib.hid (B9.out.trans (hba.mono B9.out.size))
      clear hba B9 CO
      have HNa := Lib.hid (newb wa zb)
      have Bb := Lib.hid (Ba.out.trans (HNa.out.2.mono Ba.out.size))
      obtain ⟨bb, hbb⟩ : ∃ b, b = wa.heap.size := ⟨_, rfl⟩
      go_wp2_with (first
        | refine wpList_store_row rfl 26 (.tmp 11) (.tmp 61) rfl wa.heap.size (wq zb) rfl rfl 26 _ (RowAt.new _ _ _) (by rw [HZS.out]; exact b_size) rfl (wq_one _) ?_
        | refine wpList_value_want rfl _ (bload_run rfl rfl HNa.out.1 HZS.out) ?_
        | refine wpList_value_want rfl _ (bbuild_run _ _ rfl) ?_
        | refine wpList_value_want rfl _ (beql_run _ HZO.out HZO.out (k := true) (by simp) _ _ _ rfl rfl rfl) ?_)
      go_ret
      exact ⟨rfl, Bb.out⟩
  · have h1 : ((s.size : Int) == 1024) = false := by simp; omega
    have h2 : ((s.size : Int) != 1024) = true := by simp; omega
    have CS := Lib.hid (from_bad s hs)
    clear hs
    refine (CS.out _).mono ?_
    rintro e w7 ⟨rfl, hb7⟩
    have B7 := Lib.hid (B6.out.trans (hb7.mono B6.out.size))
    clear hb7 B6 CS
    have HN7 := Lib.hid (newb w7 zb)
    have B8 := Lib.hid (B7.out.trans (HN7.out.2.mono B7.out.size))
    obtain ⟨b9, hb9⟩ : ∃ b, b = w7.heap.size := ⟨_, rfl⟩
    go_wp2_with (first
      | refine wpList_store_row rfl 26 (.tmp 9) (.tmp 38) rfl w7.heap.size (wq zb) rfl rfl 26 _ (RowAt.new _ _ _) (by rw [HZS.out]; exact b_size) rfl (wq_one _) ?_
      | refine wpList_value_want rfl _ (bload_run rfl rfl HN7.out.1 HZS.out) ?_
      | refine wpList_value_want rfl _ (bbuild_run _ _ rfl) ?_
      | refine wpList_value_want rfl _ (bneq_run _ HZO.out HZO.out (k := false) (by simp) _ _ _ rfl rfl rfl) ?_)
    rw [← hb9] at HN7 B8 ⊢
    generalize World.setRow _ _ _ = w8 at *
    clear B7 hb9
    obtain ⟨w9, rfl⟩ : ∃ w9, w9 = w8 := ⟨_, rfl⟩
    have B9 := B8
    clear B8 HN7
    rcases ew with ⟨hw, dw⟩ | ⟨hw, dw⟩
    · have CO := Lib.hid (of_any A c xs hw HXS.out w9 ((HRD.out.below B9.out).more B9.out.size))
      have HOO := Lib.hid (ofB_ok hw HXS.out)
      have HOB : Hid (∀ i, i < 128 → (ofB xs).getD i 0 = xs.getD i 0) := Lib.hid fun i hi => by
        unfold ofB
        rw [List.getD_eq_getElem?_getD, List.getD_eq_getElem?_getD]
        by_cases h : i < xs.length
        · rw [List.getElem?_append_left h]
        · rw [List.getElem?_append_right (by omega), List.getElem?_replicate, List.getElem?_eq_none (show xs.length ≤ i by omega)]
          split <;> rfl
      generalize ofB xs = z at *
      have HSO : Hid ((wq z).size = 128) := Lib.hid (by rw [wq_size]; exact HOO.out.1)
      refine CO.out.mono ?_
      rintro e wa ⟨rfl, hba⟩
      have Ba := Lib.hid (B9.out.trans (hba.mono B9.out.size))
      clear hba B9 CO
      have HNa := Lib.hid (newb wa z)
      have Bb := Lib.hid (Ba.out.trans (HNa.out.2.mono Ba.out.size))
      obtain ⟨bb, hbb⟩ : ∃ b, b = wa.heap.size := ⟨_, rfl⟩
      go_wp2_with (first
        | refine wpList_store_row rfl 26 (.tmp 11) (.tmp 61) rfl wa.heap.size (wq z) rfl rfl 26 _ (RowAt.new _ _ _) (by rw [HSO.out]; exact b_size) (by rw [HSO.out]; rfl) (wq_one _) ?_
        | refine wpList_value_want rfl _ (bload_run rfl rfl HNa.out.1 HSO.out) ?_)
      rw [← hbb] at HNa Bb ⊢
      generalize World.setRow _ _ _ = wb at *
      clear Ba hbb
      go_loopw [13, 14, 74] (fun _ _ v74 wr => ∃ i : Nat, i ≤ 128 ∧ v74 = .int .i64 (i : Int) ∧ wr = wb) (fun _ _ v74 _ => 128 - (intOf v74).toNat)
      case atStart => exact ⟨0, by omega, rfl, rfl⟩
      case round =>
        obtain ⟨i, hi, rfl, rfl⟩ := hrel
        by_cases h : i < 128
        · have hdt : decide ((i : Int) < 128) = true := by simp; omega
          have ci := wq_at z i (by rw [HOO.out.1]; exact h)
          rw [HOB.out i h] at ci
          have hix := run_index_arr (P := Try.prog) wr Try.underlying26 (by kernel_rfl) Try.underlying24 i h ci
          clear ci
          by_cases hl : i < xs.length
          · have hdl : decide ((i : Int) < (xs.length : Int)) = true := by simp; omega
            have hi0 : (0 : Int) ≤ (i : Int) := by omega
            have hi1 : (i : Int) < (xs.length : Int) := by omega
            obtain ⟨b, off, rfl, hbw, hcw⟩ := (HRD.out.below Bb.out) i (by rw [u64s_length]; exact hl)
            rw [u64_at] at hcw
            have ex : xs.getD i 0 = xs[i] := by rw [List.getD_eq_getElem?_getD, List.getElem?_eq_getElem hl]; rfl
            rw [ex] at hix
            generalize xs[i] = x at *
            have e1 : ((x : Int) != (x : Int)) = false := by simp
            have e2 : ((x : Int) == (x : Int)) = true := by simp
            clear ex
            go_wp2
            go_roundw
            case rel => exact ⟨i + 1, by omega, by go_num, trivial⟩
            case measure => simp [intOf]; omega
          · have hdl : decide ((i : Int) < (xs.length : Int)) = false := by simp; omega
            have hdg : decide ((i : Int) ≥ (xs.length : Int)) = true := by simp; omega
            have ex : xs.getD i 0 = 0 := by rw [List.getD_eq_getElem?_getD, List.getElem?_eq_none (by omega)]; rfl
            rw [ex] at hix
            clear ex
            go_wp2
            go_roundw
            case rel => exact ⟨i + 1, by omega, by go_num, trivial⟩
            case measure => simp [intOf]; omega
        · obtain rfl : i = 128 := by omega
          have hdt : decide (((128 : Nat) : Int) < 128) = false := by simp
          go_wp2
          go_ret
          exact ⟨rfl, Bb.out⟩
    · have CO := Lib.hid (of_bad A xs.length c hw w9)
      refine CO.out.mono ?_
      rintro e wa ⟨rfl, hba⟩
      have Ba := Lib.hid (B9.out.trans (hba.mono B9.out.size))
      clear hba B9 CO
      have HNa := Lib.hid (newb wa zb)
      have Bb := Lib.hid (Ba.out.trans (HNa.out.2.mono Ba.out.size))
      obtain ⟨bb, hbb⟩ : ∃ b, b = wa.heap.size := ⟨_, rfl⟩
      go_wp2_with (first
        | refine wpList_store_row rfl 26 (.tmp 11) (.tmp 61) rfl wa.heap.size (wq zb) rfl rfl 26 _ (RowAt.new _ _ _) (by rw [HZS.out]; exact b_size) rfl (wq_one _) ?_
        | refine wpList_value_want rfl _ (bload_run rfl rfl HNa.out.1 HZS.out) ?_
        | refine wpList_value_want rfl _ (bbuild_run _ _ rfl) ?_
        | refine wpList_value_want rfl _ (beql_run _ HZO.out HZO.out (k := true) (by simp) _ _ _ rfl rfl rfl) ?_)
      go_ret
      exact ⟨rfl, Bb.out⟩
end Go.Proofs.Ytnolgjbehnjomaa

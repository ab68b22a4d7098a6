/- The document's Same, of two grids of the same blocks, by its contract. Conditions: those typed. -/
import Derived.Test.YtpampgkhjcfeaaaDoorGdAll
namespace Go.Proofs.YtpampgkhjcfeaaaDoor
set_option maxRecDepth 50000
open Go.RowKit Bb

set_option maxHeartbeats 6400000 in
theorem same_at {w : World} {N1 N2 c l o1 o2 kk1 kk2 : Nat} {gs1 gs2 : List Nat} {L : List (List Nat)} (h1 : DocAt w N1 (.slice (some ⟨o1, 0, none⟩) l kk1) c gs1 L) (h2 : DocAt w N2 (.slice (some ⟨o2, 0, none⟩) l kk2) c gs2 L) (hl1 : gs1.length = l) (hl2 : gs2.length = l) (hl : l ≤ 1000) (hc : c ≤ 4194304) :
    Calls Tryd.prog 13 #[.slice (some ⟨o1, 0, none⟩) l kk1, .slice (some ⟨o2, 0, none⟩) l kk2] w fun e w' => e = .returned (.bool true) ∧ Below w.heap.size w w' := by
  have HL1 := Lib.hid hl1
  have HL2 := Lib.hid hl2
  have H1 := Lib.hid h1
  have H2 := Lib.hid h2
  clear h1 h2 hl1 hl2
  go_enter Tryd.func13, Tryd.ntmps13
  go_wp2
  go_loopw [5] (fun v5 wr => ∃ i : Nat, i ≤ l ∧ v5 = .int .i64 (i : Int) ∧ Hid (Below w.heap.size w wr)) (fun v5 _ => l - (intOf v5).toNat)
  case atStart => exact ⟨0, Nat.zero_le _, rfl, Lib.hid (Below.refl _ _)⟩
  case round =>
    obtain ⟨i, hi, rfl, HB⟩ := hrel
    by_cases h : i < l
    · have hd : decide ((i : Int) < (l : Int)) = true := by simp; omega
      have hd2 : decide (i < l) = true := by simp; omega
      have hi0 : (0 : Int) ≤ (i : Int) := by omega
      have hi1 : (i : Int) < (l : Int) := by omega
      have HI := Lib.hid h
      obtain ⟨g1, hg1⟩ : ∃ g1, g1 = gs1.getD i 0 := ⟨_, rfl⟩
      obtain ⟨g2, hg2⟩ : ∃ g2, g2 = gs2.getD i 0 := ⟨_, rfl⟩
      have HR : Hid (∀ u, Below w.heap.size w u → (loadVar 52 ⟨o1, i, none⟩).run Tryd.prog u = .ok (.slice (some ⟨g1, 0, none⟩) c c) u ∧ (loadVar 52 ⟨o2, i, none⟩).run Tryd.prog u = .ok (.slice (some ⟨g2, 0, none⟩) c c) u ∧ u.cell? ⟨o1, i, none⟩ = some (.slice (some ⟨g1, 0, none⟩) c c) ∧ BlkAt u g1 (lane c L i) ∧ BlkAt u g2 (lane c L i)) := Lib.hid fun u hu => by
        have r1 := (H1.out.step hu).row (i := i) (by rw [HL1.out]; exact h)
        have r2 := (H2.out.step hu).row (i := i) (by rw [HL2.out]; exact h)
        have b1 := (H1.out.step hu).blk i (by rw [HL1.out]; exact h)
        have b2 := (H2.out.step hu).blk i (by rw [HL2.out]; exact h)
        rw [← hg1] at r1 b1
        rw [← hg2] at r2 b2
        exact ⟨by simp [r1, go_sem], by simp [r2, go_sem], r1, b1, b2⟩
      have HF : Hid (∀ u, Below wr.heap.size wr u → (loadVar 52 ⟨o1, i, none⟩).run Tryd.prog u = .ok (.slice (some ⟨g1, 0, none⟩) c c) u ∧ (loadVar 52 ⟨o2, i, none⟩).run Tryd.prog u = .ok (.slice (some ⟨g2, 0, none⟩) c c) u ∧ True) := Lib.hid fun u hu => by
        obtain ⟨a1, a2, _⟩ := HR.out u (below_step HB.out hu)
        exact ⟨a1, a2, trivial⟩
      have HO := Lib.hid (lane_ok (i := i) (c := c) H1.out.ok)
      have HLn := Lib.hid (lane_length (i := i) H1.out.len (by rw [HL1.out]; exact h))
      clear hg1 hg2
      go_wp2
      refine wp_region_text [Is (.slice (some ⟨o1, 0, none⟩) l kk1), Is (.int .i64 (i : Int)), Is (.pointer (some ⟨o1, i, none⟩)), Is (.slice (some ⟨g1, 0, none⟩) c c), Is (.int .i64 (c : Int)), Is (.slice (some ⟨o2, 0, none⟩) l kk2), Is (.int .i64 (i : Int)), Is (.pointer (some ⟨o2, i, none⟩)), Is (.slice (some ⟨g2, 0, none⟩) c c), Is (.int .i64 (c : Int)), Is (.bool false)] (by kernel_rfl) (by kernel_rfl) rfl ⟨stable_is _, stable_is _, stable_is _, stable_is _, stable_is _, stable_is _, stable_is _, stable_is _, stable_is _, stable_is _, stable_is _, trivial⟩ ⟨?_, ?_, ?_, ?_, ?_, ?_, ?_, ?_, ?_, ?_, ?_, trivial⟩ ?_
      · intro a w C
        exact part_on (wanted_free rfl _) (op_move (.inl rfl) (C.was 0 (by kernel_rfl)))
      · intro a w C
        exact part_on (wanted_free rfl _) (op_move (.inl rfl) (C.was 5 (by kernel_rfl)))
      · intro a w C
        exact part_on (wanted_free rfl _) (op_value (ixg_run rfl (C.on (j := 0) (by kernel_rfl) rfl rfl) (C.on (j := 1) (by kernel_rfl) rfl rfl) HI.out) rfl)
      · intro a w C
        exact part_on (wanted_free rfl _) (op_value (load_run rfl (C.on (j := 2) (by kernel_rfl) rfl rfl) (HF.out _ C.below).1) rfl)
      · intro a w C
        exact part_on (wanted_free rfl _) (op_len_slice rfl Tryd.underlying52 (C.on (j := 3) (by kernel_rfl) rfl rfl) rfl)
      · intro a w C
        exact part_on (wanted_free rfl _) (op_move (.inl rfl) (C.was 1 (by kernel_rfl)))
      · intro a w C
        exact part_on (wanted_free rfl _) (op_move (.inl rfl) (C.was 5 (by kernel_rfl)))
      · intro a w C
        exact part_on (wanted_free rfl _) (op_value (ixg_run rfl (C.on (j := 5) (by kernel_rfl) rfl rfl) (C.on (j := 6) (by kernel_rfl) rfl rfl) HI.out) rfl)
      · intro a w C
        exact part_on (wanted_free rfl _) (op_value (load_run rfl (C.on (j := 7) (by kernel_rfl) rfl rfl) (HF.out _ C.below).2.1) rfl)
      · intro a w C
        exact part_on (wanted_free rfl _) (op_len_slice rfl Tryd.underlying52 (C.on (j := 8) (by kernel_rfl) rfl rfl) rfl)
      · intro a w C
        exact part_on (wanted_free rfl _) (op_bin rfl (C.on (j := 4) (by kernel_rfl) rfl rfl) (C.on (j := 9) (by kernel_rfl) rfl rfl) rfl (by simp [go_sem]) rfl)
      rintro wF hbF _ rfl _ rfl _ rfl _ rfl _ rfl _ rfl _ rfl _ rfl _ rfl _ rfl _ rfl
      simp only [Fin, setAt, Exit.then, List.setIfInBounds_toArray, List.set_cons_succ, List.set_cons_zero]
      have HBF := Lib.hid (below_step HB.out hbF)
      clear hbF HF HB
      go_wp2
      go_loopw [6] (fun v6 wr => ∃ k : Nat, k ≤ c ∧ v6 = .int .i64 (k : Int) ∧ Hid (Below w.heap.size w wr)) (fun v6 _ => c - (intOf v6).toNat)
      case atStart => exact ⟨0, Nat.zero_le _, rfl, HBF⟩
      case round =>
        obtain ⟨k, hk, rfl, HB3⟩ := hrel
        obtain ⟨-, -, kr, -, -⟩ := HR.out _ HB3.out
        by_cases hkc : k < c
        · have hd3 : decide ((k : Int) < (c : Int)) = true := by simp; omega
          have hd4 : decide (k < c) = true := by simp; omega
          have HKc := Lib.hid hkc
          have HX := Lib.hid (block_ok HO.out k (by rw [HLn.out]; exact hkc))
          have HF2 : Hid (∀ u, Below wr.heap.size wr u → (loadVar 52 ⟨o1, i, none⟩).run Tryd.prog u = .ok (.slice (some ⟨g1, 0, none⟩) c c) u ∧ (loadVar 52 ⟨o2, i, none⟩).run Tryd.prog u = .ok (.slice (some ⟨g2, 0, none⟩) c c) u ∧ (loadVar 29 ⟨g1, k * 128, none⟩).run Tryd.prog u = .ok (.agg (wq ((lane c L i).getD k []))) u ∧ (loadVar 29 ⟨g2, k * 128, none⟩).run Tryd.prog u = .ok (.agg (wq ((lane c L i).getD k []))) u) := Lib.hid fun u hu => by
            obtain ⟨a1, a2, _, b1, b2⟩ := HR.out u (below_step HB3.out hu)
            exact ⟨a1, a2, b1.load HO.out k (by rw [HLn.out]; exact hkc), b2.load HO.out k (by rw [HLn.out]; exact hkc)⟩
          generalize (lane c L i).getD k [] = x at *
          go_wp2
          refine wp_region_text [Is (.slice (some ⟨o1, 0, none⟩) l kk1), Is (.int .i64 (i : Int)), Is (.pointer (some ⟨o1, i, none⟩)), Is (.slice (some ⟨g1, 0, none⟩) c c), Is (.int .i64 (k : Int)), Is (.pointer (some ⟨g1, k * 128, none⟩)), Is (.agg (wq x)), Is (.slice (some ⟨o2, 0, none⟩) l kk2), Is (.int .i64 (i : Int)), Is (.pointer (some ⟨o2, i, none⟩)), Is (.slice (some ⟨g2, 0, none⟩) c c), Is (.int .i64 (k : Int)), Is (.pointer (some ⟨g2, k * 128, none⟩)), Is (.agg (wq x)), Is (.bool false)] (by kernel_rfl) (by kernel_rfl) rfl ⟨stable_is _, stable_is _, stable_is _, stable_is _, stable_is _, stable_is _, stable_is _, stable_is _, stable_is _, stable_is _, stable_is _, stable_is _, stable_is _, stable_is _, stable_is _, trivial⟩ ⟨?_, ?_, ?_, ?_, ?_, ?_, ?_, ?_, ?_, ?_, ?_, ?_, ?_, ?_, ?_, trivial⟩ ?_
          · intro a w C
            exact part_on (wanted_free rfl _) (op_move (.inl rfl) (C.was 0 (by kernel_rfl)))
          · intro a w C
            exact part_on (wanted_free rfl _) (op_move (.inl rfl) (C.was 5 (by kernel_rfl)))
          · intro a w C
            exact part_on (wanted_free rfl _) (op_value (ixg_run rfl (C.on (j := 0) (by kernel_rfl) rfl rfl) (C.on (j := 1) (by kernel_rfl) rfl rfl) HI.out) rfl)
          · intro a w C
            exact part_on (wanted_free rfl _) (op_value (load_run rfl (C.on (j := 2) (by kernel_rfl) rfl rfl) (HF2.out _ C.below).1) rfl)
          · intro a w C
            exact part_on (wanted_free rfl _) (op_move (.inl rfl) (C.was 6 (by kernel_rfl)))
          · intro a w C
            exact part_on (wanted_free rfl _) (op_value (ixr_run rfl (C.on (j := 3) (by kernel_rfl) rfl rfl) (C.on (j := 4) (by kernel_rfl) rfl rfl) HKc.out) rfl)
          · intro a w C
            exact part_on (wanted_free rfl _) (op_value (load_run rfl (C.on (j := 5) (by kernel_rfl) rfl rfl) (HF2.out _ C.below).2.2.1) rfl)
          · intro a w C
            exact part_on (wanted_free rfl _) (op_move (.inl rfl) (C.was 1 (by kernel_rfl)))
          · intro a w C
            exact part_on (wanted_free rfl _) (op_move (.inl rfl) (C.was 5 (by kernel_rfl)))
          · intro a w C
            exact part_on (wanted_free rfl _) (op_value (ixg_run rfl (C.on (j := 7) (by kernel_rfl) rfl rfl) (C.on (j := 8) (by kernel_rfl) rfl rfl) HI.out) rfl)
          · intro a w C
            exact part_on (wanted_free rfl _) (op_value (load_run rfl (C.on (j := 9) (by kernel_rfl) rfl rfl) (HF2.out _ C.below).2.1) rfl)
          · intro a w C
            exact part_on (wanted_free rfl _) (op_move (.inl rfl) (C.was 6 (by kernel_rfl)))
          · intro a w C
            exact part_on (wanted_free rfl _) (op_value (ixr_run rfl (C.on (j := 10) (by kernel_rfl) rfl rfl) (C.on (j := 11) (by kernel_rfl) rfl rfl) HKc.out) rfl)
          · intro a w C
            exact part_on (wanted_free rfl _) (op_value (load_run rfl (C.on (j := 12) (by kernel_rfl) rfl rfl) (HF2.out _ C.below).2.2.2) rfl)
          · intro a w C
            exact part_on (wanted_free rfl _) (op_value (bneq_run _ HX.out HX.out (k := false) (by simp) _ _ _ rfl (C.on (j := 6) (by kernel_rfl) rfl rfl) (C.on (j := 13) (by kernel_rfl) rfl rfl)) rfl)
          rintro wF hbF _ rfl _ rfl _ rfl _ rfl _ rfl _ rfl _ rfl _ rfl _ rfl _ rfl _ rfl _ rfl _ rfl _ rfl _ rfl
          simp only [Fin, setAt, Exit.then, List.setIfInBounds_toArray, List.set_cons_succ, List.set_cons_zero]
          have HB4 := Lib.hid (below_step HB3.out hbF)
          clear hbF HF2 HB3 HX
          go_wp2
          go_roundw
          case rel => exact ⟨k + 1, by omega, by go_num, HB4⟩
          case measure => simp [intOf]; omega
        · obtain rfl : k = c := by omega
          have hd3 : decide ((k : Int) < (k : Int)) = false := by simp
          go_wp2
          go_roundw
          case rel => exact ⟨i + 1, by omega, by go_num, HB3⟩
          case measure => simp [intOf]; omega
    · obtain rfl : i = l := by omega
      have hd : decide ((i : Int) < (i : Int)) = false := by simp
      go_wp2
      go_ret
      exact ⟨rfl, HB.out⟩
theorem same_any {w : World} {N1 N2 c l : Nat} {v1 v2 : Value} {gs1 gs2 : List Nat} {L : List (List Nat)} (h1 : DocAt w N1 v1 c gs1 L) (h2 : DocAt w N2 v2 c gs2 L) (hl1 : gs1.length = l) (hl2 : gs2.length = l) (hl0 : 0 < l) (hl : l ≤ 1000) (hc : c ≤ 4194304) :
    Calls Tryd.prog 13 #[v1, v2] w fun e w' => e = .returned (.bool true) ∧ Below w.heap.size w w' := by
  obtain ⟨o1, k1, rfl⟩ := h1.head (by omega)
  obtain ⟨o2, k2, rfl⟩ := h2.head (by omega)
  rw [hl1] at h1 ⊢
  rw [hl2] at h2 ⊢
  exact same_at h1 h2 hl1 hl2 hl hc
end Go.Proofs.YtpampgkhjcfeaaaDoor

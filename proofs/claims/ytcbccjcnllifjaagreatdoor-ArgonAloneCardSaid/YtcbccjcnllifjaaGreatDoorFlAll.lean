/- hollow and All of package fill: all blocks are filled, by their contracts. Conditions: those typed. -/
import Derived.Test.YtcbccjcnllifjaaGreatDoorFlSeg
namespace Go.Proofs.YtcbccjcnllifjaaGreatDoor
set_option maxRecDepth 50000
open Go.RowKit Bb Bn
theorem hollow_any {a t l m b c g z q pc h G : Nat} {L : List (List Nat)} {w : World} (hG : GrAt w q pc h G a t l m b c g z L) (h1 : 1 ≤ l) (h2 : l ≤ L.length) (h3 : 1 ≤ g) : Calls Tryz.prog 53 #[.pointer (some ⟨q, 0, none⟩)] w fun e w' => e = .returned (.bool false) ∧ Below w.heap.size w w' := by
  have e1 : ¬ (l : Int) < 1 := by omega
  have e2 : ¬ ((L.length : Nat) : Int) < (l : Int) := by omega
  have e3 : ¬ (g : Int) < 1 := by omega
  have CLen : Hid (∀ u, Below w.heap.size w u → Calls Tryz.prog 63 #[.pointer (some ⟨pc, 0, none⟩)] u fun e w' => ∃ v, e = .returned v ∧ Is (.int .i64 ((L.length : Nat) : Int)) v w' ∧ Below u.heap.size u w') := Lib.hid fun u hu => calls_is ((len_any (hG.step hu).live.row).mono fun e w' ⟨he, hw⟩ => ⟨he, hw ▸ Below.refl _ _⟩)
  have HX : Hid (∀ u, Below w.heap.size w u → GrRow u q pc a t l m b c g z) := Lib.hid fun u hu => hG.row.step hu
  generalize L.length = n at *
  clear hG h1 h2 h3
  go_enter Tryz.func53, Tryz.ntmps53
  go_upto_region 1 with fail
  refine wp_region_text [Is (.pointer (some ⟨q, 0, none⟩)), Is (.bool false), Is (.bool false), Is (.pointer (some ⟨q, 0, none⟩)), Is (.pointer (some ⟨q, 0, none⟩)), Is (.pointer (some ⟨q, 1, none⟩)), Is (.pointer (some ⟨q, 3, none⟩)), Is (.int .i64 (l : Int)), Is (.bool false), Is (.bool false), Is (.bool false), Is (.pointer (some ⟨q, 0, none⟩)), Is (.pointer (some ⟨q, 0, none⟩)), Is (.pointer (some ⟨q, 1, none⟩)), Is (.pointer (some ⟨q, 3, none⟩)), Is (.int .i64 (l : Int)), Is (.pointer (some ⟨q, 0, none⟩)), Is (.pointer (some ⟨q, 0, none⟩)), Is (.pointer (some ⟨q, 0, none⟩)), Is (.pointer (some ⟨pc, 0, none⟩)), Is (.int .i64 (n : Int)), Is (.bool false), Is (.bool false), Is (.bool false), Is (.pointer (some ⟨q, 0, none⟩)), Is (.pointer (some ⟨q, 0, none⟩)), Is (.pointer (some ⟨q, 1, none⟩)), Is (.pointer (some ⟨q, 7, none⟩)), Is (.int .i64 (g : Int)), Is (.bool false), Is (.bool false), Is (.bool false)] (by kernel_rfl) (by kernel_rfl) rfl ⟨stable_is _, stable_is _, stable_is _, stable_is _, stable_is _, stable_is _, stable_is _, stable_is _, stable_is _, stable_is _, stable_is _, stable_is _, stable_is _, stable_is _, stable_is _, stable_is _, stable_is _, stable_is _, stable_is _, stable_is _, stable_is _, stable_is _, stable_is _, stable_is _, stable_is _, stable_is _, stable_is _, stable_is _, stable_is _, stable_is _, stable_is _, stable_is _, trivial⟩ ⟨?_, ?_, ?_, ?_, ?_, ?_, ?_, ?_, ?_, ?_, ?_, ?_, ?_, ?_, ?_, ?_, ?_, ?_, ?_, ?_, ?_, ?_, ?_, ?_, ?_, ?_, ?_, ?_, ?_, ?_, ?_, ?_, trivial⟩ ?_
  · intro a w C
    exact part_on (wanted_free rfl _) (op_move (.inl rfl) (C.was 0 (by kernel_rfl)))
  · intro a w C
    exact part_on (wanted_free rfl _) (op_bin rfl (C.on (j := 0) (by kernel_rfl) rfl rfl) rfl rfl (by simp [go_sem]) rfl)
  · intro a w C
    exact part_on (wanted_free rfl _) (op_move (.inl rfl) (C.on (j := 1) (by kernel_rfl) rfl rfl))
  · intro a w C
    exact part_on (wanted_on (j := 2) rfl rfl rfl (C.on (j := 2) (by kernel_rfl) rfl rfl)) (op_move (.inl rfl) (C.was 0 (by kernel_rfl)))
  · intro a w C
    exact part_on (wanted_on (j := 2) rfl rfl rfl (C.on (j := 2) (by kernel_rfl) rfl rfl)) (op_value (nil_run rfl (C.on (j := 3) (by kernel_rfl) rfl rfl)) rfl)
  · intro a w C
    exact part_on (wanted_on (j := 2) rfl rfl rfl (C.on (j := 2) (by kernel_rfl) rfl rfl)) (op_value (grf_run (k := 1) rfl (by decide) (C.on (j := 4) (by kernel_rfl) rfl rfl)) rfl)
  · intro a w C
    exact part_on (wanted_on (j := 2) rfl rfl rfl (C.on (j := 2) (by kernel_rfl) rfl rfl)) (op_value (spf_all (k := 2) rfl (by decide) (C.on (j := 5) (by kernel_rfl) rfl rfl)) rfl)
  · intro a w C
    exact part_on (wanted_on (j := 2) rfl rfl rfl (C.on (j := 2) (by kernel_rfl) rfl rfl)) (op_value (int_run rfl (C.on (j := 6) (by kernel_rfl) rfl rfl) (HX.out w C.below).lanes) rfl)
  · intro a w C
    exact part_on (wanted_on (j := 2) rfl rfl rfl (C.on (j := 2) (by kernel_rfl) rfl rfl)) (op_bin rfl (C.on (j := 7) (by kernel_rfl) rfl rfl) rfl rfl (by simp [go_sem, e1]) rfl)
  · intro a w C
    exact part_on (wanted_free rfl _) (op_pick (k := false) rfl (C.on (j := 2) (by kernel_rfl) rfl rfl) (C.on (j := 8) (by kernel_rfl) rfl rfl))
  · intro a w C
    exact part_on (wanted_free rfl _) (op_move (.inl rfl) (C.on (j := 9) (by kernel_rfl) rfl rfl))
  · intro a w C
    exact part_on (wanted_on (j := 10) rfl rfl rfl (C.on (j := 10) (by kernel_rfl) rfl rfl)) (op_move (.inl rfl) (C.was 0 (by kernel_rfl)))
  · intro a w C
    exact part_on (wanted_on (j := 10) rfl rfl rfl (C.on (j := 10) (by kernel_rfl) rfl rfl)) (op_value (nil_run rfl (C.on (j := 11) (by kernel_rfl) rfl rfl)) rfl)
  · intro a w C
    exact part_on (wanted_on (j := 10) rfl rfl rfl (C.on (j := 10) (by kernel_rfl) rfl rfl)) (op_value (grf_run (k := 1) rfl (by decide) (C.on (j := 12) (by kernel_rfl) rfl rfl)) rfl)
  · intro a w C
    exact part_on (wanted_on (j := 10) rfl rfl rfl (C.on (j := 10) (by kernel_rfl) rfl rfl)) (op_value (spf_all (k := 2) rfl (by decide) (C.on (j := 13) (by kernel_rfl) rfl rfl)) rfl)
  · intro a w C
    exact part_on (wanted_on (j := 10) rfl rfl rfl (C.on (j := 10) (by kernel_rfl) rfl rfl)) (op_value (int_run rfl (C.on (j := 14) (by kernel_rfl) rfl rfl) (HX.out w C.below).lanes) rfl)
  · intro a w C
    exact part_on (wanted_on (j := 10) rfl rfl rfl (C.on (j := 10) (by kernel_rfl) rfl rfl)) (op_move (.inl rfl) (C.was 0 (by kernel_rfl)))
  · intro a w C
    exact part_on (wanted_on (j := 10) rfl rfl rfl (C.on (j := 10) (by kernel_rfl) rfl rfl)) (op_value (nil_run rfl (C.on (j := 16) (by kernel_rfl) rfl rfl)) rfl)
  · intro a w C
    exact part_on (wanted_on (j := 10) rfl rfl rfl (C.on (j := 10) (by kernel_rfl) rfl rfl)) (op_value (grf_run (k := 0) rfl (by decide) (C.on (j := 17) (by kernel_rfl) rfl rfl)) rfl)
  · intro a w C
    exact part_on (wanted_on (j := 10) rfl rfl rfl (C.on (j := 10) (by kernel_rfl) rfl rfl)) (op_value (ptr_run rfl (C.on (j := 18) (by kernel_rfl) rfl rfl) (HX.out w C.below).piece) rfl)
  · intro a w C
    exact part_on (wanted_on (j := 10) rfl rfl rfl (C.on (j := 10) (by kernel_rfl) rfl rfl)) (op_call1 rfl (reg_enters Tryz.func63 (by kernel_rfl) (by kernel_rfl)) (C.on (j := 19) (by kernel_rfl) rfl rfl) (CLen.out w C.below))
  · intro a w C
    exact part_on (wanted_on (j := 10) rfl rfl rfl (C.on (j := 10) (by kernel_rfl) rfl rfl)) (op_bin rfl (C.on (j := 15) (by kernel_rfl) rfl rfl) (C.on (j := 20) (by kernel_rfl) rfl rfl) rfl (by simp [go_sem, e2]) rfl)
  · intro a w C
    exact part_on (wanted_free rfl _) (op_pick (k := false) rfl (C.on (j := 10) (by kernel_rfl) rfl rfl) (C.on (j := 21) (by kernel_rfl) rfl rfl))
  · intro a w C
    exact part_on (wanted_free rfl _) (op_move (.inl rfl) (C.on (j := 22) (by kernel_rfl) rfl rfl))
  · intro a w C
    exact part_on (wanted_on (j := 23) rfl rfl rfl (C.on (j := 23) (by kernel_rfl) rfl rfl)) (op_move (.inl rfl) (C.was 0 (by kernel_rfl)))
  · intro a w C
    exact part_on (wanted_on (j := 23) rfl rfl rfl (C.on (j := 23) (by kernel_rfl) rfl rfl)) (op_value (nil_run rfl (C.on (j := 24) (by kernel_rfl) rfl rfl)) rfl)
  · intro a w C
    exact part_on (wanted_on (j := 23) rfl rfl rfl (C.on (j := 23) (by kernel_rfl) rfl rfl)) (op_value (grf_run (k := 1) rfl (by decide) (C.on (j := 25) (by kernel_rfl) rfl rfl)) rfl)
  · intro a w C
    exact part_on (wanted_on (j := 23) rfl rfl rfl (C.on (j := 23) (by kernel_rfl) rfl rfl)) (op_value (spf_all (k := 6) rfl (by decide) (C.on (j := 26) (by kernel_rfl) rfl rfl)) rfl)
  · intro a w C
    exact part_on (wanted_on (j := 23) rfl rfl rfl (C.on (j := 23) (by kernel_rfl) rfl rfl)) (op_value (int_run rfl (C.on (j := 27) (by kernel_rfl) rfl rfl) (HX.out w C.below).segment) rfl)
  · intro a w C
    exact part_on (wanted_on (j := 23) rfl rfl rfl (C.on (j := 23) (by kernel_rfl) rfl rfl)) (op_bin rfl (C.on (j := 28) (by kernel_rfl) rfl rfl) rfl rfl (by simp [go_sem, e3]) rfl)
  · intro a w C
    exact part_on (wanted_free rfl _) (op_pick (k := false) rfl (C.on (j := 23) (by kernel_rfl) rfl rfl) (C.on (j := 29) (by kernel_rfl) rfl rfl))
  · intro a w C
    exact part_on (wanted_free rfl _) (op_move (.inr rfl) (C.on (j := 30) (by kernel_rfl) rfl rfl))
  rintro wF hbF _ rfl _ rfl _ rfl _ rfl _ rfl _ rfl _ rfl _ rfl _ rfl _ rfl _ rfl _ rfl _ rfl _ rfl _ rfl _ rfl _ rfl _ rfl _ rfl _ rfl _ rfl _ rfl _ rfl _ rfl _ rfl _ rfl _ rfl _ rfl _ rfl _ rfl _ rfl _ rfl
  simp only [Fin, setAt, Exit.then, List.setIfInBounds_toArray, List.set_cons_succ, List.set_cons_zero]
  go_wp2
  go_ret
  exact ⟨rfl, hbF⟩
set_option maxHeartbeats 12800000 in
theorem fillall_any {a t l m b c g z q pc h G : Nat} {L : List (List Nat)} {w : World} (S : Sh a t l b c g) (hG : GrAt w q pc h G a t l m b c g z L) (hL : L.length = l * c) {N0 : Nat} (hT : TAt w) (hN : TabN N0) (hx : N0 ≤ G) :
    Calls Tryz.prog 32 #[.pointer (some ⟨q, 0, none⟩)] w fun e w' => e = .returned (.int .i64 0) ∧ GrAt w' q pc h G a t l m b c g z (allTo a t l b c g L (4 * t)) ∧ Kept (fun j => j = G) w w' := by
  have hGw : G < w.heap.size := hG.live.blk.lt
  have hlm := S.lm
  have hl1 := S.l1
  have htm := S.tm
  have CH := Lib.hid (hollow_any hG S.l1 (by rw [hL]; exact Nat.le_mul_of_pos_right _ (by have := S.cg; have := S.g2; omega)) (by have := S.g2; omega))
  have HTA : Hid (∀ u, Below N0 w u → TAt u) := Lib.hid fun u hu => hT.kept2 hN hu
  have HGW := Lib.hid hGw
  have HG := Lib.hid hG
  have HL := Lib.hid hL
  clear hG hT hL hGw
  go_enter Tryz.func32, Tryz.ntmps32
  go_wp2_with fail
  refine CH.out.mono ?_
  rintro e w1 ⟨rfl, hb1⟩
  have HG1 := Lib.hid (HG.out.step (hb1.alloc hb1.size (.cells (tuc 0 0) 104)))
  have HK1 : Hid (Kept (fun j => j = G) w (w1.alloc (.cells (tuc 0 0) 104))) := Lib.hid (Kept.of_below (hb1.alloc hb1.size _))
  have HR1 := Lib.hid (RowAt.new w1 104 (tuc 0 0))
  have hs1 := hb1.size
  clear hb1 HG CH
  go_wp2
  go_loopg [3, 4] (4 * t) (fun g' v3 v4 wr => ∃ n r : Nat, n + g' = 4 * t ∧ v3 = .pointer (some ⟨r, 0, none⟩) ∧ v4 = .bool (decide (n < 4 * t)) ∧ w.heap.size ≤ r ∧ Hid (RowAt wr r 104 (tuc (tuA t n : Nat) (tuB t n : Nat))) ∧ Hid (GrAt wr q pc h G a t l m b c g z (allTo a t l b c g L n)) ∧ Hid (Kept (fun j => j = G) w wr))
  case atStart =>
    have ht1 := S.t1
    refine ⟨0, w1.heap.size, by omega, rfl, by simp; omega, hs1, ?_, HG1, HK1⟩
    have e1 : tuA t 0 = 0 := by simp [tuA]
    have e2 : tuB t 0 = 0 := by simp [tuB]
    rw [e1, e2]
    exact HR1
  case round =>
    obtain ⟨n, r, hng, rfl, rfl, hr, HRow, HGr, HK⟩ := hrel
    by_cases hn : n < 4 * t
    · obtain ⟨g', rfl⟩ : ∃ g', gk = g' + 1 := ⟨gk - 1, by omega⟩
      have hdn : decide (n < 4 * t) = true := by simpa using hn
      have HNN := Lib.hid hn
      have HNG := Lib.hid hng
      obtain ⟨A0, hA0⟩ : ∃ A0, n / 4 = A0 := ⟨_, rfl⟩
      obtain ⟨B0, hB0⟩ : ∃ B0, n % 4 = B0 := ⟨_, rfl⟩
      have HRow1 : Hid (RowAt wr r 104 (tuc A0 B0)) := Lib.hid (by
        have h := HRow.out
        rwa [show tuA t n = n / 4 from if_pos hn, show tuB t n = n % 4 from if_pos hn, hA0, hB0] at h)
      have hA : A0 < t := by omega
      have hB : B0 ≤ 3 := by omega
      obtain ⟨L', hL'⟩ : ∃ L', allTo a t l b c g L n = L' := ⟨_, rfl⟩
      rw [hL'] at HGr
      have hLl : L'.length = l * c := by rw [← hL', allTo_len]; exact HL.out
      have HLl := Lib.hid hLl
      have HNX : Hid (turnTo a t l b c g L' A0 B0 l = allTo a t l b c g L (n + 1)) := Lib.hid (by rw [← hL', ← hA0, ← hB0]; rfl)
      have HAB := Lib.hid (And.intro hA0 hB0)
      have k3 := HGr.out.row.lanes
      rw [hdn]
      clear hA0 hB0 hL' hLl HRow hn hng hdn
      go_wp2
      go_loopw [25] (fun v25 wr2 => ∃ k : Nat, k ≤ l ∧ v25 = .int .i64 (k : Int) ∧ Hid (RowAt wr2 r 104 (tuc A0 B0)) ∧ Hid (GrAt wr2 q pc h G a t l m b c g z (turnTo a t l b c g L' A0 B0 k)) ∧ Hid (Kept (fun j => j = G) w wr2)) (fun v25 _ => l - (intOf v25).toNat)
      case atStart => exact ⟨0, Nat.zero_le _, rfl, HRow1, HGr, HK⟩
      case round =>
        obtain ⟨k, hk, rfl, HRow2, HGr2, HK2⟩ := hrel
        clear k3
        by_cases hkl : k < l
        · have hd : decide ((k : Int) < (l : Int)) = true := by simp; omega
          have hd2 : decide (k < l) = true := by simp; omega
          have HS := Lib.hid (segment_any S hA hB hkl HGr2.out (by rw [turnTo_len]; exact HLl.out) (HTA.out _ (HK2.out.below (by have := HGW.out; omega) fun y hy => by omega)) hN hx)
          go_wp2_with (refine wpList_load_want rfl 104 _ rfl _ _ rfl (tu_load HRow2.out) ?_)
          refine HS.out.mono ?_
          rintro e w3 ⟨rfl, hG3, hk3⟩
          have HRow3 := Lib.hid (RowAt.kept HRow2.out hk3 (RowAt.unlike HRow2.out HGr2.out.live.blk (by rfl)))
          have HG3 := Lib.hid hG3
          have HK3 : Hid (Kept (fun j => j = G) w w3) := Lib.hid (HK2.out.trans hk3 fun _ _ h => h)
          clear hG3 hk3 HRow2 HGr2 HK2 HS
          go_wp2
          go_roundw
          case rel => exact ⟨k + 1, by omega, by go_num, HRow3, HG3, HK3⟩
          case measure => simp [intOf]; omega
        · obtain rfl : l = k := by omega
          have hd : decide ((l : Int) < (l : Int)) = false := by simp
          obtain ⟨w5, e5⟩ : ∃ w5, w5 = wr.alloc (.cells (tuc A0 B0) 104) := ⟨_, rfl⟩
          have b5 : Below wr.heap.size wr w5 := by rw [e5]; exact one_box _ _
          have hR5 : RowAt w5 wr.heap.size 104 (tuc A0 B0) := by rw [e5]; exact RowAt.new _ _ _
          have hz5 : wr.heap.size ≤ w5.heap.size := b5.size
          have hwr : w.heap.size ≤ wr.heap.size := HK2.out.size
          have hG5 := HGr2.out.step b5
          have E5 := Lib.hid e5
          have HL2 := Lib.hid (tu_load HRow2.out)
          have HK5 : Hid (Kept (fun j => j = G) w w5) := Lib.hid (HK2.out.trans (Kept.of_below (M := fun _ => False) b5) fun _ _ h => h.elim)
          clear e5 b5 HGr2 HRow2 HK2
          go_upto_region 5 with (refine wpList_load_want rfl 104 _ rfl _ _ rfl HL2.out ?_)
          rw [← E5.out]
          clear E5 HL2
          generalize wr.heap.size = r2 at *
          obtain ⟨A9, hA9⟩ : ∃ A9, tuA t (n + 1) = A9 := ⟨_, rfl⟩
          obtain ⟨B9, hB9⟩ : ∃ B9, tuB t (n + 1) = B9 := ⟨_, rfl⟩
          obtain ⟨b9, hb9⟩ : ∃ b9, decide (n + 1 < 4 * t) = b9 := ⟨_, rfl⟩
          have H9 := Lib.hid (And.intro hA9 (And.intro hB9 hb9))
          obtain ⟨F, hF⟩ : ∃ F : World → Prop, F = fun u => RowAt u r2 104 (tuc A9 B9) ∧ Kept (fun j => j = r2) w5 u := ⟨_, rfl⟩
          have HFS : Hid (∀ u u', F u → Below u.heap.size u u' → F u') := Lib.hid fun u u' hu hb => by
            subst hF
            exact ⟨RowAt.step hu.1 hb, hu.2.trans (Kept.of_below (M := fun _ => False) hb) fun _ _ h => h.elim⟩
          have HFE : Hid (∀ u, F u → RowAt u r2 104 (tuc A9 B9) ∧ Kept (fun j => j = r2) w5 u) := Lib.hid fun u hu => by subst hF; exact hu
          have HQ : Hid (∀ u, Below w5.heap.size w5 u → (loadVar 57 ⟨q, 1, none⟩).run Tryz.prog u = .ok (spv a t l m b c g z) u ∧ (loadVar 104 ⟨r2, 0, none⟩).run Tryz.prog u = .ok (tuv (n / 4 : Nat) (n % 4 : Nat)) u ∧
              Calls Tryz.prog 54 #[spv a t l m b c g z, tuv (n / 4 : Nat) (n % 4 : Nat)] u (fun e w' => e = .returned (.tuple #[tuv A9 B9, .bool b9]) ∧ Below u.heap.size u w') ∧
              ∃ w6, (storeVar 104 ⟨r2, 0, none⟩ (tuv A9 B9)).run Tryz.prog u = .ok () w6 ∧ F w6 ∧ Below r2 w5 w6 ∧ u.heap.size ≤ w6.heap.size) := Lib.hid fun u hu => by
            have hRu := RowAt.step hR5 hu
            refine ⟨(hG5.step hu).row.shape, ?_, ?_, u.setRow r2 (tuc A9 B9), RowAt.store (C' := tuc A9 B9) hRu tu_size rfl (by simp [Value.oneCell']), ?_, ?_, ?_⟩
            · rw [HAB.out.1, HAB.out.2]; exact tu_load hRu
            · have hx := next_at a t l m b c g z n htm HNN.out u
              rwa [hA9, hB9, hb9] at hx
            · subst hF
              exact ⟨hRu.setRow _, (Kept.of_below (M := fun j => j = r2) hu).trans (kept_row _ _ _) fun _ _ h => h⟩
            · exact below_setRow (hu.mono hz5) (Nat.le_refl _) _
            · exact Nat.le_of_eq (setRow_size _ _ _).symm
          clear hF hA9 hB9 hb9
          have hr2 : r2 ≤ w5.heap.size := hz5
          refine wp_region_stage (r2) [9] [] [[0], [0], [0], [0], [0], [0], [0], [0], [0, 1], [], [1]] [[Is (.pointer (some ⟨q, 0, none⟩)), Is (.pointer (some ⟨q, 0, none⟩)), Is (.pointer (some ⟨q, 1, none⟩)), Is (spv a t l m b c g z), Is (tuv (n / 4 : Nat) (n % 4 : Nat)), Is (.tuple #[tuv (A9 : Nat) (B9 : Nat), .bool b9]), Is (.tuple #[tuv (A9 : Nat) (B9 : Nat), .bool b9]), Is (tuv (A9 : Nat) (B9 : Nat)), Is (.bool b9), Free, Is (.bool b9)], [Is (.pointer (some ⟨q, 0, none⟩)), Is (.pointer (some ⟨q, 0, none⟩)), Is (.pointer (some ⟨q, 1, none⟩)), Is (spv a t l m b c g z), Is (tuv (n / 4 : Nat) (n % 4 : Nat)), IsF (.tuple #[tuv (A9 : Nat) (B9 : Nat), .bool b9]) F, IsF (.tuple #[tuv (A9 : Nat) (B9 : Nat), .bool b9]) F, Is (tuv (A9 : Nat) (B9 : Nat)), IsF (.bool b9) F, Free, IsF (.bool b9) F]] [Is (.pointer (some ⟨q, 0, none⟩)), Is (.pointer (some ⟨q, 0, none⟩)), Is (.pointer (some ⟨q, 1, none⟩)), Is (spv a t l m b c g z), Is (tuv (n / 4 : Nat) (n % 4 : Nat)), IsF (.tuple #[tuv (A9 : Nat) (B9 : Nat), .bool b9]) F, IsF (.tuple #[tuv (A9 : Nat) (B9 : Nat), .bool b9]) F, Is (tuv (A9 : Nat) (B9 : Nat)), IsF (.bool b9) F, Free, IsF (.bool b9) F] hr2 (by kernel_rfl) (by kernel_rfl) rfl rfl ⟨⟨stable_is _, stable_is _, stable_is _, stable_is _, stable_is _, stable_is _, stable_is _, stable_is _, stable_is _, stable_free, stable_is _, trivial⟩, ⟨stable_is _, stable_is _, stable_is _, stable_is _, stable_is _, stable_isf _ HFS.out, stable_isf _ HFS.out, stable_is _, stable_isf _ HFS.out, stable_free, stable_isf _ HFS.out, trivial⟩, trivial⟩ (by intro n hn o ho hd w; simp only [List.mem_cons, List.not_mem_nil, or_false] at hn; subst hn; first | trivial | (cases ho; cases hd)) rfl ⟨?p0, ?p1, ?p2, ?p3, ?p4, ?p5, ?p6, ?p7, ?p8, fun h => absurd (by simp) h, ?p10, trivial⟩ ⟨?t0, trivial⟩ (by decide) ?fin
          case p0 =>
            intro _ k hk; obtain rfl := List.mem_singleton.1 hk; intro a w C Z
            exact partS_on (wanted_free rfl _) (op_move (.inl rfl) (C.was 0 (by kernel_rfl)))
          case p1 =>
            intro _ k hk; obtain rfl := List.mem_singleton.1 hk; intro a w C Z
            exact partS_on (wanted_free rfl _) (op_value (nil_run rfl (C.on (j := 0) (by kernel_rfl) rfl rfl)) rfl)
          case p2 =>
            intro _ k hk; obtain rfl := List.mem_singleton.1 hk; intro a w C Z
            exact partS_on (wanted_free rfl _) (op_value (grf_run (k := 1) rfl (by decide) (C.on (j := 1) (by kernel_rfl) rfl rfl)) rfl)
          case p3 =>
            intro _ k hk; obtain rfl := List.mem_singleton.1 hk; intro a w C Z
            exact partS_on (wanted_free rfl _) (op_value (load_run rfl (C.on (j := 2) (by kernel_rfl) rfl rfl) (HQ.out w C.below).1) rfl)
          case p4 =>
            intro _ k hk; obtain rfl := List.mem_singleton.1 hk; intro a w C Z
            exact partS_on (wanted_free rfl _) (op_value (load_run rfl (C.was 3 (by kernel_rfl)) (HQ.out w C.below).2.1) rfl)
          case p5 =>
            intro _ k hk; obtain rfl := List.mem_singleton.1 hk; intro a w C Z
            exact partS_on (wanted_free rfl _) (op_call2 rfl (reg_enters Tryz.func54 (by kernel_rfl) (by kernel_rfl)) (C.on (j := 3) (by kernel_rfl) rfl rfl) (C.on (j := 4) (by kernel_rfl) rfl rfl) (calls_is (HQ.out w C.below).2.2.1))
          case p6 =>
            intro _ k hk; obtain rfl := List.mem_singleton.1 hk; intro a w C Z
            exact partS_on (wanted_free rfl _) (op_move (.inl rfl) (C.on (j := 5) (by kernel_rfl) rfl rfl))
          case p7 =>
            intro _ k hk; obtain rfl := List.mem_singleton.1 hk; intro a w C Z
            exact partS_on (wanted_free rfl _) (op_value (ext_run (v := tuv (A9 : Nat) (B9 : Nat)) rfl (C.on (j := 6) (by kernel_rfl) rfl rfl) rfl) rfl)
          case p8 =>
            intro _ k hk; replace hk : k ∈ [0, 1] := hk; simp only [List.mem_cons, List.not_mem_nil, or_false] at hk
            rcases hk with rfl | rfl
            · intro a w C Z
              exact partS_on (wanted_free rfl _) (op_value (ext_run (v := .bool b9) rfl (C.on (j := 6) (by kernel_rfl) rfl rfl) rfl) rfl)
            · intro a w C Z
              exact partS_on (wanted_free rfl _) (op_value (ext_run (v := .bool b9) rfl (show IsF (.tuple #[tuv (A9 : Nat) (B9 : Nat), .bool b9]) F _ w from (C.on (j := 6) (by kernel_rfl) rfl rfl)).1 rfl) ⟨rfl, (show IsF (.tuple #[tuv (A9 : Nat) (B9 : Nat), .bool b9]) F _ w from (C.on (j := 6) (by kernel_rfl) rfl rfl)).2⟩)
          case p10 =>
            intro _ k hk; obtain rfl := List.mem_singleton.1 hk; intro a w C Z
            exact partS_on (wanted_free rfl _) (op_move (.inr rfl) (C.on (j := 8) (by kernel_rfl) rfl rfl))
          case t0 =>
            intro o ho a w C A
            cases ho
            have cb : Below w5.heap.size w5 w := C.below
            obtain ⟨w6, hst, hF6, hb6, hz6⟩ := (HQ.out w cb).2.2.2
            refine ⟨wanted_free rfl _, stage_store rfl (C.was 3 (by kernel_rfl)) (C.on (j := 7) (by kernel_rfl) rfl rfl) hst trivial hb6 hz6 ?_⟩
            · intro i o2 d hi hd hne hnw h
              have hil := (List.getElem?_eq_some_iff.1 hi).1
              replace hil : i < 11 := hil
              obtain rfl | rfl | rfl | rfl | rfl | rfl | rfl | rfl | rfl | rfl | rfl : i = 0 ∨ i = 1 ∨ i = 2 ∨ i = 3 ∨ i = 4 ∨ i = 5 ∨ i = 6 ∨ i = 7 ∨ i = 8 ∨ i = 9 ∨ i = 10 := by omega
              · exact h
              · exact h
              · exact h
              · exact h
              · exact h
              · exact ⟨h, hF6⟩
              · exact ⟨h, hF6⟩
              · exact h
              · exact ⟨h, hF6⟩
              · exact absurd rfl hne
              · exact absurd hnw (by rw [show waits _ 10 9 = true from by kernel_rfl]; decide)
          case fin =>
            rintro w8 hbF _ rfl _ rfl _ rfl _ rfl _ rfl _ ⟨rfl, _⟩ _ ⟨rfl, _⟩ _ rfl _ ⟨rfl, _⟩ _ _ _ ⟨rfl, hFF⟩
            simp only [Fin, setAt, Exit.then, List.setIfInBounds_toArray, List.set_cons_succ, List.set_cons_zero]
            obtain ⟨hR8, hK8⟩ := HFE.out _ hFF
            have hG8 := hG5.keep hK8 (RowAt.unlike hG5.row hR5 (by rfl)) (RowAt.unlike hG5.live.row hR5 (by rfl)) (RowAt.unlike hG5.live.blk hR5 (by rfl))
            rw [HNX.out] at hG8
            have HG8 := Lib.hid hG8
            have HR8 := Lib.hid hR8
            have HK8 : Hid (Kept (fun j => j = G) w w8) := Lib.hid (HK5.out.trans hK8 fun y hy e => by omega)
            clear hG8 hR8 hK8 hG5 hR5 HQ HFE HFS HK5 hFF
            go_wp2
            go_roundg g'
            case measure => omega
            case rel => exact ⟨n + 1, r2, by have := HNG.out; omega, rfl, by rw [H9.out.2.2], by omega, by rw [H9.out.1, H9.out.2.1]; exact HR8, HG8, HK8⟩
    · obtain rfl : n = 4 * t := by omega
      have hdn : decide (4 * t < 4 * t) = false := by simp
      rw [hdn]
      go_wp2
      refine bodyPost_ret (results_tmp rfl _ _ _) rfl ⟨rfl, HGr.out, HK.out⟩
end Go.Proofs.YtcbccjcnllifjaaGreatDoor

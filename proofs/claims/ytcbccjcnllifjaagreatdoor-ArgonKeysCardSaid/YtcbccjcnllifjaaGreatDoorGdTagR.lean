/- The document's Tag by its contract. Conditions: those typed. -/
import Derived.Test.YtcbccjcnllifjaaGreatDoorGr
import Derived.Test.YtcbccjcnllifjaaGreatDoorGdT
namespace Go.Proofs.YtcbccjcnllifjaaGreatDoor
set_option maxRecDepth 50000
open Go.RowKit Bb Bl
set_option maxHeartbeats 6400000 in
theorem rtag_any {w : World} {N a t l m b c g z : Nat} {v : Value} {gs : List Nat} {L : List (List Nat)} (hD : DocAt w N v c gs L) (hgl : gs.length = l) (hl0 : 0 < l) (hl : l ≤ 1000) (hc0 : 0 < c) (hc : c ≤ 4194304) (hz4 : 4 ≤ z) (hz10 : z ≤ 1024) :
    Calls Tryz.prog 34 #[.agg (wq iv), spv a t l m b c g z, v] w fun e w' => e = .returned (.string (tx (longL z (tl (strOf (byB (xB (lastL c L l)))))))) ∧ Below w.heap.size w w' := by
  obtain ⟨o, kk, rfl⟩ := hD.head (by omega)
  rw [hgl] at hD ⊢
  obtain ⟨A0, hA0⟩ : ∃ A0, A0 = w.heap.size := ⟨_, rfl⟩
  obtain ⟨d, hd⟩ : ∃ d, d = c - 1 := ⟨_, rfl⟩
  obtain ⟨w1, e1⟩ : ∃ w1, w1 = (w.alloc (.cells (wq iv) 35)).alloc (.cells (spc a t l m b c g z) 44) := ⟨_, rfl⟩
  have b1 : Below w.heap.size w w1 := by rw [e1]; exact two_box _ _ _
  have r1 : RowAt w1 A0 35 (wq iv) := by rw [e1, hA0]; exact (RowAt.new w _ _).alloc _
  have r2 : RowAt w1 (A0 + 1) 44 (spc a t l m b c g z) := by
    rw [e1, hA0]
    have := RowAt.new (w.alloc (.cells (wq iv) 35)) 44 (spc a t l m b c g z)
    rwa [World.size_alloc] at this
  have hs1 : w1.heap.size = A0 + 2 := by rw [e1, World.size_alloc, World.size_alloc, hA0]
  have hww : IntKind.i64.wrap ((c : Int) - 1) = (d : Int) := by rw [IntKind.wrap_i64]; omega
  have hlen : L.length = l * c := by rw [← hgl]; exact hD.len
  have HO := Lib.hid fun n hn => last_ok (n := n) hD.ok hlen hc0 hn
  have HLO := Lib.hid hD.ok
  have HLN := Lib.hid hlen
  have HD := Lib.hid (hD.step b1)
  have HB1 := Lib.hid b1
  have HR1 := Lib.hid r1
  have HR2 := Lib.hid r2
  have E1 := Lib.hid e1
  have HA0 := Lib.hid hA0
  have HGL := Lib.hid hgl
  have HDD := Lib.hid hd
  have HS1 := Lib.hid hs1
  have hd0 : (0 : Int) ≤ (d : Int) := by omega
  have hd1 : (d : Int) < (c : Int) := by omega
  have H0 : Hid (OwB (A0 + 2) (lastL c L 0) (.slice none 0 0) w1) := Lib.hid (by
    unfold OwB
    exact ⟨rfl, .inl ⟨rfl, rfl⟩⟩)
  clear b1 r1 r2 e1 hA0 hs1 hlen hD hgl hd
  go_enter Tryz.func34, Tryz.ntmps34
  go_upto_region 1 with fail
  rw [← E1.out, ← HA0.out]
  clear E1
  go_wp2
  go_loopw [7, 8] (fun v7 v8 wr => ∃ i : Nat, i ≤ l ∧ v8 = .int .i64 (i : Int) ∧ Hid (OwB (A0 + 2) (lastL c L i) v7 wr) ∧ Hid (Below w1.heap.size w1 wr)) (fun _ v8 _ => l - (intOf v8).toNat)
  case atStart => exact ⟨0, Nat.zero_le _, rfl, H0, Lib.hid (Below.refl _ _)⟩
  case round =>
    obtain ⟨i, hi, rfl, HW, HB⟩ := hrel
    have hr2 := HR2.out.step HB.out
    have kl : wr.cell? ⟨A0 + 1, 2, none⟩ = some (.int .i64 (l : Int)) := (hr2.cell 2).trans rfl
    have kc : wr.cell? ⟨A0 + 1, 5, none⟩ = some (.int .i64 (c : Int)) := (hr2.cell 5).trans rfl
    clear hr2
    by_cases hil : i < l
    · have hd3 : decide ((i : Int) < (l : Int)) = true := by simp; omega
      have hd4 : decide (i < l) = true := by simp; omega
      have hi0 : (0 : Int) ≤ (i : Int) := by omega
      have hi1 : (i : Int) < (l : Int) := by omega
      have hD := HD.out.step HB.out
      have kr := hD.row (i := i) (by rw [HGL.out]; exact hil)
      have hblk := hD.blk i (by rw [HGL.out]; exact hil)
      have hll := lane_length (c := c) (i := i) HLN.out hil
      obtain ⟨x, hx⟩ : ∃ x, x = (lane c L i).getD d [] := ⟨_, rfl⟩
      have hxo : okb x := by rw [hx]; exact block_ok (lane_ok HLO.out) d (by rw [hll]; omega)
      have hld := hblk.load (lane_ok HLO.out) d (by rw [hll]; omega)
      rw [← hx] at hld
      have HNX : Hid (lastL c L (i + 1) = lastL c L i ++ [x]) := Lib.hid (by rw [last_next, hx, lane_at (by have := HDD.out; omega), HDD.out])
      have HXO := Lib.hid hxo
      have hsz : A0 + 2 ≤ wr.heap.size := by have := HB.out.size; have := HS1.out; omega
      have HI := Lib.hid hil
      have HKd : Hid (d < c) := Lib.hid (by omega)
      obtain ⟨gi, hgi⟩ : ∃ gi, gi = gs.getD i 0 := ⟨_, rfl⟩
      have HF : Hid (∀ u, Below wr.heap.size wr u → (loadVar 77 ⟨o, i, none⟩).run Tryz.prog u = .ok (.slice (some ⟨gi, 0, none⟩) c c) u ∧ u.cell? ⟨A0 + 1, 0 + 5, none⟩ = some (.int .i64 (c : Int)) ∧ (loadVar 111 ⟨gi, d * 128, none⟩).run Tryz.prog u = .ok (.agg (wq x)) u) := Lib.hid fun u hu => by
        have h0 := hD.step hu
        have h1 := h0.row (i := i) (by rw [HGL.out]; exact hil)
        have h2 := (h0.blk i (by rw [HGL.out]; exact hil)).load (lane_ok HLO.out) d (by rw [hll]; omega)
        rw [← hgi] at h1 h2
        rw [← hx] at h2
        exact ⟨by simp [h1, go_sem], (((HR2.out.step HB.out).step hu).cell 5).trans rfl, h2⟩
      clear hxo hld hblk hll hx kr hgi hD
      go_wp2
      refine wp_region_own (A0 + 2) 11 hsz [Is u7, Is (.slice (some ⟨o, 0, none⟩) l kk), Is (.int .i64 (i : Int)), Is (.pointer (some ⟨o, i, none⟩)), Is (.slice (some ⟨gi, 0, none⟩) c c), Is (.pointer (some ⟨A0 + 1, 0 + 5, none⟩)), Is (.int .i64 (c : Int)), Is (.int .i64 (d : Int)), Is (.pointer (some ⟨gi, d * 128, none⟩)), Is (.agg (wq x)), OneB x] [OwB (A0 + 2) (lastL c L (i + 1)), OwB (A0 + 2) (lastL c L (i + 1))] (by kernel_rfl) (by kernel_rfl) (by kernel_rfl) rfl rfl (by decide) ⟨stable_is _, stable_is _, stable_is _, stable_is _, stable_is _, stable_is _, stable_is _, stable_is _, stable_is _, stable_is _, stable_oneb _, trivial⟩ ⟨stable_owb _ _, stable_owb _ _, trivial⟩ ⟨?h0, ?h1, ?h2, ?h3, ?h4, ?h5, ?h6, ?h7, ?h8, ?h9, ?h10, trivial⟩ ?mid ⟨?l0, trivial⟩ ?fin
      case h0 =>
        intro a w C Y
        exact part_on (wanted_free rfl _) (op_move (.inl rfl) (yet_was Y 7 (by kernel_rfl)))
      case h1 =>
        intro a w C Y
        exact part_on (wanted_free rfl _) (op_move (.inl rfl) (C.was 2 (by kernel_rfl)))
      case h2 =>
        intro a w C Y
        exact part_on (wanted_free rfl _) (op_move (.inl rfl) (C.was 8 (by kernel_rfl)))
      case h3 =>
        intro a w C Y
        exact part_on (wanted_free rfl _) (op_value (ixg_run rfl (C.on (j := 1) (by kernel_rfl) rfl rfl) (C.on (j := 2) (by kernel_rfl) rfl rfl) HI.out) rfl)
      case h4 =>
        intro a w C Y
        exact part_on (wanted_free rfl _) (op_value (load_run rfl (C.on (j := 3) (by kernel_rfl) rfl rfl) (HF.out _ C.below).1) rfl)
      case h5 =>
        intro a w C Y
        exact part_on (wanted_free rfl _) (op_value (s27_run rfl (by decide) (C.was 4 (by kernel_rfl))) rfl)
      case h6 =>
        intro a w C Y
        exact part_on (wanted_free rfl _) (op_value (int_run rfl (C.on (j := 5) (by kernel_rfl) rfl rfl) (HF.out _ C.below).2.1) rfl)
      case h7 =>
        intro a w C Y
        exact part_on (wanted_free rfl _) (op_bin rfl (C.on (j := 6) (by kernel_rfl) rfl rfl) rfl rfl (sub_run _ _ _ (by have := HDD.out; omega) (by omega) (by omega) _) rfl)
      case h8 =>
        intro a w C Y
        exact part_on (wanted_free rfl _) (op_value (ixr_run rfl (C.on (j := 4) (by kernel_rfl) rfl rfl) (C.on (j := 7) (by kernel_rfl) rfl rfl) HKd.out) rfl)
      case h9 =>
        intro a w C Y
        exact part_on (wanted_free rfl _) (op_value (load_run rfl (C.on (j := 8) (by kernel_rfl) rfl rfl) (HF.out _ C.below).2.2) rfl)
      case h10 =>
        intro a w C Y
        exact part_on (wanted_free rfl _) (op_made (build_one_run HXO.out.1 rfl (C.on (j := 9) (by kernel_rfl) rfl rfl)) ⟨_, rfl, RowAt.new _ _ _⟩ (one_box _ _))
      case mid =>
        intro u hu a w C
        cases hu
        refine ⟨wanted_free rfl _, ?_⟩
        obtain ⟨g2, e25, h25⟩ : OneB x _ _ := C.on (j := 10) (by kernel_rfl) rfl rfl
        obtain ⟨v', w', hr, h1, hb⟩ := app_more (stable_owb _ _ _ _ _ HW.out C.below) (by have := C.below.size; omega) HXO.out h25 (by rw [last_len]; omega) _
        rw [← HNX.out] at h1
        exact turnsb_value (op_append rfl (C.on (j := 0) (by kernel_rfl) rfl rfl) e25 hr) h1 ((C.below.mono hsz).trans hb)
      case l0 =>
        intro a w C
        exact part_on (wanted_free rfl _) (op_move (.inr rfl) (C.on (j := 11) (by kernel_rfl) rfl rfl))
      case fin =>
      rintro wF hbF x15 - x16 - x17 - x18 - x19 - x20 - x21 - x22 - x23 - x24 - x25 - x26 - x7 h7
      simp only [Fin, setAt, List.setIfInBounds_toArray, List.set_cons_succ, List.set_cons_zero]
      have H7 := Lib.hid h7
      have HBF := Lib.hid (HB.out.trans (hbF.mono (by have := HS1.out; omega)))
      clear h7 hbF HF HW HB HNX
      go_wp2
      go_roundw
      case rel => exact ⟨i + 1, by omega, by go_num, H7, HBF⟩
      case measure => simp [intOf]; omega
    · obtain rfl : i = l := by omega
      have hd3 : decide ((i : Int) < (i : Int)) = false := by simp
      obtain ⟨A7, c7, rfl, hr7⟩ := owb_reads HW.out
      have hyo := xB_ok _ (HO.out i (Nat.le_refl _))
      have HX : Hid (∀ u, Below wr.heap.size wr u → Calls Tryz.prog 58 #[.slice A7 i c7] u fun e w' => e = .returned (.agg (wq (xB (lastL c L i)))) ∧ Below u.heap.size u w') := Lib.hid fun u hu => by
        have h := rxor_any (HO.out i (Nat.le_refl _)) A7 c7 u ((hr7.below hu).more hu.size) (by rw [last_len]; omega)
        rw [last_len] at h
        exact h
      have CB := Lib.hid fun u => rbytes_any hyo u
      have CLg0 := fun (u : World) => rlong_any z (by omega) (by omega) (strOf (byB (xB (lastL c L i)))) (by
        have h := bytes_size hyo
        rw [← tx_tl (strOf (byB (xB (lastL c L i)))), tx_size, h]
        decide) u
      have CLg := Lib.hid CLg0
      clear CLg0
      generalize hy : xB (lastL c L i) = y at *
      generalize hS : strOf (byB y) = S at *
      have HY := Lib.hid hy
      have HSS := Lib.hid hS
      rw [last_len]
      have HF : Hid (∀ u, Below wr.heap.size wr u → (loadVar 35 ⟨A0, 0, none⟩).run Tryz.prog u = .ok (.agg (wq iv)) u ∧ u.cell? ⟨A0 + 1, 0 + 7, none⟩ = some (.int .i64 (z : Int)) ∧ Calls Tryz.prog 58 #[.slice A7 i c7] u fun e w' => e = .returned (.agg (wq y)) ∧ Below u.heap.size u w') := Lib.hid fun u hu => by
        have h1 := (HR1.out.step HB.out).step hu
        have h2 := (HR2.out.step HB.out).step hu
        exact ⟨RowAt.load h1 Tryz.underlying35 (by kernel_rfl), (h2.cell 7).trans rfl, HX.out u hu⟩
      clear hy hS hr7 hyo HX HW
      go_wp2
      refine wp_region_text [Is (.agg (wq iv)), Is (.pointer (some ⟨A0 + 1, 0 + 7, none⟩)), Is (.int .i64 (z : Int)), Is (.slice A7 i c7), Is (.agg (wq y)), Is (.string S), Is (.string (tx (longL z (tl S)))), Is (.string (tx (longL z (tl S))))] (by kernel_rfl) (by kernel_rfl) rfl ⟨stable_is _, stable_is _, stable_is _, stable_is _, stable_is _, stable_is _, stable_is _, stable_is _, trivial⟩ ⟨?_, ?_, ?_, ?_, ?_, ?_, ?_, ?_, trivial⟩ ?_
      · intro a w C
        exact part_on (wanted_free rfl _) (op_value (load_run rfl (C.was 3 (by kernel_rfl)) (HF.out _ C.below).1) rfl)
      · intro a w C
        exact part_on (wanted_free rfl _) (op_value (s27_run rfl (by decide) (C.was 4 (by kernel_rfl))) rfl)
      · intro a w C
        exact part_on (wanted_free rfl _) (op_value (int_run rfl (C.on (j := 1) (by kernel_rfl) rfl rfl) (HF.out _ C.below).2.1) rfl)
      · intro a w C
        exact part_on (wanted_free rfl _) (op_move (.inl rfl) (C.was 7 (by kernel_rfl)))
      · intro a w C
        exact part_on (wanted_free rfl _) (op_call1 rfl (reg_enters Tryz.func58 (by kernel_rfl) (by kernel_rfl)) (C.on (j := 3) (by kernel_rfl) rfl rfl) (calls_is ((HF.out _ C.below).2.2)))
      · intro a w C
        exact part_on (wanted_free rfl _) (op_call1 rfl (reg_enters Tryz.func57 (by kernel_rfl) (by kernel_rfl)) (C.on (j := 4) (by kernel_rfl) rfl rfl) (calls_is (CB.out w)))
      · intro a w C
        exact part_on (wanted_free rfl _) (op_call3 rfl (reg_enters Tryz.func56 (by kernel_rfl) (by kernel_rfl)) (C.on (j := 0) (by kernel_rfl) rfl rfl) (C.on (j := 2) (by kernel_rfl) rfl rfl) (C.on (j := 5) (by kernel_rfl) rfl rfl) (calls_is (CLg.out w)))
      · intro a w C
        exact part_on (wanted_free rfl _) (op_move (.inr rfl) (C.on (j := 6) (by kernel_rfl) rfl rfl))
      rintro wF hbF _ rfl _ rfl _ rfl _ rfl _ rfl _ rfl _ rfl _ rfl
      simp only [Fin, setAt, Exit.then, List.setIfInBounds_toArray, List.set_cons_succ, List.set_cons_zero]
      have HBF := Lib.hid (HB1.out.trans ((below_step HB.out hbF).mono (by have := HB1.out.size; omega)))
      clear hbF HB HF
      go_wp2
      go_ret
      exact ⟨by rw [HY.out, HSS.out]; rfl, HBF.out⟩
end Go.Proofs.YtcbccjcnllifjaaGreatDoor

/- The law's play, by its contract. Conditions: those typed. -/
import Derived.Test.YtackcboidjmegaaArPl
import Derived.Deep.LoopGhost
import Derived.Deep.CutBlock
import Derived.Deep.CutRange
import Derived.WalkMore
import Derived.Deep.RegionWith
namespace Go.Proofs.Ytackcboidjmegaa
set_option maxRecDepth 50000
open Go.RowKit Bb

theorem clB_zeros (n : Nat) : clB (List.replicate n zb) = true := by
  unfold clB
  simp

set_option maxHeartbeats 6400000 in
theorem play_any {W w : World} {a B : Nat} (hA : AreAt w a B 0 0 0) (hB : B ≤ 4194304) (haW : W.heap.size ≤ a) (hbW : Below W.heap.size W w) {A : Option Addr} (c : Nat) (l : List Ac) (hr : Reads W W.heap.size A (acs l)) (hf : FewL B l) (hw64 : ∀ x ∈ l, x.w < 18446744073709551616) :
    Calls Try.prog 8 #[.pointer (some ⟨a, 0, none⟩), .agg (mcells B (.slice none 0 0) 0), .slice A l.length c] w fun e w' => e = .returned (.bool true) ∧ Below W.heap.size W w' := by
  have hWs := hbW.size
  have h60 := hf.1
  have HR := Lib.hid hr
  have HF := Lib.hid hf.2
  have HU := Lib.hid hw64
  obtain ⟨mb, hmb⟩ : ∃ mb, mb = w.heap.size := ⟨_, rfl⟩
  obtain ⟨w0, ew0⟩ : ∃ w0, w0 = w.alloc (.cells (mcells B (.slice none 0 0) 0) 32) := ⟨_, rfl⟩
  have H0 : Hid (Pr W w0 mb a B 0 [] (.slice none 0 0) [] (mcells B (.slice none 0 0) 0) ∧ OwnP w0 W.heap.size (.slice none 0 0) []) := Lib.hid (by
    rw [ew0, hmb]
    refine ⟨⟨⟨RowAt.alloc hA _, fun i hi => absurd hi (by simp), fun i j hi => absurd hi (by simp), fun i hi => absurd hi (by simp), fun i hi => absurd hi (by simp), fun i hi => absurd hi (by simp), haW, by simp [pz, usd], hB, Nat.zero_le _⟩, World.ownsRow_nil _ _ _ _, RowAt.new _ _ _, hbW.alloc hWs _, hWs⟩, World.ownsRow_nil _ _ _ _⟩)
  have E0 := Lib.hid ew0
  have EM := Lib.hid hmb
  clear hA hr hf hw64 hbW haW ew0 hmb
  go_enter Try.func8, Try.ntmps8
  go_wp2
  rw [show w.alloc (.cells (mcells B (.slice none 0 0) 0) 32) = w0 from E0.out.symm, ← EM.out]
  go_loopg [7, 21] l.length (fun g v7 v21 wr => ∃ i h ps, ∃ sv mv : Value, i + g = l.length ∧ v21 = .int .i64 ((i : Nat) : Int) ∧ v7 = sv ∧ ps.length ≤ i ∧ Pr W wr mb a B h ps sv ps (mcells B mv h) ∧ OwnP wr W.heap.size mv (pz ps))
  case atStart => exact ⟨0, 0, [], _, _, by omega, rfl, rfl, Nat.le_refl _, H0.out.1, H0.out.2⟩
  case round =>
    obtain ⟨i, h, ps, sv, mv, hig, rfl, rfl, hpi, hP, hM⟩ := hrel
    clear H0 E0 EM
    have hWr := hP.below.size
    by_cases hlt : i < l.length
    · have hdt : decide ((i : Int) < (l.length : Int)) = true := by simp; omega
      have hi0 : (0 : Int) ≤ (i : Int) := by omega
      have hi1 : (i : Int) < (l.length : Int) := by omega
      obtain ⟨g, rfl⟩ : ∃ g, gk = g + 1 := ⟨gk - 1, by omega⟩
      obtain ⟨b, off, rfl, hbB, c0, c1, c2, c3⟩ := act_reads HR.out i hlt
      have y0 := (hP.below.cell (p := ⟨b, off + i * 4, none⟩) hbB).trans c0
      have y1 := (hP.below.cell (p := ⟨b, off + i * 4 + 1, none⟩) hbB).trans c1
      have y2 := (hP.below.cell (p := ⟨b, off + i * 4 + 2, none⟩) hbB).trans c2
      have y3 := (hP.below.cell (p := ⟨b, off + i * 4 + 3, none⟩) hbB).trans c3
      have HFX := Lib.hid (HF.out l[i] (List.getElem_mem hlt))
      have HUX := Lib.hid (HU.out l[i] (List.getElem_mem hlt))
      clear c0 c1 c2 c3
      generalize l[i] = x at *
      obtain ⟨d, n, k, u⟩ := x
      dsimp only at *
      obtain ⟨w1, e1⟩ : ∃ w1, w1 = wr.alloc (.cells (acell ⟨d, n, k, u⟩).toArray 45) := ⟨_, rfl⟩
      have hb1 : Below wr.heap.size wr w1 := by rw [e1]; exact (Below.refl _ wr).alloc (Nat.le_refl _) _
      have HX : Hid (RowAt w1 wr.heap.size 45 (acell ⟨d, n, k, u⟩).toArray) := Lib.hid (by rw [e1]; exact RowAt.new _ _ _)
      have HP := Lib.hid (hP.step hb1)
      have HM := Lib.hid (hM.step hb1)
      obtain ⟨q, hq⟩ : ∃ q, q = wr.heap.size := ⟨_, rfl⟩
      rw [← hq] at HX
      have hqw : W.heap.size ≤ q := by omega
      have E1 := Lib.hid e1
      have EQ := Lib.hid hq
      clear hP hM hb1 e1 hq
      go_upto_block 2 with fail
      rw [show wr.alloc (.cells #[.int .i64 d, .int .i64 n, .int .i64 k, .int .u64 (u : Int)] 45) = w1 from E1.out.symm, ← EQ.out]
      clear E1 EQ y0 y1 y2 y3 hWr
      obtain ⟨A7, c7, rfl, e7, _, _⟩ := own_form HP.out.own
      clear e7
      obtain ⟨A8, c8, rfl, _⟩ := HM.out.form
      go_cut [7, 10, 11, 12, 13, 14, 15, 16] from 27 to 131 (fun v7 _ _ _ _ _ _ _ wx => ∃ h' ps', ∃ sv' mv' : Value, v7 = sv' ∧ ps'.length ≤ i + 1 ∧ Pr W wx mb a B h' ps' sv' ps' (mcells B mv' h') ∧ OwnP wx W.heap.size mv' (pz ps'))
      case first =>
        have m0 : w1.cell? ⟨mb, 0, none⟩ = some (.int .i64 (B : Int)) := HP.out.row.cell 0
        have m1 : w1.cell? ⟨mb, 1, none⟩ = some (.slice A8 (pz ps).length c8) := HP.out.row.cell 1
        have m2 : w1.cell? ⟨mb, 2, none⟩ = some (.int .i64 (h : Int)) := HP.out.row.cell 2
        have x1 : w1.cell? ⟨q, 1, none⟩ = some (.int .i64 n) := HX.out.cell 1
        have hz0 := HP.out.ar.fit
        have HFI := Lib.hid hz0
        have FITB := Lib.hid (And.intro hz0.1 hz0.2.2)
        have hbu := hz0.1
        have hbh := hz0.2.2
        have hpl : (pz ps).length = ps.length := pz_length ps
        have HPL := Lib.hid hpl
        have hlz : (pz ps).length ≤ 60 := by omega
        clear hz0 hpl
        by_cases hd0 : d = 0
        · have ed0 : (d == 0) = true := by simpa using hd0
          have HFD := Lib.hid (HFX.out hd0)
          clear hd0
          by_cases hbad : n < 0 ∨ (B : Int) - usd (pz ps) < n
          · obtain ⟨z, hz, hz0⟩ : ∃ z : Int, (n < 0 ∧ z = 1 ∨ 0 ≤ n ∧ (B : Int) - usd (pz ps) < n ∧ z = 4) ∧ z ≠ 0 := by
              by_cases hn : n < 0
              · exact ⟨1, .inl ⟨hn, rfl⟩, by decide⟩
              · exact ⟨4, .inr ⟨by omega, by omega, rfl⟩, by decide⟩
            have C1 := rres_bad B h HM.out (by omega) hB hbu n z hz
            have C2 : Hid (∀ w', Pr W w' mb a B h ps (.slice A7 ps.length c7) ps (mcells B (.slice A8 (pz ps).length c8) h) → Calls Try.prog 9 #[.pointer (some ⟨a, 0, none⟩), .int .i64 n] w' fun e w'' => e = .returned (.tuple #[.pointer none, .int .i64 z]) ∧ ∃ q, w'' = w'.drewN q) := Lib.hid fun w' H => by
              rcases hz with ⟨hn, rfl⟩ | ⟨hn0, hn, rfl⟩
              · exact (ares_neg _ n hn w').mono fun e w'' ⟨h1, h2⟩ => ⟨h1, 0, h2⟩
              · exact ares_full H.ar.are n hn0 hn hB hbu
            have ez0 : (z == 0) = false := by simpa using hz0
            have ez1 : (z != 0) = true := by simpa using hz0
            unfold mcells at C1
            have C1 := Lib.hid C1
            clear hz hz0 hbad
            go_wp2_with fail
            refine C1.out.mono ?_
            rintro e w2 ⟨rfl, hb2⟩
            have h2s := hb2.size
            have HM2 := Lib.hid (HM.out.step hb2)
            have HP2 := Lib.hid (HP.out.step hb2)
            have HX2 := Lib.hid (HX.out.step hb2)
            clear C1 m0 m1 m2 x1 hb2
            go_upto_region 8 with fail
            obtain ⟨w3, e3⟩ : ∃ w3, w3 = w2.alloc (.cells #[.int .i64 (B : Int), .slice A8 (pz ps).length c8, .int .i64 (h : Int)] 32) := ⟨_, rfl⟩
            rw [← e3]
            have hb3 : Below w2.heap.size w2 w3 := by rw [e3]; exact (Below.refl _ _).alloc (Nat.le_refl _) _
            have HT : Hid (RowAt w3 w2.heap.size 32 (mcells B (.slice A8 (pz ps).length c8) h)) := Lib.hid (by rw [e3]; exact RowAt.new _ _ _)
            have HM3 := Lib.hid (HM2.out.step hb3)
            have HP3 := Lib.hid (HP2.out.step hb3)
            have HX3 := Lib.hid (HX2.out.step hb3)
            generalize w2.heap.size = q2 at *
            clear hb3 e3 HM2 HP2 HX2
            have x1 : w3.cell? ⟨q, 1, none⟩ = some (.int .i64 n) := HX3.out.cell 1
            have m0 : w3.cell? ⟨mb, 0, none⟩ = some (.int .i64 (B : Int)) := HP3.out.row.cell 0
            have m1 : w3.cell? ⟨mb, 1, none⟩ = some (.slice A8 (pz ps).length c8) := HP3.out.row.cell 1
            have m2 : w3.cell? ⟨mb, 2, none⟩ = some (.int .i64 (h : Int)) := HP3.out.row.cell 2
            have f0 := HP3.out.row.frozen 0
            have f1 := HP3.out.row.frozen 1
            have f2 := HP3.out.row.frozen 2
            have t0 : w3.cell? ⟨q2, 0, none⟩ = some (.int .i64 (B : Int)) := HT.out.cell 0
            have t1 : w3.cell? ⟨q2, 1, none⟩ = some (.slice A8 (pz ps).length c8) := HT.out.cell 1
            have t2 : w3.cell? ⟨q2, 2, none⟩ = some (.int .i64 (h : Int)) := HT.out.cell 2
            have C2 := Lib.hid (C2.out w3 HP3.out)
            go_wp2_with fail
            refine C2.out.mono ?_
            rintro e w4 ⟨rfl, q4, rfl⟩
            clear C2
            go_wp2
            go_quiet (fail)
            go_wp2
            go_meet
            case rel =>
              obtain ⟨hs1, hs2⟩ := (HP3.out.drewN (q4 + nq)).setm ⟨_, _, _, rfl⟩ (.slice A8 (pz ps).length c8) h
              exact ⟨h, ps, _, _, rfl, by omega, hs1, own_leaves (HM3.out.step (below_drewN (Below.refl _ _) (q4 + nq))) (hs2 _ (by rfl))⟩
          · obtain ⟨nn, rfl⟩ := Int.eq_ofNat_of_zero_le (show 0 ≤ n by omega)
            have hun : usd (pz ps) + nn ≤ B := by omega
            have hn100 : nn ≤ 100 := by
              by_cases h0 : nn = 0
              · omega
              · have := HFD.out (by omega) (by omega)
                omega
            have C1 := rres_any B h HM.out (by omega) hB (by omega) nn hun
            unfold mcells at C1
            have C1 := Lib.hid C1
            clear hbad
            go_wp2_with fail
            refine C1.out.mono ?_
            rintro e w2 ⟨⟨v2, rfl, ho2⟩, hb2⟩
            obtain ⟨A10, c10, rfl, _⟩ := ho2.form
            rw [show (pz ps ++ [(nn, true)]).length = (pz ps).length + 1 by simp] at ho2 ⊢
            obtain ⟨hm, ehm⟩ : ∃ hm, hm = max h (usd (pz ps) + nn) := ⟨_, rfl⟩
            rw [← ehm]
            have EHM := Lib.hid ehm
            have h2s := hb2.size
            have HM2 := Lib.hid (ho2.base (N' := W.heap.size) (Nat.le_trans HP.out.below.size (Nat.le_refl _)))
            have HP2 := Lib.hid (HP.out.step hb2)
            have HX2 := Lib.hid (HX.out.step hb2)
            clear C1 m0 m1 m2 x1 hb2 ho2 ehm
            go_upto_region 8 with fail
            obtain ⟨w3, e3⟩ : ∃ w3, w3 = w2.alloc (.cells #[.int .i64 (B : Int), .slice A10 ((pz ps).length + 1) c10, .int .i64 (hm : Int)] 32) := ⟨_, rfl⟩
            rw [← e3]
            have hb3 : Below w2.heap.size w2 w3 := by rw [e3]; exact (Below.refl _ _).alloc (Nat.le_refl _) _
            have HT : Hid (RowAt w3 w2.heap.size 32 (mcells B (.slice A10 ((pz ps).length + 1) c10) hm)) := Lib.hid (by rw [e3]; exact RowAt.new _ _ _)
            have HM3 := Lib.hid (HM2.out.step hb3)
            have HP3 := Lib.hid (HP2.out.step hb3)
            have HX3 := Lib.hid (HX2.out.step hb3)
            generalize w2.heap.size = q2 at *
            clear hb3 e3 HM2 HP2 HX2
            have x1 : w3.cell? ⟨q, 1, none⟩ = some (.int .i64 (nn : Int)) := HX3.out.cell 1
            have hW3 := HP3.out.below.size
            have hmn := many_le ps
            have C2 : Hid (Calls Try.prog 9 #[.pointer (some ⟨a, 0, none⟩), .int .i64 (nn : Int)] w3 fun e w' => (∃ p g, e = .returned (.tuple #[.pointer (some ⟨p, 0, none⟩), .int .i64 0]) ∧ LiveAt w' p a g (List.replicate nn zb) ∧ w3.heap.size ≤ p ∧ w3.heap.size ≤ g) ∧ AreAt w' a B (usd (pz ps) + nn) hm (mny (pz ps) + 1) ∧ Kept (fun k => k = a) w3 w') := Lib.hid (by rw [EHM.out]; exact ares_any HP3.out.ar.are nn hun hB (by omega))
            clear hmn
            go_wp2_with fail
            refine C2.out.mono ?_
            rintro e w4 ⟨⟨p, gg, rfl, hL, hp, hgg⟩, hA4, hK4⟩
            have HA4 := Lib.hid (HP3.out.ar.reserve hn100 hun EHM.out hA4 hL hp hgg hW3 hK4)
            have HP4 := Lib.hid (HP3.out.turned HA4.out (fun t ht => HP3.out.ar.leaves_are hK4 t ht.1) (hK4.under (fun k e => by rw [e]; exact HP3.out.ar.newA) hW3))
            have HM4 : Hid (OwnP w4 W.heap.size _ _) := Lib.hid (own_leaves HM3.out (HP3.out.ar.leaves_are hK4 _ (by rfl)))
            have HX4 := Lib.hid (HP3.out.ar.leaves_are hK4 45 (by rfl) _ _ HX3.out)
            have HT4 := Lib.hid (HP3.out.ar.leaves_are hK4 32 (by rfl) _ _ HT.out)
            have hln : (List.replicate nn zb).length = nn := List.length_replicate ..
            have HL4 := Lib.hid hL
            have HCL : Hid (∀ w, Below w4.heap.size w4 w → Calls Try.prog 16 #[.pointer (some ⟨p, 0, none⟩)] w fun e w' => ∃ v, e = .returned v ∧ Is (.int .i64 (nn : Int)) v w' ∧ Below w.heap.size w w') := Lib.hid fun w hb => by
              have := len_any (RowAt.step HL4.out.row hb)
              rw [hln] at this
              exact this.mono fun e w' ⟨h1, h2⟩ => ⟨_, h1, rfl, by rw [h2]; exact Below.refl _ _⟩
            have HCC : Hid (∀ w, Below w4.heap.size w4 w → Calls Try.prog 17 #[.pointer (some ⟨p, 0, none⟩)] w fun e w' => ∃ v, e = .returned v ∧ Is (.bool true) v w' ∧ Below w.heap.size w w') := Lib.hid fun w hb => by
              have := pclean_any (HL4.out.step hb) (by rw [hln]; omega)
              rw [clB_zeros] at this
              exact this.mono fun e w' ⟨h1, h2⟩ => ⟨_, h1, rfl, by rw [h2]; exact Below.refl _ _⟩
            clear C2 hL hA4 hK4 hp hgg HA4 HM3 HP3 HX3 HT hln HL4 x1
            go_wp2_with fail
            refine wp_region_text [Is (.int .i64 0), Is (.int .i64 0), Is (.bool false), Is (.bool false), Is (.int .i64 0), Is (.bool true), Is (.bool true), Is (.pointer (some ⟨p, 0, none⟩)), Is (.int .i64 (nn : Int)), Is (.pointer (some ⟨q, 1, none⟩)), Is (.int .i64 (nn : Int)), Is (.bool false), Is (.bool false), Is (.pointer (some ⟨p, 0, none⟩)), Is (.bool true), Is (.bool false), Is (.bool false), Is (.bool false), Is (.bool false), Is (.bool false), Is (.int .i64 0), Is (.bool false), Is (.bool false), Is undef, Is undef, Is (.bool false), Is (.bool false)] (by kernel_rfl) (by kernel_rfl) rfl ⟨stable_is _, stable_is _, stable_is _, stable_is _, stable_is _, stable_is _, stable_is _, stable_is _, stable_is _, stable_is _, stable_is _, stable_is _, stable_is _, stable_is _, stable_is _, stable_is _, stable_is _, stable_is _, stable_is _, stable_is _, stable_is _, stable_is _, stable_is _, stable_is _, stable_is _, stable_is _, stable_is _, trivial⟩ ⟨?_, ?_, ?_, ?_, ?_, ?_, ?_, ?_, ?_, ?_, ?_, ?_, ?_, ?_, ?_, ?_, ?_, ?_, ?_, ?_, ?_, ?_, ?_, ?_, ?_, ?_, ?_, trivial⟩ ?_
            · intro a w C
              exact part_on (wanted_free rfl _) (op_move (.inl rfl) (C.was 13 (by kernel_rfl)))
            · intro a w C
              exact part_on (wanted_free rfl _) (op_move (.inl rfl) (C.was 11 (by kernel_rfl)))
            · intro a w C
              exact part_on (wanted_free rfl _) (op_bin rfl (C.on (j := 0) (by kernel_rfl) rfl rfl) (C.on (j := 1) (by kernel_rfl) rfl rfl) rfl (by simp [go_sem]) rfl)
            · intro a w C
              exact part_on (wanted_free rfl _) (op_move (.inl rfl) (C.on (j := 2) (by kernel_rfl) rfl rfl))
            · intro a w C
              exact part_on (wanted_on (j := 3) rfl rfl rfl (C.on (j := 3) (by kernel_rfl) rfl rfl)) (op_move (.inl rfl) (C.was 13 (by kernel_rfl)))
            · intro a w C
              exact part_on (wanted_on (j := 3) rfl rfl rfl (C.on (j := 3) (by kernel_rfl) rfl rfl)) (op_bin rfl (C.on (j := 4) (by kernel_rfl) rfl rfl) rfl rfl (by simp [go_sem]) rfl)
            · intro a w C
              exact part_on (wanted_on (j := 3) rfl rfl rfl (C.on (j := 3) (by kernel_rfl) rfl rfl)) (op_move (.inl rfl) (C.on (j := 5) (by kernel_rfl) rfl rfl))
            · intro a w C
              exact part_on (wanted_on (j := 6) rfl rfl rfl (C.on (j := 6) (by kernel_rfl) rfl rfl)) (op_move (.inl rfl) (C.was 12 (by kernel_rfl)))
            · intro a w C
              exact part_on (wanted_on (j := 6) rfl rfl rfl (C.on (j := 6) (by kernel_rfl) rfl rfl)) (op_call1 rfl (reg_enters Try.func16 (by kernel_rfl) (by kernel_rfl)) (C.on (j := 7) (by kernel_rfl) rfl rfl) (HCL.out w C.below))
            · intro a w C
              exact part_on (wanted_on (j := 6) rfl rfl rfl (C.on (j := 6) (by kernel_rfl) rfl rfl)) (op_value (actn_run rfl (C.was 9 (by kernel_rfl))) rfl)
            · intro a w C
              exact part_on (wanted_on (j := 6) rfl rfl rfl (C.on (j := 6) (by kernel_rfl) rfl rfl)) (op_value (lint_run rfl (C.on (j := 9) (by kernel_rfl) rfl rfl) ((HX4.out.step C.below).cell 1)) rfl)
            · intro a w C
              exact part_on (wanted_on (j := 6) rfl rfl rfl (C.on (j := 6) (by kernel_rfl) rfl rfl)) (op_bin rfl (C.on (j := 8) (by kernel_rfl) rfl rfl) (C.on (j := 10) (by kernel_rfl) rfl rfl) rfl (by simp [go_sem]) rfl)
            · intro a w C
              exact part_on (wanted_on (j := 6) rfl rfl rfl (C.on (j := 6) (by kernel_rfl) rfl rfl)) (op_move (.inl rfl) (C.on (j := 11) (by kernel_rfl) rfl rfl))
            · intro a w C
              exact part_on (wanted_on (j := 12) rfl rfl rfl (C.on (j := 12) (by kernel_rfl) rfl rfl)) (op_move (.inl rfl) (C.was 12 (by kernel_rfl)))
            · intro a w C
              exact part_on (wanted_on (j := 12) rfl rfl rfl (C.on (j := 12) (by kernel_rfl) rfl rfl)) (op_call1 rfl (reg_enters Try.func17 (by kernel_rfl) (by kernel_rfl)) (C.on (j := 13) (by kernel_rfl) rfl rfl) (HCC.out w C.below))
            · intro a w C
              exact part_on (wanted_on (j := 12) rfl rfl rfl (C.on (j := 12) (by kernel_rfl) rfl rfl)) (op_value (not_run rfl (C.on (j := 14) (by kernel_rfl) rfl rfl)) rfl)
            · intro a w C
              exact part_on (wanted_on (j := 6) rfl rfl rfl (C.on (j := 6) (by kernel_rfl) rfl rfl)) (op_pick (k := false) rfl (C.on (j := 12) (by kernel_rfl) rfl rfl) (C.on (j := 15) (by kernel_rfl) rfl rfl))
            · intro a w C
              exact part_on (wanted_on (j := 3) rfl rfl rfl (C.on (j := 3) (by kernel_rfl) rfl rfl)) (op_pick (k := true) rfl (C.on (j := 6) (by kernel_rfl) rfl rfl) (C.on (j := 16) (by kernel_rfl) rfl rfl))
            · intro a w C
              exact part_on (wanted_free rfl _) (op_pick (k := false) rfl (C.on (j := 3) (by kernel_rfl) rfl rfl) (C.on (j := 17) (by kernel_rfl) rfl rfl))
            · intro a w C
              exact part_on (wanted_free rfl _) (op_move (.inl rfl) (C.on (j := 18) (by kernel_rfl) rfl rfl))
            · intro a w C
              exact part_on (wanted_on (j := 19) rfl rfl rfl (C.on (j := 19) (by kernel_rfl) rfl rfl)) (op_move (.inl rfl) (C.was 13 (by kernel_rfl)))
            · intro a w C
              exact part_on (wanted_on (j := 19) rfl rfl rfl (C.on (j := 19) (by kernel_rfl) rfl rfl)) (op_bin rfl (C.on (j := 20) (by kernel_rfl) rfl rfl) rfl rfl (by simp [go_sem]) rfl)
            · intro a w C
              exact part_on (wanted_on (j := 19) rfl rfl rfl (C.on (j := 19) (by kernel_rfl) rfl rfl)) (op_move (.inl rfl) (C.on (j := 21) (by kernel_rfl) rfl rfl))
            · intro a w C
              exact part_off (wanted_off (j := 22) rfl rfl rfl (C.on (j := 22) (by kernel_rfl) rfl rfl)) rfl
            · intro a w C
              exact part_off (wanted_off (j := 22) rfl rfl rfl (C.on (j := 22) (by kernel_rfl) rfl rfl)) rfl
            · intro a w C
              exact part_on (wanted_on (j := 19) rfl rfl rfl (C.on (j := 19) (by kernel_rfl) rfl rfl)) (op_pick (k := false) rfl (C.on (j := 22) (by kernel_rfl) rfl rfl) rfl)
            · intro a w C
              exact part_on (wanted_free rfl _) (op_pick (k := false) rfl (C.on (j := 19) (by kernel_rfl) rfl rfl) (C.on (j := 25) (by kernel_rfl) rfl rfl))
            rintro wF hbF _ rfl _ rfl _ rfl _ rfl _ rfl _ rfl _ rfl _ rfl _ rfl _ rfl _ rfl _ rfl _ rfl _ rfl _ rfl _ rfl _ rfl _ rfl _ rfl _ rfl _ rfl _ rfl _ rfl _ rfl _ rfl _ rfl _ rfl
            simp only [Fin, setAt, Exit.then, List.setIfInBounds_toArray, List.set_cons_succ, List.set_cons_zero]
            have HP5 := Lib.hid (HP4.out.step hbF)
            have HM5 := Lib.hid (HM4.out.step hbF)
            have HT5 := Lib.hid (HT4.out.step hbF)
            have m0 : wF.cell? ⟨mb, 0, none⟩ = some (.int .i64 (B : Int)) := HP5.out.row.cell 0
            have m1 : wF.cell? ⟨mb, 1, none⟩ = some (.slice A8 (pz ps).length c8) := HP5.out.row.cell 1
            have m2 : wF.cell? ⟨mb, 2, none⟩ = some (.int .i64 (h : Int)) := HP5.out.row.cell 2
            have f0 := HP5.out.row.frozen 0
            have f1 := HP5.out.row.frozen 1
            have f2 := HP5.out.row.frozen 2
            have t0 : wF.cell? ⟨q2, 0, none⟩ = some (.int .i64 (B : Int)) := HT5.out.cell 0
            have t1 : wF.cell? ⟨q2, 1, none⟩ = some (.slice A10 ((pz ps).length + 1) c10) := HT5.out.cell 1
            have t2 : wF.cell? ⟨q2, 2, none⟩ = some (.int .i64 (hm : Int)) := HT5.out.cell 2
            clear HP4 HM4 HT4 HX4 HCL HCC hbF
            go_upto_region 13 with fail
            obtain ⟨hs1, hs2⟩ := HP5.out.setm ⟨_, _, _, rfl⟩ (.slice A10 ((pz ps).length + 1) c10) hm
            have hM6 := own_leaves HM5.out (hs2 62 (by rfl))
            generalize World.setCell (World.setCell (World.setCell wF _ _) _ _) _ _ = w6 at hs1 hs2 hM6 ⊢
            clear hs2 HM5 HP5 HT5 m0 m1 m2 f0 f1 f2 t0 t1 t2
            obtain ⟨v7, w7, hap, hP7, hL7⟩ := hs1.more ⟨p, gg, nn, true, List.replicate nn zb⟩ (by omega)
            have HAP := Lib.hid hap
            have HP7 := Lib.hid hP7
            have HM7 := Lib.hid (own_leaves hM6 (hL7 62 (by rfl)))
            clear hs1 hM6 hap hP7 hL7
            go_wp2_with (at_builtin; refine wpList_append_of rfl (.tmp 73) (.tmp 75) 46 rfl _ _ _ rfl rfl HAP.out ?_)
            go_meet
            case rel =>
              refine ⟨hm, ps ++ [⟨p, gg, nn, true, List.replicate nn zb⟩], _, _, rfl, by simp; omega, HP7.out, ?_⟩
              have e : pz (ps ++ [⟨p, gg, nn, true, List.replicate nn zb⟩]) = pz ps ++ [(nn, true)] := by simp [pz]
              rw [e]
              have := HM7.out
              exact this
        · have ed0 : (d == 0) = false := by simpa using hd0
          clear hd0
          by_cases hd1 : d = 1
          · have ed1 : (d == 1) = true := by simpa using hd1
            clear hd1
            by_cases hout : n < 0 ∨ (ps.length : Int) ≤ n
            · have C1 := rrel_out B h HM.out n (by rw [HPL.out]; exact hout)
              unfold mcells at C1
              have C1 := Lib.hid C1
              have hh : decide (0 ≤ n) = false ∨ decide (0 ≤ n) = true ∧ decide (n < (ps.length : Int)) = false := by simp; omega
              have CN := Lib.hid (fun w => arel_none ⟨a, 0, none⟩ w)
              clear hout hlz
              rcases hh with g1 | ⟨g1, g2⟩
              all_goals
                go_wp2_with fail
                refine C1.out.mono ?_
                rintro e w2 ⟨rfl, hb2⟩
                have h2s := hb2.size
                have HM2 := Lib.hid (HM.out.step hb2)
                have HP2 := Lib.hid (HP.out.step hb2)
                have HX2 := Lib.hid (HX.out.step hb2)
                clear C1 m0 m1 m2 x1 hb2
                go_upto_region 16 with fail
                obtain ⟨w3, e3⟩ : ∃ w3, w3 = w2.alloc (.cells #[.int .i64 (B : Int), .slice A8 (pz ps).length c8, .int .i64 (h : Int)] 32) := ⟨_, rfl⟩
                rw [← e3]
                have hb3 : Below w2.heap.size w2 w3 := by rw [e3]; exact (Below.refl _ _).alloc (Nat.le_refl _) _
                have HT : Hid (RowAt w3 w2.heap.size 32 #[.int .i64 (B : Int), .slice A8 (pz ps).length c8, .int .i64 (h : Int)]) := Lib.hid (by rw [e3]; exact RowAt.new _ _ _)
                have HM3 := Lib.hid (HM2.out.step hb3)
                have HP3 := Lib.hid (HP2.out.step hb3)
                have HX3 := Lib.hid (HX2.out.step hb3)
                generalize w2.heap.size = q2 at *
                clear hb3 e3 HM2 HP2 HX2
                have x1 : w3.cell? ⟨q, 1, none⟩ = some (.int .i64 n) := HX3.out.cell 1
                have m0 : w3.cell? ⟨mb, 0, none⟩ = some (.int .i64 (B : Int)) := HP3.out.row.cell 0
                have m1 : w3.cell? ⟨mb, 1, none⟩ = some (.slice A8 (pz ps).length c8) := HP3.out.row.cell 1
                have m2 : w3.cell? ⟨mb, 2, none⟩ = some (.int .i64 (h : Int)) := HP3.out.row.cell 2
                have f0 := HP3.out.row.frozen 0
                have f1 := HP3.out.row.frozen 1
                have f2 := HP3.out.row.frozen 2
                have t0 : w3.cell? ⟨q2, 0, none⟩ = some (.int .i64 (B : Int)) := HT.out.cell 0
                have t1 : w3.cell? ⟨q2, 1, none⟩ = some (.slice A8 (pz ps).length c8) := HT.out.cell 1
                have t2 : w3.cell? ⟨q2, 2, none⟩ = some (.int .i64 (h : Int)) := HT.out.cell 2
                go_wp2_with fail
                refine (CN.out _).mono ?_
                rintro e w4 ⟨rfl, hw4⟩
                obtain rfl := hw4
                go_wp2
                go_meet
                case rel =>
                  obtain ⟨hs1, hs2⟩ := HP3.out.setm ⟨_, _, _, rfl⟩ (.slice A8 (pz ps).length c8) h
                  exact ⟨h, ps, _, _, rfl, by omega, hs1, own_leaves HM3.out (hs2 _ (by rfl))⟩
            · obtain ⟨j, rfl⟩ := Int.eq_ofNat_of_zero_le (show 0 ≤ n by omega)
              have hj : j < ps.length := by omega
              have g1 : decide (0 ≤ (j : Int)) = true := by simp
              have g2 : decide ((j : Int) < (ps.length : Int)) = true := by simp; omega
              have g3 : decide (j < ps.length) = true := by simp; omega
              have hj0 : (0 : Int) ≤ (j : Int) := by omega
              have hj1 : (j : Int) < (ps.length : Int) := by omega
              obtain ⟨ga, ca, ea, hca, hga⟩ := ptr_at HP.out.own j hj
              injection ea with ea1 ea2 ea3
              subst ea1
              clear ea2 ea3 hout
              by_cases hlv : ps[j].live = true
              case neg =>
                have hlv : ps[j].live = false := by simpa using hlv
                have C1 := rrel_dead B h HM.out j (by rw [HPL.out]; exact hj) (by rw [pz_at]; exact hlv)
                unfold mcells at C1
                have C1 := Lib.hid C1
                have HO := Lib.hid (HP.out.ar.off j hj hlv)
                generalize hpp : ps[j].p = pp at *
                clear hpp hlz
                go_wp2_with fail
                refine C1.out.mono ?_
                rintro e w2 ⟨rfl, hb2⟩
                have hcp := (hb2.cell (p := ⟨ga, j, none⟩) hga).trans hca
                have h2s := hb2.size
                have HM2 := Lib.hid (HM.out.step hb2)
                have HP2 := Lib.hid (HP.out.step hb2)
                have HX2 := Lib.hid (HX.out.step hb2)
                have HO2 := Lib.hid (RowAt.step HO.out hb2)
                have hga2 : ga < w2.heap.size := by omega
                clear C1 m0 m1 m2 x1 hb2
                go_upto_region 16 with fail
                obtain ⟨w3, e3⟩ : ∃ w3, w3 = w2.alloc (.cells #[.int .i64 (B : Int), .slice A8 (pz ps).length c8, .int .i64 (h : Int)] 32) := ⟨_, rfl⟩
                rw [← e3]
                have hb3 : Below w2.heap.size w2 w3 := by rw [e3]; exact (Below.refl _ _).alloc (Nat.le_refl _) _
                have HT : Hid (RowAt w3 w2.heap.size 32 #[.int .i64 (B : Int), .slice A8 (pz ps).length c8, .int .i64 (h : Int)]) := Lib.hid (by rw [e3]; exact RowAt.new _ _ _)
                have HM3 := Lib.hid (HM2.out.step hb3)
                have HP3 := Lib.hid (HP2.out.step hb3)
                have HX3 := Lib.hid (HX2.out.step hb3)
                have HO3 := Lib.hid (RowAt.step HO2.out hb3)
                have hcp := (hb3.cell (p := ⟨ga, j, none⟩) hga2).trans hcp
                generalize w2.heap.size = q2 at *
                clear HO HO2 hb3 e3 HM2 HP2 HX2
                have x1 : w3.cell? ⟨q, 1, none⟩ = some (.int .i64 (j : Int)) := HX3.out.cell 1
                have m0 : w3.cell? ⟨mb, 0, none⟩ = some (.int .i64 (B : Int)) := HP3.out.row.cell 0
                have m1 : w3.cell? ⟨mb, 1, none⟩ = some (.slice A8 (pz ps).length c8) := HP3.out.row.cell 1
                have m2 : w3.cell? ⟨mb, 2, none⟩ = some (.int .i64 (h : Int)) := HP3.out.row.cell 2
                have f0 := HP3.out.row.frozen 0
                have f1 := HP3.out.row.frozen 1
                have f2 := HP3.out.row.frozen 2
                have t0 : w3.cell? ⟨q2, 0, none⟩ = some (.int .i64 (B : Int)) := HT.out.cell 0
                have t1 : w3.cell? ⟨q2, 1, none⟩ = some (.slice A8 (pz ps).length c8) := HT.out.cell 1
                have t2 : w3.cell? ⟨q2, 2, none⟩ = some (.int .i64 (h : Int)) := HT.out.cell 2
                have CN := Lib.hid (arel_off HO3.out)
                go_wp2_with fail
                refine CN.out.mono ?_
                rintro e w4 ⟨rfl, hw4⟩
                obtain rfl := hw4
                go_wp2
                go_meet
                case rel =>
                  obtain ⟨hs1, hs2⟩ := HP3.out.setm ⟨_, _, _, rfl⟩ (.slice A8 (pz ps).length c8) h
                  exact ⟨h, ps, _, _, rfl, by omega, hs1, own_leaves HM3.out (hs2 _ (by rfl))⟩
              case pos =>
                have C1 := rrel_any B h HM.out j (by rw [HPL.out]; exact hj) (by rw [pz_at]; exact hlv) (by omega)
                rw [pz_at] at C1
                unfold mcells at C1
                have C1 := Lib.hid C1
                have HLV := Lib.hid hlv
                generalize hpp : ps[j].p = pp at *
                have HPP := Lib.hid hpp
                clear hpp hlv
                go_wp2_with fail
                refine C1.out.mono ?_
                rintro e w2 ⟨⟨v2, rfl, ho2⟩, hb2⟩
                obtain ⟨A10, c10, rfl, _⟩ := ho2.form
                rw [List.length_set] at ho2 ⊢
                have h2s := hb2.size
                have hcp := (hb2.cell (p := ⟨ga, j, none⟩) hga).trans hca
                have HM2 := Lib.hid (ho2.base (N' := W.heap.size) HP.out.below.size)
                have HP2 := Lib.hid (HP.out.step hb2)
                have HX2 := Lib.hid (HX.out.step hb2)
                have hga2 : ga < w2.heap.size := by omega
                clear C1 m0 m1 m2 x1 hb2 ho2
                go_upto_region 16 with fail
                obtain ⟨w3, e3⟩ : ∃ w3, w3 = w2.alloc (.cells #[.int .i64 (B : Int), .slice A10 (pz ps).length c10, .int .i64 (h : Int)] 32) := ⟨_, rfl⟩
                rw [← e3]
                have hb3 : Below w2.heap.size w2 w3 := by rw [e3]; exact (Below.refl _ _).alloc (Nat.le_refl _) _
                have HT : Hid (RowAt w3 w2.heap.size 32 #[.int .i64 (B : Int), .slice A10 (pz ps).length c10, .int .i64 (h : Int)]) := Lib.hid (by rw [e3]; exact RowAt.new _ _ _)
                have HM3 := Lib.hid (HM2.out.step hb3)
                have HP3 := Lib.hid (HP2.out.step hb3)
                have HX3 := Lib.hid (HX2.out.step hb3)
                have hcp := (hb3.cell (p := ⟨ga, j, none⟩) hga2).trans hcp
                generalize w2.heap.size = q2 at *
                clear hb3 e3 HM2 HP2 HX2
                have x1 : w3.cell? ⟨q, 1, none⟩ = some (.int .i64 (j : Int)) := HX3.out.cell 1
                have hlv := HLV.out
                obtain ⟨hL, hln⟩ := HP3.out.ar.live j hj hlv
                rw [HPP.out] at hL
                have hW3 := HP3.out.below.size
                have hus := usd_set (pz ps) j (by rw [HPL.out]; exact hj) (by rw [pz_at]; exact hlv)
                rw [pz_at] at hus
                dsimp only at hus
                have hmn := many_le ps
                have C2 := Lib.hid (arel_any HP3.out.ar.are hL (by omega) (by omega) (by omega) (by omega))
                clear hus hL hln hlv hmn
                go_wp2_with fail
                refine C2.out.mono ?_
                rintro e w4 ⟨rfl, hO4, hA4, hK4⟩
                have hKK : Kept (fun k => k = a ∨ k = ps[j].p ∨ k = ps[j].g) w3 w4 := by rw [HPP.out]; exact hK4
                have hLF := HP3.out.ar.leaves_of hj HLV.out hKK
                have hnw := HP3.out.ar.new j hj
                have hnA := HP3.out.ar.newA
                have HP4 := Lib.hid (HP3.out.turned (HP3.out.ar.release hj HLV.out (by rw [HPP.out]; exact hO4) hA4 hKK) hLF (hKK.under (fun k e => by rcases e with e | e | e <;> rw [e] <;> first | exact hnA | exact hnw.1 | exact hnw.2) hW3))
                have HM4 := Lib.hid (own_leaves HM3.out (hLF _ ⟨by rfl, by rfl, by rfl⟩))
                have HT4 := Lib.hid (hLF 32 ⟨by rfl, by rfl, by rfl⟩ _ _ HT.out)
                have m0 : w4.cell? ⟨mb, 0, none⟩ = some (.int .i64 (B : Int)) := HP4.out.row.cell 0
                have m1 : w4.cell? ⟨mb, 1, none⟩ = some (.slice A8 (pz ps).length c8) := HP4.out.row.cell 1
                have m2 : w4.cell? ⟨mb, 2, none⟩ = some (.int .i64 (h : Int)) := HP4.out.row.cell 2
                have f0 := HP4.out.row.frozen 0
                have f1 := HP4.out.row.frozen 1
                have f2 := HP4.out.row.frozen 2
                have t0 : w4.cell? ⟨q2, 0, none⟩ = some (.int .i64 (B : Int)) := HT4.out.cell 0
                have t1 : w4.cell? ⟨q2, 1, none⟩ = some (.slice A10 (pz ps).length c10) := HT4.out.cell 1
                have t2 : w4.cell? ⟨q2, 2, none⟩ = some (.int .i64 (h : Int)) := HT4.out.cell 2
                have CC := Lib.hid (pclean_off hO4)
                clear C2 hO4 hA4 hK4 hKK hLF hnw hnA HP3 HX3 HT HM3 x1 hcp
                go_wp2_with fail
                refine CC.out.mono ?_
                rintro e w5 ⟨rfl, hw5⟩
                obtain rfl := hw5
                clear CC
                go_wp2
                go_meet
                case rel =>
                  obtain ⟨hs1, hs2⟩ := HP4.out.setm ⟨_, _, _, rfl⟩ (.slice A10 (pz ps).length c10) h
                  refine ⟨h, ps.set j { ps[j] with live := false }, _, _, rfl, by rw [List.length_set]; omega, hs1.swap (ptrs_set ps j hj _ rfl), ?_⟩
                  have e : pz (ps.set j { ps[j] with live := false }) = (pz ps).set j (ps[j].n, false) := pz_set _ _ _
                  have := own_leaves HM4.out (hs2 62 (by rfl))
                  rw [e]
                  have e2 : ((pz ps).set j (ps[j].n, false)).length = (pz ps).length := List.length_set ..
                  exact this
          have ed1 : (d == 1) = false := by simpa using hd1
          clear hd1
          by_cases hd2 : d = 2
          · have ed2 : (d == 2) = true := by simpa using hd2
            clear hd2
            obtain ⟨w2, hw2⟩ : ∃ w2 : Nat → World, ∀ q, w2 q = w1.drewN q := ⟨_, fun _ => rfl⟩
            have CM : Hid (∀ q, Calls Try.prog 15 #[.pointer (some ⟨a, 0, none⟩)] (w1.drewN q) fun e w' => e = .returned (.int .i64 (h : Int)) ∧ Pr W w' mb a B (usd (pz ps)) ps (.slice A7 ps.length c7) ps (mcells B (.slice A8 (pz ps).length c8) h) ∧ OwnP w' W.heap.size (.slice A8 (pz ps).length c8) (pz ps)) := Lib.hid fun q => by
              have hP := HP.out.drewN q
              have hM := HM.out.step (below_drewN (Below.refl _ _) q)
              refine (mark_any hP.ar.are).mono ?_
              rintro e w' ⟨h1, h2, h3⟩
              have hL := fun t (ht : (t == 42) = false ∧ (t == 55) = false ∧ (t == 60) = false) => hP.ar.leaves_are h3 t ht.1
              exact ⟨h1, hP.turned (hP.ar.high FITB.out.1 h2 h3) hL (h3.under (fun k e => by rw [e]; exact hP.ar.newA) hP.below.size), own_leaves hM (hL _ ⟨by rfl, by rfl, by rfl⟩)⟩
            clear hw2 w2
            go_upto_region 23 with fail
            go_region_with (go_at_call 15; refine (CM.out _).mono ?_; rintro e w2 ⟨rfl, hP2, hM2⟩; have m2' : w2.cell? ⟨mb, 2, none⟩ = some (.int .i64 (h : Int)) := hP2.row.cell 2; have HP2 := Lib.hid hP2; have HM2 := Lib.hid hM2; clear hP2 hM2)
            all_goals
              have CK := rmark_any B h HM2.out (by omega) (by omega)
              unfold mcells at CK
              have CK := Lib.hid CK
              have m0 : w2.cell? ⟨mb, 0, none⟩ = some (.int .i64 (B : Int)) := HP2.out.row.cell 0
              have m1 : w2.cell? ⟨mb, 1, none⟩ = some (.slice A8 (pz ps).length c8) := HP2.out.row.cell 1
              have m2 : w2.cell? ⟨mb, 2, none⟩ = some (.int .i64 (h : Int)) := HP2.out.row.cell 2
              clear CM x1
              go_wp2_with fail
              refine CK.out.mono ?_
              rintro e w3 ⟨rfl, hb3⟩
              have HP3 := Lib.hid (HP2.out.step hb3)
              have HM3 := Lib.hid (HM2.out.step hb3)
              clear CK hb3 m0 m1 m2 m2'
              have m0 : w3.cell? ⟨mb, 0, none⟩ = some (.int .i64 (B : Int)) := HP3.out.row.cell 0
              have m1 : w3.cell? ⟨mb, 1, none⟩ = some (.slice A8 (pz ps).length c8) := HP3.out.row.cell 1
              have m2 : w3.cell? ⟨mb, 2, none⟩ = some (.int .i64 (h : Int)) := HP3.out.row.cell 2
              have f0 := HP3.out.row.frozen 0
              have f1 := HP3.out.row.frozen 1
              have f2 := HP3.out.row.frozen 2
              obtain ⟨U, hU⟩ : ∃ U, U = usd (pz ps) := ⟨_, rfl⟩
              rw [← hU] at HP3 ⊢
              have HUU := Lib.hid hU
              clear hU
              go_wp2
              go_meet
              case rel =>
                obtain ⟨hs1, hs2⟩ := HP3.out.setm ⟨_, _, _, rfl⟩ (.slice A8 (pz ps).length c8) U
                exact ⟨U, ps, _, _, rfl, by omega, hs1, own_leaves HM3.out (hs2 _ (by rfl))⟩
          have ed2 : (d == 2) = false := by simpa using hd2
          clear hd2
          by_cases hd3 : d = 3
          · have ed3 : (d == 3) = true := by simpa using hd3
            clear hd3
            have C1 := set_any HP.out.ar HP.out.own HM.out HP.out.below.size ⟨d, n, k, u⟩ HUX.out
            unfold mcells acell at C1
            dsimp only at C1
            have C1 := Lib.hid C1
            have x0 : w1.cell? ⟨q, 0, none⟩ = some (.int .i64 d) := HX.out.cell 0
            have x2 : w1.cell? ⟨q, 2, none⟩ = some (.int .i64 k) := HX.out.cell 2
            have x3 : w1.cell? ⟨q, 3, none⟩ = some (.int .u64 (u : Int)) := HX.out.cell 3
            go_wp2_with fail
            refine C1.out.mono ?_
            rintro e w2 ⟨rfl, hS⟩
            have HS := Lib.hid hS
            clear C1 hS x0 x1 x2 x3 m0 m1 m2
            go_wp2
            go_meet
            case rel =>
              obtain ⟨ps', hA, hp1, hp2⟩ := HS.out.ex
              refine ⟨h, ps', _, _, rfl, ?_, (HP.out.turned hA HS.out.leaves HS.out.below).swap hp1, ?_⟩
              · rw [← pz_length, hp2, pz_length]; omega
              · rw [hp2]
                exact own_leaves HM.out (HS.out.leaves _ ⟨by rfl, by rfl, by rfl⟩)
          · have ed3 : (d == 3) = false := by simpa using hd3
            clear hd3
            go_wp2
            go_meet
            case rel => exact ⟨h, ps, _, _, rfl, by omega, HP.out, HM.out⟩
      case rest =>
        obtain ⟨h', ps', sv', mv', rfl, hlen, hP, hM⟩ := hcut
        clear HP HM HX HFX HUX
        have hz0 := hP.ar.fit
        have hm0 := many_le ps'
        obtain ⟨A9, c9, rfl, hr9⟩ := hM.form
        have m0 : wc.cell? ⟨mb, 0, none⟩ = some (.int .i64 (B : Int)) := hP.row.cell 0
        have m1 : wc.cell? ⟨mb, 1, none⟩ = some (.slice A9 (pz ps').length c9) := hP.row.cell 1
        have m2 : wc.cell? ⟨mb, 2, none⟩ = some (.int .i64 (h' : Int)) := hP.row.cell 2
        have CU := Lib.hid (rused_any B h' A9 c9 (pz ps') wc hr9 (by rw [pz_length]; omega) (by omega))
        have HP := Lib.hid hP
        have HM := Lib.hid hM
        have HFI := Lib.hid hz0
        clear hP hM hr9 hz0
        unfold mcells at *
        go_wp2_with fail
        refine CU.out.mono ?_
        rintro e w2 ⟨rfl, hb2⟩
        have HP2 := Lib.hid (HP.out.step hb2)
        have HM2 := Lib.hid (HM.out.step hb2)
        have HRW := Lib.hid HP2.out.row
        obtain ⟨U, hU⟩ : ∃ U, U = usd (pz ps') := ⟨_, rfl⟩
        obtain ⟨V, hV⟩ : ∃ V, V = mny (pz ps') := ⟨_, rfl⟩
        have hAR := HP2.out.ar.are
        rw [← hU, ← hV] at hAR ⊢
        have HAR : Hid (AreAt w2 a B U h' V) := Lib.hid hAR
        have HUB : Hid (U ≤ B) := Lib.hid (by rw [hU]; exact HFI.out.1)
        clear hb2 hAR hU hV CU HP HM m0 m1 m2
        have HCU : Hid (∀ w, Below w2.heap.size w2 w → Calls Try.prog 12 #[.pointer (some ⟨a, 0, none⟩)] w fun e w' => ∃ v, e = .returned v ∧ Is (.int .i64 (U : Int)) v w' ∧ Below w.heap.size w w') := Lib.hid fun w hb => (used_any (RowAt.step HAR.out hb)).mono fun e w' ⟨h1, h2⟩ => ⟨_, h1, rfl, h2⟩
        have HCL : Hid (∀ w, Below w2.heap.size w2 w → Calls Try.prog 14 #[.pointer (some ⟨a, 0, none⟩)] w fun e w' => ∃ v, e = .returned v ∧ Is (.int .i64 (V : Int)) v w' ∧ Below w.heap.size w w') := Lib.hid fun w hb => (lent_any (RowAt.step HAR.out hb)).mono fun e w' ⟨h1, h2⟩ => ⟨_, h1, rfl, h2⟩
        have HCH : Hid (∀ w, Below w2.heap.size w2 w → Calls Try.prog 13 #[.pointer (some ⟨a, 0, none⟩)] w fun e w' => ∃ v, e = .returned v ∧ Is (.int .i64 (h' : Int)) v w' ∧ Below w.heap.size w w') := Lib.hid fun w hb => (high_any (RowAt.step HAR.out hb)).mono fun e w' ⟨h1, h2⟩ => ⟨_, h1, rfl, h2⟩
        have HCB : Hid (∀ w, Below w2.heap.size w2 w → Calls Try.prog 11 #[.pointer (some ⟨a, 0, none⟩)] w fun e w' => ∃ v, e = .returned v ∧ Is (.int .i64 (B : Int)) v w' ∧ Below w.heap.size w w') := Lib.hid fun w hb => (budget_any (RowAt.step HAR.out hb)).mono fun e w' ⟨h1, h2⟩ => ⟨_, h1, rfl, h2⟩
        go_wp2_with fail
        refine wp_region_text [Is (.pointer (some ⟨a, 0, none⟩)), Is (.int .i64 (U : Int)), Is (.int .i64 (U : Int)), Is (.bool false), Is (.bool false), Is (.pointer (some ⟨a, 0, none⟩)), Is (.int .i64 (V : Int)), Is (.int .i64 (V : Int)), Is (.bool false), Is (.bool false), Is (.bool false), Is (.pointer (some ⟨a, 0, none⟩)), Is (.int .i64 (h' : Int)), Is (.pointer (some ⟨mb, 2, none⟩)), Is (.int .i64 (h' : Int)), Is (.bool false), Is (.bool false), Is (.bool false), Is (.pointer (some ⟨a, 0, none⟩)), Is (.int .i64 (U : Int)), Is (.pointer (some ⟨a, 0, none⟩)), Is (.int .i64 (B : Int)), Is (.bool false), Is (.bool false), Is (.bool false), Is (.pointer (some ⟨a, 0, none⟩)), Is (.int .i64 (B : Int)), Is (.pointer (some ⟨mb, 0, none⟩)), Is (.int .i64 (B : Int)), Is (.bool false), Is (.bool false)] (by kernel_rfl) (by kernel_rfl) rfl ⟨stable_is _, stable_is _, stable_is _, stable_is _, stable_is _, stable_is _, stable_is _, stable_is _, stable_is _, stable_is _, stable_is _, stable_is _, stable_is _, stable_is _, stable_is _, stable_is _, stable_is _, stable_is _, stable_is _, stable_is _, stable_is _, stable_is _, stable_is _, stable_is _, stable_is _, stable_is _, stable_is _, stable_is _, stable_is _, stable_is _, stable_is _, trivial⟩ ⟨?_, ?_, ?_, ?_, ?_, ?_, ?_, ?_, ?_, ?_, ?_, ?_, ?_, ?_, ?_, ?_, ?_, ?_, ?_, ?_, ?_, ?_, ?_, ?_, ?_, ?_, ?_, ?_, ?_, ?_, ?_, trivial⟩ ?_
        · intro a w C
          exact part_on (wanted_free rfl _) (op_move (.inl rfl) (C.was 0 (by kernel_rfl)))
        · intro a w C
          exact part_on (wanted_free rfl _) (op_call1 rfl (reg_enters Try.func12 (by kernel_rfl) (by kernel_rfl)) (C.on (j := 0) (by kernel_rfl) rfl rfl) (HCU.out w C.below))
        · intro a w C
          exact part_on (wanted_free rfl _) (op_move (.inl rfl) (C.was 17 (by kernel_rfl)))
        · intro a w C
          exact part_on (wanted_free rfl _) (op_bin rfl (C.on (j := 1) (by kernel_rfl) rfl rfl) (C.on (j := 2) (by kernel_rfl) rfl rfl) rfl (by simp [go_sem]) rfl)
        · intro a w C
          exact part_on (wanted_free rfl _) (op_move (.inl rfl) (C.on (j := 3) (by kernel_rfl) rfl rfl))
        · intro a w C
          exact part_on (wanted_on (j := 4) rfl rfl rfl (C.on (j := 4) (by kernel_rfl) rfl rfl)) (op_move (.inl rfl) (C.was 0 (by kernel_rfl)))
        · intro a w C
          exact part_on (wanted_on (j := 4) rfl rfl rfl (C.on (j := 4) (by kernel_rfl) rfl rfl)) (op_call1 rfl (reg_enters Try.func14 (by kernel_rfl) (by kernel_rfl)) (C.on (j := 5) (by kernel_rfl) rfl rfl) (HCL.out w C.below))
        · intro a w C
          exact part_on (wanted_on (j := 4) rfl rfl rfl (C.on (j := 4) (by kernel_rfl) rfl rfl)) (op_move (.inl rfl) (C.was 18 (by kernel_rfl)))
        · intro a w C
          exact part_on (wanted_on (j := 4) rfl rfl rfl (C.on (j := 4) (by kernel_rfl) rfl rfl)) (op_bin rfl (C.on (j := 6) (by kernel_rfl) rfl rfl) (C.on (j := 7) (by kernel_rfl) rfl rfl) rfl (by simp [go_sem]) rfl)
        · intro a w C
          exact part_on (wanted_free rfl _) (op_pick (k := false) rfl (C.on (j := 4) (by kernel_rfl) rfl rfl) (C.on (j := 8) (by kernel_rfl) rfl rfl))
        · intro a w C
          exact part_on (wanted_free rfl _) (op_move (.inl rfl) (C.on (j := 9) (by kernel_rfl) rfl rfl))
        · intro a w C
          exact part_on (wanted_on (j := 10) rfl rfl rfl (C.on (j := 10) (by kernel_rfl) rfl rfl)) (op_move (.inl rfl) (C.was 0 (by kernel_rfl)))
        · intro a w C
          exact part_on (wanted_on (j := 10) rfl rfl rfl (C.on (j := 10) (by kernel_rfl) rfl rfl)) (op_call1 rfl (reg_enters Try.func13 (by kernel_rfl) (by kernel_rfl)) (C.on (j := 11) (by kernel_rfl) rfl rfl) (HCH.out w C.below))
        · intro a w C
          exact part_on (wanted_on (j := 10) rfl rfl rfl (C.on (j := 10) (by kernel_rfl) rfl rfl)) (op_value (marh_run rfl (C.was 4 (by kernel_rfl))) rfl)
        · intro a w C
          exact part_on (wanted_on (j := 10) rfl rfl rfl (C.on (j := 10) (by kernel_rfl) rfl rfl)) (op_value (lint_run rfl (C.on (j := 13) (by kernel_rfl) rfl rfl) ((HRW.out.step C.below).cell 2)) rfl)
        · intro a w C
          exact part_on (wanted_on (j := 10) rfl rfl rfl (C.on (j := 10) (by kernel_rfl) rfl rfl)) (op_bin rfl (C.on (j := 12) (by kernel_rfl) rfl rfl) (C.on (j := 14) (by kernel_rfl) rfl rfl) rfl (by simp [go_sem]) rfl)
        · intro a w C
          exact part_on (wanted_free rfl _) (op_pick (k := false) rfl (C.on (j := 10) (by kernel_rfl) rfl rfl) (C.on (j := 15) (by kernel_rfl) rfl rfl))
        · intro a w C
          exact part_on (wanted_free rfl _) (op_move (.inl rfl) (C.on (j := 16) (by kernel_rfl) rfl rfl))
        · intro a w C
          exact part_on (wanted_on (j := 17) rfl rfl rfl (C.on (j := 17) (by kernel_rfl) rfl rfl)) (op_move (.inl rfl) (C.was 0 (by kernel_rfl)))
        · intro a w C
          exact part_on (wanted_on (j := 17) rfl rfl rfl (C.on (j := 17) (by kernel_rfl) rfl rfl)) (op_call1 rfl (reg_enters Try.func12 (by kernel_rfl) (by kernel_rfl)) (C.on (j := 18) (by kernel_rfl) rfl rfl) (HCU.out w C.below))
        · intro a w C
          exact part_on (wanted_on (j := 17) rfl rfl rfl (C.on (j := 17) (by kernel_rfl) rfl rfl)) (op_move (.inl rfl) (C.was 0 (by kernel_rfl)))
        · intro a w C
          exact part_on (wanted_on (j := 17) rfl rfl rfl (C.on (j := 17) (by kernel_rfl) rfl rfl)) (op_call1 rfl (reg_enters Try.func11 (by kernel_rfl) (by kernel_rfl)) (C.on (j := 20) (by kernel_rfl) rfl rfl) (HCB.out w C.below))
        · intro a w C
          exact part_on (wanted_on (j := 17) rfl rfl rfl (C.on (j := 17) (by kernel_rfl) rfl rfl)) (op_bin rfl (C.on (j := 19) (by kernel_rfl) rfl rfl) (C.on (j := 21) (by kernel_rfl) rfl rfl) rfl (by simp [go_sem]; exact HUB.out) rfl)
        · intro a w C
          exact part_on (wanted_free rfl _) (op_pick (k := false) rfl (C.on (j := 17) (by kernel_rfl) rfl rfl) (C.on (j := 22) (by kernel_rfl) rfl rfl))
        · intro a w C
          exact part_on (wanted_free rfl _) (op_move (.inl rfl) (C.on (j := 23) (by kernel_rfl) rfl rfl))
        · intro a w C
          exact part_on (wanted_on (j := 24) rfl rfl rfl (C.on (j := 24) (by kernel_rfl) rfl rfl)) (op_move (.inl rfl) (C.was 0 (by kernel_rfl)))
        · intro a w C
          exact part_on (wanted_on (j := 24) rfl rfl rfl (C.on (j := 24) (by kernel_rfl) rfl rfl)) (op_call1 rfl (reg_enters Try.func11 (by kernel_rfl) (by kernel_rfl)) (C.on (j := 25) (by kernel_rfl) rfl rfl) (HCB.out w C.below))
        · intro a w C
          exact part_on (wanted_on (j := 24) rfl rfl rfl (C.on (j := 24) (by kernel_rfl) rfl rfl)) (op_value (marb_run rfl (C.was 4 (by kernel_rfl))) rfl)
        · intro a w C
          exact part_on (wanted_on (j := 24) rfl rfl rfl (C.on (j := 24) (by kernel_rfl) rfl rfl)) (op_value (lint_run rfl (C.on (j := 27) (by kernel_rfl) rfl rfl) ((HRW.out.step C.below).cell 0)) rfl)
        · intro a w C
          exact part_on (wanted_on (j := 24) rfl rfl rfl (C.on (j := 24) (by kernel_rfl) rfl rfl)) (op_bin rfl (C.on (j := 26) (by kernel_rfl) rfl rfl) (C.on (j := 28) (by kernel_rfl) rfl rfl) rfl (by simp [go_sem]) rfl)
        · intro a w C
          exact part_on (wanted_free rfl _) (op_pick (k := false) rfl (C.on (j := 24) (by kernel_rfl) rfl rfl) (C.on (j := 29) (by kernel_rfl) rfl rfl))
        rintro wF hbF _ rfl _ rfl _ rfl _ rfl _ rfl _ rfl _ rfl _ rfl _ rfl _ rfl _ rfl _ rfl _ rfl _ rfl _ rfl _ rfl _ rfl _ rfl _ rfl _ rfl _ rfl _ rfl _ rfl _ rfl _ rfl _ rfl _ rfl _ rfl _ rfl _ rfl _ rfl
        simp only [Fin, setAt, Exit.then, List.setIfInBounds_toArray, List.set_cons_succ, List.set_cons_zero]
        go_wp2
        go_roundg g
        case measure => omega
        case rel => exact ⟨i + 1, h', ps', _, _, by omega, by go_num, rfl, hlen, HP2.out.step hbF, HM2.out.step hbF⟩
    · obtain rfl : i = l.length := by omega
      have hdt : decide ((l.length : Int) < (l.length : Int)) = false := by simp
      have HB := Lib.hid hP.below
      clear hP hM
      go_wp2
      go_ret
      exact ⟨rfl, HB.out⟩
end Go.Proofs.Ytackcboidjmegaa

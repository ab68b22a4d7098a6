/- Close of a lease by its contract, called and deferred; With, by the contract of what is done. Conditions: those typed. -/
import Derived.Test.YtcleekhdijiefaaLsSt
import Derived.Defers
namespace Go.Proofs.Ytcleekhdijiefaa
set_option maxRecDepth 50000
open Go.RowKit Bb

def Ls.shut (x : Ls) : Ls := { x with v := .slice none 0 0, qs := [], closed := true }
/-- behind Close -/
def Shut (w w' : World) (N a B u h c : Nat) (x : Ls) : Prop :=
  AreAt w' a B (u - hs x.qs) h (c - x.qs.length) ∧ LeaseIs w' N a x.shut ∧ Kept (mine a x) w w'

set_option maxHeartbeats 1600000 in
theorem lclose_any {w : World} {N a B u h c : Nat} {x : Ls} (H : LeaseIs w N a x) (hx : x.closed = false) (hA : AreAt w a B u h c) (hu : hs x.qs ≤ u) (hu2 : u ≤ 4194304) (hc1 : x.qs.length ≤ c) (hc : c ≤ 4194304) :
    Calls Try.prog 12 #[.pointer (some ⟨x.b, 0, none⟩)] w fun e w' => e = .returned (.int .i64 0) ∧ Shut w w' N a B u h c x := by
  have hrow := H.row
  rw [hx] at hrow
  have C := Lib.hid (lfault_open hrow)
  obtain ⟨x0, x1, x2, x3, x4, f1, f2, f3, f4⟩ := hrow.at_
  obtain ⟨A, cp, hv, hown, _, hmx⟩ := own_form H.own
  clear hown
  rw [hv] at x1
  have HO := Lib.hid H.own
  have HH := Lib.hid H
  have HV := Lib.hid hv
  have HX := Lib.hid hx
  have HA := Lib.hid hA
  clear hrow hv hx H hA
  obtain ⟨b, v, qs, pk, cl⟩ := x
  dsimp only at *
  go_enter Try.func12, Try.ntmps12
  go_wp2_with fail
  refine C.out.mono ?_; rintro e w' ⟨rfl, hw⟩; obtain rfl := hw.symm
  clear hw C
  go_wp2
  clear x0 x1 x2 x3 x4 f1 f2 f3 f4
  go_loopw [16] (fun v16 wr => ∃ i : Nat, i ≤ qs.length ∧ v16 = .int .i64 (i : Int) ∧ Hid (AreAt wr a B (u - hs (qs.take i)) h (c - i)) ∧ Hid (LRow wr b a v (hs qs) pk false) ∧ Hid (wr.ownsRow N 41 1 v qs.length (qp qs)) ∧ Hid (∀ j, (hj : j < qs.length) → i ≤ j → LiveAt wr qs[j].p a qs[j].g qs[j].l) ∧ Hid (Kept (mine a ⟨b, v, qs, pk, cl⟩) w wr)) (fun v16 _ => qs.length - (intOf v16).toNat)
  case atStart =>
    have hX : cl = false := HX.out
    subst hX
    exact ⟨0, by omega, rfl, HA, Lib.hid HH.out.row, HO, Lib.hid fun j hj _ => HH.out.live j hj, Lib.hid (Kept.refl _ _)⟩
  case round =>
    obtain ⟨i, hi, rfl, HA, HL, HO, HP, HK⟩ := hrel
    obtain ⟨x0, x1, x2, x3, x4, f1, f2, f3, f4⟩ := HL.out.at_
    by_cases hlt : i < qs.length
    · have hdt : decide ((i : Int) < (qs.length : Int)) = true := by simp; omega
      have hi0 : (0 : Int) ≤ (i : Int) := by omega
      have hi1 : (i : Int) < (qs.length : Int) := by omega
      have ho := HO.out
      rw [show v = .slice A qs.length cp from HV.out] at ho
      obtain ⟨b0, off, rfl, hb0, hc0⟩ := Reads.of_own ho i (by rw [qp_length]; exact hlt)
      rw [qp_at qs i hlt] at hc0
      have hP := HP.out i hlt (Nat.le_refl _)
      have hsm := hs_part qs (i + 1)
      rw [hs_take qs i hlt] at hsm
      have CR := Lib.hid (arel_any HA.out hP (by omega) (by omega) (by omega) (by omega))
      have HT := Lib.hid (hs_take qs i hlt)
      have HAp := Lib.hid fun j (hj : j < qs.length) (hne : j ≠ i) => HH.out.apart j i hj hlt hne
      have HPi := Lib.hid hP
      clear ho hP hsm
      generalize hq : qs[i] = q at *
      go_wp2_with fail
      refine CR.out.mono ?_
      rintro e w2 ⟨rfl, hOff, hA2, hK2⟩
      have hL2 : LRow w2 b a v (hs qs) pk false := RowAt.kept HL.out hK2 (by
        rintro (e | e | e)
        · exact RowAt.unlike HL.out HA.out (by rfl) e
        · exact RowAt.unlike HL.out HPi.out.row (by rfl) e
        · exact RowAt.unlike HL.out HPi.out.blk (by rfl) e)
      have hO2 := own_kept' HO.out hK2 (by
        rintro k hk (e | e | e)
        · exact own_unlike HO.out HA.out (by rfl) (e ▸ hk)
        · exact own_unlike HO.out HPi.out.row (by rfl) (e ▸ hk)
        · exact own_unlike HO.out HPi.out.blk (by rfl) (e ▸ hk))
      have hP2 : ∀ j, (hj : j < qs.length) → i + 1 ≤ j → LiveAt w2 qs[j].p a qs[j].g qs[j].l := fun j hj hij => by
        have k1 := HP.out j hj (by omega)
        have hap := HAp.out j hj (by omega)
        refine ⟨RowAt.kept k1.row hK2 ?_, RowAt.kept k1.blk hK2 ?_, k1.ok⟩
        · rintro (e1 | e1 | e1)
          · exact RowAt.unlike k1.row HA.out (by rfl) e1
          · exact hap.1 e1
          · exact RowAt.unlike k1.row HPi.out.blk (by rfl) e1
        · rintro (e1 | e1 | e1)
          · exact RowAt.unlike k1.blk HA.out (by rfl) e1
          · exact RowAt.unlike k1.blk HPi.out.row (by rfl) e1
          · exact hap.2 e1
      have hKK : Kept (mine a ⟨b, v, qs, pk, cl⟩) w w2 := HK.out.trans hK2 fun k _ e => by
        rcases e with e | e | e
        · exact .inl e
        · exact .inr (.inr (.inr ⟨i, hlt, .inl (by simp only [hq]; exact e)⟩))
        · exact .inr (.inr (.inr ⟨i, hlt, .inr (by simp only [hq]; exact e)⟩))
      have HA2 : Hid (AreAt w2 a B (u - hs (qs.take (i + 1))) h (c - (i + 1))) := Lib.hid (by rw [HT.out, Nat.sub_add_eq, Nat.sub_add_eq]; exact hA2)
      have HL2 := Lib.hid hL2
      have HO2 := Lib.hid hO2
      have HP2 := Lib.hid hP2
      have HKK := Lib.hid hKK
      clear hL2 hO2 hP2 hKK hOff hA2 hK2 HA HL HO HP HK CR HT HAp HPi hq x0 x1 x2 x3 x4 f1 f2 f3 f4 hc0
      go_wp2
      go_roundw
      case rel => exact ⟨i + 1, by omega, by go_num, HA2, HL2, HO2, HP2, HKK⟩
      case measure => simp [intOf]; omega
    · obtain rfl : i = qs.length := by omega
      have hdt : decide ((qs.length : Int) < (qs.length : Int)) = false := by simp
      have hdt' : decide (qs.length < qs.length) = false := by simp
      have hA := HA.out
      rw [List.take_length] at hA
      have HA' := Lib.hid hA
      have hba : b ≠ a := RowAt.unlike HL.out hA (by rfl)
      clear hA HP
      go_wp2
      go_ret
      refine ⟨rfl, ?_⟩
      generalize hw2 : World.setCell (World.setCell (World.setCell wr _ _) _ _) _ _ = w2
      have hL2 : LRow w2 b a (.slice none 0 0) 0 pk true := by rw [← hw2]; exact ((LRow.setV HL.out _).setH 0).setC true
      have hK2 : Kept (fun k => k = b) wr w2 := by rw [← hw2]; exact (((Kept.refl (fun k => k = b) wr).set (p := ⟨b, 1, none⟩) (.inl rfl) _).set (p := ⟨b, 2, none⟩) (.inl rfl) _).set (p := ⟨b, 4, none⟩) (.inl rfl) _
      refine ⟨RowAt.kept HA'.out hK2 (Ne.symm hba), ⟨hL2, ⟨rfl, .inl ⟨rfl, rfl⟩⟩, fun i hi => absurd hi (by simp [Ls.shut]), fun i _ hi => absurd hi (by simp [Ls.shut]), HH.out.sinceB, fun i hi => absurd hi (by simp [Ls.shut])⟩, HK.out.trans hK2 fun _ _ e => .inr (.inl e)⟩
set_option maxHeartbeats 1600000 in
theorem lclose_deferred {w : World} {N a B u h c : Nat} {x : Ls} (H : LeaseIs w N a x) (hx : x.closed = false) (hA : AreAt w a B u h c) (hu : hs x.qs ≤ u) (hu2 : u ≤ 4194304) (hc1 : x.qs.length ≤ c) (hc : c ≤ 4194304) (u0 : FrameMode) :
    CallsD Try.prog 12 #[.pointer (some ⟨x.b, 0, none⟩)] u0 w fun e u' w' => u' = u0 ∧ e = .returned (.int .i64 0) ∧ Shut w w' N a B u h c x := by
  have hrow := H.row
  rw [hx] at hrow
  have C := Lib.hid (lfault_open hrow)
  obtain ⟨x0, x1, x2, x3, x4, f1, f2, f3, f4⟩ := hrow.at_
  obtain ⟨A, cp, hv, hown, _, hmx⟩ := own_form H.own
  clear hown
  rw [hv] at x1
  have HO := Lib.hid H.own
  have HH := Lib.hid H
  have HV := Lib.hid hv
  have HX := Lib.hid hx
  have HA := Lib.hid hA
  clear hrow hv hx H hA
  obtain ⟨b, v, qs, pk, cl⟩ := x
  dsimp only at *
  go_enter_d Try.func12, Try.ntmps12
  go_wp2_with fail
  refine C.out.mono ?_; rintro e w' ⟨rfl, hw⟩; obtain rfl := hw.symm
  clear hw C
  go_wp2
  clear x0 x1 x2 x3 x4 f1 f2 f3 f4
  go_loopw [16] (fun v16 wr => ∃ i : Nat, i ≤ qs.length ∧ v16 = .int .i64 (i : Int) ∧ Hid (AreAt wr a B (u - hs (qs.take i)) h (c - i)) ∧ Hid (LRow wr b a v (hs qs) pk false) ∧ Hid (wr.ownsRow N 41 1 v qs.length (qp qs)) ∧ Hid (∀ j, (hj : j < qs.length) → i ≤ j → LiveAt wr qs[j].p a qs[j].g qs[j].l) ∧ Hid (Kept (mine a ⟨b, v, qs, pk, cl⟩) w wr)) (fun v16 _ => qs.length - (intOf v16).toNat)
  case atStart =>
    have hX : cl = false := HX.out
    subst hX
    exact ⟨0, by omega, rfl, HA, Lib.hid HH.out.row, HO, Lib.hid fun j hj _ => HH.out.live j hj, Lib.hid (Kept.refl _ _)⟩
  case round =>
    obtain ⟨i, hi, rfl, HA, HL, HO, HP, HK⟩ := hrel
    obtain ⟨x0, x1, x2, x3, x4, f1, f2, f3, f4⟩ := HL.out.at_
    by_cases hlt : i < qs.length
    · have hdt : decide ((i : Int) < (qs.length : Int)) = true := by simp; omega
      have hi0 : (0 : Int) ≤ (i : Int) := by omega
      have hi1 : (i : Int) < (qs.length : Int) := by omega
      have ho := HO.out
      rw [show v = .slice A qs.length cp from HV.out] at ho
      obtain ⟨b0, off, rfl, hb0, hc0⟩ := Reads.of_own ho i (by rw [qp_length]; exact hlt)
      rw [qp_at qs i hlt] at hc0
      have hP := HP.out i hlt (Nat.le_refl _)
      have hsm := hs_part qs (i + 1)
      rw [hs_take qs i hlt] at hsm
      have CR := Lib.hid (arel_any HA.out hP (by omega) (by omega) (by omega) (by omega))
      have HT := Lib.hid (hs_take qs i hlt)
      have HAp := Lib.hid fun j (hj : j < qs.length) (hne : j ≠ i) => HH.out.apart j i hj hlt hne
      have HPi := Lib.hid hP
      clear ho hP hsm
      generalize hq : qs[i] = q at *
      go_wp2_with fail
      refine CR.out.mono ?_
      rintro e w2 ⟨rfl, hOff, hA2, hK2⟩
      have hL2 : LRow w2 b a v (hs qs) pk false := RowAt.kept HL.out hK2 (by
        rintro (e | e | e)
        · exact RowAt.unlike HL.out HA.out (by rfl) e
        · exact RowAt.unlike HL.out HPi.out.row (by rfl) e
        · exact RowAt.unlike HL.out HPi.out.blk (by rfl) e)
      have hO2 := own_kept' HO.out hK2 (by
        rintro k hk (e | e | e)
        · exact own_unlike HO.out HA.out (by rfl) (e ▸ hk)
        · exact own_unlike HO.out HPi.out.row (by rfl) (e ▸ hk)
        · exact own_unlike HO.out HPi.out.blk (by rfl) (e ▸ hk))
      have hP2 : ∀ j, (hj : j < qs.length) → i + 1 ≤ j → LiveAt w2 qs[j].p a qs[j].g qs[j].l := fun j hj hij => by
        have k1 := HP.out j hj (by omega)
        have hap := HAp.out j hj (by omega)
        refine ⟨RowAt.kept k1.row hK2 ?_, RowAt.kept k1.blk hK2 ?_, k1.ok⟩
        · rintro (e1 | e1 | e1)
          · exact RowAt.unlike k1.row HA.out (by rfl) e1
          · exact hap.1 e1
          · exact RowAt.unlike k1.row HPi.out.blk (by rfl) e1
        · rintro (e1 | e1 | e1)
          · exact RowAt.unlike k1.blk HA.out (by rfl) e1
          · exact RowAt.unlike k1.blk HPi.out.row (by rfl) e1
          · exact hap.2 e1
      have hKK : Kept (mine a ⟨b, v, qs, pk, cl⟩) w w2 := HK.out.trans hK2 fun k _ e => by
        rcases e with e | e | e
        · exact .inl e
        · exact .inr (.inr (.inr ⟨i, hlt, .inl (by simp only [hq]; exact e)⟩))
        · exact .inr (.inr (.inr ⟨i, hlt, .inr (by simp only [hq]; exact e)⟩))
      have HA2 : Hid (AreAt w2 a B (u - hs (qs.take (i + 1))) h (c - (i + 1))) := Lib.hid (by rw [HT.out, Nat.sub_add_eq, Nat.sub_add_eq]; exact hA2)
      have HL2 := Lib.hid hL2
      have HO2 := Lib.hid hO2
      have HP2 := Lib.hid hP2
      have HKK := Lib.hid hKK
      clear hL2 hO2 hP2 hKK hOff hA2 hK2 HA HL HO HP HK CR HT HAp HPi hq x0 x1 x2 x3 x4 f1 f2 f3 f4 hc0
      go_wp2
      go_roundw
      case rel => exact ⟨i + 1, by omega, by go_num, HA2, HL2, HO2, HP2, HKK⟩
      case measure => simp [intOf]; omega
    · obtain rfl : i = qs.length := by omega
      have hdt : decide ((qs.length : Int) < (qs.length : Int)) = false := by simp
      have hdt' : decide (qs.length < qs.length) = false := by simp
      have hA := HA.out
      rw [List.take_length] at hA
      have HA' := Lib.hid hA
      have hba : b ≠ a := RowAt.unlike HL.out hA (by rfl)
      clear hA HP
      go_wp2
      go_ret
      refine ⟨rfl, ?_⟩
      generalize hw2 : World.setCell (World.setCell (World.setCell wr _ _) _ _) _ _ = w2
      have hL2 : LRow w2 b a (.slice none 0 0) 0 pk true := by rw [← hw2]; exact ((LRow.setV HL.out _).setH 0).setC true
      have hK2 : Kept (fun k => k = b) wr w2 := by rw [← hw2]; exact (((Kept.refl (fun k => k = b) wr).set (p := ⟨b, 1, none⟩) (.inl rfl) _).set (p := ⟨b, 2, none⟩) (.inl rfl) _).set (p := ⟨b, 4, none⟩) (.inl rfl) _
      refine ⟨RowAt.kept HA'.out hK2 (Ne.symm hba), ⟨hL2, ⟨rfl, .inl ⟨rfl, rfl⟩⟩, fun i hi => absurd hi (by simp [Ls.shut]), fun i _ hi => absurd hi (by simp [Ls.shut]), HH.out.sinceB, fun i hi => absurd hi (by simp [Ls.shut])⟩, HK.out.trans hK2 fun _ _ e => .inr (.inl e)⟩
end Go.Proofs.Ytcleekhdijiefaa

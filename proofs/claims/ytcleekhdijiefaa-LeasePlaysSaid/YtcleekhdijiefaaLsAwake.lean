/- The chapter's example. No condition but those typed. -/
import Derived.Test.YtcleekhdijiefaaLsWith
import Derived.Test.YtcleekhdijiefaaLaid
namespace Go.Proofs.Ytcleekhdijiefaa
set_option maxRecDepth 50000
open Go.RowKit Bb

theorem more_len (x : Ls) (p g : Nat) (v : Value) (n : Nat) : (x.more p g v n).qs.length = x.qs.length + 1 := by simp [Ls.more]
theorem more_peak (x : Ls) (p g : Nat) (v : Value) (n : Nat) : (x.more p g v n).peak = max x.peak (hs x.qs + n) := rfl

/-- blocks of other types are none of a lease's -/
theorem LeaseIs.far {w w' : World} {N a : Nat} {x : Ls} {M : Nat → Prop} (H : LeaseIs w N a x) (hK : Kept M w w') (hM : ∀ k, M k → ∃ t C, RowAt w k t C ∧ (t == 48) = false ∧ (t == 41) = false ∧ (t == 58) = false ∧ (t == 78) = false) : LeaseIs w' N a x := by
  refine ⟨RowAt.kept H.row hK ?_, own_kept' H.own hK ?_, fun i hi => ⟨RowAt.kept (H.live i hi).row hK ?_, RowAt.kept (H.live i hi).blk hK ?_, (H.live i hi).ok⟩, H.apart, H.sinceB, H.since⟩
  · intro m
    obtain ⟨t, C, hR, h1, h2, h3, h4⟩ := hM _ m
    exact RowAt.unlike hR H.row h1 rfl
  · intro k hk m
    obtain ⟨t, C, hR, h1, h2, h3, h4⟩ := hM _ m
    exact own_unlike H.own hR (by rw [beq_eq_false_iff_ne] at h2 ⊢; exact fun e => h2 e.symm) hk
  · intro m
    obtain ⟨t, C, hR, h1, h2, h3, h4⟩ := hM _ m
    exact RowAt.unlike hR (H.live i hi).row h3 rfl
  · intro m
    obtain ⟨t, C, hR, h1, h2, h3, h4⟩ := hM _ m
    exact RowAt.unlike hR (H.live i hi).blk h4 rfl

set_option maxHeartbeats 1600000 in
theorem awk_any {w : World} {N a eb : Nat} {x : Ls} (H : LeaseIs w N a x) (hx : x.closed = false) (hq : x.qs = []) (hpk : x.peak = 0) (hA : AreAt w a 3 0 0 0) (hE : RowAt w eb 25 #[.int .i64 0]) (hN : N ≤ w.heap.size) (hNa : N ≤ a) (hNe : N ≤ eb) :
    Calls Try.prog 21 #[.pointer (some ⟨x.b, 0, none⟩), .pointer (some ⟨eb, 0, none⟩)] w fun e w' => ∃ x' h', e = .returned (.int .i64 4) ∧ x'.b = x.b ∧ LeaseIs w' N a x' ∧ x'.closed = false ∧ AreAt w' a 3 3 h' 2 ∧ hs x'.qs = 3 ∧ x'.qs.length = 2 ∧ x'.peak = 3 ∧
      RowAt w' eb 25 #[.int .i64 4] ∧ Below N w w' := by
  have h0 : hs x.qs = 0 := by rw [hq]; rfl
  have l0 : x.qs.length = 0 := by rw [hq]; rfl
  have C1 := Lib.hid (ltake_is H hx hA hN (by omega) 2 (by omega) (by omega) (by omega) (by omega))
  have HE := Lib.hid fun w' hK => H.leaves hA hK (w' := w') 25 (by rfl) (by rfl) (by rfl) (by rfl) (by rfl) _ _ hE
  have HU := Lib.hid (H.under hNa)
  clear H hA hE hq
  go_enter Try.func21, Try.ntmps21
  go_wp2_with fail
  refine C1.out.mono ?_
  rintro e w1 ⟨p, g, v', rfl, H1, _, hA1, hK1, _⟩
  have hE1 := HE.out w1 hK1
  have HB1 := Lib.hid (hK1.under HU.out hN)
  have hN1 := HB1.out.size
  have e1 := hs_more x p g v' 2
  have e2 := more_len x p g v' 2
  have e3 := more_peak x p g v' 2
  rw [h0] at e1 e3
  rw [l0] at e2
  rw [hpk] at e3
  have e4 : (x.more p g v' 2).closed = false := hx
  have e5 : (x.more p g v' 2).b = x.b := rfl
  clear C1 HE HU hK1
  generalize x.more p g v' 2 = x1 at *
  have C2 := Lib.hid (ltake_is H1 e4 hA1 (by omega) (by omega) 1 (by omega) (by omega) (by omega) (by omega))
  have HE := Lib.hid fun w' hK => H1.leaves hA1 hK (w' := w') 25 (by rfl) (by rfl) (by rfl) (by rfl) (by rfl) _ _ hE1
  have HU := Lib.hid (H1.under hNa)
  clear H1 hA1 hE1
  rw [e5] at C2
  go_wp2_with fail
  refine C2.out.mono ?_
  rintro e w2 ⟨p2, g2, v2, rfl, H2, _, hA2, hK2, _⟩
  have hE2 := HE.out w2 hK2
  have HB2 := Lib.hid (HB1.out.trans (hK2.under HU.out (by omega)))
  have hN2 := HB2.out.size
  have e6 := hs_more x1 p2 g2 v2 1
  have e7 := more_len x1 p2 g2 v2 1
  have e8 := more_peak x1 p2 g2 v2 1
  rw [e1] at e6 e8
  rw [e2] at e7
  rw [e3] at e8
  have e9 : (x1.more p2 g2 v2 1).closed = false := e4
  have e10 : (x1.more p2 g2 v2 1).b = x.b := e5
  clear C2 HE HU hK2 HB1
  generalize x1.more p2 g2 v2 1 = x2 at *
  have hrow := H2.row
  rw [e9, e10] at hrow
  have C3 := Lib.hid (ltake_full hrow hA2 1 (by omega) (by omega) (by omega) (by omega))
  have HH2 := Lib.hid H2
  have HA2 := Lib.hid hA2
  have HE2 := Lib.hid hE2
  clear H2 hA2 hE2 hrow
  go_wp2_with fail
  refine C3.out.mono ?_
  rintro e w3 ⟨rfl, q, rfl⟩
  have hb3 := below_drewN (Below.refl w2.heap.size w2) q
  have R3 := RowAt.step HE2.out hb3
  have L3 := HH2.out.step hb3
  have A3 := RowAt.step HA2.out hb3
  have x0 : (w2.drewN q).cell? ⟨eb, 0, none⟩ = some (.int .i64 0) := by rw [R3.cell 0]; rfl
  have f0 := R3.frozen 0
  have HB3 := Lib.hid (HB2.out.trans (hb3.mono (Nat.le_trans hN hN2)))
  have hN3 := HB3.out.size
  clear hb3 HB2 C3 HH2 HA2 HE2
  generalize w2.drewN q = w3 at *
  have HR := Lib.hid (R3.setCell 0 (.int .i64 4))
  have K3 : Kept (fun k => k = eb) w3 (w3.setCell ⟨eb, 0, none⟩ (.int .i64 4)) := (Kept.refl (fun k => k = eb) w3).set (p := ⟨eb, 0, none⟩) (.inl rfl) _
  have HL := Lib.hid (L3.far K3 fun k e => by subst e; exact ⟨_, _, R3, by rfl, by rfl, by rfl, by rfl⟩)
  have HA := Lib.hid (RowAt.kept A3 K3 fun e => RowAt.unlike A3 R3 (by rfl) e)
  have HB := Lib.hid (HB3.out.trans (K3.under (N := N) (fun k e => by rw [e]; exact hNe) (Nat.le_trans hN hN3)))
  clear L3 A3 K3 HB3 R3
  go_wp2
  go_ret
  exact ⟨x2, _, rfl, e10, HL.out, e9, HA.out, e6, e7, e8, HR.out, HB.out⟩
theorem enter_awk (args : Array Value) (w : World) : (callFunc 21 args).run Try.prog w = .ok (.enter 21 args) w := enters Try.func21 (by kernel_rfl) (by kernel_rfl) args w
set_option maxHeartbeats 1600000 in
theorem awake21_any (w : World) : Calls Try.prog 5 #[] w fun e w' => e = .returned (.bool true) ∧ Below w.heap.size w w' := by
  have hmf : ∀ (fn : Fn) (first cap : Array Value) (w : World), (Instr.makeFunc fn first cap).run Try.prog w = .ok (.func fn first cap) w := fun _ _ _ _ => rfl
  have CN := Lib.hid (anew_any 3 (by decide) w)
  go_enter Try.func5, Try.ntmps5
  go_wp2_with fail
  refine CN.out.mono ?_
  rintro e w1 ⟨rfl, hA, hb⟩
  have hw1 := hb.size
  obtain ⟨w2, hw2⟩ : ∃ w2, w2 = w1.alloc (.cells #[.int .i64 0] 25) := ⟨_, rfl⟩
  have hE2 : RowAt w2 w1.heap.size 25 #[.int .i64 0] := by rw [hw2]; exact RowAt.new _ _ _
  have hA2 : AreAt w2 w.heap.size 3 0 0 0 := by rw [hw2]; exact RowAt.alloc hA _
  have hb2 : Below w.heap.size w w2 := by rw [hw2]; exact hb.alloc hw1 _
  have hs2 := hb2.size
  have L3 := LeaseIs.new w2 w.heap.size w.heap.size hs2
  have A3 : AreAt (w2.alloc (.cells (lcs w.heap.size (.slice none 0 0) 0 0 false) 48)) w.heap.size 3 0 0 0 := RowAt.alloc hA2 _
  have E3 := RowAt.alloc hE2 (.cells (lcs w.heap.size (.slice none 0 0) 0 0 false) 48)
  have B3 := hb2.alloc hs2 (.cells (lcs w.heap.size (.slice none 0 0) 0 0 false) 48)
  have K := awk_any L3 rfl rfl rfl A3 E3 B3.size (by omega) (by omega)
  have CW := Lib.hid (lwith_any (N := w.heap.size) (a := w.heap.size) (B := 3) (u := 0) (c := 0) (cap := #[.pointer (some ⟨w1.heap.size, 0, none⟩)]) (R := fun err x w' => err = 4 ∧ x.peak = 3 ∧ hs x.qs = 3 ∧ x.qs.length = 2 ∧ RowAt w' w1.heap.size 25 #[.int .i64 4] ∧ Below w.heap.size w w') enter_awk (K.mono (by
    rintro e w' ⟨x, h', rfl, hb, hI, hc, hA, h1, h2, h3, hR, hB⟩
    exact ⟨4, x, h', rfl, hb, hI, hc, by rw [h1, h2]; exact hA, by omega, by omega, rfl, h3, h1, h2, hR, B3.trans hB⟩)))
  rw [hw2] at CW
  clear L3 A3 E3 B3 K hE2 hA2 hb2 hs2 hw2 hA CN
  go_wp2_with fail
  refine CW.out.mono ?_
  rintro e w3 ⟨err, x, h', w4, rfl, ⟨rfl, hpk, hh, hl, hR, hB⟩, hI, hA, hA5, _, hK⟩
  rw [hh, hl] at hA5
  have hE := hI.leaves hA hK 25 (by rfl) (by rfl) (by rfl) (by rfl) (by rfl) _ _ hR
  have HB := Lib.hid (hB.trans (hK.under (hI.under (Nat.le_refl _)) hB.size))
  have x0 : w3.cell? ⟨w1.heap.size, 0, none⟩ = some (.int .i64 4) := by rw [hE.cell 0]; rfl
  have CU := Lib.hid (used_any hA5)
  rw [hpk]
  clear CW hI hA hA5 hK hE hR hB hpk hb
  go_wp2_with fail
  refine CU.out.mono ?_
  rintro e w5 ⟨rfl, hb5⟩
  have HB5 := Lib.hid (HB.out.trans (hb5.mono HB.out.size))
  clear hb5 CU HB
  go_wp2
  go_ret
  exact ⟨rfl, HB5.out⟩
end Go.Proofs.Ytcleekhdijiefaa

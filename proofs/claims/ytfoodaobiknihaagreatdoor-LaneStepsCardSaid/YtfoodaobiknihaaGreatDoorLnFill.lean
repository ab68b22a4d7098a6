/- fill of package lane, by its contract. Conditions: those typed. -/
import Derived.Test.YtfoodaobiknihaaGreatDoorLnDo
namespace Go.Proofs.YtfoodaobiknihaaGreatDoor
set_option maxRecDepth 50000
open Go.RowKit Bb Bn
set_option maxHeartbeats 12800000 in
theorem lfill_any {w : World} {q pc h G a t l m bb c g z p s k i b d x0 y0 r0 c0 N0 : Nat} {f : Bool} {xv : Value} {L : List (List Nat)} (hG : GrAt w q pc h G a t l m bb c g z L) (hl : l ≤ 1000) (hc : c ≤ 4000) (hi : i ≤ 4000) (hL : L.length = l * c) (hT : TAt w) (hN0 : N0 ≤ G)
    (H : LnRow w b (.pointer (some ⟨q, 0, none⟩)) k p s i xv (.pointer (some ⟨d, 0, none⟩)) f) (hD : RowAt w d 98 (stpc k x0 k y0 r0 c0)) (hk : k < l) (hx : x0 < c) (hy : y0 < c) (hr : r0 < l) (hcc : c0 < c) (nb : List Nat) (hNB : xB (mix (L.getD (k * c + y0) []) (L.getD (r0 * c + c0) []) :: if p = 0 then [] else [L.getD (k * c + x0) []]) = nb) :
    Calls Tryz.prog 22 #[.pointer (some ⟨b, 0, none⟩)] w fun e w' => e = .returned (.tuple #[evv 2 k p s k x0 r0 c0, .int .i64 0]) ∧ LnRow w' b (.pointer (some ⟨q, 0, none⟩)) k p s ((i + 1 : Nat) : Int) xv (.pointer none) f ∧ GrAt w' q pc h G a t l m bb c g z (L.set (k * c + x0) nb) ∧ Kept (fun j => j = b ∨ j = G) w w' := by
  have hbw : b < w.heap.size := RowAt.lt H
  have hGw : G < w.heap.size := hG.live.blk.lt
  have hbG : b ≠ G := RowAt.unlike H hG.live.blk (by rfl)
  have hqb : q ≠ b := RowAt.unlike hG.row H (by rfl)
  have hpb : pc ≠ b := RowAt.unlike hG.live.row H (by rfl)
  have hdw : d < w.heap.size := RowAt.lt hD
  obtain ⟨w1, e1⟩ : ∃ w1, w1 = w.alloc (.cells (evc 0 0 0 0 0 0 0 0) 32) := ⟨_, rfl⟩
  have b1 : Below w.heap.size w w1 := by rw [e1]; exact one_box _ _
  have hE : RowAt w1 w.heap.size 32 (evc 0 0 0 0 0 0 0 0) := by rw [e1]; exact RowAt.new _ _ _
  have hz1 : w1.heap.size = w.heap.size + 1 := by rw [e1, World.size_alloc]
  obtain ⟨w2, e2⟩ : ∃ w2, w2 = w1.alloc (.cells (stpc k x0 k y0 r0 c0) 98) := ⟨_, rfl⟩
  have b2 : Below w1.heap.size w1 w2 := by rw [e2]; exact one_box _ _
  have hS2 : RowAt w2 w1.heap.size 98 (stpc k x0 k y0 r0 c0) := by rw [e2]; exact RowAt.new _ _ _
  have hR2 := (H.step b1).step b2
  have hG2 := (hG.step b1).step b2
  have hT2 := (hT.next b1).next b2
  have hE2 := RowAt.step hE b2
  have k6 := (H.step b1).held
  have hz2 : w2.heap.size = w1.heap.size + 1 := by rw [e2, World.size_alloc]
  obtain ⟨F, hF⟩ : ∃ F : World → Prop, F = fun u => LnRow u b (.pointer (some ⟨q, 0, none⟩)) k p s i xv (.pointer (some ⟨d, 0, none⟩)) f ∧ GrAt u q pc h G a t l m bb c g z (L.set (k * c + x0) nb) ∧ RowAt u w.heap.size 32 (evc 0 0 0 0 0 0 0 0) ∧ RowAt u w1.heap.size 98 (stpc k x0 k y0 r0 c0) ∧ Kept (fun j => j = G) w2 u := ⟨_, rfl⟩
  have HFS : Hid (∀ u u', F u → Below u.heap.size u u' → F u') := Lib.hid fun u u' hu hb => by
    subst hF
    exact ⟨hu.1.step hb, hu.2.1.step hb, RowAt.step hu.2.2.1 hb, RowAt.step hu.2.2.2.1 hb, hu.2.2.2.2.trans (Kept.of_below (M := fun _ => False) hb) fun _ _ h => h.elim⟩
  have HFE : Hid (∀ u, F u → LnRow u b (.pointer (some ⟨q, 0, none⟩)) k p s i xv (.pointer (some ⟨d, 0, none⟩)) f ∧ GrAt u q pc h G a t l m bb c g z (L.set (k * c + x0) nb) ∧ RowAt u w.heap.size 32 (evc 0 0 0 0 0 0 0 0) ∧ RowAt u w1.heap.size 98 (stpc k x0 k y0 r0 c0) ∧ Kept (fun j => j = G) w2 u) := Lib.hid fun u hu => by subst hF; exact hu
  have HQ : Hid (∀ u, Below w2.heap.size w2 u → LnRow u b (.pointer (some ⟨q, 0, none⟩)) k p s i xv (.pointer (some ⟨d, 0, none⟩)) f ∧ (loadVar 98 ⟨w1.heap.size, 0, none⟩).run Tryz.prog u = .ok (stpv k x0 k y0 r0 c0) u ∧
      Calls Tryz.prog 41 #[.pointer (some ⟨q, 0, none⟩), tuv p s, stpv k x0 k y0 r0 c0] u fun e w' => e = .returned (.int .i64 0) ∧ (F w' ∧ Kept (fun j => j = G) u w')) := Lib.hid fun u hu => by
    refine ⟨hR2.step hu, stpc_load (RowAt.step hS2 hu), ?_⟩
    refine (fill_any (hG2.step hu) hl hc hL (hT2.next hu) p s k x0 k y0 r0 c0 hk hx hk hy hr hcc nb hNB).mono ?_
    rintro e w' ⟨rfl, hg, hk'⟩
    subst hF
    exact ⟨rfl, ⟨(hR2.step hu).kept hk' hbG, hg, RowAt.kept (RowAt.step hE2 hu) hk' (by omega), RowAt.kept (RowAt.step hS2 hu) hk' (by omega), (Kept.of_below (M := fun j => j = G) hu).trans hk' fun _ _ h => h⟩, hk'⟩
  have HNW : Hid (N0 ≤ w2.heap.size ∧ N0 ≤ G) := Lib.hid ⟨by omega, hN0⟩
  have HLd := Lib.hid (stpc_load (RowAt.step hD b1))
  have HB : Hid (Below w.heap.size w w2) := Lib.hid (below_step b1 b2)
  have HXW : Hid (b < w.heap.size ∧ G < w.heap.size ∧ w.heap.size < w1.heap.size ∧ b ≠ G ∧ q ≠ b ∧ pc ≠ b) := Lib.hid ⟨hbw, hGw, by omega, hbG, hqb, hpb⟩
  have HI : Hid (IntKind.i64.wrap ((i : Int) + 1) = ((i + 1 : Nat) : Int)) := Lib.hid (by rw [IntKind.wrap_i64]; omega)
  have E1 := Lib.hid e1
  have E2 := Lib.hid e2
  clear H hG hT hD b1 e1 b2 e2 hE hS2 hR2 hG2 hT2 hE2 hbw hGw hbG hqb hpb hdw hz1 hz2 hF
  go_enter Tryz.func22, Tryz.ntmps22
  go_upto_region 1 with fail
  rw [← E1.out]
  clear E1
  generalize hT0 : w.heap.size = T0 at *
  have HT0 := Lib.hid hT0
  clear hT0
  go_upto_region 2 with (refine wpList_load_want rfl 98 _ rfl _ _ rfl HLd.out ?_)
  rw [← E2.out]
  clear E2 k6 HLd
  generalize hS4 : w1.heap.size = S4 at *
  have HS4 := Lib.hid hS4
  clear hS4
  refine wp_region_stage (N0) [9] [] [[0], [0], [0], [0], [0], [0], [0], [0], [0], [], [1]] [[Is (.pointer (some ⟨b, 0, none⟩)), Is (.pointer (some ⟨b, 0, none⟩)), Is (.pointer (some ⟨b, 0, none⟩)), Is (.pointer (some ⟨q, 0, none⟩)), Is (.pointer (some ⟨b, 0, none⟩)), Is (.pointer (some ⟨b, 0, none⟩)), Is (.pointer (some ⟨b, 2, none⟩)), Is (tuv p s), Is (stpv k x0 k y0 r0 c0), Free, Is (.int .i64 0)], [Is (.pointer (some ⟨b, 0, none⟩)), Is (.pointer (some ⟨b, 0, none⟩)), Is (.pointer (some ⟨b, 0, none⟩)), Is (.pointer (some ⟨q, 0, none⟩)), Is (.pointer (some ⟨b, 0, none⟩)), Is (.pointer (some ⟨b, 0, none⟩)), Is (.pointer (some ⟨b, 2, none⟩)), Is (tuv p s), Is (stpv k x0 k y0 r0 c0), IsF (.int .i64 0) F, Is (.int .i64 0)]] [Is (.pointer (some ⟨b, 0, none⟩)), Is (.pointer (some ⟨b, 0, none⟩)), Is (.pointer (some ⟨b, 0, none⟩)), Is (.pointer (some ⟨q, 0, none⟩)), Is (.pointer (some ⟨b, 0, none⟩)), Is (.pointer (some ⟨b, 0, none⟩)), Is (.pointer (some ⟨b, 2, none⟩)), Is (tuv p s), Is (stpv k x0 k y0 r0 c0), IsF (.int .i64 0) F, Is (.int .i64 0)] HNW.out.1 (by kernel_rfl) (by kernel_rfl) rfl rfl ⟨⟨stable_is _, stable_is _, stable_is _, stable_is _, stable_is _, stable_is _, stable_is _, stable_is _, stable_is _, stable_free, stable_is _, trivial⟩, ⟨stable_is _, stable_is _, stable_is _, stable_is _, stable_is _, stable_is _, stable_is _, stable_is _, stable_is _, stable_isf _ HFS.out, stable_is _, trivial⟩, trivial⟩ (by intro n hn o ho hd w; simp only [List.mem_cons, List.not_mem_nil, or_false] at hn; subst hn; first | trivial | (cases ho; cases hd)) rfl ⟨?p0, ?p1, ?p2, ?p3, ?p4, ?p5, ?p6, ?p7, ?p8, fun h => absurd (by simp) h, ?p10, trivial⟩ ⟨?t0, trivial⟩ (by decide) ?fin
  case p0 =>
    intro _ k hk; obtain rfl := List.mem_singleton.1 hk; intro a w C Z
    exact partS_on (wanted_free rfl _) (op_move (.inl rfl) (C.was 0 (by kernel_rfl)))
  case p1 =>
    intro _ k hk; obtain rfl := List.mem_singleton.1 hk; intro a w C Z
    exact partS_on (wanted_free rfl _) (op_value (nil_run rfl (C.on (j := 0) (by kernel_rfl) rfl rfl)) rfl)
  case p2 =>
    intro _ k hk; obtain rfl := List.mem_singleton.1 hk; intro a w C Z
    exact partS_on (wanted_free rfl _) (op_value (lnf_run (k := 0) (j := 0) rfl (by decide) (C.on (j := 1) (by kernel_rfl) rfl rfl)) rfl)
  case p3 =>
    intro _ k hk; obtain rfl := List.mem_singleton.1 hk; intro a w C Z
    exact partS_on (wanted_free rfl _) (op_value (pgr_run rfl (C.on (j := 2) (by kernel_rfl) rfl rfl) (HQ.out w C.below).1.grid) rfl)
  case p4 =>
    intro _ k hk; obtain rfl := List.mem_singleton.1 hk; intro a w C Z
    exact partS_on (wanted_free rfl _) (op_move (.inl rfl) (C.was 0 (by kernel_rfl)))
  case p5 =>
    intro _ k hk; obtain rfl := List.mem_singleton.1 hk; intro a w C Z
    exact partS_on (wanted_free rfl _) (op_value (nil_run rfl (C.on (j := 4) (by kernel_rfl) rfl rfl)) rfl)
  case p6 =>
    intro _ k hk; obtain rfl := List.mem_singleton.1 hk; intro a w C Z
    exact partS_on (wanted_free rfl _) (op_value (lnf_run (k := 2) (j := 2) rfl (by decide) (C.on (j := 5) (by kernel_rfl) rfl rfl)) rfl)
  case p7 =>
    intro _ k hk; obtain rfl := List.mem_singleton.1 hk; intro a w C Z
    exact partS_on (wanted_free rfl _) (op_value (load_run rfl (C.on (j := 6) (by kernel_rfl) rfl rfl) (HQ.out w C.below).1.turn) rfl)
  case p8 =>
    intro _ k hk; obtain rfl := List.mem_singleton.1 hk; intro a w C Z
    exact partS_on (wanted_free rfl _) (op_value (load_run rfl (C.was 4 (by kernel_rfl)) (HQ.out w C.below).2.1) rfl)
  case p10 =>
    intro _ k hk; obtain rfl := List.mem_singleton.1 hk; intro a w C Z
    exact partS_on (wanted_free rfl _) (op_move (.inr rfl) ((C.on (j := 9) (by kernel_rfl) rfl rfl)).1)
  case t0 =>
    intro o ho a w C A
    cases ho
    have cb : Below w2.heap.size w2 w := C.below
    refine ⟨wanted_free rfl _, ?_⟩
    unfold TurnsS
    refine Oper.wp_mono ?_ (turn_enter (reg_call3 rfl (reg_enters Tryz.func41 (by kernel_rfl) (by kernel_rfl)) (C.on (j := 3) (by kernel_rfl) rfl rfl) (C.on (j := 7) (by kernel_rfl) rfl rfl) (C.on (j := 8) (by kernel_rfl) rfl rfl)) (HQ.out w cb).2.2)
    rintro a2 w3 ⟨rfl, hF3, hk3⟩
    refine ⟨_, rfl, ⟨rfl, hF3⟩, (cb.mono HNW.out.1).trans (hk3.below (Nat.le_trans HNW.out.1 cb.size) fun y hy => by have := HNW.out.2; omega), hk3.size, ?_⟩
    · intro i o2 d hi hd hne hnw h
      have hil := (List.getElem?_eq_some_iff.1 hi).1
      replace hil : i < 11 := hil
      obtain rfl | rfl | rfl | rfl | rfl | rfl | rfl | rfl | rfl | rfl | rfl : i = 0 ∨ i = 1 ∨ i = 2 ∨ i = 3 ∨ i = 4 ∨ i = 5 ∨ i = 6 ∨ i = 7 ∨ i = 8 ∨ i = 9 ∨ i = 10 := by omega
      · exact h
      · exact h
      · exact h
      · exact h
      · exact h
      · exact h
      · exact h
      · exact h
      · exact h
      · exact absurd rfl hne
      · exact absurd hnw (by rw [show waits _ 10 9 = true from by kernel_rfl]; decide)
  case fin =>
    rintro wF hbF _ rfl _ rfl _ rfl _ rfl _ rfl _ rfl _ rfl _ rfl _ rfl _ ⟨rfl, hFF⟩ _ rfl
    simp only [Fin, setAt, Exit.then, List.setIfInBounds_toArray, List.set_cons_succ, List.set_cons_zero]
    obtain ⟨h1, h2, h3, h4, h5⟩ := HFE.out _ hFF
    have hx5 := HXW.out
    obtain ⟨w3, hs3, h13, hk3⟩ := h1.setHeld none (some ⟨d, 0, none⟩) rfl
    obtain ⟨w4, hs4, h14, hk4⟩ := h13.setIndex ((i + 1 : Nat) : Int)
    have hk34 : Kept (fun j => j = b) wF w4 := hk3.trans hk4 fun _ _ h => h
    have HS3 := Lib.hid hs3
    have HS4s := Lib.hid hs4
    have hL4 := RowAt.kept h4 hk34 (by omega)
    have HL4 := Lib.hid (stpc_load hL4)
    have HE4 := Lib.hid (RowAt.kept h3 hk34 (by omega))
    have HG4 := Lib.hid (h2.keep hk34 hx5.2.2.2.2.1 hx5.2.2.2.2.2 (Ne.symm hx5.2.2.2.1))
    have CE := Lib.hid (event_any h14 2 k x0 k y0 r0 c0)
    have H4 := Lib.hid h14
    have k4 := h13.index
    have HK4 : Hid (Kept (fun j => j = b ∨ j = G) w w4) := Lib.hid (((Kept.of_below (M := fun j => j = b ∨ j = G) (HT0.out.symm ▸ HB.out)).trans h5 fun _ _ h => .inr h).trans hk34 fun _ _ h => .inl h)
    clear hFF hbF h1 h2 h3 h4 h5 hs3 h13 hk3 hs4 h14 hk4 hk34 hL4 HFS HFE HQ HB
    have hI := HI.out
    go_wp2_with (first
      | refine wpList_store_of rfl _ _ _ rfl ⟨b, 6, none⟩ _ rfl rfl HS3.out ?_
      | refine wpList_store_of rfl _ _ _ rfl ⟨b, 4, none⟩ _ rfl rfl HS4s.out ?_
      | refine wpList_load_want rfl 98 _ rfl _ _ rfl HL4.out ?_)
    refine CE.out.mono ?_
    rintro e w5 ⟨rfl, hb5⟩
    have HE5 := Lib.hid (RowAt.step HE4.out hb5)
    have H5 := Lib.hid (H4.out.step hb5)
    have HG5 := Lib.hid (HG4.out.step hb5)
    have HK5 : Hid (Kept (fun j => j = b ∨ j = G) w w5) := Lib.hid (HK4.out.trans (Kept.of_below (M := fun _ => False) hb5) fun _ _ h => h.elim)
    clear CE hb5 HE4 H4 HK4 HS3 HS4s HL4 HG4 k4
    go_wp2_with (refine wpList_store_of rfl _ _ _ rfl ⟨T0, 0, none⟩ _ rfl rfl (evc_store HE5.out) ?_)
    refine bodyPost_ret (results_row_tmp rfl _ (p := 2) rfl (HE5.out.setRow (evc 2 k p s k x0 r0 c0)) Tryz.underlying32 rfl ev_size) rfl ⟨rfl, ?_, ?_, ?_⟩
    · exact RowAt.setRowOther H5.out _ (by omega) _
    · exact HG5.out.keep (kept_row _ _ _) (RowAt.unlike HG5.out.row HE5.out (by rfl)) (RowAt.unlike HG5.out.live.row HE5.out (by rfl)) (RowAt.unlike HG5.out.live.blk HE5.out (by rfl))
    · exact HK5.out.trans (kept_row _ _ _) fun y hy e => by have := HT0.out; omega
end Go.Proofs.YtfoodaobiknihaaGreatDoor

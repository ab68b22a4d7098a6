/- Open of package lane, by its contracts. Conditions: those typed. -/
import Derived.Test.YtfoodaobiknihaaGreatDoorLnFill
namespace Go.Proofs.YtfoodaobiknihaaGreatDoor
set_option maxRecDepth 50000
open Go.RowKit Bb Bn
theorem tu_new {w : World} {ev : Operand → Value} {o : Oper} (hop : o.op = .alloc 28) : (execOp ev o).run Tryz.prog w = .ok (.value (.pointer (some ⟨w.heap.size, 0, none⟩))) (w.alloc (.cells (tuc 0 0) 28)) := by
  simp [execOp, hop, go_sem]
theorem open_none (w : World) : Calls Tryz.prog 6 #[.pointer none] w fun e w' => e = .returned (.bool false) ∧ w = w' := by
  have C := Lib.hid (waits_none w)
  go_enter Tryz.func6, Tryz.ntmps6
  go_wp2_with fail
  refine C.out.mono ?_
  rintro e w1 ⟨rfl, rfl⟩
  go_wp2
  go_ret
  exact ⟨rfl, rfl⟩
theorem open_not {w : World} {b : Nat} {gv xv dv : Value} {k p s i : Int} (H : LnRow w b gv k p s i xv dv false) : Calls Tryz.prog 6 #[.pointer (some ⟨b, 0, none⟩)] w fun e w' => e = .returned (.bool false) ∧ w = w' := by
  have C := Lib.hid (waits_ln H)
  go_enter Tryz.func6, Tryz.ntmps6
  go_wp2_with fail
  refine C.out.mono ?_
  rintro e w1 ⟨rfl, rfl⟩
  go_wp2
  go_ret
  exact ⟨rfl, rfl⟩
theorem next_last (a t l m bb c g z p s : Nat) (ht : t ≤ 4294967295) (hp : p + 1 = t) (hs : s = 3) (w : World) : Calls Tryz.prog 23 #[spv a t l m bb c g z, tuv p s] w fun e w' => e = .returned (.tuple #[tuv 0 0, .bool false]) ∧ Below w.heap.size w w' := by
  have h := next_at a t l m bb c g z (4 * p + s) ht (by omega) w
  rw [show (4 * p + s) / 4 = p by omega, show (4 * p + s) % 4 = s by omega, show tuA t (4 * p + s + 1) = 0 from if_neg (by omega), show tuB t (4 * p + s + 1) = 0 from if_neg (by omega), decide_eq_false (show ¬ 4 * p + s + 1 < 4 * t by omega)] at h
  exact h
theorem next_more (a t l m bb c g z p s : Nat) (ht : t ≤ 4294967295) (hp : p < t) (hs : s ≤ 3) (hn : ¬ (p + 1 = t ∧ s = 3)) (w : World) : Calls Tryz.prog 23 #[spv a t l m bb c g z, tuv p s] w fun e w' => e = .returned (.tuple #[tuv (nxP p s : Nat) (nxS s : Nat), .bool true]) ∧ Below w.heap.size w w' := by
  have h := next_at a t l m bb c g z (4 * p + s) ht (by omega) w
  have h1 : tuA t (4 * p + s + 1) = nxP p s := by
    unfold nxP
    rw [show tuA t (4 * p + s + 1) = (4 * p + s + 1) / 4 from if_pos (by omega)]
    split <;> omega
  have h2 : tuB t (4 * p + s + 1) = nxS s := by
    unfold nxS
    rw [show tuB t (4 * p + s + 1) = (4 * p + s + 1) % 4 from if_pos (by omega)]
    split <;> omega
  rw [show (4 * p + s) / 4 = p by omega, show (4 * p + s) % 4 = s by omega, h1, h2, decide_eq_true (show 4 * p + s + 1 < 4 * t by omega)] at h
  exact h
set_option maxHeartbeats 12800000 in
theorem open_last {w : World} {q pc h G a t l m bb c g z k p s i b N0 : Nat} {xv dv : Value} {L : List (List Nat)} (hG : GrAt w q pc h G a t l m bb c g z L) (ht : t ≤ 4294967295) (hp : p + 1 = t) (hs : s = 3) (hN0 : N0 ≤ b)
    (H : LnRow w b (.pointer (some ⟨q, 0, none⟩)) k p s i xv dv true) :
    Calls Tryz.prog 6 #[.pointer (some ⟨b, 0, none⟩)] w fun e w' => e = .returned (.bool true) ∧ LnRow w' b (.pointer none) k p s 0 (.pointer none) (.pointer none) false ∧ Kept (fun j => j = b) w w' := by
  have hbw : b < w.heap.size := RowAt.lt H
  have CW := Lib.hid (waits_ln H)
  have CNx := Lib.hid fun w => next_last a t l m bb c g z p s ht hp hs w
  have HX : Hid (∀ u, Below w.heap.size w u → LnRow u b (.pointer (some ⟨q, 0, none⟩)) k p s i xv dv true ∧ GrAt u q pc h G a t l m bb c g z L) := Lib.hid fun u hu => ⟨H.step hu, hG.step hu⟩
  have HBW := Lib.hid hbw
  have HN0 := Lib.hid hN0
  clear H hG hp hs ht hbw hN0
  go_enter Tryz.func6, Tryz.ntmps6
  go_wp2_with fail
  refine CW.out.mono ?_
  rintro e w1 ⟨rfl, rfl⟩
  go_upto_region 3 with fail
  refine wp_region_stage (w.heap.size) [16] [15] [[0], [0], [0], [0], [0], [0], [0], [0], [0], [0], [0], [0], [0], [0], [0, 1], [0], [], [1]] [[Is (.pointer (some ⟨b, 0, none⟩)), Is (.pointer (some ⟨b, 0, none⟩)), Is (.pointer (some ⟨b, 0, none⟩)), Is (.pointer (some ⟨q, 0, none⟩)), Is (.pointer (some ⟨q, 0, none⟩)), Is (.pointer (some ⟨q, 0 + 1, none⟩)), Is (spv a t l m bb c g z), Is (.pointer (some ⟨b, 0, none⟩)), Is (.pointer (some ⟨b, 0, none⟩)), Is (.pointer (some ⟨b, 2, none⟩)), Is (tuv p s), Is (.tuple #[tuv 0 0, .bool false]), Is (.tuple #[tuv 0 0, .bool false]), Is (tuv 0 0), Is (.bool false), NewAt w.heap.size 28 (tuc 0 0), Free, Is (.bool false)], [Is (.pointer (some ⟨b, 0, none⟩)), Is (.pointer (some ⟨b, 0, none⟩)), Is (.pointer (some ⟨b, 0, none⟩)), Is (.pointer (some ⟨q, 0, none⟩)), Is (.pointer (some ⟨q, 0, none⟩)), Is (.pointer (some ⟨q, 0 + 1, none⟩)), Is (spv a t l m bb c g z), Is (.pointer (some ⟨b, 0, none⟩)), Is (.pointer (some ⟨b, 0, none⟩)), Is (.pointer (some ⟨b, 2, none⟩)), Is (tuv p s), Is (.tuple #[tuv 0 0, .bool false]), Is (.tuple #[tuv 0 0, .bool false]), Is (tuv 0 0), Is (.bool false), NewAt w.heap.size 28 (tuc 0 0), Free, Is (.bool false)]] [Is (.pointer (some ⟨b, 0, none⟩)), Is (.pointer (some ⟨b, 0, none⟩)), Is (.pointer (some ⟨b, 0, none⟩)), Is (.pointer (some ⟨q, 0, none⟩)), Is (.pointer (some ⟨q, 0, none⟩)), Is (.pointer (some ⟨q, 0 + 1, none⟩)), Is (spv a t l m bb c g z), Is (.pointer (some ⟨b, 0, none⟩)), Is (.pointer (some ⟨b, 0, none⟩)), Is (.pointer (some ⟨b, 2, none⟩)), Is (tuv p s), Is (.tuple #[tuv 0 0, .bool false]), Is (.tuple #[tuv 0 0, .bool false]), Is (tuv 0 0), Is (.bool false), NewAt w.heap.size 28 (tuc 0 0), Free, Is (.bool false)] (Nat.le_refl _) (by kernel_rfl) (by kernel_rfl) rfl rfl ⟨⟨stable_is _, stable_is _, stable_is _, stable_is _, stable_is _, stable_is _, stable_is _, stable_is _, stable_is _, stable_is _, stable_is _, stable_is _, stable_is _, stable_is _, stable_is _, stable_newat _ _ _, stable_free, stable_is _, trivial⟩, ⟨stable_is _, stable_is _, stable_is _, stable_is _, stable_is _, stable_is _, stable_is _, stable_is _, stable_is _, stable_is _, stable_is _, stable_is _, stable_is _, stable_is _, stable_is _, stable_newat _ _ _, stable_free, stable_is _, trivial⟩, trivial⟩ (by intro n hn o ho hd w; simp only [List.mem_cons, List.not_mem_nil, or_false] at hn; subst hn; first | trivial | (cases ho; cases hd)) rfl ⟨?p0, ?p1, ?p2, ?p3, ?p4, ?p5, ?p6, ?p7, ?p8, ?p9, ?p10, ?p11, ?p12, ?p13, ?p14, ?p15, fun h => absurd (by simp) h, ?p17, trivial⟩ ⟨?t0, trivial⟩ (by decide) ?fin
  case p0 =>
    intro _ k hk; obtain rfl := List.mem_singleton.1 hk; intro a w C Z
    exact partS_on (wanted_free rfl _) (op_move (.inl rfl) (C.was 0 (by kernel_rfl)))
  case p1 =>
    intro _ k hk; obtain rfl := List.mem_singleton.1 hk; intro a w C Z
    exact partS_on (wanted_free rfl _) (op_value (nil_run rfl (C.on (j := 0) (by kernel_rfl) rfl rfl)) rfl)
  case p2 =>
    intro _ k hk; obtain rfl := List.mem_singleton.1 hk; intro a w C Z
    exact partS_on (wanted_free rfl _) (op_value (lnf_run (k := 0) (j := 0) rfl (by decide) (C.on (j := 1) (by kernel_rfl) rfl rfl)) rfl)
  case p3 =>
    intro _ k hk; obtain rfl := List.mem_singleton.1 hk; intro a w C Z
    exact partS_on (wanted_free rfl _) (op_value (pgr_run rfl (C.on (j := 2) (by kernel_rfl) rfl rfl) (HX.out w C.below).1.grid) rfl)
  case p4 =>
    intro _ k hk; obtain rfl := List.mem_singleton.1 hk; intro a w C Z
    exact partS_on (wanted_free rfl _) (op_value (nil_run rfl (C.on (j := 3) (by kernel_rfl) rfl rfl)) rfl)
  case p5 =>
    intro _ k hk; obtain rfl := List.mem_singleton.1 hk; intro a w C Z
    exact partS_on (wanted_free rfl _) (op_value (grf_run (k := 1) rfl (by decide) (C.on (j := 4) (by kernel_rfl) rfl rfl)) rfl)
  case p6 =>
    intro _ k hk; obtain rfl := List.mem_singleton.1 hk; intro a w C Z
    exact partS_on (wanted_free rfl _) (op_value (load_run rfl (C.on (j := 5) (by kernel_rfl) rfl rfl) (HX.out w C.below).2.row.shape) rfl)
  case p7 =>
    intro _ k hk; obtain rfl := List.mem_singleton.1 hk; intro a w C Z
    exact partS_on (wanted_free rfl _) (op_move (.inl rfl) (C.was 0 (by kernel_rfl)))
  case p8 =>
    intro _ k hk; obtain rfl := List.mem_singleton.1 hk; intro a w C Z
    exact partS_on (wanted_free rfl _) (op_value (nil_run rfl (C.on (j := 7) (by kernel_rfl) rfl rfl)) rfl)
  case p9 =>
    intro _ k hk; obtain rfl := List.mem_singleton.1 hk; intro a w C Z
    exact partS_on (wanted_free rfl _) (op_value (lnf_run (k := 2) (j := 2) rfl (by decide) (C.on (j := 8) (by kernel_rfl) rfl rfl)) rfl)
  case p10 =>
    intro _ k hk; obtain rfl := List.mem_singleton.1 hk; intro a w C Z
    exact partS_on (wanted_free rfl _) (op_value (load_run rfl (C.on (j := 9) (by kernel_rfl) rfl rfl) (HX.out w C.below).1.turn) rfl)
  case p11 =>
    intro _ k hk; obtain rfl := List.mem_singleton.1 hk; intro a w C Z
    exact partS_on (wanted_free rfl _) (op_call2 rfl (reg_enters Tryz.func23 (by kernel_rfl) (by kernel_rfl)) (C.on (j := 6) (by kernel_rfl) rfl rfl) (C.on (j := 10) (by kernel_rfl) rfl rfl) (calls_is (CNx.out w)))
  case p12 =>
    intro _ k hk; obtain rfl := List.mem_singleton.1 hk; intro a w C Z
    exact partS_on (wanted_free rfl _) (op_move (.inl rfl) (C.on (j := 11) (by kernel_rfl) rfl rfl))
  case p13 =>
    intro _ k hk; obtain rfl := List.mem_singleton.1 hk; intro a w C Z
    exact partS_on (wanted_free rfl _) (op_value (ext_run (v := tuv 0 0) rfl (C.on (j := 12) (by kernel_rfl) rfl rfl) rfl) rfl)
  case p14 =>
    intro _ k hk; replace hk : k ∈ [0, 1] := hk; simp only [List.mem_cons, List.not_mem_nil, or_false] at hk
    rcases hk with rfl | rfl
    · intro a w C Z
      exact partS_on (wanted_free rfl _) (op_value (ext_run (v := .bool false) rfl (C.on (j := 12) (by kernel_rfl) rfl rfl) rfl) rfl)
    · intro a w C Z
      exact partS_on (wanted_free rfl _) (op_value (ext_run (v := .bool false) rfl (C.on (j := 12) (by kernel_rfl) rfl rfl) rfl) rfl)
  case p15 =>
    intro _ k hk; obtain rfl := List.mem_singleton.1 hk; intro a w C Z
    exact partS_new (wanted_free rfl _) (op_fresh (tu_new rfl) ⟨_, rfl, Z.size, RowAt.new _ _ _⟩)
  case p17 =>
    intro _ k hk; obtain rfl := List.mem_singleton.1 hk; intro a w C Z
    exact partS_on (wanted_free rfl _) (op_move (.inr rfl) (C.on (j := 14) (by kernel_rfl) rfl rfl))
  case t0 =>
    intro o ho a w C A
    cases ho
    obtain ⟨d, e1, h1, hR⟩ := (C.on (j := 15) (by kernel_rfl) rfl rfl)
    refine ⟨wanted_free rfl _, stage_store rfl e1 (C.on (j := 13) (by kernel_rfl) rfl rfl) (tu_store rfl hR) trivial (below_setRow C.below h1 _) (Nat.le_of_eq (setRow_size _ _ _).symm) ?_⟩
    · intro i o2 d hi hd hne hnw h
      have hil := (List.getElem?_eq_some_iff.1 hi).1
      replace hil : i < 18 := hil
      obtain rfl | rfl | rfl | rfl | rfl | rfl | rfl | rfl | rfl | rfl | rfl | rfl | rfl | rfl | rfl | rfl | rfl | rfl : i = 0 ∨ i = 1 ∨ i = 2 ∨ i = 3 ∨ i = 4 ∨ i = 5 ∨ i = 6 ∨ i = 7 ∨ i = 8 ∨ i = 9 ∨ i = 10 ∨ i = 11 ∨ i = 12 ∨ i = 13 ∨ i = 14 ∨ i = 15 ∨ i = 16 ∨ i = 17 := by omega
      · exact h
      · exact h
      · exact h
      · exact h
      · exact h
      · exact h
      · exact h
      · exact h
      · exact h
      · exact h
      · exact h
      · exact h
      · exact h
      · exact h
      · exact h
      · cases hi; cases hd; exact ⟨d, e1, h1, hR.setRow _⟩
      · exact absurd rfl hne
      · exact absurd hnw (by rw [show waits _ 17 16 = true from by kernel_rfl]; decide)
  case fin =>
    rintro w2 hbF _ rfl _ rfl _ rfl _ rfl _ rfl _ rfl _ rfl _ rfl _ rfl _ rfl _ rfl _ rfl _ rfl _ rfl _ rfl _ ⟨d, rfl, hdN, hdR⟩ _ _ _ rfl
    simp only [Fin, setAt, Exit.then, List.setIfInBounds_toArray, List.set_cons_succ, List.set_cons_zero]
    have HR2 : Hid (∀ u, Below w2.heap.size w2 u → LnRow u b (.pointer (some ⟨q, 0, none⟩)) k p s i xv dv true) := Lib.hid fun u hu => (HX.out w2 hbF).1.step hu
    have HK2 : Hid (Kept (fun j => j = b) w w2) := Lib.hid (Kept.of_below hbF)
    have HBN : Hid (N0 ≤ w2.heap.size ∧ N0 ≤ b) := Lib.hid ⟨by have := HBW.out; have := HN0.out; have := hbF.size; omega, HN0.out⟩
    obtain ⟨F, hF⟩ : ∃ F : World → Prop, F = fun u => LnRow u b (.pointer none) k p s 0 (.pointer none) (.pointer none) false ∧ Kept (fun j => j = b) w2 u := ⟨_, rfl⟩
    have HFS : Hid (∀ u u', F u → Below u.heap.size u u' → F u') := Lib.hid fun u u' hu hb => by
      subst hF
      exact ⟨hu.1.step hb, hu.2.trans (Kept.of_below (M := fun _ => False) hb) fun _ _ h => h.elim⟩
    have HFE : Hid (∀ u, F u → LnRow u b (.pointer none) k p s 0 (.pointer none) (.pointer none) false ∧ Kept (fun j => j = b) w2 u) := Lib.hid fun u hu => by subst hF; exact hu
    have HF : Hid (∀ u, Below w2.heap.size w2 u → F (u.setRow b (lnc (.pointer none) k p s 0 (.pointer none) (.pointer none) false))) := Lib.hid fun u hu => by
      subst hF
      exact ⟨RowAt.setRow (HR2.out u hu) _, (Kept.of_below (M := fun j => j = b) hu).trans (kept_row _ _ _) fun _ _ h => h⟩
    clear hF HX hbF hdR hdN CNx CW
    go_upto_region 5 with fail
    refine wp_region_stage (N0) [11] [] [[0], [0], [0], [0], [0], [0], [0], [0], [0], [0], [0], []] [[Is (.pointer (some ⟨b, 0, none⟩)), Is (.pointer (some ⟨b, 0, none⟩)), Is (.pointer (some ⟨b, 0, none⟩)), Is (.pointer (some ⟨b, 1, none⟩)), Is (.int .i64 (k : Int)), Is (.pointer (some ⟨b, 0, none⟩)), Is (.pointer (some ⟨b, 0, none⟩)), Is (.pointer (some ⟨b, 2, none⟩)), Is (tuv p s), Is (lnv (.pointer none) k p s 0 (.pointer none) (.pointer none) false), Is (.pointer (some ⟨b, 0, none⟩)), Free], [Is (.pointer (some ⟨b, 0, none⟩)), Is (.pointer (some ⟨b, 0, none⟩)), Is (.pointer (some ⟨b, 0, none⟩)), Is (.pointer (some ⟨b, 1, none⟩)), Is (.int .i64 (k : Int)), Is (.pointer (some ⟨b, 0, none⟩)), Is (.pointer (some ⟨b, 0, none⟩)), Is (.pointer (some ⟨b, 2, none⟩)), Is (tuv p s), IsF (lnv (.pointer none) k p s 0 (.pointer none) (.pointer none) false) F, Is (.pointer (some ⟨b, 0, none⟩)), Free]] [Is (.pointer (some ⟨b, 0, none⟩)), Is (.pointer (some ⟨b, 0, none⟩)), Is (.pointer (some ⟨b, 0, none⟩)), Is (.pointer (some ⟨b, 1, none⟩)), Is (.int .i64 (k : Int)), Is (.pointer (some ⟨b, 0, none⟩)), Is (.pointer (some ⟨b, 0, none⟩)), Is (.pointer (some ⟨b, 2, none⟩)), Is (tuv p s), IsF (lnv (.pointer none) k p s 0 (.pointer none) (.pointer none) false) F, Is (.pointer (some ⟨b, 0, none⟩)), Free] HBN.out.1 (by kernel_rfl) (by kernel_rfl) rfl rfl ⟨⟨stable_is _, stable_is _, stable_is _, stable_is _, stable_is _, stable_is _, stable_is _, stable_is _, stable_is _, stable_is _, stable_is _, stable_free, trivial⟩, ⟨stable_is _, stable_is _, stable_is _, stable_is _, stable_is _, stable_is _, stable_is _, stable_is _, stable_is _, stable_isf _ HFS.out, stable_is _, stable_free, trivial⟩, trivial⟩ (by intro n hn o ho hd w; simp only [List.mem_cons, List.not_mem_nil, or_false] at hn; subst hn; first | trivial | (cases ho; cases hd)) rfl ⟨?p0, ?p1, ?p2, ?p3, ?p4, ?p5, ?p6, ?p7, ?p8, ?p9, ?p10, fun h => absurd (by simp) h, trivial⟩ ⟨?t0, trivial⟩ (by decide) ?fin
    case p0 =>
      intro _ k hk; obtain rfl := List.mem_singleton.1 hk; intro a w C Z
      exact partS_on (wanted_free rfl _) (op_move (.inl rfl) (C.was 0 (by kernel_rfl)))
    case p1 =>
      intro _ k hk; obtain rfl := List.mem_singleton.1 hk; intro a w C Z
      exact partS_on (wanted_free rfl _) (op_move (.inl rfl) (C.was 0 (by kernel_rfl)))
    case p2 =>
      intro _ k hk; obtain rfl := List.mem_singleton.1 hk; intro a w C Z
      exact partS_on (wanted_free rfl _) (op_value (nil_run rfl (C.on (j := 1) (by kernel_rfl) rfl rfl)) rfl)
    case p3 =>
      intro _ k hk; obtain rfl := List.mem_singleton.1 hk; intro a w C Z
      exact partS_on (wanted_free rfl _) (op_value (lnf_run (k := 1) (j := 1) rfl (by decide) (C.on (j := 2) (by kernel_rfl) rfl rfl)) rfl)
    case p4 =>
      intro _ k hk; obtain rfl := List.mem_singleton.1 hk; intro a w C Z
      exact partS_on (wanted_free rfl _) (op_value (int_run rfl (C.on (j := 3) (by kernel_rfl) rfl rfl) (HR2.out w C.below).number) rfl)
    case p5 =>
      intro _ k hk; obtain rfl := List.mem_singleton.1 hk; intro a w C Z
      exact partS_on (wanted_free rfl _) (op_move (.inl rfl) (C.was 0 (by kernel_rfl)))
    case p6 =>
      intro _ k hk; obtain rfl := List.mem_singleton.1 hk; intro a w C Z
      exact partS_on (wanted_free rfl _) (op_value (nil_run rfl (C.on (j := 5) (by kernel_rfl) rfl rfl)) rfl)
    case p7 =>
      intro _ k hk; obtain rfl := List.mem_singleton.1 hk; intro a w C Z
      exact partS_on (wanted_free rfl _) (op_value (lnf_run (k := 2) (j := 2) rfl (by decide) (C.on (j := 6) (by kernel_rfl) rfl rfl)) rfl)
    case p8 =>
      intro _ k hk; obtain rfl := List.mem_singleton.1 hk; intro a w C Z
      exact partS_on (wanted_free rfl _) (op_value (load_run rfl (C.on (j := 7) (by kernel_rfl) rfl rfl) (HR2.out w C.below).turn) rfl)
    case p9 =>
      intro _ k hk; obtain rfl := List.mem_singleton.1 hk; intro a w C Z
      exact partS_on (wanted_free rfl _) (op_value (ln_run2 rfl (C.on (j := 4) (by kernel_rfl) rfl rfl) (C.on (j := 8) (by kernel_rfl) rfl rfl)) rfl)
    case p10 =>
      intro _ k hk; obtain rfl := List.mem_singleton.1 hk; intro a w C Z
      exact partS_on (wanted_free rfl _) (op_value (nil_run rfl (C.on (j := 0) (by kernel_rfl) rfl rfl)) rfl)
    case t0 =>
      intro o ho a w C A
      cases ho
      have hr := HR2.out w C.below
      refine ⟨wanted_free rfl _, stage_store rfl (C.on (j := 10) (by kernel_rfl) rfl rfl) (C.on (j := 9) (by kernel_rfl) rfl rfl) (ln_store hr) trivial (below_setRow (C.below.mono HBN.out.1) HBN.out.2 _) (Nat.le_of_eq (setRow_size _ _ _).symm) ?_⟩
      · intro i o2 d hi hd hne hnw h
        have hil := (List.getElem?_eq_some_iff.1 hi).1
        replace hil : i < 12 := hil
        obtain rfl | rfl | rfl | rfl | rfl | rfl | rfl | rfl | rfl | rfl | rfl | rfl : i = 0 ∨ i = 1 ∨ i = 2 ∨ i = 3 ∨ i = 4 ∨ i = 5 ∨ i = 6 ∨ i = 7 ∨ i = 8 ∨ i = 9 ∨ i = 10 ∨ i = 11 := by omega
        · exact h
        · exact h
        · exact h
        · exact h
        · exact h
        · exact h
        · exact h
        · exact h
        · exact h
        · exact ⟨h, HF.out w C.below⟩
        · exact h
        · exact absurd rfl hne
    case fin =>
      rintro wF hbF _ rfl _ rfl _ rfl _ rfl _ rfl _ rfl _ rfl _ rfl _ rfl _ ⟨rfl, hFF⟩ _ rfl _ _
      simp only [Fin, setAt, Exit.then, List.setIfInBounds_toArray, List.set_cons_succ, List.set_cons_zero]
      obtain ⟨h1, h2⟩ := HFE.out _ hFF
      go_wp2
      refine bodyPost_ret (results_tmp rfl _ _ _) rfl ⟨rfl, h1, HK2.out.trans h2 fun _ _ h => h⟩
set_option maxHeartbeats 12800000 in
theorem open_more {w : World} {q pc h G a t l m bb c g z k p s i b N0 : Nat} {xv dv : Value} {L : List (List Nat)} (hG : GrAt w q pc h G a t l m bb c g z L) (ht : t ≤ 4294967295) (hp : p < t) (hs : s ≤ 3) (hn : ¬ (p + 1 = t ∧ s = 3)) (hN0 : N0 ≤ b)
    (H : LnRow w b (.pointer (some ⟨q, 0, none⟩)) k p s i xv dv true) :
    Calls Tryz.prog 6 #[.pointer (some ⟨b, 0, none⟩)] w fun e w' => e = .returned (.bool true) ∧ (∃ x, LnRow w' b (.pointer (some ⟨q, 0, none⟩)) k (nxP p s : Nat) (nxS s : Nat) (fiN (nxP p s) (nxS s) : Nat) (.pointer (some ⟨x, 0, none⟩)) (.pointer none) false ∧ Src w' x a t l m bb c g z (nxP p s) (nxS s) k ∧ w.heap.size ≤ x) ∧ Kept (fun j => j = b) w w' := by
  have hbw : b < w.heap.size := RowAt.lt H
  have CW := Lib.hid (waits_ln H)
  have CNx := Lib.hid fun w => next_more a t l m bb c g z p s ht hp hs hn w
  have HX : Hid (∀ u, Below w.heap.size w u → LnRow u b (.pointer (some ⟨q, 0, none⟩)) k p s i xv dv true ∧ GrAt u q pc h G a t l m bb c g z L) := Lib.hid fun u hu => ⟨H.step hu, hG.step hu⟩
  have HBW0 := Lib.hid hbw
  have HN0 := Lib.hid hN0
  clear H hG hp hs hn ht hbw hN0
  go_enter Tryz.func6, Tryz.ntmps6
  go_wp2_with fail
  refine CW.out.mono ?_
  rintro e w1 ⟨rfl, rfl⟩
  go_upto_region 3 with fail
  refine wp_region_stage (w.heap.size) [16] [15] [[0], [0], [0], [0], [0], [0], [0], [0], [0], [0], [0], [0], [0], [0], [0, 1], [0], [], [1]] [[Is (.pointer (some ⟨b, 0, none⟩)), Is (.pointer (some ⟨b, 0, none⟩)), Is (.pointer (some ⟨b, 0, none⟩)), Is (.pointer (some ⟨q, 0, none⟩)), Is (.pointer (some ⟨q, 0, none⟩)), Is (.pointer (some ⟨q, 0 + 1, none⟩)), Is (spv a t l m bb c g z), Is (.pointer (some ⟨b, 0, none⟩)), Is (.pointer (some ⟨b, 0, none⟩)), Is (.pointer (some ⟨b, 2, none⟩)), Is (tuv p s), Is (.tuple #[tuv (nxP p s : Nat) (nxS s : Nat), .bool true]), Is (.tuple #[tuv (nxP p s : Nat) (nxS s : Nat), .bool true]), Is (tuv (nxP p s : Nat) (nxS s : Nat)), Is (.bool true), NewAt w.heap.size 28 (tuc 0 0), Free, Is (.bool true)], [Is (.pointer (some ⟨b, 0, none⟩)), Is (.pointer (some ⟨b, 0, none⟩)), Is (.pointer (some ⟨b, 0, none⟩)), Is (.pointer (some ⟨q, 0, none⟩)), Is (.pointer (some ⟨q, 0, none⟩)), Is (.pointer (some ⟨q, 0 + 1, none⟩)), Is (spv a t l m bb c g z), Is (.pointer (some ⟨b, 0, none⟩)), Is (.pointer (some ⟨b, 0, none⟩)), Is (.pointer (some ⟨b, 2, none⟩)), Is (tuv p s), Is (.tuple #[tuv (nxP p s : Nat) (nxS s : Nat), .bool true]), Is (.tuple #[tuv (nxP p s : Nat) (nxS s : Nat), .bool true]), Is (tuv (nxP p s : Nat) (nxS s : Nat)), Is (.bool true), NewAt w.heap.size 28 (tuc (nxP p s : Nat) (nxS s : Nat)), Free, Is (.bool true)]] [Is (.pointer (some ⟨b, 0, none⟩)), Is (.pointer (some ⟨b, 0, none⟩)), Is (.pointer (some ⟨b, 0, none⟩)), Is (.pointer (some ⟨q, 0, none⟩)), Is (.pointer (some ⟨q, 0, none⟩)), Is (.pointer (some ⟨q, 0 + 1, none⟩)), Is (spv a t l m bb c g z), Is (.pointer (some ⟨b, 0, none⟩)), Is (.pointer (some ⟨b, 0, none⟩)), Is (.pointer (some ⟨b, 2, none⟩)), Is (tuv p s), Is (.tuple #[tuv (nxP p s : Nat) (nxS s : Nat), .bool true]), Is (.tuple #[tuv (nxP p s : Nat) (nxS s : Nat), .bool true]), Is (tuv (nxP p s : Nat) (nxS s : Nat)), Is (.bool true), NewAt w.heap.size 28 (tuc (nxP p s : Nat) (nxS s : Nat)), Free, Is (.bool true)] (Nat.le_refl _) (by kernel_rfl) (by kernel_rfl) rfl rfl ⟨⟨stable_is _, stable_is _, stable_is _, stable_is _, stable_is _, stable_is _, stable_is _, stable_is _, stable_is _, stable_is _, stable_is _, stable_is _, stable_is _, stable_is _, stable_is _, stable_newat _ _ _, stable_free, stable_is _, trivial⟩, ⟨stable_is _, stable_is _, stable_is _, stable_is _, stable_is _, stable_is _, stable_is _, stable_is _, stable_is _, stable_is _, stable_is _, stable_is _, stable_is _, stable_is _, stable_is _, stable_newat _ _ _, stable_free, stable_is _, trivial⟩, trivial⟩ (by intro n hn o ho hd w; simp only [List.mem_cons, List.not_mem_nil, or_false] at hn; subst hn; first | trivial | (cases ho; cases hd)) rfl ⟨?p0, ?p1, ?p2, ?p3, ?p4, ?p5, ?p6, ?p7, ?p8, ?p9, ?p10, ?p11, ?p12, ?p13, ?p14, ?p15, fun h => absurd (by simp) h, ?p17, trivial⟩ ⟨?t0, trivial⟩ (by decide) ?fin
  case p0 =>
    intro _ k hk; obtain rfl := List.mem_singleton.1 hk; intro a w C Z
    exact partS_on (wanted_free rfl _) (op_move (.inl rfl) (C.was 0 (by kernel_rfl)))
  case p1 =>
    intro _ k hk; obtain rfl := List.mem_singleton.1 hk; intro a w C Z
    exact partS_on (wanted_free rfl _) (op_value (nil_run rfl (C.on (j := 0) (by kernel_rfl) rfl rfl)) rfl)
  case p2 =>
    intro _ k hk; obtain rfl := List.mem_singleton.1 hk; intro a w C Z
    exact partS_on (wanted_free rfl _) (op_value (lnf_run (k := 0) (j := 0) rfl (by decide) (C.on (j := 1) (by kernel_rfl) rfl rfl)) rfl)
  case p3 =>
    intro _ k hk; obtain rfl := List.mem_singleton.1 hk; intro a w C Z
    exact partS_on (wanted_free rfl _) (op_value (pgr_run rfl (C.on (j := 2) (by kernel_rfl) rfl rfl) (HX.out w C.below).1.grid) rfl)
  case p4 =>
    intro _ k hk; obtain rfl := List.mem_singleton.1 hk; intro a w C Z
    exact partS_on (wanted_free rfl _) (op_value (nil_run rfl (C.on (j := 3) (by kernel_rfl) rfl rfl)) rfl)
  case p5 =>
    intro _ k hk; obtain rfl := List.mem_singleton.1 hk; intro a w C Z
    exact partS_on (wanted_free rfl _) (op_value (grf_run (k := 1) rfl (by decide) (C.on (j := 4) (by kernel_rfl) rfl rfl)) rfl)
  case p6 =>
    intro _ k hk; obtain rfl := List.mem_singleton.1 hk; intro a w C Z
    exact partS_on (wanted_free rfl _) (op_value (load_run rfl (C.on (j := 5) (by kernel_rfl) rfl rfl) (HX.out w C.below).2.row.shape) rfl)
  case p7 =>
    intro _ k hk; obtain rfl := List.mem_singleton.1 hk; intro a w C Z
    exact partS_on (wanted_free rfl _) (op_move (.inl rfl) (C.was 0 (by kernel_rfl)))
  case p8 =>
    intro _ k hk; obtain rfl := List.mem_singleton.1 hk; intro a w C Z
    exact partS_on (wanted_free rfl _) (op_value (nil_run rfl (C.on (j := 7) (by kernel_rfl) rfl rfl)) rfl)
  case p9 =>
    intro _ k hk; obtain rfl := List.mem_singleton.1 hk; intro a w C Z
    exact partS_on (wanted_free rfl _) (op_value (lnf_run (k := 2) (j := 2) rfl (by decide) (C.on (j := 8) (by kernel_rfl) rfl rfl)) rfl)
  case p10 =>
    intro _ k hk; obtain rfl := List.mem_singleton.1 hk; intro a w C Z
    exact partS_on (wanted_free rfl _) (op_value (load_run rfl (C.on (j := 9) (by kernel_rfl) rfl rfl) (HX.out w C.below).1.turn) rfl)
  case p11 =>
    intro _ k hk; obtain rfl := List.mem_singleton.1 hk; intro a w C Z
    exact partS_on (wanted_free rfl _) (op_call2 rfl (reg_enters Tryz.func23 (by kernel_rfl) (by kernel_rfl)) (C.on (j := 6) (by kernel_rfl) rfl rfl) (C.on (j := 10) (by kernel_rfl) rfl rfl) (calls_is (CNx.out w)))
  case p12 =>
    intro _ k hk; obtain rfl := List.mem_singleton.1 hk; intro a w C Z
    exact partS_on (wanted_free rfl _) (op_move (.inl rfl) (C.on (j := 11) (by kernel_rfl) rfl rfl))
  case p13 =>
    intro _ k hk; obtain rfl := List.mem_singleton.1 hk; intro a w C Z
    exact partS_on (wanted_free rfl _) (op_value (ext_run (v := tuv (nxP p s : Nat) (nxS s : Nat)) rfl (C.on (j := 12) (by kernel_rfl) rfl rfl) rfl) rfl)
  case p14 =>
    intro _ k hk; replace hk : k ∈ [0, 1] := hk; simp only [List.mem_cons, List.not_mem_nil, or_false] at hk
    rcases hk with rfl | rfl
    · intro a w C Z
      exact partS_on (wanted_free rfl _) (op_value (ext_run (v := .bool true) rfl (C.on (j := 12) (by kernel_rfl) rfl rfl) rfl) rfl)
    · intro a w C Z
      exact partS_on (wanted_free rfl _) (op_value (ext_run (v := .bool true) rfl (C.on (j := 12) (by kernel_rfl) rfl rfl) rfl) rfl)
  case p15 =>
    intro _ k hk; obtain rfl := List.mem_singleton.1 hk; intro a w C Z
    exact partS_new (wanted_free rfl _) (op_fresh (tu_new rfl) ⟨_, rfl, Z.size, RowAt.new _ _ _⟩)
  case p17 =>
    intro _ k hk; obtain rfl := List.mem_singleton.1 hk; intro a w C Z
    exact partS_on (wanted_free rfl _) (op_move (.inr rfl) (C.on (j := 14) (by kernel_rfl) rfl rfl))
  case t0 =>
    intro o ho a w C A
    cases ho
    obtain ⟨d, e1, h1, hR⟩ := (C.on (j := 15) (by kernel_rfl) rfl rfl)
    refine ⟨wanted_free rfl _, stage_store rfl e1 (C.on (j := 13) (by kernel_rfl) rfl rfl) (tu_store rfl hR) trivial (below_setRow C.below h1 _) (Nat.le_of_eq (setRow_size _ _ _).symm) ?_⟩
    · intro i o2 d hi hd hne hnw h
      have hil := (List.getElem?_eq_some_iff.1 hi).1
      replace hil : i < 18 := hil
      obtain rfl | rfl | rfl | rfl | rfl | rfl | rfl | rfl | rfl | rfl | rfl | rfl | rfl | rfl | rfl | rfl | rfl | rfl : i = 0 ∨ i = 1 ∨ i = 2 ∨ i = 3 ∨ i = 4 ∨ i = 5 ∨ i = 6 ∨ i = 7 ∨ i = 8 ∨ i = 9 ∨ i = 10 ∨ i = 11 ∨ i = 12 ∨ i = 13 ∨ i = 14 ∨ i = 15 ∨ i = 16 ∨ i = 17 := by omega
      · exact h
      · exact h
      · exact h
      · exact h
      · exact h
      · exact h
      · exact h
      · exact h
      · exact h
      · exact h
      · exact h
      · exact h
      · exact h
      · exact h
      · exact h
      · cases hi; cases hd; exact ⟨d, e1, h1, hR.setRow _⟩
      · exact absurd rfl hne
      · exact absurd hnw (by rw [show waits _ 17 16 = true from by kernel_rfl]; decide)
  case fin =>
    rintro w2 hbF _ rfl _ rfl _ rfl _ rfl _ rfl _ rfl _ rfl _ rfl _ rfl _ rfl _ rfl _ rfl _ rfl _ rfl _ rfl _ ⟨d, rfl, hdN, hdR⟩ _ _ _ rfl
    simp only [Fin, setAt, Exit.then, List.setIfInBounds_toArray, List.set_cons_succ, List.set_cons_zero]
    have HR2 : Hid (∀ u, Below w2.heap.size w2 u → LnRow u b (.pointer (some ⟨q, 0, none⟩)) k p s i xv dv true ∧ (loadVar 28 ⟨d, 0, none⟩).run Tryz.prog u = .ok (tuv (nxP p s : Nat) (nxS s : Nat)) u ∧
        Calls Tryz.prog 24 #[.pointer (some ⟨q, 0, none⟩), .int .i64 (k : Int), tuv (nxP p s : Nat) (nxS s : Nat)] u fun e w' => ∃ v, e = .returned v ∧ LnvP w2.heap.size q a t l m bb c g z (nxP p s) (nxS s) k (fiN (nxP p s) (nxS s)) v w' ∧ Below u.heap.size u w') := Lib.hid fun u hu => by
      refine ⟨(HX.out w2 hbF).1.step hu, tu_load (RowAt.step hdR hu), ?_⟩
      refine (lbegin_any ((HX.out w2 hbF).2.step hu) k (nxP p s) (nxS s) (fiN (nxP p s) (nxS s)) rfl).mono ?_
      rintro e w' ⟨v, rfl, ⟨x, e1, hx, hsx⟩, hb⟩
      exact ⟨v, rfl, ⟨x, e1, Nat.le_trans hu.size hx, hsx⟩, hb⟩
    have HK2 : Hid (Below w.heap.size w w2) := Lib.hid hbF
    have HBN : Hid (N0 ≤ w2.heap.size ∧ N0 ≤ b) := Lib.hid ⟨by have := HBW0.out; have := HN0.out; have := hbF.size; omega, HN0.out⟩
    have HBW : Hid (b < w2.heap.size) := Lib.hid (by have := HBW0.out; have := hbF.size; omega)
    clear HX hbF hdR hdN CNx CW
    go_upto_region 7 with fail
    refine wp_region_stage (N0) [12] [] [[0], [0], [0], [0], [0], [0], [0], [0], [0], [0], [0], [0], []] [[Is (.pointer (some ⟨b, 0, none⟩)), Is (.pointer (some ⟨b, 0, none⟩)), Is (.pointer (some ⟨b, 0, none⟩)), Is (.pointer (some ⟨b, 0, none⟩)), Is (.pointer (some ⟨q, 0, none⟩)), Is (.pointer (some ⟨b, 0, none⟩)), Is (.pointer (some ⟨b, 0, none⟩)), Is (.pointer (some ⟨b, 1, none⟩)), Is (.int .i64 (k : Int)), Is (tuv (nxP p s : Nat) (nxS s : Nat)), LnvP w2.heap.size q a t l m bb c g z (nxP p s) (nxS s) k (fiN (nxP p s) (nxS s)), Is (.pointer (some ⟨b, 0, none⟩)), Free], [Is (.pointer (some ⟨b, 0, none⟩)), Is (.pointer (some ⟨b, 0, none⟩)), Is (.pointer (some ⟨b, 0, none⟩)), Is (.pointer (some ⟨b, 0, none⟩)), Is (.pointer (some ⟨q, 0, none⟩)), Is (.pointer (some ⟨b, 0, none⟩)), Is (.pointer (some ⟨b, 0, none⟩)), Is (.pointer (some ⟨b, 1, none⟩)), Is (.int .i64 (k : Int)), Is (tuv (nxP p s : Nat) (nxS s : Nat)), LnvR w2.heap.size q a t l m bb c g z (nxP p s) (nxS s) k (fiN (nxP p s) (nxS s)) b w2, Is (.pointer (some ⟨b, 0, none⟩)), Free]] [Is (.pointer (some ⟨b, 0, none⟩)), Is (.pointer (some ⟨b, 0, none⟩)), Is (.pointer (some ⟨b, 0, none⟩)), Is (.pointer (some ⟨b, 0, none⟩)), Is (.pointer (some ⟨q, 0, none⟩)), Is (.pointer (some ⟨b, 0, none⟩)), Is (.pointer (some ⟨b, 0, none⟩)), Is (.pointer (some ⟨b, 1, none⟩)), Is (.int .i64 (k : Int)), Is (tuv (nxP p s : Nat) (nxS s : Nat)), LnvR w2.heap.size q a t l m bb c g z (nxP p s) (nxS s) k (fiN (nxP p s) (nxS s)) b w2, Is (.pointer (some ⟨b, 0, none⟩)), Free] HBN.out.1 (by kernel_rfl) (by kernel_rfl) rfl rfl ⟨⟨stable_is _, stable_is _, stable_is _, stable_is _, stable_is _, stable_is _, stable_is _, stable_is _, stable_is _, stable_is _, stable_lnvp _ _ _ _ _ _ _ _ _ _ _ _ _ _, stable_is _, stable_free, trivial⟩, ⟨stable_is _, stable_is _, stable_is _, stable_is _, stable_is _, stable_is _, stable_is _, stable_is _, stable_is _, stable_is _, stable_lnvr _ _ _ _ _ _ _ _ _ _ _ _ _ _ _ _, stable_is _, stable_free, trivial⟩, trivial⟩ (by intro n hn o ho hd w; simp only [List.mem_cons, List.not_mem_nil, or_false] at hn; subst hn; first | trivial | (cases ho; cases hd)) rfl ⟨?p0, ?p1, ?p2, ?p3, ?p4, ?p5, ?p6, ?p7, ?p8, ?p9, ?p10, ?p11, fun h => absurd (by simp) h, trivial⟩ ⟨?t0, trivial⟩ (by decide) ?fin
    case p0 =>
      intro _ k hk; obtain rfl := List.mem_singleton.1 hk; intro a w C Z
      exact partS_on (wanted_free rfl _) (op_move (.inl rfl) (C.was 0 (by kernel_rfl)))
    case p1 =>
      intro _ k hk; obtain rfl := List.mem_singleton.1 hk; intro a w C Z
      exact partS_on (wanted_free rfl _) (op_move (.inl rfl) (C.was 0 (by kernel_rfl)))
    case p2 =>
      intro _ k hk; obtain rfl := List.mem_singleton.1 hk; intro a w C Z
      exact partS_on (wanted_free rfl _) (op_value (nil_run rfl (C.on (j := 1) (by kernel_rfl) rfl rfl)) rfl)
    case p3 =>
      intro _ k hk; obtain rfl := List.mem_singleton.1 hk; intro a w C Z
      exact partS_on (wanted_free rfl _) (op_value (lnf_run (k := 0) (j := 0) rfl (by decide) (C.on (j := 2) (by kernel_rfl) rfl rfl)) rfl)
    case p4 =>
      intro _ k hk; obtain rfl := List.mem_singleton.1 hk; intro a w C Z
      exact partS_on (wanted_free rfl _) (op_value (pgr_run rfl (C.on (j := 3) (by kernel_rfl) rfl rfl) (HR2.out w C.below).1.grid) rfl)
    case p5 =>
      intro _ k hk; obtain rfl := List.mem_singleton.1 hk; intro a w C Z
      exact partS_on (wanted_free rfl _) (op_move (.inl rfl) (C.was 0 (by kernel_rfl)))
    case p6 =>
      intro _ k hk; obtain rfl := List.mem_singleton.1 hk; intro a w C Z
      exact partS_on (wanted_free rfl _) (op_value (nil_run rfl (C.on (j := 5) (by kernel_rfl) rfl rfl)) rfl)
    case p7 =>
      intro _ k hk; obtain rfl := List.mem_singleton.1 hk; intro a w C Z
      exact partS_on (wanted_free rfl _) (op_value (lnf_run (k := 1) (j := 1) rfl (by decide) (C.on (j := 6) (by kernel_rfl) rfl rfl)) rfl)
    case p8 =>
      intro _ k hk; obtain rfl := List.mem_singleton.1 hk; intro a w C Z
      exact partS_on (wanted_free rfl _) (op_value (int_run rfl (C.on (j := 7) (by kernel_rfl) rfl rfl) (HR2.out w C.below).1.number) rfl)
    case p9 =>
      intro _ k hk; obtain rfl := List.mem_singleton.1 hk; intro a w C Z
      exact partS_on (wanted_free rfl _) (op_value (load_run rfl (C.was 3 (by kernel_rfl)) (HR2.out w C.below).2.1) rfl)
    case p10 =>
      intro _ k hk; obtain rfl := List.mem_singleton.1 hk; intro a w C Z
      exact partS_on (wanted_free rfl _) (op_call3 rfl (reg_enters Tryz.func24 (by kernel_rfl) (by kernel_rfl)) (C.on (j := 4) (by kernel_rfl) rfl rfl) (C.on (j := 8) (by kernel_rfl) rfl rfl) (C.on (j := 9) (by kernel_rfl) rfl rfl) ((HR2.out w C.below).2.2))
    case p11 =>
      intro _ k hk; obtain rfl := List.mem_singleton.1 hk; intro a w C Z
      exact partS_on (wanted_free rfl _) (op_value (nil_run rfl (C.on (j := 0) (by kernel_rfl) rfl rfl)) rfl)
    case t0 =>
      intro o ho a w C A
      cases ho
      obtain ⟨x, e, hx, hs⟩ := (C.on (j := 10) (by kernel_rfl) rfl rfl)
      have hr := (HR2.out w C.below).1
      have hb7 := below_setRow (C.below.mono HBN.out.1) HBN.out.2 (lnc (.pointer (some ⟨q, 0, none⟩)) k (nxP p s : Nat) (nxS s : Nat) (fiN (nxP p s) (nxS s) : Nat) (.pointer (some ⟨x, 0, none⟩)) (.pointer none) false)
      refine ⟨wanted_free rfl _, stage_store rfl (C.on (j := 11) (by kernel_rfl) rfl rfl) e (ln_store hr) trivial hb7 (Nat.le_of_eq (setRow_size _ _ _).symm) ?_⟩
      · intro i o2 d hi hd hne hnw h
        have hil := (List.getElem?_eq_some_iff.1 hi).1
        replace hil : i < 13 := hil
        obtain rfl | rfl | rfl | rfl | rfl | rfl | rfl | rfl | rfl | rfl | rfl | rfl | rfl : i = 0 ∨ i = 1 ∨ i = 2 ∨ i = 3 ∨ i = 4 ∨ i = 5 ∨ i = 6 ∨ i = 7 ∨ i = 8 ∨ i = 9 ∨ i = 10 ∨ i = 11 ∨ i = 12 := by omega
        · exact h
        · exact h
        · exact h
        · exact h
        · exact h
        · exact h
        · exact h
        · exact h
        · exact h
        · exact h
        · cases hi; cases hd; exact ⟨x, e, hx, hs.kept (kept_row _ _ _) (by have := HBW.out; omega), RowAt.setRow hr _, (Kept.of_below (M := fun j => j = b) C.below).trans (kept_row _ _ _) fun _ _ h => h⟩
        · exact h
        · exact absurd rfl hne
    case fin =>
      rintro wF hbF _ rfl _ rfl _ rfl _ rfl _ rfl _ rfl _ rfl _ rfl _ rfl _ rfl _ ⟨x, rfl, hxN, hSx, hRx, hBx⟩ _ rfl _ _
      simp only [Fin, setAt, Exit.then, List.setIfInBounds_toArray, List.set_cons_succ, List.set_cons_zero]
      go_wp2
      refine bodyPost_ret (results_tmp rfl _ _ _) rfl ⟨rfl, ⟨x, hRx, hSx, ?_⟩, ?_⟩
      · have := HK2.out.size; omega
      · exact (Kept.of_below (M := fun j => j = b) HK2.out).trans hBx fun _ _ h => h
end Go.Proofs.YtfoodaobiknihaaGreatDoor

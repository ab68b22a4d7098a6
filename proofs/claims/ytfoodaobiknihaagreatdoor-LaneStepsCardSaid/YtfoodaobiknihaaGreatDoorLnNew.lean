/- begin and New of package lane, by their contracts. Conditions: those typed. -/
import Derived.Test.YtfoodaobiknihaaGreatDoorLnA
namespace Go.Proofs.YtfoodaobiknihaaGreatDoor
set_option maxRecDepth 50000
open Go.RowKit Bb Bn
def LnvP (N q a t l m bb c g z p s k F0 : Nat) : Value → World → Prop := fun v u => ∃ x, v = lnv (.pointer (some ⟨q, 0, none⟩)) k p s F0 (.pointer (some ⟨x, 0, none⟩)) (.pointer none) false ∧ N ≤ x ∧ Src u x a t l m bb c g z p s k
def LnvR (N q a t l m bb c g z p s k F0 T : Nat) (w : World) : Value → World → Prop := fun v u => ∃ x, v = lnv (.pointer (some ⟨q, 0, none⟩)) k p s F0 (.pointer (some ⟨x, 0, none⟩)) (.pointer none) false ∧ N ≤ x ∧ Src u x a t l m bb c g z p s k ∧ LnRow u T (.pointer (some ⟨q, 0, none⟩)) k p s F0 (.pointer (some ⟨x, 0, none⟩)) (.pointer none) false ∧ Kept (fun j => j = T) w u
theorem stable_lnvp (N q a t l m bb c g z p s k F0 : Nat) : Stable (LnvP N q a t l m bb c g z p s k F0) := fun _ _ _ ⟨x, e, h, h2⟩ hb => ⟨x, e, h, h2.step hb⟩
theorem stable_lnvr (N q a t l m bb c g z p s k F0 T : Nat) (w : World) : Stable (LnvR N q a t l m bb c g z p s k F0 T w) := fun _ _ _ ⟨x, e, h, h2, h3, h4⟩ hb => ⟨x, e, h, h2.step hb, h3.step hb, h4.trans (Kept.of_below (M := fun _ => False) hb) fun _ _ h => h.elim⟩
set_option maxHeartbeats 12800000 in
theorem lbegin_any {w : World} {q pc h G a t l m bb c g z : Nat} {L : List (List Nat)} (hG : GrAt w q pc h G a t l m bb c g z L) (k p s F0 : Nat) (hF0 : fiN p s = F0) :
    Calls Tryz.prog 24 #[.pointer (some ⟨q, 0, none⟩), .int .i64 (k : Int), tuv p s] w fun e w' => ∃ v, e = .returned v ∧ LnvP w.heap.size q a t l m bb c g z p s k F0 v w' ∧ Below w.heap.size w w' := by
  have CFi : Hid (∀ w, Calls Tryz.prog 43 #[spv a t l m bb c g z, .int .i64 (p : Int), .int .i64 (s : Int)] w fun e w' => ∃ v, e = .returned v ∧ Is (.int .i64 (F0 : Int)) v w' ∧ Below w.heap.size w w') := Lib.hid fun w => first_is a t l m bb c g z p s F0 (by rw [fiN_is, hF0]) w
  obtain ⟨w1, e1⟩ : ∃ w1, w1 = (w.alloc (.cells (tuc p s) 28)).alloc (.cells (lnc (.pointer none) 0 0 0 0 (.pointer none) (.pointer none) false) 67) := ⟨_, rfl⟩
  have b1 : Below w.heap.size w w1 := by rw [e1]; exact two_box _ _ _
  have hGT : GT q pc h G a t l m bb c g z L w.heap.size p s w1 := ⟨hG.step b1, by rw [e1]; exact (RowAt.new _ _ _).alloc _⟩
  have hR : LnRow w1 (w.heap.size + 1) (.pointer none) 0 0 0 0 (.pointer none) (.pointer none) false := by
    rw [e1]
    have h := RowAt.new (w.alloc (.cells (tuc p s) 28)) 67 (lnc (.pointer none) 0 0 0 0 (.pointer none) (.pointer none) false)
    rwa [World.size_alloc] at h
  have HX : Hid (∀ u, Below w1.heap.size w1 u → GT q pc h G a t l m bb c g z L w.heap.size p s u) := Lib.hid fun u hu => hGT.step hu
  have HR : Hid (∀ u, Below w1.heap.size w1 u → LnRow u (w.heap.size + 1) (.pointer none) 0 0 0 0 (.pointer none) (.pointer none) false) := Lib.hid fun u hu => hR.step hu
  have HT1 : Hid (w.heap.size ≤ w1.heap.size) := Lib.hid b1.size
  have HT2 : Hid (w.heap.size + 2 ≤ w1.heap.size) := Lib.hid (by have := RowAt.lt hR; omega)
  have CNw := Lib.hid fun u (hu : w1.heap.size ≤ u.heap.size) => srcp_new w1.heap.size a t l m bb c g z p s k u hu
  have HB := Lib.hid b1
  have E1 := Lib.hid e1
  clear hG b1 e1 hGT hR hF0
  go_enter Tryz.func24, Tryz.ntmps24
  go_upto_region 1 with fail
  rw [← E1.out]
  clear E1
  generalize hT0 : w.heap.size = T0 at *
  have HT0 := Lib.hid hT0
  clear hT0
  refine wp_region_stage (T0) [20] [] [[0], [0], [0], [0], [0], [0], [0], [0], [0], [0], [0], [0], [0], [0], [0], [0], [0], [0], [0], [0], []] [[Is (.pointer (some ⟨q, 0, none⟩)), Is (.int .i64 (k : Int)), Is (tuv p s), Is (.pointer (some ⟨q, 0, none⟩)), Is (.pointer (some ⟨q, 0, none⟩)), Is (.pointer (some ⟨q, 0 + 1, none⟩)), Is (spv a t l m bb c g z), Is (.pointer (some ⟨T0, 0 + 0, none⟩)), Is (.int .i64 (p : Int)), Is (.pointer (some ⟨T0, 0 + 1, none⟩)), Is (.int .i64 (s : Int)), Is (.int .i64 (F0 : Int)), Is (.pointer (some ⟨q, 0, none⟩)), Is (.pointer (some ⟨q, 0, none⟩)), Is (.pointer (some ⟨q, 0 + 1, none⟩)), Is (spv a t l m bb c g z), Is (tuv p s), Is (.int .i64 (k : Int)), SrcP w1.heap.size a t l m bb c g z p s k, LnvP w1.heap.size q a t l m bb c g z p s k F0, Free], [Is (.pointer (some ⟨q, 0, none⟩)), Is (.int .i64 (k : Int)), Is (tuv p s), Is (.pointer (some ⟨q, 0, none⟩)), Is (.pointer (some ⟨q, 0, none⟩)), Is (.pointer (some ⟨q, 0 + 1, none⟩)), Is (spv a t l m bb c g z), Is (.pointer (some ⟨T0, 0 + 0, none⟩)), Is (.int .i64 (p : Int)), Is (.pointer (some ⟨T0, 0 + 1, none⟩)), Is (.int .i64 (s : Int)), Is (.int .i64 (F0 : Int)), Is (.pointer (some ⟨q, 0, none⟩)), Is (.pointer (some ⟨q, 0, none⟩)), Is (.pointer (some ⟨q, 0 + 1, none⟩)), Is (spv a t l m bb c g z), Is (tuv p s), Is (.int .i64 (k : Int)), Free, LnvR w1.heap.size q a t l m bb c g z p s k F0 (T0 + 1) w, Free]] [Is (.pointer (some ⟨q, 0, none⟩)), Is (.int .i64 (k : Int)), Is (tuv p s), Is (.pointer (some ⟨q, 0, none⟩)), Is (.pointer (some ⟨q, 0, none⟩)), Is (.pointer (some ⟨q, 0 + 1, none⟩)), Is (spv a t l m bb c g z), Is (.pointer (some ⟨T0, 0 + 0, none⟩)), Is (.int .i64 (p : Int)), Is (.pointer (some ⟨T0, 0 + 1, none⟩)), Is (.int .i64 (s : Int)), Is (.int .i64 (F0 : Int)), Is (.pointer (some ⟨q, 0, none⟩)), Is (.pointer (some ⟨q, 0, none⟩)), Is (.pointer (some ⟨q, 0 + 1, none⟩)), Is (spv a t l m bb c g z), Is (tuv p s), Is (.int .i64 (k : Int)), Free, LnvR w1.heap.size q a t l m bb c g z p s k F0 (T0 + 1) w, Free] HT1.out (by kernel_rfl) (by kernel_rfl) rfl rfl ⟨⟨stable_is _, stable_is _, stable_is _, stable_is _, stable_is _, stable_is _, stable_is _, stable_is _, stable_is _, stable_is _, stable_is _, stable_is _, stable_is _, stable_is _, stable_is _, stable_is _, stable_is _, stable_is _, stable_srcp _ _ _ _ _ _ _ _ _ _ _ _, stable_lnvp _ _ _ _ _ _ _ _ _ _ _ _ _ _, stable_free, trivial⟩, ⟨stable_is _, stable_is _, stable_is _, stable_is _, stable_is _, stable_is _, stable_is _, stable_is _, stable_is _, stable_is _, stable_is _, stable_is _, stable_is _, stable_is _, stable_is _, stable_is _, stable_is _, stable_is _, stable_free, stable_lnvr _ _ _ _ _ _ _ _ _ _ _ _ _ _ _ _, stable_free, trivial⟩, trivial⟩ (by intro n hn o ho hd w; simp only [List.mem_cons, List.not_mem_nil, or_false] at hn; subst hn; first | trivial | (cases ho; cases hd)) rfl ⟨?p0, ?p1, ?p2, ?p3, ?p4, ?p5, ?p6, ?p7, ?p8, ?p9, ?p10, ?p11, ?p12, ?p13, ?p14, ?p15, ?p16, ?p17, ?p18, ?p19, fun h => absurd (by simp) h, trivial⟩ ⟨?t0, trivial⟩ (by decide) ?fin
  case p0 =>
    intro _ k hk; obtain rfl := List.mem_singleton.1 hk; intro a w C Z
    exact partS_on (wanted_free rfl _) (op_move (.inl rfl) (C.was 0 (by kernel_rfl)))
  case p1 =>
    intro _ k hk; obtain rfl := List.mem_singleton.1 hk; intro a w C Z
    exact partS_on (wanted_free rfl _) (op_move (.inl rfl) (C.was 1 (by kernel_rfl)))
  case p2 =>
    intro _ k hk; obtain rfl := List.mem_singleton.1 hk; intro a w C Z
    exact partS_on (wanted_free rfl _) (op_value (load_run rfl (C.was 5 (by kernel_rfl)) (HX.out w C.below).tu) rfl)
  case p3 =>
    intro _ k hk; obtain rfl := List.mem_singleton.1 hk; intro a w C Z
    exact partS_on (wanted_free rfl _) (op_move (.inl rfl) (C.was 0 (by kernel_rfl)))
  case p4 =>
    intro _ k hk; obtain rfl := List.mem_singleton.1 hk; intro a w C Z
    exact partS_on (wanted_free rfl _) (op_value (nil_run rfl (C.on (j := 3) (by kernel_rfl) rfl rfl)) rfl)
  case p5 =>
    intro _ k hk; obtain rfl := List.mem_singleton.1 hk; intro a w C Z
    exact partS_on (wanted_free rfl _) (op_value (grf_run (k := 1) rfl (by decide) (C.on (j := 4) (by kernel_rfl) rfl rfl)) rfl)
  case p6 =>
    intro _ k hk; obtain rfl := List.mem_singleton.1 hk; intro a w C Z
    exact partS_on (wanted_free rfl _) (op_value (load_run rfl (C.on (j := 5) (by kernel_rfl) rfl rfl) (HX.out w C.below).gr.row.shape) rfl)
  case p7 =>
    intro _ k hk; obtain rfl := List.mem_singleton.1 hk; intro a w C Z
    exact partS_on (wanted_free rfl _) (op_value (tuf_run (k := 0) rfl (by decide) (C.was 5 (by kernel_rfl))) rfl)
  case p8 =>
    intro _ k hk; obtain rfl := List.mem_singleton.1 hk; intro a w C Z
    exact partS_on (wanted_free rfl _) (op_value (int_run rfl (C.on (j := 7) (by kernel_rfl) rfl rfl) (tu_cells (HX.out w C.below).row).1) rfl)
  case p9 =>
    intro _ k hk; obtain rfl := List.mem_singleton.1 hk; intro a w C Z
    exact partS_on (wanted_free rfl _) (op_value (tuf_run (k := 1) rfl (by decide) (C.was 5 (by kernel_rfl))) rfl)
  case p10 =>
    intro _ k hk; obtain rfl := List.mem_singleton.1 hk; intro a w C Z
    exact partS_on (wanted_free rfl _) (op_value (int_run rfl (C.on (j := 9) (by kernel_rfl) rfl rfl) (tu_cells (HX.out w C.below).row).2) rfl)
  case p11 =>
    intro _ k hk; obtain rfl := List.mem_singleton.1 hk; intro a w C Z
    exact partS_on (wanted_free rfl _) (op_call3 rfl (reg_enters Tryz.func43 (by kernel_rfl) (by kernel_rfl)) (C.on (j := 6) (by kernel_rfl) rfl rfl) (C.on (j := 8) (by kernel_rfl) rfl rfl) (C.on (j := 10) (by kernel_rfl) rfl rfl) (CFi.out w))
  case p12 =>
    intro _ k hk; obtain rfl := List.mem_singleton.1 hk; intro a w C Z
    exact partS_on (wanted_free rfl _) (op_move (.inl rfl) (C.was 0 (by kernel_rfl)))
  case p13 =>
    intro _ k hk; obtain rfl := List.mem_singleton.1 hk; intro a w C Z
    exact partS_on (wanted_free rfl _) (op_value (nil_run rfl (C.on (j := 12) (by kernel_rfl) rfl rfl)) rfl)
  case p14 =>
    intro _ k hk; obtain rfl := List.mem_singleton.1 hk; intro a w C Z
    exact partS_on (wanted_free rfl _) (op_value (grf_run (k := 1) rfl (by decide) (C.on (j := 13) (by kernel_rfl) rfl rfl)) rfl)
  case p15 =>
    intro _ k hk; obtain rfl := List.mem_singleton.1 hk; intro a w C Z
    exact partS_on (wanted_free rfl _) (op_value (load_run rfl (C.on (j := 14) (by kernel_rfl) rfl rfl) (HX.out w C.below).gr.row.shape) rfl)
  case p16 =>
    intro _ k hk; obtain rfl := List.mem_singleton.1 hk; intro a w C Z
    exact partS_on (wanted_free rfl _) (op_value (load_run rfl (C.was 5 (by kernel_rfl)) (HX.out w C.below).tu) rfl)
  case p17 =>
    intro _ k hk; obtain rfl := List.mem_singleton.1 hk; intro a w C Z
    exact partS_on (wanted_free rfl _) (op_move (.inl rfl) (C.was 1 (by kernel_rfl)))
  case p18 =>
    intro _ k hk; obtain rfl := List.mem_singleton.1 hk; intro a w C Z
    exact partS_on (wanted_free rfl _) (op_call3 rfl (reg_enters Tryz.func44 (by kernel_rfl) (by kernel_rfl)) (C.on (j := 15) (by kernel_rfl) rfl rfl) (C.on (j := 16) (by kernel_rfl) rfl rfl) (C.on (j := 17) (by kernel_rfl) rfl rfl) (CNw.out w C.below.size))
  case p19 =>
    intro _ k hk; obtain rfl := List.mem_singleton.1 hk; intro a w C Z
    obtain ⟨x, e, hx, hs⟩ := (C.on (j := 18) (by kernel_rfl) rfl rfl)
    exact partS_on (wanted_free rfl _) (op_value (ln_run5 rfl (C.on (j := 0) (by kernel_rfl) rfl rfl) (C.on (j := 1) (by kernel_rfl) rfl rfl) (C.on (j := 2) (by kernel_rfl) rfl rfl) (C.on (j := 11) (by kernel_rfl) rfl rfl) e) ⟨x, rfl, hx, hs⟩)
  case t0 =>
    intro o ho a w C A
    cases ho
    obtain ⟨x, e, hx, hs⟩ := (C.on (j := 19) (by kernel_rfl) rfl rfl)
    have hr := HR.out w C.below
    have hb7 := below_setRow (C.below.mono HT1.out) (show T0 ≤ T0 + 1 by omega) (lnc (.pointer (some ⟨q, 0, none⟩)) k p s F0 (.pointer (some ⟨x, 0, none⟩)) (.pointer none) false)
    have hlt : T0 + 2 ≤ w1.heap.size := HT2.out
    refine ⟨wanted_free rfl _, stage_store rfl (C.was 6 (by kernel_rfl)) e (ln_store hr) trivial hb7 (Nat.le_of_eq (setRow_size _ _ _).symm) ?_⟩
    · intro i o2 d hi hd hne hnw h
      have hil := (List.getElem?_eq_some_iff.1 hi).1
      replace hil : i < 21 := hil
      obtain rfl | rfl | rfl | rfl | rfl | rfl | rfl | rfl | rfl | rfl | rfl | rfl | rfl | rfl | rfl | rfl | rfl | rfl | rfl | rfl | rfl : i = 0 ∨ i = 1 ∨ i = 2 ∨ i = 3 ∨ i = 4 ∨ i = 5 ∨ i = 6 ∨ i = 7 ∨ i = 8 ∨ i = 9 ∨ i = 10 ∨ i = 11 ∨ i = 12 ∨ i = 13 ∨ i = 14 ∨ i = 15 ∨ i = 16 ∨ i = 17 ∨ i = 18 ∨ i = 19 ∨ i = 20 := by omega
      · exact h
      · exact h
      · exact h
      · exact h
      · exact h
      · exact h
      · exact h
      · exact h
      · exact h
      · exact h
      · exact h
      · exact h
      · exact h
      · exact h
      · exact h
      · exact h
      · exact h
      · exact h
      · trivial
      · cases hi; cases hd; exact ⟨x, e, hx, hs.kept (kept_row _ _ _) (by omega), RowAt.setRow hr _, ((Kept.of_below (M := fun j => j = T0 + 1) (HT0.out.symm ▸ HB.out)).trans (Kept.of_below (M := fun j => j = T0 + 1) C.below) fun _ _ h => h).trans (kept_row _ _ _) fun _ _ h => h⟩
      · exact absurd rfl hne
  case fin =>
    rintro wF hbF _ rfl _ rfl _ rfl _ rfl _ rfl _ rfl _ rfl _ rfl _ rfl _ rfl _ rfl _ rfl _ rfl _ rfl _ rfl _ rfl _ rfl _ rfl x25 hx25 _ ⟨x, rfl, hxN, hSx, hRx, hBx⟩ _ _
    simp only [Fin, setAt, Exit.then, List.setIfInBounds_toArray, List.set_cons_succ, List.set_cons_zero]
    have hT2 := HT2.out
    go_wp2
    refine bodyPost_ret (v := lnv (.pointer (some ⟨q, 0, none⟩)) k p s F0 (.pointer (some ⟨x, 0, none⟩)) (.pointer none) false) (results_cell_row rfl _ _ (T0 + 1) 67 (lnc (.pointer (some ⟨q, 0, none⟩)) k p s F0 (.pointer (some ⟨x, 0, none⟩)) (.pointer none) false) (0, 0) _ rfl hRx Tryz.underlying67 rfl ln_size) rfl ⟨_, rfl, ⟨x, rfl, by have := HT0.out; omega, hSx⟩, ?_⟩
    exact hBx.below (Nat.le_refl _) fun y hy => by have := HT0.out; omega
theorem lnew_nil (k : Int) (w : World) : Calls Tryz.prog 11 #[.pointer none, .int .i64 k] w fun e w' => e = .returned (.tuple #[.pointer none, .int .i64 11]) ∧ w = w' := by
  go_enter Tryz.func11, Tryz.ntmps11
  go_wp2
  exact bodyPost_ret (results_tmp2 rfl _ _ _) rfl ⟨rfl, rfl⟩
section
variable {w : World} {q pc h G a t l m bb c g z : Nat} {L : List (List Nat)}
theorem lnew_bad (hG : GrAt w q pc h G a t l m bb c g z L) (k : Int) (hk : k < 0 ∨ (l : Int) ≤ k) : Calls Tryz.prog 11 #[.pointer (some ⟨q, 0, none⟩), .int .i64 k] w fun e w' => e = .returned (.tuple #[.pointer none, .int .i64 11]) ∧ w = w' := by
  have k1 := hG.row.lanes
  by_cases hk0 : k < 0
  · have d1 : decide (k < 0) = true := by simp; omega
    go_enter Tryz.func11, Tryz.ntmps11
    go_wp2
    exact bodyPost_ret (results_tmp2 rfl _ _ _) rfl ⟨rfl, rfl⟩
  · have d1 : decide (k < 0) = false := by simp; omega
    have d2 : decide ((l : Int) ≤ k) = true := by simp; omega
    clear hk
    go_enter Tryz.func11, Tryz.ntmps11
    go_wp2
    exact bodyPost_ret (results_tmp2 rfl _ _ _) rfl ⟨rfl, rfl⟩
set_option maxHeartbeats 6400000 in
theorem lnew_any (hG : GrAt w q pc h G a t l m bb c g z L) (k : Nat) (hk : k < l) : Calls Tryz.prog 11 #[.pointer (some ⟨q, 0, none⟩), .int .i64 (k : Int)] w fun e w' => ∃ b x, e = .returned (.tuple #[.pointer (some ⟨b, 0, none⟩), .int .i64 0]) ∧ w.heap.size ≤ b ∧ w.heap.size ≤ x ∧ LnRow w' b (.pointer (some ⟨q, 0, none⟩)) k 0 0 2 (.pointer (some ⟨x, 0, none⟩)) (.pointer none) false ∧ Src w' x a t l m bb c g z 0 0 k ∧ Below w.heap.size w w' := by
  have k1 := hG.row.lanes
  have d1 : decide ((k : Int) < 0) = false := by simp
  have d2 : decide ((l : Int) ≤ (k : Int)) = false := by simp; omega
  have d3 : decide (l ≤ k) = false := by simp; omega
  have CB := Lib.hid (lbegin_any hG k 0 0 2 rfl)
  clear hG
  go_enter Tryz.func11, Tryz.ntmps11
  go_wp2_with (refine wpList_value_want rfl _ (turn_ln0_run rfl) ?_)
  refine CB.out.mono ?_
  rintro e w2 ⟨_, rfl, ⟨x, rfl, hx, hs⟩, hb⟩
  have HB := Lib.hid hb
  have HS := Lib.hid hs
  clear hb hs CB k1
  go_wp2
  refine bodyPost_ret (results_tmp2 rfl _ _ _) rfl ⟨w2.heap.size, x, rfl, HB.out.size, hx, ?_, ?_, ?_⟩
  · exact RowAt.new _ _ _
  · exact HS.out.step (one_box _ _)
  · exact below_step HB.out (one_box _ _)
end
end Go.Proofs.YtfoodaobiknihaaGreatDoor

/- event, Number, Waits, Done and Turn of package lane, by their contracts. Conditions: those typed. -/
import Derived.Test.YtfoodaobiknihaaDoorLnOps
namespace Go.Proofs.YtfoodaobiknihaaDoor
set_option maxRecDepth 50000
open Go.RowKit Bb Bn

set_option maxHeartbeats 6400000 in
theorem event_any {w : World} {b : Nat} {gv xv dv : Value} {k p s i : Int} {f : Bool} (H : LnRow w b gv k p s i xv dv f) (e kk x k' y r c : Int) :
    Calls Tryd.prog 31 #[.pointer (some ⟨b, 0, none⟩), .int .i64 e, stpv kk x k' y r c] w fun e' w' => e' = .returned (evv e k p s kk x r c) ∧ Below w.heap.size w w' := by
  obtain ⟨w1, e1⟩ : ∃ w1, w1 = (w.alloc (.cells (stpc kk x k' y r c) 82)).alloc (.cells (evc 0 0 0 0 0 0 0 0) 44) := ⟨_, rfl⟩
  have b1 : Below w.heap.size w w1 := by rw [e1]; exact two_box _ _ _
  have hS : RowAt w1 w.heap.size 82 (stpc kk x k' y r c) := by rw [e1]; exact (RowAt.new _ _ _).alloc _
  have hE : RowAt w1 (w.heap.size + 1) 44 (evc 0 0 0 0 0 0 0 0) := by
    rw [e1]
    have h := RowAt.new (w.alloc (.cells (stpc kk x k' y r c) 82)) 44 (evc 0 0 0 0 0 0 0 0)
    rwa [World.size_alloc] at h
  have hL := H.step b1
  have HX : Hid (∀ u, Below w1.heap.size w1 u → LnRow u b gv k p s i xv dv f ∧ RowAt u w.heap.size 82 (stpc kk x k' y r c) ∧ RowAt u (w.heap.size + 1) 44 (evc 0 0 0 0 0 0 0 0)) := Lib.hid fun u hu => ⟨hL.step hu, RowAt.step hS hu, RowAt.step hE hu⟩
  have HT1 : Hid (w.heap.size ≤ w1.heap.size) := Lib.hid b1.size
  have HB := Lib.hid b1
  have E1 := Lib.hid e1
  clear H b1 e1 hS hE hL
  go_enter Tryd.func31, Tryd.ntmps31
  go_upto_region 1 with fail
  rw [← E1.out]
  clear E1
  obtain ⟨F, hF⟩ : ∃ F : World → Prop, F = fun u => RowAt u (w.heap.size + 1) 44 (evc e k p s kk x r c) ∧ Below w.heap.size w u := ⟨_, rfl⟩
  have HFS : Hid (∀ u u', F u → Below u.heap.size u u' → F u') := Lib.hid fun u u' hu hb => by
    subst hF
    exact ⟨RowAt.step hu.1 hb, below_step hu.2 hb⟩
  have HFE : Hid (∀ u, F u → RowAt u (w.heap.size + 1) 44 (evc e k p s kk x r c) ∧ Below w.heap.size w u) := Lib.hid fun u hu => by subst hF; exact hu
  have HF : Hid (∀ u, RowAt u (w.heap.size + 1) 44 (evc e k p s kk x r c) → Below w.heap.size w u → F u) := Lib.hid fun u h1 h2 => by subst hF; exact ⟨h1, h2⟩
  clear hF
  generalize hT0 : w.heap.size = T0 at *
  have HT0 := Lib.hid hT0
  clear hT0
  refine wp_region_stage (T0) [14] [] [[0], [0], [0], [0], [0], [0], [0], [0], [0], [0], [0], [0], [0], [0], []] [[Is (.int .i64 e), Is (.pointer (some ⟨b, 0, none⟩)), Is (.pointer (some ⟨b, 0, none⟩)), Is (.pointer (some ⟨b, 1, none⟩)), Is (.int .i64 k), Is (.pointer (some ⟨b, 0, none⟩)), Is (.pointer (some ⟨b, 0, none⟩)), Is (.pointer (some ⟨b, 2, none⟩)), Is (tuv p s), Is (.pointer (some ⟨T0, 2 * 0, none⟩)), Is (sov kk x), Is (.pointer (some ⟨T0, 2 * 2, none⟩)), Is (sov r c), Is (evv e k p s kk x r c), Free], [Is (.int .i64 e), Is (.pointer (some ⟨b, 0, none⟩)), Is (.pointer (some ⟨b, 0, none⟩)), Is (.pointer (some ⟨b, 1, none⟩)), Is (.int .i64 k), Is (.pointer (some ⟨b, 0, none⟩)), Is (.pointer (some ⟨b, 0, none⟩)), Is (.pointer (some ⟨b, 2, none⟩)), Is (tuv p s), Is (.pointer (some ⟨T0, 2 * 0, none⟩)), Is (sov kk x), Is (.pointer (some ⟨T0, 2 * 2, none⟩)), Is (sov r c), IsF (evv e k p s kk x r c) F, Free]] [Is (.int .i64 e), Is (.pointer (some ⟨b, 0, none⟩)), Is (.pointer (some ⟨b, 0, none⟩)), Is (.pointer (some ⟨b, 1, none⟩)), Is (.int .i64 k), Is (.pointer (some ⟨b, 0, none⟩)), Is (.pointer (some ⟨b, 0, none⟩)), Is (.pointer (some ⟨b, 2, none⟩)), Is (tuv p s), Is (.pointer (some ⟨T0, 2 * 0, none⟩)), Is (sov kk x), Is (.pointer (some ⟨T0, 2 * 2, none⟩)), Is (sov r c), IsF (evv e k p s kk x r c) F, Free] HT1.out (by kernel_rfl) (by kernel_rfl) rfl rfl ⟨⟨stable_is _, stable_is _, stable_is _, stable_is _, stable_is _, stable_is _, stable_is _, stable_is _, stable_is _, stable_is _, stable_is _, stable_is _, stable_is _, stable_is _, stable_free, trivial⟩, ⟨stable_is _, stable_is _, stable_is _, stable_is _, stable_is _, stable_is _, stable_is _, stable_is _, stable_is _, stable_is _, stable_is _, stable_is _, stable_is _, stable_isf _ HFS.out, stable_free, trivial⟩, trivial⟩ (by intro n hn o ho hd w; simp only [List.mem_cons, List.not_mem_nil, or_false] at hn; subst hn; first | trivial | (cases ho; cases hd)) rfl ⟨?p0, ?p1, ?p2, ?p3, ?p4, ?p5, ?p6, ?p7, ?p8, ?p9, ?p10, ?p11, ?p12, ?p13, fun h => absurd (by simp) h, trivial⟩ ⟨?t0, trivial⟩ (by decide) ?fin
  case p0 =>
    intro _ k hk; obtain rfl := List.mem_singleton.1 hk; intro a w C Z
    exact partS_on (wanted_free rfl _) (op_move (.inl rfl) (C.was 1 (by kernel_rfl)))
  case p1 =>
    intro _ k hk; obtain rfl := List.mem_singleton.1 hk; intro a w C Z
    exact partS_on (wanted_free rfl _) (op_move (.inl rfl) (C.was 0 (by kernel_rfl)))
  case p2 =>
    intro _ k hk; obtain rfl := List.mem_singleton.1 hk; intro a w C Z
    exact partS_on (wanted_free rfl _) (op_value (nil_run rfl (C.on (j := 1) (by kernel_rfl) rfl rfl)) rfl)
  case p3 =>
    intro _ k hk; obtain rfl := List.mem_singleton.1 hk; intro a w C Z
    exact partS_on (wanted_free rfl _) (op_value (lnf_run (k := 1) (j := 1) rfl (by decide) (C.on (j := 2) (by kernel_rfl) rfl rfl)) rfl)
  case p4 =>
    intro _ k hk; obtain rfl := List.mem_singleton.1 hk; intro a w C Z
    exact partS_on (wanted_free rfl _) (op_value (int_run rfl (C.on (j := 3) (by kernel_rfl) rfl rfl) (HX.out w C.below).1.number) rfl)
  case p5 =>
    intro _ k hk; obtain rfl := List.mem_singleton.1 hk; intro a w C Z
    exact partS_on (wanted_free rfl _) (op_move (.inl rfl) (C.was 0 (by kernel_rfl)))
  case p6 =>
    intro _ k hk; obtain rfl := List.mem_singleton.1 hk; intro a w C Z
    exact partS_on (wanted_free rfl _) (op_value (nil_run rfl (C.on (j := 5) (by kernel_rfl) rfl rfl)) rfl)
  case p7 =>
    intro _ k hk; obtain rfl := List.mem_singleton.1 hk; intro a w C Z
    exact partS_on (wanted_free rfl _) (op_value (lnf_run (k := 2) (j := 2) rfl (by decide) (C.on (j := 6) (by kernel_rfl) rfl rfl)) rfl)
  case p8 =>
    intro _ k hk; obtain rfl := List.mem_singleton.1 hk; intro a w C Z
    exact partS_on (wanted_free rfl _) (op_value (load_run rfl (C.on (j := 7) (by kernel_rfl) rfl rfl) (HX.out w C.below).1.turn) rfl)
  case p9 =>
    intro _ k hk; obtain rfl := List.mem_singleton.1 hk; intro a w C Z
    exact partS_on (wanted_free rfl _) (op_value (stepf_run (k := 0) rfl (by decide) (C.was 5 (by kernel_rfl))) rfl)
  case p10 =>
    intro _ k hk; obtain rfl := List.mem_singleton.1 hk; intro a w C Z
    exact partS_on (wanted_free rfl _) (op_value (load_run rfl (C.on (j := 9) (by kernel_rfl) rfl rfl) (step_loads (HX.out w C.below).2.1).1) rfl)
  case p11 =>
    intro _ k hk; obtain rfl := List.mem_singleton.1 hk; intro a w C Z
    exact partS_on (wanted_free rfl _) (op_value (stepf_run (k := 2) rfl (by decide) (C.was 5 (by kernel_rfl))) rfl)
  case p12 =>
    intro _ k hk; obtain rfl := List.mem_singleton.1 hk; intro a w C Z
    exact partS_on (wanted_free rfl _) (op_value (load_run rfl (C.on (j := 11) (by kernel_rfl) rfl rfl) (step_loads (HX.out w C.below).2.1).2.2) rfl)
  case p13 =>
    intro _ k hk; obtain rfl := List.mem_singleton.1 hk; intro a w C Z
    exact partS_on (wanted_free rfl _) (op_value (ev_run rfl (C.on (j := 0) (by kernel_rfl) rfl rfl) (C.on (j := 4) (by kernel_rfl) rfl rfl) (C.on (j := 8) (by kernel_rfl) rfl rfl) (C.on (j := 10) (by kernel_rfl) rfl rfl) (C.on (j := 12) (by kernel_rfl) rfl rfl)) rfl)
  case t0 =>
    intro o ho a w C A
    cases ho
    have hr := (HX.out w C.below).2.2
    have hb7 := below_setRow (C.below.mono HT1.out) (show T0 ≤ T0 + 1 by omega) (evc e k p s kk x r c)
    refine ⟨wanted_free rfl _, stage_store rfl (C.was 6 (by kernel_rfl)) (C.on (j := 13) (by kernel_rfl) rfl rfl) (evc_store hr) trivial hb7 (Nat.le_of_eq (setRow_size _ _ _).symm) ?_⟩
    · intro i o2 d hi hd hne hnw h
      have hil := (List.getElem?_eq_some_iff.1 hi).1
      replace hil : i < 15 := hil
      obtain rfl | rfl | rfl | rfl | rfl | rfl | rfl | rfl | rfl | rfl | rfl | rfl | rfl | rfl | rfl : i = 0 ∨ i = 1 ∨ i = 2 ∨ i = 3 ∨ i = 4 ∨ i = 5 ∨ i = 6 ∨ i = 7 ∨ i = 8 ∨ i = 9 ∨ i = 10 ∨ i = 11 ∨ i = 12 ∨ i = 13 ∨ i = 14 := by omega
      · exact h
      · exact h
      · exact h
      · exact h
      · exact h
      · exact h
      · exact h
      · exact h
      · exact h
      · exact h
      · exact h
      · exact h
      · exact h
      · exact ⟨h, HF.out _ (RowAt.setRow hr _) (HB.out.trans hb7)⟩
      · exact absurd rfl hne
  case fin =>
    rintro wF hbF _ rfl _ rfl _ rfl _ rfl _ rfl _ rfl _ rfl _ rfl _ rfl _ rfl _ rfl _ rfl _ rfl _ ⟨rfl, hFF⟩ _ _
    simp only [Fin, setAt, Exit.then, List.setIfInBounds_toArray, List.set_cons_succ, List.set_cons_zero]
    obtain ⟨hr, hb⟩ := HFE.out _ hFF
    go_wp2
    refine bodyPost_ret (v := evv e k p s kk x r c) (results_cell_row rfl _ _ (T0 + 1) 44 (evc e k p s kk x r c) (0, 0) _ rfl hr Tryd.underlying44 rfl ev_size) rfl ⟨rfl, ?_⟩
    rw [HT0.out]; exact hb

section
variable {w : World} {b : Nat} {gv xv dv : Value} {k p s i : Int} {f : Bool}
theorem waits_ln (H : LnRow w b gv k p s i xv dv f) : Calls Tryd.prog 9 #[.pointer (some ⟨b, 0, none⟩)] w fun e w' => e = .returned (.bool f) ∧ w = w' := by
  have k1 := H.waits
  go_enter Tryd.func9, Tryd.ntmps9
  go_wp2
  go_ret
  exact ⟨rfl, rfl⟩
theorem done_ln {ad : Option Addr} {r : Bool} (H : LnRow w b (.pointer ad) k p s i xv dv f) (hr : ad.isNone = r) : Calls Tryd.prog 8 #[.pointer (some ⟨b, 0, none⟩)] w fun e w' => e = .returned (.bool r) ∧ w = w' := by
  have k1 := H.grid
  cases ad with
  | none =>
    obtain rfl : r = true := hr.symm
    go_enter Tryd.func8, Tryd.ntmps8
    go_wp2
    go_ret
    exact ⟨rfl, rfl⟩
  | some ad =>
    obtain rfl : r = false := hr.symm
    go_enter Tryd.func8, Tryd.ntmps8
    go_wp2
    go_ret
    exact ⟨rfl, rfl⟩
end
theorem waits_none (w : World) : Calls Tryd.prog 9 #[.pointer none] w fun e w' => e = .returned (.bool false) ∧ w = w' := by
  go_enter Tryd.func9, Tryd.ntmps9
  go_wp2
  go_ret
  exact ⟨rfl, rfl⟩
theorem done_none (w : World) : Calls Tryd.prog 8 #[.pointer none] w fun e w' => e = .returned (.bool true) ∧ w = w' := by
  go_enter Tryd.func8, Tryd.ntmps8
  go_wp2
  go_ret
  exact ⟨rfl, rfl⟩
theorem turn_ln0 (w : World) : (Instr.build 40 #[]).run Tryd.prog w = .ok (tuv 0 0) w := run_build w _ _ _ (by kernel_rfl)
theorem turn_ln0_run {w : World} {ev : Operand → Value} {o : Oper} (hop : o.op = .build 40 #[]) : (execOp ev o).run Tryd.prog w = .ok (.value (tuv 0 0)) w := by
  simp only [execOp, hop, List.map_toArray, List.map_nil, Sem.run_bind, turn_ln0, Result.andThen_ok, Sem.run_pure]
end Go.Proofs.YtfoodaobiknihaaDoor

/- Store of package grid where there is such a place, by its contract. Conditions: those typed. -/
import Derived.Test.YtpampgkhjcfeaaaDoorGdLoad
namespace Go.Proofs.YtpampgkhjcfeaaaDoor
set_option maxRecDepth 50000
open Go.RowKit Bb

section
variable {w : World} {q p h G a t l m b c g z : Nat} {L : List (List Nat)}
set_option maxHeartbeats 3200000 in
theorem gstore_any (hG : GrAt w q p h G a t l m b c g z L) (hl : l ≤ 16777215) (hc : c ≤ 4294967295) (i k n : Nat) (hi : i < l) (hk : k < c) (hn : i * c + k = n) (hnL : n < L.length) (hL : L.length ≤ 4194304) {x : List Nat} (hx : okb x) : Calls Tryd.prog 9 #[.pointer (some ⟨q, 0, none⟩), sov (i : Int) (k : Int), .agg (wq x)] w fun e w' => e = .returned (.int .i64 0) ∧ GrAt w' q p h G a t l m b c g z (L.set n x) ∧ Kept (fun j => j = G) w w' := by
  obtain ⟨w1, e1⟩ : ∃ w1, w1 = (w.alloc (.cells (soc i k) 34)).alloc (.cells (wq x) 29) := ⟨_, rfl⟩
  have B1 : Below w.heap.size w w1 := by rw [e1]; exact two_box _ _ _
  have S1 : RowAt w1 w.heap.size 34 (soc i k) := by rw [e1]; exact (RowAt.new w _ _).alloc _
  have R1 : RowAt w1 (w.heap.size + 1) 29 (wq x) := by
    rw [e1]
    have := RowAt.new (w.alloc (.cells (soc i k) 34)) 29 (wq x)
    rwa [World.size_alloc] at this
  have CH := Lib.hid (holds_any (hG.step B1).row hl hc i k (inG_at hi hk))
  have CP := Lib.hid fun w => spplace_any a t l m b c g z i k (by omega) w
  rw [hn] at CP
  have HB := Lib.hid B1
  have HS := Lib.hid S1
  have HR := Lib.hid R1
  have HG := Lib.hid hG
  have HN := Lib.hid hnL
  have HX := Lib.hid hx
  have E1 := Lib.hid e1
  clear B1 e1 S1 R1 hG hi hk hnL hn hL hx
  go_enter Tryd.func9, Tryd.ntmps9
  go_wp2_with fail
  rw [← E1.out]
  refine CH.out.mono ?_
  rintro e w2 ⟨rfl, b2⟩
  have S2 := RowAt.step HS.out b2
  have R2 := RowAt.step HR.out b2
  have B2 := below_step HB.out b2
  have G2 := HG.out.step B2
  obtain ⟨W, hWd⟩ : ∃ W : Nat → World → Prop, W = fun j w' => if j = 0 then Below w2.heap.size w2 w' else (GrAt w' q p h G a t l m b c g z (L.set n x) ∧ Kept (fun j => j = G) w w') := ⟨_, rfl⟩
  have HWS : Hid (∀ k w w', W k w → Below w.heap.size w w' → W k w') := Lib.hid fun j u u' h hb => by
    subst hWd
    by_cases hj : j = 0
    · simp only [if_pos hj] at h ⊢; exact below_step h hb
    · simp only [if_neg hj] at h ⊢; exact ⟨h.1.step hb, h.2.trans (Kept.of_below (M := fun _ => False) hb) fun _ _ h => h.elim⟩
  have HW0 : Hid (W 0 w2) := Lib.hid (by subst hWd; exact Below.refl _ _)
  have HF : Hid (∀ w', W 0 w' → (loadVar 46 ⟨q, 0 + 0, none⟩).run Tryd.prog w' = .ok (.pointer (some ⟨p, 0, none⟩)) w' ∧ (loadVar 47 ⟨q, 0 + 1, none⟩).run Tryd.prog w' = .ok (spv a t l m b c g z) w' ∧ w'.cell? ⟨w.heap.size, 0 + 0, none⟩ = some (.int .i64 (i : Int)) ∧ w'.cell? ⟨w.heap.size, 0 + 1, none⟩ = some (.int .i64 (k : Int)) ∧ (loadVar 29 ⟨w.heap.size + 1, 0, none⟩).run Tryd.prog w' = .ok (.agg (wq x)) w' ∧ Calls Tryd.prog 28 #[.pointer (some ⟨p, 0, none⟩), .int .i64 (n : Int), .agg (wq x)] w' fun e w2 => e = .returned (.int .i64 0) ∧ W 1 w2) := Lib.hid fun w' h => by
    subst hWd
    refine ⟨(G2.step h).row.kind, (G2.step h).row.shape, (so_cells (RowAt.step S2 h)).1, (so_cells (RowAt.step S2 h)).2, RowAt.load (RowAt.step R2 h) Tryd.underlying29 (by rw [wq_size, HX.out.1]; exact b_size), ?_⟩
    refine (pset_any (G2.step h).live n HN.out HX.out).mono ?_
    rintro e w4 ⟨rfl, h4, k4⟩
    exact ⟨rfl, (G2.step h).set h4 k4, (Kept.of_below (M := fun j => j = G) (below_step B2 h)).trans k4 fun _ _ h => h⟩
  have HW1 : Hid (∀ w', W 1 w' → GrAt w' q p h G a t l m b c g z (L.set n x) ∧ Kept (fun j => j = G) w w') := Lib.hid fun w' h => by subst hWd; exact h
  clear hWd S2 R2 B2 G2 b2 HB HS HR HG CH HX HN
  go_wp2
  refine wp_region_seq [14] [.pointer (some ⟨q, 0, none⟩), .pointer (some ⟨q, 0, none⟩), .pointer (some ⟨q, 0 + 0, none⟩), .pointer (some ⟨p, 0, none⟩), .pointer (some ⟨q, 0, none⟩), .pointer (some ⟨q, 0, none⟩), .pointer (some ⟨q, 0 + 1, none⟩), spv a t l m b c g z, .pointer (some ⟨w.heap.size, 0 + 0, none⟩), .int .i64 (i : Int), .pointer (some ⟨w.heap.size, 0 + 1, none⟩), .int .i64 (k : Int), .int .i64 ((n : Nat) : Int), .agg (wq x), .int .i64 0, .int .i64 0] W (by kernel_rfl) (by kernel_rfl) rfl (HWS.out 0 _ _ HW0.out (Below.refl _ _).drew) ⟨?_, ?_, ?_, ?_, ?_, ?_, ?_, ?_, ?_, ?_, ?_, ?_, ?_, ?_, ?_, ?_, trivial⟩ ?_
  · exact seq_head (by kernel_rfl) (HWS.out 0) fun a w C hW => op_move (.inl rfl) (C.was 0 (by kernel_rfl))
  · exact seq_head (by kernel_rfl) (HWS.out 0) fun a w C hW => op_value (nil_run rfl (C.on (j := 0) (by kernel_rfl) rfl rfl)) rfl
  · exact seq_head (by kernel_rfl) (HWS.out 0) fun a w C hW => op_value (grf_run (k := 0) rfl (by decide) (C.on (j := 1) (by kernel_rfl) rfl rfl)) rfl
  · exact seq_head (by kernel_rfl) (HWS.out 0) fun a w C hW => op_value (load_run rfl (C.on (j := 2) (by kernel_rfl) rfl rfl) (HF.out w hW).1) rfl
  · exact seq_head (by kernel_rfl) (HWS.out 0) fun a w C hW => op_move (.inl rfl) (C.was 0 (by kernel_rfl))
  · exact seq_head (by kernel_rfl) (HWS.out 0) fun a w C hW => op_value (nil_run rfl (C.on (j := 4) (by kernel_rfl) rfl rfl)) rfl
  · exact seq_head (by kernel_rfl) (HWS.out 0) fun a w C hW => op_value (grf_run (k := 1) rfl (by decide) (C.on (j := 5) (by kernel_rfl) rfl rfl)) rfl
  · exact seq_head (by kernel_rfl) (HWS.out 0) fun a w C hW => op_value (load_run rfl (C.on (j := 6) (by kernel_rfl) rfl rfl) (HF.out w hW).2.1) rfl
  · exact seq_head (by kernel_rfl) (HWS.out 0) fun a w C hW => op_value (sof_run (k := 0) rfl (by decide) (C.was 4 (by kernel_rfl))) rfl
  · exact seq_head (by kernel_rfl) (HWS.out 0) fun a w C hW => op_value (int_run rfl (C.on (j := 8) (by kernel_rfl) rfl rfl) (HF.out w hW).2.2.1) rfl
  · exact seq_head (by kernel_rfl) (HWS.out 0) fun a w C hW => op_value (sof_run (k := 1) rfl (by decide) (C.was 4 (by kernel_rfl))) rfl
  · exact seq_head (by kernel_rfl) (HWS.out 0) fun a w C hW => op_value (int_run rfl (C.on (j := 10) (by kernel_rfl) rfl rfl) (HF.out w hW).2.2.2.1) rfl
  · exact seq_head (by kernel_rfl) (HWS.out 0) fun a w C hW => op_call3 rfl (reg_enters Tryd.func24 (by kernel_rfl) (by kernel_rfl)) (C.on (j := 7) (by kernel_rfl) rfl rfl) (C.on (j := 9) (by kernel_rfl) rfl rfl) (C.on (j := 11) (by kernel_rfl) rfl rfl) (calls_is (CP.out w))
  · exact seq_head (by kernel_rfl) (HWS.out 0) fun a w C hW => op_value (load_run rfl (C.was 5 (by kernel_rfl)) (HF.out w hW).2.2.2.2.1) rfl
  · exact seq_turn 0 (by kernel_rfl) fun a w C hW => by
        exact turn_enter (reg_call3 rfl (reg_enters Tryd.func28 (by kernel_rfl) (by kernel_rfl)) (C.on (j := 3) (by kernel_rfl) rfl rfl) (C.on (j := 12) (by kernel_rfl) rfl rfl) (C.on (j := 13) (by kernel_rfl) rfl rfl)) ((HF.out w hW).2.2.2.2.2)
  · exact seq_float (by kernel_rfl) HWS.out fun a w C => op_move (.inr rfl) (C.on (j := 14) (by kernel_rfl) rfl rfl)
  intro w3 hw
  obtain ⟨R3, B3⟩ := HW1.out w3 hw
  have HR3 := Lib.hid R3
  have HB3 := Lib.hid B3
  clear hw HWS HW0 HF HW1 B3 R3 CP
  simp only [setAll, setAt, List.setIfInBounds_toArray, List.set_cons_succ, List.set_cons_zero]
  go_wp2
  go_ret
  exact ⟨rfl, HR3.out, HB3.out⟩
end
end Go.Proofs.YtpampgkhjcfeaaaDoor

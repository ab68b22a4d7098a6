/- Permute of package blend by its contract. Condition: the package's table reads as it was laid. -/
import Derived.Test.YtnbdmkgldjhcaaaDoorBnOps
namespace Go.Proofs.YtnbdmkgldjhcaaaDoor
set_option maxRecDepth 50000
open Go.RowKit Rot Bn

set_option maxHeartbeats 3200000 in
theorem permute_any (x : List Nat) (hx : x.length = 16) (ho : okw x) (w : World) (hk : QAt w) :
    Calls Tryd.prog 36 #[.agg (wq x)] w fun e w' => e = .returned (.agg (wq (perm x))) ∧ Below w.heap.size w w' := by
  have HL := Lib.hid hx
  have HO := Lib.hid ho
  have HQ := Lib.hid (hk.next (Dx.new w x).below)
  have HD := Lib.hid (Dx.new w x)
  clear hx ho hk
  go_enter Tryd.func36, Tryd.ntmps36
  go_wp2_with (refine wpList_load_of rfl 82 (.global 1) rfl ⟨1, 0, none⟩ _ rfl (tab_load HQ.out) ?_)
  generalize hW0 : World.alloc _ _ = w0
  have HX0 : Hid (Dx w w0 x) := Lib.hid (by subst hW0; exact HD.out)
  clear hW0 HQ HD
  go_loopw [10] (fun v10 wr => ∃ i : Nat, i ≤ 8 ∧ v10 = .int .i64 (i : Int) ∧ Dx w wr (qTo x i)) (fun v10 _ => 8 - (intOf v10).toNat)
  case atStart => exact ⟨0, by omega, rfl, HX0.out⟩
  case round =>
    clear HX0
    obtain ⟨i, hi, rfl, X⟩ := hrel
    have HX := Lib.hid X
    have hsz5 := X.lt
    clear X
    by_cases h8 : i < 8
    · have hdt : decide ((i : Int) < 8) = true := by simp; omega
      have hix := tab_index wr i h8
      have hp0 := pt_lt i 0 h8 (by decide)
      have hp1 := pt_lt i 1 h8 (by decide)
      have hp2 := pt_lt i 2 h8 (by decide)
      have hp3 := pt_lt i 3 h8 (by decide)
      have hvi : (qTo x i).length = 16 := by rw [qTo_length]; exact HL.out
      have hok := take4_ok (qTo_ok HO.out i) i
      have HN : Hid (qTo x (i + 1) = put4 (qTo x i) i (quarter (take4 (qTo x i) i))) := Lib.hid (by rw [qTo])
      have HPT : Hid (∀ q : Q, put4 (qTo x i) i q = ((((qTo x i).set (pt i 0) q.a).set (pt i 1) q.b).set (pt i 2) q.c).set (pt i 3) q.d) := Lib.hid fun _ => rfl
      have HTK : Hid (take4 (qTo x i) i = ⟨(qTo x i).getD (pt i 0) 0, (qTo x i).getD (pt i 1) 0, (qTo x i).getD (pt i 2) 0, (qTo x i).getD (pt i 3) 0⟩) := Lib.hid rfl
      generalize qTo x i = vi at *
      have CQ := Lib.hid fun w => quarter_any (take4 vi i) hok w
      generalize hqd : quarter (take4 vi i) = q at *
      rw [HTK.out] at CQ
      rw [HPT.out] at HN
      clear hqd HPT HTK hok
      obtain ⟨qa, qb, qc, qd⟩ := q
      simp only at CQ HN
      have hw0 := wq_at vi (pt i 0) (by omega)
      have hw1 := wq_at vi (pt i 1) (by omega)
      have hw2 := wq_at vi (pt i 2) (by omega)
      have hw3 := wq_at vi (pt i 3) (by omega)
      generalize pt i 0 = pa at *
      generalize pt i 1 = pb at *
      generalize pt i 2 = pc at *
      generalize pt i 3 = pd at *
      generalize vi.getD pa 0 = va at *
      generalize vi.getD pb 0 = vb at *
      generalize vi.getD pc 0 = vc at *
      generalize vi.getD pd 0 = vd at *
      obtain ⟨B, hB⟩ : ∃ B, B = w.heap.size := ⟨_, rfl⟩
      obtain ⟨W, hWd⟩ : ∃ W : Nat → World → Prop, W = fun k w' => Dx w w' ([vi, (vi.set pa qa), ((vi.set pa qa).set pb qb), (((vi.set pa qa).set pb qb).set pc qc), ((((vi.set pa qa).set pb qb).set pc qc).set pd qd)].getD k []) := ⟨_, rfl⟩
      have HWS : Hid (∀ k w w', W k w → Below w.heap.size w w' → W k w') := Lib.hid fun k w w' h hb => by subst hWd; exact h.step hb
      have HF0 : Hid (∀ w', W 0 w' → w'.cell? ⟨B, pa, none⟩ = some (.int .u64 (va : Int)) ∧ w'.cell? ⟨B, pb, none⟩ = some (.int .u64 (vb : Int)) ∧ w'.cell? ⟨B, pc, none⟩ = some (.int .u64 (vc : Int)) ∧ w'.cell? ⟨B, pd, none⟩ = some (.int .u64 (vd : Int))) := Lib.hid fun w' h => by
        subst hWd; subst hB
        exact ⟨(h.rv.cell pa).trans hw0, (h.rv.cell pb).trans hw1, (h.rv.cell pc).trans hw2, (h.rv.cell pd).trans hw3⟩
      have turn : ∀ (k p x : Nat) (u u' : List Nat), u.length = 16 → p < 16 → u' = u.set p x → [vi, (vi.set pa qa), ((vi.set pa qa).set pb qb), (((vi.set pa qa).set pb qb).set pc qc), ((((vi.set pa qa).set pb qb).set pc qc).set pd qd)].getD k [] = u →
          [vi, (vi.set pa qa), ((vi.set pa qa).set pb qb), (((vi.set pa qa).set pb qb).set pc qc), ((((vi.set pa qa).set pb qb).set pc qc).set pd qd)].getD (k + 1) [] = u' → ∀ w', W k w' → (∃ v, w'.cell? ⟨B, p, none⟩ = some v) ∧ w'.frozen? ⟨B, p, none⟩ = false ∧ W (k + 1) (w'.setCell ⟨B, p, none⟩ (.int .u64 (x : Int))) := fun k p x u u' hu hp e0 e1 e2 w' h1 => by
        subst hWd; subst hB
        simp only at h1 ⊢
        rw [e1] at h1
        refine ⟨⟨_, (h1.rv.cell p).trans (wq_at u p (by omega))⟩, h1.rv.frozen p, ?_⟩
        rw [e2, e0]
        exact h1.set p x
      have HT0 := Lib.hid (turn 0 pa qa _ _ hvi hp0 rfl rfl rfl)
      have HT1 := Lib.hid (turn 1 pb qb _ _ (by simpa using hvi) hp1 rfl rfl rfl)
      have HT2 := Lib.hid (turn 2 pc qc _ _ (by simpa using hvi) hp2 rfl rfl rfl)
      have HT3 := Lib.hid (turn 3 pd qd _ _ (by simpa using hvi) hp3 rfl rfl rfl)
      have HZ0 : Hid (∀ w', Dx w w' vi → W 0 w') := Lib.hid fun w' h1 => by subst hWd; exact h1
      have HZ4 : Hid (∀ w', W 4 w' → Dx w w' ((((vi.set pa qa).set pb qb).set pc qc).set pd qd)) := Lib.hid fun w' h => by subst hWd; exact h
      clear turn hWd hw0 hw1 hw2 hw3 hvi
      rw [← hB]
      clear hB
      go_wp2_with (refine wpList_store_row rfl 79 (.tmp 4) (.tmp 12) rfl wr.heap.size (iq [pa, pb, pc, pd]) rfl rfl 79 _ (RowAt.new _ _ _) (by rw [iq_size]; exact q_int4) rfl (iq_one _) ?_)
      obtain ⟨B4, hB4⟩ : ∃ k, k = wr.heap.size := ⟨_, rfl⟩
      rw [← hB4]
      generalize hWc : World.setRow _ _ _ = wc
      have hbc : Below wr.heap.size wr wc := by
        subst hWc
        exact below_setRow ((Below.refl _ wr).alloc (Nat.le_refl _) _) (by omega) _
      have RQ : RowAt wc B4 79 (iq [pa, pb, pc, pd]) := by
        subst hWc; subst hB4
        exact (RowAt.new wr _ _).setRow _
      have hWc0 := HZ0.out wc (HX.out.step hbc)
      have k0 : wc.cell? ⟨B4, 0, none⟩ = some (.int .i64 (pa : Int)) := (RQ.cell 0).trans rfl
      have k1 : wc.cell? ⟨B4, 1, none⟩ = some (.int .i64 (pb : Int)) := (RQ.cell 1).trans rfl
      have k2 : wc.cell? ⟨B4, 2, none⟩ = some (.int .i64 (pc : Int)) := (RQ.cell 2).trans rfl
      have k3 : wc.cell? ⟨B4, 3, none⟩ = some (.int .i64 (pd : Int)) := (RQ.cell 3).trans rfl
      have HW0 := Lib.hid hWc0
      clear hWc hbc RQ hWc0 HX HZ0 hB4
      simp only [Act.put]
      go_quiet (fail)
      have HW1 := Lib.hid (HWS.out 0 wc (wc.drewN nq) HW0.out (below_drewN (Below.refl _ _) nq))
      clear k0 k1 k2 k3 HW0
      go_wp2
      refine wp_region_seq [23, 25, 27, 29] [.int .i64 (pa : Int), .int .i64 (pb : Int), .int .i64 (pc : Int), .int .i64 (pd : Int), .int .i64 (pa : Int), .pointer (some ⟨B, pa, none⟩), .int .u64 (va : Int), .int .i64 (pb : Int), .pointer (some ⟨B, pb, none⟩), .int .u64 (vb : Int), .int .i64 (pc : Int), .pointer (some ⟨B, pc, none⟩), .int .u64 (vc : Int), .int .i64 (pd : Int), .pointer (some ⟨B, pd, none⟩), .int .u64 (vd : Int), .tuple #[.int .u64 (qa : Int), .int .u64 (qb : Int), .int .u64 (qc : Int), .int .u64 (qd : Int)], .tuple #[.int .u64 (qa : Int), .int .u64 (qb : Int), .int .u64 (qc : Int), .int .u64 (qd : Int)], .int .u64 (qa : Int), .int .u64 (qb : Int), .int .u64 (qc : Int), .int .u64 (qd : Int), .pointer (some ⟨B, pa, none⟩), undef, .pointer (some ⟨B, pb, none⟩), undef, .pointer (some ⟨B, pc, none⟩), undef, .pointer (some ⟨B, pd, none⟩), undef] W (by kernel_rfl) (by kernel_rfl) rfl (HWS.out 0 _ _ HW1.out (Below.refl _ _).drew) ⟨?_, ?_, ?_, ?_, ?_, ?_, ?_, ?_, ?_, ?_, ?_, ?_, ?_, ?_, ?_, ?_, ?_, ?_, ?_, ?_, ?_, ?_, ?_, ?_, ?_, ?_, ?_, ?_, ?_, ?_, trivial⟩ ?_
      · exact seq_head (by kernel_rfl) (HWS.out 0) fun a w C hW => op_move (.inl rfl) (C.was 5 (by kernel_rfl))
      · exact seq_float (by kernel_rfl) HWS.out fun a w C => op_move (.inl rfl) (C.was 6 (by kernel_rfl))
      · exact seq_float (by kernel_rfl) HWS.out fun a w C => op_move (.inl rfl) (C.was 7 (by kernel_rfl))
      · exact seq_float (by kernel_rfl) HWS.out fun a w C => op_move (.inl rfl) (C.was 8 (by kernel_rfl))
      · exact seq_head (by kernel_rfl) (HWS.out 0) fun a w C hW => op_move (.inl rfl) (C.was 5 (by kernel_rfl))
      · exact seq_head (by kernel_rfl) (HWS.out 0) fun a w C hW => op_value (ix16_run rfl (C.was 1 (by kernel_rfl)) (C.on (j := 4) (by kernel_rfl) rfl rfl) hp0) rfl
      · exact seq_head (by kernel_rfl) (HWS.out 0) fun a w C hW => op_value (ld_run rfl (C.on (j := 5) (by kernel_rfl) rfl rfl) (HF0.out _ hW).1) rfl
      · exact seq_head (by kernel_rfl) (HWS.out 0) fun a w C hW => op_move (.inl rfl) (C.was 6 (by kernel_rfl))
      · exact seq_head (by kernel_rfl) (HWS.out 0) fun a w C hW => op_value (ix16_run rfl (C.was 1 (by kernel_rfl)) (C.on (j := 7) (by kernel_rfl) rfl rfl) hp1) rfl
      · exact seq_head (by kernel_rfl) (HWS.out 0) fun a w C hW => op_value (ld_run rfl (C.on (j := 8) (by kernel_rfl) rfl rfl) (HF0.out _ hW).2.1) rfl
      · exact seq_head (by kernel_rfl) (HWS.out 0) fun a w C hW => op_move (.inl rfl) (C.was 7 (by kernel_rfl))
      · exact seq_head (by kernel_rfl) (HWS.out 0) fun a w C hW => op_value (ix16_run rfl (C.was 1 (by kernel_rfl)) (C.on (j := 10) (by kernel_rfl) rfl rfl) hp2) rfl
      · exact seq_head (by kernel_rfl) (HWS.out 0) fun a w C hW => op_value (ld_run rfl (C.on (j := 11) (by kernel_rfl) rfl rfl) (HF0.out _ hW).2.2.1) rfl
      · exact seq_head (by kernel_rfl) (HWS.out 0) fun a w C hW => op_move (.inl rfl) (C.was 8 (by kernel_rfl))
      · exact seq_head (by kernel_rfl) (HWS.out 0) fun a w C hW => op_value (ix16_run rfl (C.was 1 (by kernel_rfl)) (C.on (j := 13) (by kernel_rfl) rfl rfl) hp3) rfl
      · exact seq_head (by kernel_rfl) (HWS.out 0) fun a w C hW => op_value (ld_run rfl (C.on (j := 14) (by kernel_rfl) rfl rfl) (HF0.out _ hW).2.2.2) rfl
      · exact seq_head (by kernel_rfl) (HWS.out 0) fun a w C hW => op_call4 rfl (reg_enters Tryd.func38 (by kernel_rfl) (by kernel_rfl)) (C.on (j := 6) (by kernel_rfl) rfl rfl) (C.on (j := 9) (by kernel_rfl) rfl rfl) (C.on (j := 12) (by kernel_rfl) rfl rfl) (C.on (j := 15) (by kernel_rfl) rfl rfl) ((CQ.out w).mono fun e w2 h => by obtain ⟨rfl, rfl⟩ := h; exact ⟨_, rfl, rfl, Below.refl _ _⟩)
      · exact seq_head (by kernel_rfl) (HWS.out 0) fun a w C hW => op_move (.inl rfl) (C.on (j := 16) (by kernel_rfl) rfl rfl)
      · exact seq_head (by kernel_rfl) (HWS.out 0) fun a w C hW => op_value (ex_run rfl (C.on (j := 17) (by kernel_rfl) rfl rfl) rfl) rfl
      · exact seq_float (by kernel_rfl) HWS.out fun a w C => op_value (ex_run rfl (C.on (j := 17) (by kernel_rfl) rfl rfl) rfl) rfl
      · exact seq_float (by kernel_rfl) HWS.out fun a w C => op_value (ex_run rfl (C.on (j := 17) (by kernel_rfl) rfl rfl) rfl) rfl
      · exact seq_float (by kernel_rfl) HWS.out fun a w C => op_value (ex_run rfl (C.on (j := 17) (by kernel_rfl) rfl rfl) rfl) rfl
      · exact seq_head (by kernel_rfl) (HWS.out 0) fun a w C hW => op_value (ix16_run rfl (C.was 1 (by kernel_rfl)) (C.on (j := 0) (by kernel_rfl) rfl rfl) hp0) rfl
      · exact seq_turn 0 (by kernel_rfl) fun a w C hW => by
            obtain ⟨⟨u, hu⟩, hf, hn⟩ := HT0.out w hW
            exact st_does rfl (C.on (j := 22) (by kernel_rfl) rfl rfl) (C.on (j := 18) (by kernel_rfl) rfl rfl) hu hf hn
      · exact seq_float (by kernel_rfl) HWS.out fun a w C => op_value (ix16_run rfl (C.was 1 (by kernel_rfl)) (C.on (j := 1) (by kernel_rfl) rfl rfl) hp1) rfl
      · exact seq_turn 1 (by kernel_rfl) fun a w C hW => by
            obtain ⟨⟨u, hu⟩, hf, hn⟩ := HT1.out w hW
            exact st_does rfl (C.on (j := 24) (by kernel_rfl) rfl rfl) (C.on (j := 19) (by kernel_rfl) rfl rfl) hu hf hn
      · exact seq_float (by kernel_rfl) HWS.out fun a w C => op_value (ix16_run rfl (C.was 1 (by kernel_rfl)) (C.on (j := 2) (by kernel_rfl) rfl rfl) hp2) rfl
      · exact seq_turn 2 (by kernel_rfl) fun a w C hW => by
            obtain ⟨⟨u, hu⟩, hf, hn⟩ := HT2.out w hW
            exact st_does rfl (C.on (j := 26) (by kernel_rfl) rfl rfl) (C.on (j := 20) (by kernel_rfl) rfl rfl) hu hf hn
      · exact seq_float (by kernel_rfl) HWS.out fun a w C => op_value (ix16_run rfl (C.was 1 (by kernel_rfl)) (C.on (j := 3) (by kernel_rfl) rfl rfl) hp3) rfl
      · exact seq_turn 3 (by kernel_rfl) fun a w C hW => by
            obtain ⟨⟨u, hu⟩, hf, hn⟩ := HT3.out w hW
            exact st_does rfl (C.on (j := 28) (by kernel_rfl) rfl rfl) (C.on (j := 21) (by kernel_rfl) rfl rfl) hu hf hn
      intro wz hz
      have HZ1 := Lib.hid (HZ4.out wz hz)
      clear hz HF0 HT0 HT1 HT2 HT3 HWS HW1 HZ4 CQ
      simp only [setAll, setAt, List.setIfInBounds_toArray, List.set_cons_succ, List.set_cons_zero]
      go_wp2
      go_roundw
      case rel => exact ⟨i + 1, by omega, by go_num, by rw [HN.out]; exact HZ1.out⟩
      case measure => simp [intOf]; omega
    · obtain rfl : i = 8 := by omega
      have hdt : decide (((8 : Nat) : Int) < 8) = false := by simp
      have hl : (wq (perm x)).size = 16 := by rw [wq_size, perm_length]; exact HL.out
      have HLL := Lib.hid hl
      have hX8 : Dx w wr (perm x) := HX.out
      have RV := Lib.hid hX8.rv
      have RZ := Lib.hid hX8.rz
      have HB := Lib.hid hX8.below
      clear hl hX8 HX hsz5
      go_wp2_with (first
        | refine wpList_load_row rfl 76 (.tmp 1) rfl w.heap.size rfl 76 (wq (perm x)) (0, 0) _ RV.out Tryd.underlying76 rfl (by rw [HLL.out]; exact q_size16) ?_
        | refine wpList_store_row rfl 76 (.tmp 2) (.tmp 48) rfl (w.heap.size + 1) (wq (perm x)) rfl rfl 76 _ RZ.out (by rw [HLL.out]; exact q_size16) (by rw [HLL.out]; rfl) (wq_one _) ?_)
      have hR := RowAt.setRow RZ.out (wq (perm x))
      refine bodyPost_ret (v := .agg (wq (perm x))) (results_cell_row rfl _ _ (w.heap.size + 1) 76 (wq (perm x)) (0, 0) _ rfl hR Tryd.underlying76 rfl (by rw [HLL.out]; exact q_size16)) rfl ⟨rfl, ?_⟩
      exact below_setRow HB.out (by omega) _
end Go.Proofs.YtnbdmkgldjhcaaaDoor

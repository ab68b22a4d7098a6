/- All of a grid as the law lays it: the document's grid of the same blocks. Conditions: those typed. -/
import Derived.Test.YtpampgkhjcfeaaaDoorGdEmpty
namespace Go.Proofs.YtpampgkhjcfeaaaDoor
set_option maxRecDepth 50000
open Go.RowKit Bb

theorem ixg_run {w : World} {b i n c : Nat} {ev : Operand → Value} {x y : Operand} {o : Oper} (hop : o.op = .indexAddr 42 x y) (hx : ev x = .slice (some ⟨b, 0, none⟩) n c) (hy : ev y = .int .i64 (i : Int)) (hi : i < n) : (execOp ev o).run Tryd.prog w = .ok (.value (.pointer (some ⟨b, i, none⟩))) w := by
  have h1 : (i : Int) < (n : Int) := by omega
  simp [execOp, hop, hx, hy, go_sem, h1]
theorem ixr_run {w : World} {b i n c : Nat} {ev : Operand → Value} {x y : Operand} {o : Oper} (hop : o.op = .indexAddr 52 x y) (hx : ev x = .slice (some ⟨b, 0, none⟩) n c) (hy : ev y = .int .i64 (i : Int)) (hi : i < n) : (execOp ev o).run Tryd.prog w = .ok (.value (.pointer (some ⟨b, i * 128, none⟩))) w := by
  have h1 : (i : Int) < (n : Int) := by omega
  simp [execOp, hop, hx, hy, go_sem, h1]
theorem so_build (w : World) (x y : Int) : (Instr.build 34 #[(0, .int .i64 x), (1, .int .i64 y)]).run Tryd.prog w = .ok (sov x y) w := by
  have h : ∀ x y : Int, Tryd.prog.built 34 [(0, .int .i64 x), (1, .int .i64 y)] = some (#[.int .i64 x, .int .i64 y]) := fun x y => by kernel_rfl
  exact run_build w _ _ _ (h ..)
theorem so_run {w : World} {ev : Operand → Value} {o : Oper} {x0 x1 : Operand} {x y : Int} (hop : o.op = .build 34 #[(0, x0), (1, x1)]) (h0 : ev x0 = .int .i64 x) (h1 : ev x1 = .int .i64 y) : (execOp ev o).run Tryd.prog w = .ok (.value (sov x y)) w := by
  simp only [execOp, hop, List.map_toArray, List.map_cons, List.map_nil, h0, h1, Sem.run_bind, so_build, Result.andThen_ok, Sem.run_pure]

section
variable {w w' : World} {N c : Nat} {v : Value} {gs : List Nat} {L : List (List Nat)}
/-- where the rows' slices lie -/
theorem DocAt.head (h : DocAt w N v c gs L) (hg : 0 < gs.length) : ∃ o k, v = .slice (some ⟨o, 0, none⟩) gs.length k := by
  obtain ⟨A, k, rfl, _, h0, _⟩ := own_form h.own
  obtain ⟨o, rfl, _⟩ := h0 hg
  exact ⟨o, k, rfl⟩
theorem DocAt.row {o n k : Nat} (h : DocAt w N (.slice (some ⟨o, 0, none⟩) n k) c gs L) {i : Nat} (hi : i < gs.length) : w.cell? ⟨o, i, none⟩ = some (.slice (some ⟨gs.getD i 0, 0, none⟩) c c) := by
  have hr := Reads.of_own (n := gs.length) (c := k) (A := some ⟨o, 0, none⟩) (by
    obtain ⟨A, k', e, _, _, _⟩ := own_form h.own
    injection e with e1 e2 e3
    subst e2
    exact h.own)
  obtain ⟨b, off, e, _, hc⟩ := hr i (by rw [hds, List.length_map]; exact hi)
  injection e with e
  injection e with e1 e2 e3
  subst e1
  subst e2
  rw [Nat.zero_add] at hc
  rw [hc, ← List.getElem?_eq_getElem, hds_at c gs i hi]
  rfl
end

/-- the first n blocks, the others clean -/
def mixL (L : List (List Nat)) (n : Nat) : List (List Nat) := L.take n ++ List.replicate (L.length - n) zb
theorem mix_zero (L : List (List Nat)) : mixL L 0 = List.replicate L.length zb := by simp [mixL]
theorem mix_all (L : List (List Nat)) : mixL L L.length = L := by simp [mixL]
theorem mix_next (L : List (List Nat)) (n : Nat) (hn : n < L.length) : (mixL L n).set n (L.getD n []) = mixL L (n + 1) := by
  unfold mixL
  have h1 : (L.take n).length = n := by rw [List.length_take]; omega
  obtain ⟨m, hm⟩ : ∃ m, L.length - n = m + 1 := ⟨L.length - n - 1, by omega⟩
  rw [List.set_append_right _ _ (by omega), h1, Nat.sub_self, hm, show L.length - (n + 1) = m by omega, List.replicate_succ, List.set_cons_zero, List.take_succ_eq_append_getElem hn, List.getD_eq_getElem?_getD, List.getElem?_eq_getElem hn, List.append_assoc]
  rfl

set_option maxHeartbeats 6400000 in
theorem all_any {w : World} {q p h G a t l m b c g z : Nat} {L : List (List Nat)} (hG : GrAt w q p h G a t l m b c g z L) (hl0 : 0 < l) (hl : l ≤ 1000) (hc : c ≤ 4194304) (hL : L.length = l * c) (hLm : L.length ≤ 4194304) :
    Calls Tryd.prog 14 #[.pointer (some ⟨q, 0, none⟩)] w fun e w' => ∃ v gs, e = .returned v ∧ DocAt w' w.heap.size v c gs L ∧ gs.length = l ∧ Below w.heap.size w w' := by
  obtain ⟨N, hN⟩ : ∃ N, N = w.heap.size := ⟨_, rfl⟩
  have CE := Lib.hid (rempty_any a t l m b c g z hl hc w)
  have HG := Lib.hid hG
  have HL := Lib.hid hL
  have HLm := Lib.hid hLm
  have HN := Lib.hid hN
  have k0 := hG.row.shape
  clear hG hL hLm hN
  go_enter Tryd.func14, Tryd.ntmps14
  go_wp2_with (refine wpList_load_want rfl 47 _ rfl _ _ rfl k0 ?_)
  refine CE.out.mono ?_
  rintro e w1 ⟨v, gs, rfl, hD, rfl, hb⟩
  rw [← HN.out] at hD hb
  obtain ⟨o, kk, rfl⟩ := hD.head hl0
  rw [← HL.out, ← mix_zero] at hD
  have HD0 := Lib.hid hD
  have HB0 := Lib.hid hb
  clear hD hb CE k0
  go_wp2
  go_loopw [13] (fun v13 wr => ∃ i : Nat, i ≤ gs.length ∧ v13 = .int .i64 (i : Int) ∧ Hid (DocAt wr N (.slice (some ⟨o, 0, none⟩) gs.length kk) c gs (mixL L (i * c))) ∧ Hid (Below N w wr)) (fun v13 _ => gs.length - (intOf v13).toNat)
  case atStart => exact ⟨0, Nat.zero_le _, rfl, Lib.hid (by rw [Nat.zero_mul]; exact HD0.out), HB0⟩
  case round =>
    obtain ⟨i, hi, rfl, HD, HB⟩ := hrel
    by_cases h : i < gs.length
    · have hd : decide ((i : Int) < (gs.length : Int)) = true := by simp; omega
      have hd2 : decide (i < gs.length) = true := by simp; omega
      have hi0 : (0 : Int) ≤ (i : Int) := by omega
      have hi1 : (i : Int) < (gs.length : Int) := by omega
      have kr := HD.out.row h
      have hil : i ≤ 1000 := by omega
      generalize hgi : gs.getD i 0 = gi at *
      have HGI := Lib.hid hgi
      have hic : (i + 1) * c ≤ gs.length * c := Nat.mul_le_mul_right c h
      rw [Nat.add_mul, Nat.one_mul] at hic
      have HIC := Lib.hid hic
      have HI := Lib.hid h
      clear hgi hic
      go_wp2
      go_loopw [21] (fun v21 wr => ∃ k : Nat, k ≤ c ∧ v21 = .int .i64 (k : Int) ∧ Hid (DocAt wr N (.slice (some ⟨o, 0, none⟩) gs.length kk) c gs (mixL L (i * c + k))) ∧ Hid (Below N w wr)) (fun v21 _ => c - (intOf v21).toNat)
      case atStart => exact ⟨0, Nat.zero_le _, rfl, HD, HB⟩
      case round =>
        obtain ⟨k, hk, rfl, HD3, HB3⟩ := hrel
        clear kr
        by_cases hkc : k < c
        · have hd3 : decide ((k : Int) < (c : Int)) = true := by simp; omega
          have hd4 : decide (k < c) = true := by simp; omega
          obtain ⟨n, hn⟩ : ∃ n, n = i * c + k := ⟨_, rfl⟩
          have hnL : n < L.length := by rw [hn, HL.out]; have := HIC.out; omega
          have HX := Lib.hid (block_ok HG.out.live.ok n hnL)
          have HKc := Lib.hid hkc
          have hD3 := HD3.out
          rw [← hn] at hD3
          have HS : Hid ((mixL L n).set n (L.getD n []) = mixL L (i * c + (k + 1))) := Lib.hid (by rw [mix_next L n hnL, hn]; rfl)
          have CG : Hid (∀ u, Below N w u → Calls Tryd.prog 6 #[.pointer (some ⟨q, 0, none⟩), sov (i : Int) (k : Int)] u fun e w2 => e = .returned (.tuple #[.agg (wq (L.getD n [])), .int .i64 0]) ∧ Below u.heap.size u w2) := Lib.hid fun u hu => gload_any (HG.out.step (by rw [← HN.out]; exact hu)) (by omega) (by omega) i k n h hkc hn.symm hnL HLm.out
          generalize L.getD n [] = x at *
          obtain ⟨W, hWd⟩ : ∃ W : Nat → World → Prop, W = fun j u => if j = 0 then Below wr.heap.size wr u else (DocAt u N (.slice (some ⟨o, 0, none⟩) gs.length kk) c gs (mixL L (i * c + (k + 1))) ∧ Below N w u) := ⟨_, rfl⟩
          have hsN : N ≤ wr.heap.size := by have := HB3.out.size; have := HN.out; omega
          have HWS : Hid (∀ k w w', W k w → Below w.heap.size w w' → W k w') := Lib.hid fun j u u' hu hb => by
            subst hWd
            by_cases hj : j = 0
            · simp only [if_pos hj] at hu ⊢; exact below_step hu hb
            · simp only [if_neg hj] at hu ⊢; exact ⟨hu.1.step hb, hu.2.trans (hb.mono (by have := hu.2.size; have := HN.out; omega))⟩
          have HW0 : Hid (W 0 wr) := Lib.hid (by subst hWd; exact Below.refl _ _)
          have HF : Hid (∀ u, W 0 u → (loadVar 52 ⟨o, i, none⟩).run Tryd.prog u = .ok (.slice (some ⟨gi, 0, none⟩) c c) u ∧ Calls Tryd.prog 6 #[.pointer (some ⟨q, 0, none⟩), sov (i : Int) (k : Int)] u fun e w2 => e = .returned (.tuple #[.agg (wq x), .int .i64 0]) ∧ Below u.heap.size u w2) := Lib.hid fun u hu => by
            subst hWd
            have hr := (hD3.step hu).row HI.out
            rw [HGI.out] at hr
            exact ⟨by simp [hr, go_sem], CG.out u (HB3.out.trans (hu.mono hsN))⟩
          have HT : Hid (∀ u, W 0 u → ∃ w3, (storeVar 29 ⟨gi, k * 128, none⟩ (.agg (wq x))).run Tryd.prog u = .ok () w3 ∧ W 1 w3) := Lib.hid fun u hu => by
            subst hWd
            obtain ⟨u2, hs, hd, hk⟩ := (hD3.step hu).store HI.out HKc.out HX.out
            rw [HGI.out] at hs hk
            rw [← hn, HS.out] at hd
            have hge : N ≤ gi := by rw [← HGI.out]; exact hD3.ge _ (getD_mem HI.out)
            exact ⟨u2, hs, hd, (HB3.out.trans (hu.mono hsN)).trans (hk.below (by have := hu.size; omega) fun x hx => by omega)⟩
          have HW1 : Hid (∀ u, W 1 u → DocAt u N (.slice (some ⟨o, 0, none⟩) gs.length kk) c gs (mixL L (i * c + (k + 1))) ∧ Below N w u) := Lib.hid fun u hu => by subst hWd; exact hu
          clear hWd CG hD3 HX HS hn hnL HB3 HD3 hsN
          go_wp2
          refine wp_region_seq [14] [.slice (some ⟨o, 0, none⟩) gs.length kk, .int .i64 (i : Int), .pointer (some ⟨o, i, none⟩), .slice (some ⟨gi, 0, none⟩) c c, .int .i64 (k : Int), .pointer (some ⟨q, 0, none⟩), .int .i64 (i : Int), .int .i64 (k : Int), sov (i : Int) (k : Int), .tuple #[.agg (wq x), .int .i64 0], .tuple #[.agg (wq x), .int .i64 0], .agg (wq x), .int .i64 0, .pointer (some ⟨gi, k * 128, none⟩), undef] W (by kernel_rfl) (by kernel_rfl) rfl (HWS.out 0 _ _ HW0.out (Below.refl _ _).drew) ⟨?_, ?_, ?_, ?_, ?_, ?_, ?_, ?_, ?_, ?_, ?_, ?_, ?_, ?_, ?_, trivial⟩ ?_
          · exact seq_head (by kernel_rfl) (HWS.out 0) fun a w C hW => op_move (.inl rfl) (C.was 3 (by kernel_rfl))
          · exact seq_head (by kernel_rfl) (HWS.out 0) fun a w C hW => op_move (.inl rfl) (C.was 4 (by kernel_rfl))
          · exact seq_head (by kernel_rfl) (HWS.out 0) fun a w C hW => op_value (ixg_run rfl (C.on (j := 0) (by kernel_rfl) rfl rfl) (C.on (j := 1) (by kernel_rfl) rfl rfl) HI.out) rfl
          · exact seq_head (by kernel_rfl) (HWS.out 0) fun a w C hW => op_value (load_run rfl (C.on (j := 2) (by kernel_rfl) rfl rfl) (HF.out w hW).1) rfl
          · exact seq_head (by kernel_rfl) (HWS.out 0) fun a w C hW => op_move (.inl rfl) (C.was 5 (by kernel_rfl))
          · exact seq_head (by kernel_rfl) (HWS.out 0) fun a w C hW => op_move (.inl rfl) (C.was 0 (by kernel_rfl))
          · exact seq_head (by kernel_rfl) (HWS.out 0) fun a w C hW => op_move (.inl rfl) (C.was 4 (by kernel_rfl))
          · exact seq_head (by kernel_rfl) (HWS.out 0) fun a w C hW => op_move (.inl rfl) (C.was 5 (by kernel_rfl))
          · exact seq_head (by kernel_rfl) (HWS.out 0) fun a w C hW => op_value (so_run rfl (C.on (j := 6) (by kernel_rfl) rfl rfl) (C.on (j := 7) (by kernel_rfl) rfl rfl)) rfl
          · exact seq_head (by kernel_rfl) (HWS.out 0) fun a w C hW => op_call2 rfl (reg_enters Tryd.func6 (by kernel_rfl) (by kernel_rfl)) (C.on (j := 5) (by kernel_rfl) rfl rfl) (C.on (j := 8) (by kernel_rfl) rfl rfl) (calls_is (HF.out w hW).2)
          · exact seq_head (by kernel_rfl) (HWS.out 0) fun a w C hW => op_move (.inl rfl) (C.on (j := 9) (by kernel_rfl) rfl rfl)
          · exact seq_head (by kernel_rfl) (HWS.out 0) fun a w C hW => op_value (ext_run (v := .agg (wq x)) rfl (C.on (j := 10) (by kernel_rfl) rfl rfl) rfl) rfl
          · exact seq_float (by kernel_rfl) HWS.out fun a w C => op_value (ext_run (v := .int .i64 0) rfl (C.on (j := 10) (by kernel_rfl) rfl rfl) rfl) rfl
          · exact seq_head (by kernel_rfl) (HWS.out 0) fun a w C hW => op_value (ixr_run rfl (C.on (j := 3) (by kernel_rfl) rfl rfl) (C.on (j := 4) (by kernel_rfl) rfl rfl) HKc.out) rfl
          · exact seq_turn 0 (by kernel_rfl) fun a w C hW => by
                obtain ⟨w2, hs, hn⟩ := HT.out w hW
                exact sto_does rfl (C.on (j := 13) (by kernel_rfl) rfl rfl) (C.on (j := 11) (by kernel_rfl) rfl rfl) hs hn
          intro w3 hw
          obtain ⟨D3, B3⟩ := HW1.out w3 hw
          have HD4 := Lib.hid D3
          have HB4 := Lib.hid B3
          clear hw HWS HW0 HF HT HW1 B3 D3
          simp only [setAll, setAt, List.setIfInBounds_toArray, List.set_cons_succ, List.set_cons_zero]
          go_wp2
          go_roundw
          case rel => exact ⟨k + 1, by omega, by go_num, HD4, HB4⟩
          case measure => simp [intOf]; omega
        · obtain rfl : k = c := by omega
          have hd3 : decide ((k : Int) < (k : Int)) = false := by simp
          go_wp2
          go_roundw
          case rel => exact ⟨i + 1, by omega, by go_num, Lib.hid (by rw [Nat.add_mul, Nat.one_mul]; exact HD3.out), HB3⟩
          case measure => simp [intOf]; omega
    · obtain rfl : i = gs.length := by omega
      have hd : decide ((gs.length : Int) < (gs.length : Int)) = false := by simp
      go_wp2
      refine bodyPost_ret (results_tmp rfl _ _ _) rfl ⟨_, gs, rfl, ?_, rfl, by rw [← HN.out]; exact HB.out⟩
      have h := HD.out
      rw [← HN.out]
      rw [← HL.out, mix_all] at h
      exact h
end Go.Proofs.YtpampgkhjcfeaaaDoor

/- Blocks' lines permuted, by their contracts. Conditions: those typed. -/
import Derived.Test.YtfoodaobiknihaaGreatDoorBn
import Derived.Test.YtfoodaobiknihaaGreatDoorKi
namespace Go.Proofs.YtfoodaobiknihaaGreatDoor
set_option maxRecDepth 50000
open Go.RowKit Rot Bb Bn
def lay (t : Nat) : List Nat := if t = 0 then [16, 2] else [2, 16]
theorem lay_is (t : Nat) : ∃ L P : Nat, lay t = [L, P] ∧ L ≤ 16 ∧ P ≤ 16 ∧ ∀ i k, i * L + k / 2 * P + k % 2 = ats t i k := by
  by_cases h : t = 0
  · exact ⟨16, 2, by unfold lay; rw [if_pos h], by decide, by decide, fun i k => by unfold ats; rw [if_pos h]⟩
  · exact ⟨2, 16, by unfold lay; rw [if_neg h], by decide, by decide, fun i k => by unfold ats; rw [if_neg h]⟩
theorem lay_agg (w : World) : (isAgg 204).run Tryz.prog w = .ok true w := by
  simp [isAgg, run_underlying Tryz.underlying204]
theorem lay_size : (Tryz.prog.info? 204).map (·.size) = some 2 := by kernel_rfl
theorem lay_load {w : World} {b : Nat} {L P : Nat} (h : RowAt w b 204 (iqN [L, P])) : (loadVar 204 ⟨b, 0, none⟩).run Tryz.prog w = .ok (.agg (iqN [L, P])) w :=
  sub_load h lay_agg lay_size 0 [.int .i64 (L : Int), .int .i64 (P : Int)] rfl fun j v h => by simpa [iqN] using h
set_option maxHeartbeats 800000 in
theorem at_anyN (t i k : Nat) (hi : i < 8) (hk : k < 16) (w : World) : Calls Tryz.prog 129 #[.agg (iqN (lay t)), .int .i64 (i : Int), .int .i64 (k : Int)] w fun e w' => e = .returned (.int .i64 (ats t i k : Nat)) ∧ Below w.heap.size w w' := by
  obtain ⟨L, P, e, hL, hP, ha⟩ := lay_is t
  rw [e, ← ha i k]
  clear ha e
  have HB := Lib.hid ((Below.refl _ w).alloc (Nat.le_refl _) (.cells (iqN [L, P]) 204))
  obtain ⟨h, hh⟩ : ∃ h, h = k / 2 := ⟨_, rfl⟩
  obtain ⟨r, hr⟩ : ∃ r, r = k % 2 := ⟨_, rfl⟩
  rw [← hh, ← hr]
  have m1 : i * L ≤ 8 * 16 := Nat.mul_le_mul (by omega) hL
  have m2 : h * P ≤ 8 * 16 := Nat.mul_le_mul (by omega) hP
  have e1 : (i : Int) * (L : Int) = ((i * L : Nat) : Int) := (Int.natCast_mul _ _).symm
  have e2 : (h : Int) * (P : Int) = ((h * P : Nat) : Int) := (Int.natCast_mul _ _).symm
  have e3 : (k : Int).tdiv 2 = (h : Int) := by rw [Int.tdiv_eq_ediv_of_nonneg (by omega)]; omega
  have e4 : (k : Int).tmod 2 = (r : Int) := by rw [Int.tmod_eq_emod_of_nonneg (by omega)]; omega
  have hr2 : r < 2 := by omega
  have hh2 : h < 8 := by omega
  generalize i * L = m at *
  generalize h * P = n at *
  obtain ⟨s, hs⟩ : ∃ s, s = m + n := ⟨_, rfl⟩
  obtain ⟨z, hz⟩ : ∃ z, z = s + r := ⟨_, rfl⟩
  have e5 : (m : Int) + (n : Int) = (s : Int) := by omega
  have e6 : (s : Int) + (r : Int) = (z : Int) := by omega
  have hs2 : s ≤ 256 := by omega
  have hz2 : z ≤ 258 := by omega
  rw [← hs, ← hz]
  clear hh hr hs hz
  simp only [iqN, List.map_cons, List.map_nil]
  go_enter Tryz.func129, Tryz.ntmps129
  go_wp2
  go_ret
  exact ⟨rfl, HB.out⟩
section
variable {w : World} {ev : Operand → Value} {x y : Operand} {o : Oper} {b i : Nat} {v : Value}
theorem ixb_run (hop : o.op = .indexAddr 83 x y) (hx : ev x = .pointer (some ⟨b, 0, none⟩)) (hy : ev y = .int .i64 (i : Int)) (hi : i < 128) : (execOp ev o).run Tryz.prog w = .ok (.value (.pointer (some ⟨b, i, none⟩))) w := by
  have h1 : (i : Int) < 128 := by omega
  simp [execOp, hop, hx, hy, go_sem, h1]
theorem nil_runN {ad : Addr} (hop : o.op = .nilCheck x) (hx : ev x = .pointer (some ad)) : (execOp ev o).run Tryz.prog w = .ok (.value (.pointer (some ad))) w := by
  simp [execOp, hop, hx, go_sem]
theorem load_runN {ad : Addr} {ty : TypeId} (hop : o.op = .load ty x) (hx : ev x = .pointer (some ad)) (hl : (loadVar ty ad).run Tryz.prog w = .ok v w) : (execOp ev o).run Tryz.prog w = .ok (.value v) w := by
  simp only [execOp, hop, hx, Instr.loadAt, Instr.sureAddr, Sem.run_bind, Sem.run_pure, Result.andThen_ok, hl]
end
theorem word_index (w : World) {V : List Nat} (k : Nat) (hV : V.length = 16) (hk : k < 16) : (Instr.index 185 (.agg (wq V)) (.int .i64 (k : Int))).run Tryz.prog w = .ok (.int .u64 (V.getD k 0 : Nat)) w :=
  run_index_arr w Tryz.underlying185 q_u64N Tryz.underlying52 k hk (wq_at V k (by omega))
structure Lx (w wr : World) (b L P : Nat) (B v : List Nat) : Prop where
  rb : RowAt wr b 83 (wq B)
  rl : RowAt wr w.heap.size 204 (iqN [L, P])
  rv : RowAt wr (w.heap.size + 1) 185 (wq v)
  hb : b < w.heap.size
  kept : Kept (fun x => x = b) w wr
section
variable {w wr wr' : World} {b L P : Nat} {B v : List Nat}
theorem Lx.new (h : RowAt w b 83 (wq B)) : Lx w ((w.alloc (.cells (iqN [L, P]) 204)).alloc (.cells (wq (List.replicate 16 0)) 185)) b L P B (List.replicate 16 0) := by
  refine ⟨(h.alloc _).alloc _, (RowAt.new w _ _).alloc _, ?_, h.lt, (Kept.alloc (Kept.refl _ w) _).alloc _⟩
  have h := RowAt.new (w.alloc (.cells (iqN [L, P]) 204)) 185 (wq (List.replicate 16 0))
  rw [World.size_alloc] at h; exact h
theorem Lx.step (h : Lx w wr b L P B v) (hb : Below wr.heap.size wr wr') : Lx w wr' b L P B v :=
  ⟨h.rb.below hb h.rb.lt, h.rl.below hb h.rl.lt, h.rv.below hb h.rv.lt, h.hb, h.kept.trans (M' := fun _ => False) (Kept.of_below hb) fun _ _ h => h.elim⟩
theorem Lx.setV (h : Lx w wr b L P B v) (i x : Nat) : Lx w (wr.setCell ⟨w.heap.size + 1, i, none⟩ (.int .u64 (x : Int))) b L P B (v.set i x) :=
  have := h.hb
  ⟨h.rb.setOther _ (by simp; omega) _, h.rl.setOther _ (by simp) _, by rw [← wq_set]; exact h.rv.setCell i _, h.hb, h.kept.set (.inr (by simp)) _⟩
theorem Lx.setB (h : Lx w wr b L P B v) (i x : Nat) : Lx w (wr.setCell ⟨b, i, none⟩ (.int .u64 (x : Int))) b L P (B.set i x) v :=
  have := h.hb
  ⟨by rw [← wq_set]; exact h.rb.setCell i _, h.rl.setOther _ (by simp; omega) _, h.rv.setOther _ (by simp; omega) _, h.hb, h.kept.set (.inl rfl) _⟩
theorem QAtN.kept {M : Nat → Prop} (h : QAtN w) (hk : Kept M w wr) (hM : ¬ M 2) : QAtN wr :=
  ⟨Nat.lt_of_lt_of_le h.1 hk.size, fun i hi => (World.cell?_of_block (w := w) (a := ⟨2, i, none⟩) (hk.block _ h.1 hM)).trans (h.2 i hi)⟩
end
set_option maxHeartbeats 3200000 in
theorem line_any (t i : Nat) (hi : i < 8) (b : Nat) {B : List Nat} (hB : okb B) (w : World) (hr : RowAt w b 83 (wq B)) (hq : QAtN w) (hb : b ≠ 2) :
    Calls Tryz.prog 117 #[.agg (iqN (lay t)), .pointer (some ⟨b, 0, none⟩), .int .i64 (i : Int)] w fun e w' => e = .returned (.tuple #[]) ∧ RowAt w' b 83 (wq (line B t i)) ∧ Kept (fun x => x = b) w w' := by
  have hbl := hB.1
  have HO := Lib.hid hB.2
  have CA := Lib.hid fun k (hk : k < 16) w => at_anyN t i k hi hk w
  have CP := Lib.hid fun x (hx : x.length = 16) (ho : okw x) w (hq : QAtN w) => permute_any x hx ho w hq
  obtain ⟨L, P, e, _, _, _⟩ := lay_is t
  rw [e] at CA ⊢
  have HX0 := Lib.hid (Lx.new (L := L) (P := P) hr)
  have HQ := Lib.hid hq
  have HBG := Lib.hid hb
  have HI := Lib.hid hi
  have HLN : Hid (line B t i = putL B (perm (takL B t i 16)) t i 16) := Lib.hid rfl
  clear hB hr hq hb e hi
  go_enter Tryz.func117, Tryz.ntmps117
  go_wp2
  generalize hW0 : World.alloc _ _ = w0
  have HX1 : Hid (Lx w w0 b L P B (takL B t i 0)) := Lib.hid (by subst hW0; exact HX0.out)
  clear hW0 HX0
  go_loopw [10] (fun v10 wr => ∃ k : Nat, k ≤ 16 ∧ v10 = .int .i64 (k : Int) ∧ Lx w wr b L P B (takL B t i k)) (fun v10 _ => 16 - (intOf v10).toNat)
  case atStart => exact ⟨0, by omega, rfl, HX1.out⟩
  case round =>
    clear HX1
    obtain ⟨k, hk, rfl, X⟩ := hrel
    have HX := Lib.hid X
    clear X
    by_cases h8 : k < 16
    · have hdt : decide ((k : Int) < 16) = true := by simp; omega
      have hp := ats_lt t i k HI.out h8
      have HN : Hid (takL B t i (k + 1) = (takL B t i k).set k (B.getD (ats t i k) 0)) := Lib.hid rfl
      have hvl := takL_length B t i k
      have CK := Lib.hid fun w => CA.out k h8 w
      generalize takL B t i k = v at *
      generalize ats t i k = p at *
      have hy := wq_at B p (by omega)
      generalize B.getD p 0 = y at *
      have hz := wq_at v k (by omega)
      generalize v.getD k 0 = z at *
      obtain ⟨W, hWd⟩ : ∃ W : Nat → World → Prop, W = fun j w' => Lx w w' b L P B ([v, v.set k y].getD j []) := ⟨_, rfl⟩
      have HWS : Hid (∀ j w w', W j w → Below w.heap.size w w' → W j w') := Lib.hid fun j w w' h hb => by subst hWd; exact h.step hb
      have HF0 : Hid (∀ w', W 0 w' → RowAt w' w.heap.size 204 (iqN [L, P]) ∧ w'.cell? ⟨b, p, none⟩ = some (.int .u64 (y : Int))) := Lib.hid fun w' h => by
        subst hWd
        exact ⟨h.rl, (h.rb.cell p).trans hy⟩
      have HT0 : Hid (∀ w', W 0 w' → (∃ v, w'.cell? ⟨w.heap.size + 1, k, none⟩ = some v) ∧ w'.frozen? ⟨w.heap.size + 1, k, none⟩ = false ∧ W 1 (w'.setCell ⟨w.heap.size + 1, k, none⟩ (.int .u64 (y : Int)))) := Lib.hid fun w' h1 => by
        subst hWd
        simp only at h1 ⊢
        exact ⟨⟨_, (h1.rv.cell k).trans hz⟩, h1.rv.frozen k, h1.setV k y⟩
      have HZ0 : Hid (∀ w', Lx w w' b L P B v → W 0 w') := Lib.hid fun w' h1 => by subst hWd; exact h1
      have HZ1 : Hid (∀ w', W 1 w' → Lx w w' b L P B (v.set k y)) := Lib.hid fun w' h => by subst hWd; exact h
      clear hWd hy hz hvl
      go_wp2
      refine wp_region_seq [10] [.int .i64 (k : Int), .pointer (some ⟨b, 0, none⟩), .agg (iqN [L, P]), .int .i64 (i : Int), .int .i64 (k : Int), .int .i64 (p : Int), .pointer (some ⟨b, 0, none⟩), .pointer (some ⟨b, p, none⟩), .int .u64 (y : Int), .pointer (some ⟨w.heap.size + 1, k, none⟩), undef] W (by kernel_rfl) (by kernel_rfl) rfl (HWS.out 0 _ _ (HZ0.out _ HX.out) (Below.refl _ _).drew) ⟨?_, ?_, ?_, ?_, ?_, ?_, ?_, ?_, ?_, ?_, ?_, trivial⟩ ?_
      · exact seq_head (by kernel_rfl) (HWS.out 0) fun a w C hW => op_move (.inl rfl) (C.was 7 (by kernel_rfl))
      · exact seq_head (by kernel_rfl) (HWS.out 0) fun a w C hW => op_move (.inl rfl) (C.was 1 (by kernel_rfl))
      · exact seq_head (by kernel_rfl) (HWS.out 0) fun a w C hW => op_value (load_runN rfl (C.was 3 (by kernel_rfl)) (lay_load (HF0.out _ hW).1)) rfl
      · exact seq_head (by kernel_rfl) (HWS.out 0) fun a w C hW => op_move (.inl rfl) (C.was 2 (by kernel_rfl))
      · exact seq_head (by kernel_rfl) (HWS.out 0) fun a w C hW => op_move (.inl rfl) (C.was 7 (by kernel_rfl))
      · exact seq_head (by kernel_rfl) (HWS.out 0) fun a w C hW => op_call3 rfl (reg_enters Tryz.func129 (by kernel_rfl) (by kernel_rfl)) (C.on (j := 2) (by kernel_rfl) rfl rfl) (C.on (j := 3) (by kernel_rfl) rfl rfl) (C.on (j := 4) (by kernel_rfl) rfl rfl) ((CK.out w).mono fun e w2 h => ⟨_, h.1, rfl, h.2⟩)
      · exact seq_head (by kernel_rfl) (HWS.out 0) fun a w C hW => op_value (nil_runN rfl (C.on (j := 1) (by kernel_rfl) rfl rfl)) rfl
      · exact seq_head (by kernel_rfl) (HWS.out 0) fun a w C hW => op_value (ixb_run rfl (C.on (j := 6) (by kernel_rfl) rfl rfl) (C.on (j := 5) (by kernel_rfl) rfl rfl) hp) rfl
      · exact seq_head (by kernel_rfl) (HWS.out 0) fun a w C hW => op_value (ld_runN rfl (C.on (j := 7) (by kernel_rfl) rfl rfl) (HF0.out _ hW).2) rfl
      · exact seq_head (by kernel_rfl) (HWS.out 0) fun a w C hW => op_value (ix16_runN rfl (C.was 6 (by kernel_rfl)) (C.on (j := 0) (by kernel_rfl) rfl rfl) h8) rfl
      · exact seq_turn 0 (by kernel_rfl) fun a w C hW => by
            obtain ⟨⟨u, hu⟩, hf, hn⟩ := HT0.out w hW
            exact st_doesN rfl (C.on (j := 9) (by kernel_rfl) rfl rfl) (C.on (j := 8) (by kernel_rfl) rfl rfl) hu hf hn
      intro wz hz
      have HZ2 := Lib.hid (HZ1.out wz hz)
      clear hz HF0 HT0 HWS HZ1 HZ0 CK
      simp only [setAll, setAt, List.setIfInBounds_toArray, List.set_cons_succ, List.set_cons_zero]
      go_wp2
      go_roundw
      case rel => exact ⟨k + 1, by omega, by go_num, by rw [HN.out]; exact HZ2.out⟩
      case measure => simp [intOf]; omega
    · obtain rfl : k = 16 := by omega
      have hdt : decide (((16 : Nat) : Int) < 16) = false := by simp
      have HVL := Lib.hid (takL_length B t i 16)
      have HVO := Lib.hid (takL_ok HO.out t i 16)
      have HPL := Lib.hid (show (perm (takL B t i 16)).length = 16 by rw [perm_length]; exact HVL.out)
      generalize takL B t i 16 = v at *
      have HSV : Hid ((wq v).size = 16) := Lib.hid (by rw [wq_size]; exact HVL.out)
      have RV := Lib.hid HX.out.rv
      have HQ2 := Lib.hid (HQ.out.kept HX.out.kept fun e => HBG.out e.symm)
      go_wp2_with (refine wpList_load_row rfl 185 (.tmp 6) rfl (w.heap.size + 1) rfl 185 (wq v) (0, 0) _ RV.out Tryz.underlying185 rfl (by rw [HSV.out]; exact q_size16N) ?_)
      refine (CP.out v HVL.out HVO.out _ HQ2.out).mono ?_
      rintro e w2 ⟨rfl, hb2⟩
      have HX3 := Lib.hid (HX.out.step hb2)
      clear hb2 HX RV HQ HQ2 CP HVL HVO HSV
      generalize perm v = V at *
      go_wp2
      go_loopw [26] (fun v26 wr => ∃ k : Nat, k ≤ 16 ∧ v26 = .int .i64 (k : Int) ∧ Lx w wr b L P (putL B V t i k) v) (fun v26 _ => 16 - (intOf v26).toNat)
      case atStart => exact ⟨0, by omega, rfl, HX3.out⟩
      case round =>
        clear HX3
        obtain ⟨k, hk, rfl, X⟩ := hrel
        have HX := Lib.hid X
        clear X
        by_cases h8 : k < 16
        · have hdk : decide ((k : Int) < 16) = true := by simp; omega
          have hp := ats_lt t i k HI.out h8
          have HN : Hid (putL B V t i (k + 1) = (putL B V t i k).set (ats t i k) (V.getD k 0)) := Lib.hid rfl
          have hvl : (putL B V t i k).length = 128 := by rw [putL_length]; exact hbl
          have CK := Lib.hid fun w => CA.out k h8 w
          have hix := word_index wr k HPL.out h8
          generalize putL B V t i k = C at *
          generalize ats t i k = p at *
          generalize V.getD k 0 = y at *
          have hz := wq_at C p (by omega)
          generalize C.getD p 0 = z at *
          obtain ⟨W, hWd⟩ : ∃ W : Nat → World → Prop, W = fun j w' => Lx w w' b L P ([C, C.set p y].getD j []) v := ⟨_, rfl⟩
          have HWS : Hid (∀ j w w', W j w → Below w.heap.size w w' → W j w') := Lib.hid fun j w w' h hb => by subst hWd; exact h.step hb
          have HF0 : Hid (∀ w', W 0 w' → RowAt w' w.heap.size 204 (iqN [L, P])) := Lib.hid fun w' h => by
            subst hWd
            exact h.rl
          have HT0 : Hid (∀ w', W 0 w' → (∃ v, w'.cell? ⟨b, p, none⟩ = some v) ∧ w'.frozen? ⟨b, p, none⟩ = false ∧ W 1 (w'.setCell ⟨b, p, none⟩ (.int .u64 (y : Int)))) := Lib.hid fun w' h1 => by
            subst hWd
            simp only at h1 ⊢
            exact ⟨⟨_, (h1.rb.cell p).trans hz⟩, h1.rb.frozen p, h1.setB p y⟩
          have HZ0 : Hid (∀ w', Lx w w' b L P C v → W 0 w') := Lib.hid fun w' h1 => by subst hWd; exact h1
          have HZ1 : Hid (∀ w', W 1 w' → Lx w w' b L P (C.set p y) v) := Lib.hid fun w' h => by subst hWd; exact h
          clear hWd hz hvl
          go_wp2
          refine wp_region_seq [8] [.pointer (some ⟨b, 0, none⟩), .agg (iqN [L, P]), .int .i64 (i : Int), .int .i64 (k : Int), .int .i64 (p : Int), .int .u64 (y : Int), .pointer (some ⟨b, 0, none⟩), .pointer (some ⟨b, p, none⟩), undef] W (by kernel_rfl) (by kernel_rfl) rfl (HWS.out 0 _ _ (HZ0.out _ HX.out) (Below.refl _ _).drew) ⟨?_, ?_, ?_, ?_, ?_, ?_, ?_, ?_, ?_, trivial⟩ ?_
          · exact seq_head (by kernel_rfl) (HWS.out 0) fun a w C hW => op_move (.inl rfl) (C.was 1 (by kernel_rfl))
          · exact seq_head (by kernel_rfl) (HWS.out 0) fun a w C hW => op_value (load_runN rfl (C.was 3 (by kernel_rfl)) (lay_load (HF0.out _ hW))) rfl
          · exact seq_head (by kernel_rfl) (HWS.out 0) fun a w C hW => op_move (.inl rfl) (C.was 2 (by kernel_rfl))
          · exact seq_head (by kernel_rfl) (HWS.out 0) fun a w C hW => op_move (.inl rfl) (C.was 8 (by kernel_rfl))
          · exact seq_head (by kernel_rfl) (HWS.out 0) fun a w C hW => op_call3 rfl (reg_enters Tryz.func129 (by kernel_rfl) (by kernel_rfl)) (C.on (j := 1) (by kernel_rfl) rfl rfl) (C.on (j := 2) (by kernel_rfl) rfl rfl) (C.on (j := 3) (by kernel_rfl) rfl rfl) ((CK.out w).mono fun e w2 h => ⟨_, h.1, rfl, h.2⟩)
          · exact seq_head (by kernel_rfl) (HWS.out 0) fun a w C hW => op_move (.inl rfl) (C.was 9 (by kernel_rfl))
          · exact seq_head (by kernel_rfl) (HWS.out 0) fun a w C hW => op_value (nil_runN rfl (C.on (j := 0) (by kernel_rfl) rfl rfl)) rfl
          · exact seq_head (by kernel_rfl) (HWS.out 0) fun a w C hW => op_value (ixb_run rfl (C.on (j := 6) (by kernel_rfl) rfl rfl) (C.on (j := 4) (by kernel_rfl) rfl rfl) hp) rfl
          · exact seq_turn 0 (by kernel_rfl) fun a w C hW => by
                obtain ⟨⟨u, hu⟩, hf, hn⟩ := HT0.out w hW
                exact st_doesN rfl (C.on (j := 7) (by kernel_rfl) rfl rfl) (C.on (j := 5) (by kernel_rfl) rfl rfl) hu hf hn
          intro wz hz
          have HZ2 := Lib.hid (HZ1.out wz hz)
          clear hz HF0 HT0 HWS HZ1 HZ0 CK
          simp only [setAll, setAt, List.setIfInBounds_toArray, List.set_cons_succ, List.set_cons_zero]
          go_wp2
          go_roundw
          case rel => exact ⟨k + 1, by omega, by go_num, by rw [HN.out]; exact HZ2.out⟩
          case measure => simp [intOf]; omega
        · obtain rfl : k = 16 := by omega
          have hdk : decide (((16 : Nat) : Int) < 16) = false := by simp
          go_wp2
          go_end0
          exact ⟨rfl, by rw [HLN.out]; exact HX.out.rb, HX.out.kept⟩
open Go.RowKit Rot Bb Bn
def lq : List Nat := [16, 2, 2, 16]
def LAt (w : World) : Prop := 0 < w.heap.size ∧ ∀ i, i < 4 → w.cell? ⟨0, i, none⟩ = some (.int .i64 (lq.getD i 0 : Nat))
theorem LAt.below {w w' : World} {B : Nat} (h : LAt w) (hb : Below B w w') (hB : 0 < B) : LAt w' :=
  ⟨Nat.lt_of_lt_of_le h.1 hb.size, fun i hi => (hb.cell (p := ⟨0, i, none⟩) hB).trans (h.2 i hi)⟩
def TAt (w : World) : Prop := QAtN w ∧ LAt w
theorem TAt.below {w w' : World} {B : Nat} (h : TAt w) (hb : Below B w w') (h1 : 2 < B) (h2 : 0 < B) : TAt w' := ⟨h.1.below hb h1, h.2.below hb h2⟩
theorem TAt.next {w w' : World} (h : TAt w) (hb : Below w.heap.size w w') : TAt w' := h.below hb h.1.1 h.2.1
theorem lq_size : (Tryz.prog.info? 205).map (·.size) = some 4 := by kernel_rfl
theorem lq_load {w : World} (h : LAt w) : (loadVar 205 ⟨0, 0, none⟩).run Tryz.prog w = .ok (.agg (iqN lq)) w := by
  have hl : (loadCells ⟨0, 0, none⟩ (lq.map fun x : Nat => Value.int .i64 (x : Int)).length).run Tryz.prog w = .ok (lq.map fun x : Nat => Value.int .i64 (x : Int)).toArray w :=
    run_loadCells_list (P := Tryz.prog) w ⟨0, 0, none⟩ _ (fun j v hv => by
      have hadd : (⟨0, 0, none⟩ : Addr).add j = ⟨0, j, none⟩ := by unfold Addr.add; split <;> simp_all
      have hj : j < 4 := by
        have := (List.getElem?_eq_some_iff.1 hv).1
        rw [List.length_map] at this
        exact this
      rw [hadd, h.2 j hj]
      rw [List.getElem?_map, List.getElem?_eq_getElem (show j < lq.length from hj)] at hv
      rw [List.getD_eq_getElem?_getD, List.getElem?_eq_getElem (show j < lq.length from hj)]
      exact hv)
  rw [List.length_map, show lq.length = 4 from rfl] at hl
  have hz := lq_size
  cases hq : Tryz.prog.info? 205 with
  | none => rw [hq] at hz; simp at hz
  | some i =>
    have hsz : i.size = 4 := by rw [hq] at hz; simpa using hz
    simp [loadVar, Sem.run_bind, sizeOf, typeInfo, hq, hsz, hl, iqN]
theorem lq_part (t : Nat) (ht : t < 2) : (iqN lq).extract (t * 2) (t * 2 + 2) = iqN (lay t) := by
  have h : ∀ t, t < 2 → (lq.drop (t * 2)).take 2 = lay t := by decide
  rw [← h t ht]
  simp [iqN, List.map_take, List.map_drop]
theorem lq_index (w : World) (t : Nat) (ht : t < 2) : (Instr.index 205 (.agg (iqN lq)) (.int .i64 (t : Int))).run Tryz.prog w = .ok (.agg (iqN (lay t))) w := by
  have hz := lay_size
  cases hq : Tryz.prog.info? 204 with
  | none => rw [hq] at hz; simp at hz
  | some q =>
    have hsz : q.size = 2 := by rw [hq] at hz; simpa using hz
    simp [Instr.index, run_underlying Tryz.underlying205, asIntOf, ht, go_sem, sizeOf, typeInfo, hq, hsz, lq_part t ht]
theorem lay_store {w : World} {k : Nat} {C : Array Value} (hC : C.size = 2) (t : Nat) (h : RowAt w k 204 C) : (storeVar 204 ⟨k, 0, none⟩ (.agg (iqN (lay t)))).run Tryz.prog w = .ok () (w.setRow k (iqN (lay t))) := by
  obtain ⟨L, P, e, _, _, _⟩ := lay_is t
  rw [e]
  exact h.store lay_size (by rw [hC]; rfl) (iq_oneN _)
structure Wx (w wr : World) (X : List Nat) : Prop where
  rv : RowAt wr w.heap.size 83 (wq X)
  rz : RowAt wr (w.heap.size + 1) 83 (wq zb)
  below : Below w.heap.size w wr
section
variable {w wr wr' : World} {X X' : List Nat}
theorem Wx.new (w : World) (X : List Nat) : Wx w ((w.alloc (.cells (wq X) 83)).alloc (.cells (wq zb) 83)) X := by
  refine ⟨(RowAt.new w _ _).alloc _, ?_, ((Below.refl _ w).alloc (Nat.le_refl _) _).alloc (by simp) _⟩
  have h := RowAt.new (w.alloc (.cells (wq X) 83)) 83 (wq zb)
  rw [World.size_alloc] at h; exact h
theorem Wx.lt (h : Wx w wr X) : w.heap.size + 2 ≤ wr.heap.size := h.rz.lt
theorem Wx.step (h : Wx w wr X) (hb : Below wr.heap.size wr wr') : Wx w wr' X :=
  ⟨h.rv.below hb h.rv.lt, h.rz.below hb h.rz.lt, h.below.trans (hb.mono h.below.size)⟩
theorem Wx.turn (h : Wx w wr X) (hr : RowAt wr' w.heap.size 83 (wq X')) (hk : Kept (fun x => x = w.heap.size) wr wr') : Wx w wr' X' :=
  ⟨hr, (hk.block _ h.rz.lt (by simp)).trans h.rz, h.below.trans (hk.below h.below.size fun x hx => by rw [hx]; exact Nat.le_refl _)⟩
end
set_option maxHeartbeats 3200000 in
theorem whole_anyN {B : List Nat} (hB : okb B) (w : World) (ht : TAt w) :
    Calls Tryz.prog 109 #[.agg (wq B)] w fun e w' => e = .returned (.agg (wq (whole B))) ∧ Below w.heap.size w w' := by
  have HB := Lib.hid hB
  have HD := Lib.hid (Wx.new w B)
  have HT := Lib.hid ht
  have HG := Lib.hid (show w.heap.size ≠ 2 from fun e => by have := ht.1.1; omega)
  have HTL := Lib.hid (lq_load (ht.2.below (Wx.new w B).below ht.2.1))
  have hz := zero_b
  clear hB ht
  go_enter Tryz.func109, Tryz.ntmps109
  go_wp2_with (refine wpList_load_of rfl 205 (.global 0) rfl ⟨0, 0, none⟩ _ rfl HTL.out ?_)
  generalize hW0 : World.alloc _ _ = w0
  have HX0 : Hid (Wx w w0 B) := Lib.hid (by subst hW0; exact HD.out)
  clear hW0 HD HTL
  go_loopw [7] (fun v7 wr => ∃ t : Nat, t ≤ 2 ∧ v7 = .int .i64 (t : Int) ∧ Wx w wr (sides B t)) (fun v7 _ => 2 - (intOf v7).toNat)
  case atStart => exact ⟨0, by omega, rfl, HX0.out⟩
  case round =>
    clear HX0
    obtain ⟨t, ht, rfl, X⟩ := hrel
    have HX := Lib.hid X
    clear X
    by_cases h2 : t < 2
    · have hdt : decide ((t : Int) < 2) = true := by simp; omega
      have hix := lq_index wr t h2
      have HN : Hid (sides B (t + 1) = linTo (sides B t) t 8) := Lib.hid rfl
      have HXO := Lib.hid (sides_okb HB.out t)
      generalize sides B t = X at *
      obtain ⟨b4, hb4⟩ : ∃ b, b = wr.heap.size := ⟨_, rfl⟩
      have HR4 := Lib.hid (RowAt.new wr 204 (iqN [0, 0]))
      have HX4 : Hid (Wx w ((wr.alloc (.cells (iqN [0, 0]) 204)).setRow wr.heap.size (iqN (lay t))) X) := Lib.hid (HX.out.step (below_setRow ((Below.refl _ wr).alloc (Nat.le_refl _) _) (Nat.le_refl _) _))
      have HR5 := Lib.hid (HR4.out.setRow (iqN (lay t)))
      go_wp2_with (refine wpList_store_of rfl _ _ _ rfl ⟨wr.heap.size, 0, none⟩ _ rfl rfl (lay_store rfl t HR4.out) ?_)
      rw [← hb4] at HX4 HR5 ⊢
      have HR6 : Hid (RowAt (World.setRow (wr.alloc (.cells (iqN [0, 0]) 204)) b4 (iqN (lay t))) b4 204 (iqN (lay t))) := HR5
      have HB4 : Hid (w.heap.size + 2 ≤ b4) := Lib.hid (by rw [hb4]; exact HX.out.lt)
      generalize hW1 : World.setRow _ _ _ = w1
      have HX5 : Hid (Wx w w1 (linTo X t 0) ∧ RowAt w1 b4 204 (iqN (lay t))) := Lib.hid (by subst hW1; exact ⟨HX4.out, HR6.out⟩)
      clear hW1 HX4 HR5 HR6 HR4 HX hb4
      go_wp2
      obtain ⟨wo, rfl⟩ : ∃ wo : World, wo = wr := ⟨_, rfl⟩
      go_loopw [10] (fun v10 wr => ∃ i : Nat, i ≤ 8 ∧ v10 = .int .i64 (i : Int) ∧ Wx w wr (linTo X t i) ∧ RowAt wr b4 204 (iqN (lay t))) (fun v10 _ => 8 - (intOf v10).toNat)
      case atStart => exact ⟨0, by omega, rfl, HX5.out⟩
      case round =>
        clear HX5
        obtain ⟨i, hi, rfl, X1, X2⟩ := hrel
        have HX := Lib.hid X1
        have HR := Lib.hid X2
        clear X1 X2
        by_cases h8 : i < 8
        · have hdk : decide ((i : Int) < 8) = true := by simp; omega
          have HM : Hid (linTo X t (i + 1) = line (linTo X t i) t i) := Lib.hid rfl
          have CL := Lib.hid (line_any t i h8 w.heap.size (linTo_okb HXO.out t i) wr HX.out.rv (HT.out.1.below HX.out.below HT.out.1.1) HG.out)
          generalize linTo X t i = Y at *
          obtain ⟨L, P, hLP, _, _, _⟩ := lay_is t
          rw [hLP] at CL HR
          have HLP := Lib.hid hLP
          clear hLP
          go_wp2_with (refine wpList_load_of rfl 204 _ rfl ⟨b4, 0, none⟩ _ rfl (lay_load HR.out) ?_)
          refine CL.out.mono ?_
          rintro e w2 ⟨rfl, hr2, hk2⟩
          have HX2 := Lib.hid (HX.out.turn hr2 hk2)
          have HR2 : Hid (RowAt w2 b4 204 (iqN [L, P])) := Lib.hid ((hk2.block _ HR.out.lt (by have := HB4.out; omega)).trans HR.out)
          clear hr2 hk2 HX HR CL
          go_wp2
          go_roundw
          case rel => exact ⟨i + 1, by omega, by go_num, by rw [HM.out]; exact HX2.out, by rw [HLP.out]; exact HR2.out⟩
          case measure => simp [intOf]; omega
        · obtain rfl : i = 8 := by omega
          have hdk : decide (((8 : Nat) : Int) < 8) = false := by simp
          go_wp2
          go_roundw
          case rel => exact ⟨t + 1, by omega, by go_num, by rw [HN.out]; exact HX.out⟩
          case measure => simp [intOf]; omega
    · obtain rfl : t = 2 := by omega
      have hdt : decide (((2 : Nat) : Int) < 2) = false := by simp
      have hX8 : Wx w wr (whole B) := HX.out
      have HLL : Hid ((wq (whole B)).size = 128) := Lib.hid (by rw [wq_size]; exact (whole_ok HB.out).1)
      have RV := Lib.hid hX8.rv
      have RZ := Lib.hid hX8.rz
      have HBB := Lib.hid hX8.below
      clear hX8 HX
      obtain ⟨z, hzz⟩ : ∃ z, z = whole B := ⟨_, rfl⟩
      rw [← hzz] at RV HLL
      have HZZ := Lib.hid hzz
      clear hzz
      go_wp2_with (first
        | refine wpList_load_row rfl 83 (.tmp 1) rfl w.heap.size rfl 83 (wq z) (0, 0) _ RV.out Tryz.underlying83 rfl (by rw [HLL.out]; exact b_size) ?_
        | refine wpList_store_row rfl 83 (.tmp 2) (.tmp 18) rfl (w.heap.size + 1) (wq z) rfl rfl 83 _ RZ.out (by rw [HLL.out]; exact b_size) (by rw [HLL.out]; rfl) (wq_one _) ?_)
      have hR := RowAt.setRow RZ.out (wq z)
      refine bodyPost_ret (v := .agg (wq z)) (results_cell_row rfl _ _ (w.heap.size + 1) 83 (wq z) (0, 0) _ rfl hR Tryz.underlying83 rfl (by rw [HLL.out]; exact b_size)) rfl ⟨by rw [HZZ.out], ?_⟩
      exact below_setRow HBB.out (by omega) _
end Go.Proofs.YtfoodaobiknihaaGreatDoor

/- The document's Of by its contract. Conditions: those typed. -/
import Derived.Test.YtgjaamiileoknaaPlCols
namespace Go.Proofs.Ytgjaamiileoknaa
set_option maxRecDepth 50000
open Go.RowKit

theorem ixi_run {w : World} {b i n c off : Nat} {ev : Operand → Value} {x y : Operand} {o : Oper} (hop : o.op = .indexAddr 41 x y) (hx : ev x = .slice (some ⟨b, off, none⟩) n c) (hy : ev y = .int .i64 (i : Int)) (hi : i < n) : (execOp ev o).run Try.prog w = .ok (.value (.pointer (some ⟨b, off + i, none⟩))) w := by
  have h1 : (i : Int) < (n : Int) := by omega
  simp [execOp, hop, hx, hy, go_sem, h1]
theorem mod_once {v c : Nat} (h : v < 2 * c) : v % c = if c ≤ v then v - c else v := by
  by_cases hc : c ≤ v
  · rw [if_pos hc, Nat.mod_eq_sub_mod hc, Nat.mod_eq_of_lt (by omega)]
  · rw [if_neg hc, Nat.mod_eq_of_lt (by omega)]
theorem fst_at (F : Nat → Nat) (n k : Nat) (h : k < n) : (fst F n)[k]? = some (F k) := by simp [fst, h]
theorem al_length (c g p s i : Nat) (O : Bool) : (alL c g p s i O).length = bsN c g p s + (if O = true then i else 0) := by
  cases O <;> simp [alL, fst_length]
theorem rsp_agg (w : World) : (isAgg 33).run Try.prog w = .ok true w := by
  unfold isAgg
  rw [Sem.run_bind, run_underlying Try.underlying33 w]
  rfl
theorem rsp_size : (Try.prog.info? 33).map (·.size) = some 8 := by kernel_rfl
theorem rsp_load {w : World} {k : Nat} {a t l m b c g z : Nat} (h : RowAt w k 33 (spc a t l m b c g z)) : (loadVar 33 ⟨k, 0, none⟩).run Try.prog w = .ok (spv a t l m b c g z) w :=
  sub_load h rsp_agg rsp_size 0 (spc a t l m b c g z).toList rfl fun j v h => by simpa using h
section
variable {t l c g p s k i : Nat}
theorem co_count (O : Bool) (A : Nat) (hA : A + (if O = true then 1 else if i = 0 then 1 else 0) = bsN c g p s + (if O = true then i else 0)) : (coL c g p s i O).length = A := by
  have h := al_length c g p s i O
  unfold coL
  cases O
  · by_cases h0 : i = 0
    · rw [if_pos (.inr h0), List.length_take, h]
      simp [h0] at hA ⊢
      omega
    · rw [if_neg (by simp; exact h0), h]
      simp [h0] at hA ⊢
      omega
  · rw [if_pos (.inl rfl), List.length_take, h]
    simp at hA ⊢
    omega
theorem co_at (c g p s i : Nat) (O : Bool) (y : Nat) (h : y < (coL c g p s i O).length) : (coL c g p s i O)[y]? = (alL c g p s i O)[y]? := by
  unfold coL at h ⊢
  split
  · rename_i hc
    rw [if_pos hc, List.length_take] at h
    rw [List.getElem?_take, if_pos (by omega)]
  · rfl
theorem Ref.column (R : Ref t l c g p s k i) (O : Bool) (A y : Nat) (hA : A + (if O = true then 1 else if i = 0 then 1 else 0) = bsN c g p s + (if O = true then i else 0)) (hy : y < A) : (coL c g p s i O)[y]? = some (colN c g p s y) := by
  rw [co_at c g p s i O y (by rw [co_count O A hA]; exact hy)]
  obtain ⟨h1, h2, h3, h4, h5, h6⟩ := R.times
  have hg := R.g2
  have hc := R.cg
  have hs := R.s3
  have hi := R.ig
  have hF : frN g p s = if p = 0 ∨ s = 3 then 0 else s * g + g := by unfold frN; rw [h2]
  unfold alL colN
  by_cases hyB : y < bsN c g p s
  · rw [List.getElem?_append_left (by rw [fst_length]; exact hyB), fst_at _ _ _ hyB]
    congr 1
    unfold baF
    unfold bsN at hyB
    generalize s * g = x at *
    generalize frN g p s = F at *
    by_cases hp : p = 0
    · rw [if_pos hp] at hyB ⊢
      rw [if_pos (.inl hp)] at hF
      rw [if_neg (by omega)]; omega
    · rw [if_neg hp] at hyB ⊢
      rw [mod_once (by omega)]
      by_cases h3 : s = 3
      · have h4 := h4 h3
        rw [if_pos (.inr h3)] at hF
        rw [if_pos (by omega), if_neg (by omega)]; omega
      · have h6 := h6 (by omega)
        rw [if_neg (by omega)] at hF
        subst hF
        rfl
  · cases O
    · exfalso
      simp at hA
      omega
    · simp at hA
      rw [List.getElem?_append_right (by rw [fst_length]; omega), fst_length, if_pos rfl, fst_at _ _ _ (by omega)]
      congr 1
      unfold bsN at hyB hA ⊢
      generalize s * g = x at *
      generalize frN g p s = F at *
      by_cases hp : p = 0
      · rw [if_pos hp] at hyB hA ⊢
        rw [if_pos (.inl hp)] at hF
        rw [if_neg (by omega)]; omega
      · rw [if_neg hp] at hyB hA ⊢
        by_cases h3 : s = 3
        · have h4 := h4 h3
          rw [if_pos (.inr h3)] at hF
          rw [if_neg (by omega)]; omega
        · have h6 := h6 (by omega)
          rw [if_neg (by omega)] at hF
          rw [if_pos (by omega)]; omega
/-- Columns, where there is a block that refers -/
theorem Ref.cols (R : Ref t l c g p s k i) (hc : c ≤ 400) (O : Bool) (A : Nat) (hA : A + (if O = true then 1 else if i = 0 then 1 else 0) = bsN c g p s + (if O = true then i else 0)) (h2 : p = 0 → s = 0 → O = true ∨ 1 ≤ i) (a b m z : Nat) (w : World) :
    Calls Try.prog 11 #[spv a t l m b c g z, .int .i64 (p : Int), .int .i64 (s : Int), .int .i64 (i : Int), .bool O] w fun e w' =>
      ∃ B cp, e = .returned (.slice B A cp) ∧ Reads w' w'.heap.size B (nts (coL c g p s i O)) ∧ Below w.heap.size w w' := by
  have hcg := R.cg
  have hg := R.g2
  have hi := R.ig
  have H := columns_any a t l m b c g z p s i O (by omega) (by omega) hc R.s3 (by omega) (fun h => by
    rw [al_length]
    obtain ⟨t1, t2, t3, t4, t5, t6⟩ := R.times
    have hb : p = 0 → s = 0 → O = true := fun hp hs => by
      rcases h2 hp hs with h2 | h2
      · exact h2
      · rcases h with h | h
        · exact h
        · omega
    have hb2 := R.two
    have : 1 ≤ bsN c g p s + (if O = true then i else 0) := by
      unfold bsN
      by_cases hp : p = 0
      · rw [if_pos hp]
        by_cases hs : s = 0
        · rw [if_pos (hb hp hs)]
          have := hb2 hp hs
          omega
        · have := t5 (by omega)
          omega
      · rw [if_neg hp]
        omega
    exact this) w
  rw [co_count O A hA] at H
  exact H
end

set_option maxHeartbeats 3200000 in
theorem rof_walk (a t l m b c g z p s k i J K L A y C : Nat) (O : Bool) (hl1 : 1 ≤ l) (hK : K < 4294967296) (hJ : J < 4294967296) (hA1 : 1 ≤ A) (hA2 : A ≤ 400)
    (hL : lnN l p s k K = L) (hO : decide (L = k) = O) (hy : piN A J = y) (M : List Nat) (hM : M.length = A) (hC : M[y]? = some C)
    (CC : ∀ w, Calls Try.prog 11 #[spv a t l m b c g z, .int .i64 (p : Int), .int .i64 (s : Int), .int .i64 (i : Int), .bool O] w fun e w' => ∃ B cp, e = .returned (.slice B A cp) ∧ Reads w' w'.heap.size B (nts M) ∧ Below w.heap.size w w') (w : World) :
    Calls Try.prog 10 #[spv a t l m b c g z, .int .i64 (p : Int), .int .i64 (s : Int), .int .i64 (k : Int), .int .i64 (i : Int), .int .u32 (J : Int), .int .u32 (K : Int)] w fun e w' => e = .returned (.tuple #[.int .i64 (L : Int), .int .i64 (C : Int)]) ∧ Below w.heap.size w w' := by
  have HB := Lib.hid (one_box w (.cells (spc a t l m b c g z) 33))
  have HR := Lib.hid (RowAt.new w 33 (spc a t l m b c g z))
  have CC := Lib.hid CC
  have CP := Lib.hid fun w => calls_same (rpick_any A J hA1 (by omega) hJ w)
  rw [hy] at CP
  have hyA : y < A := by rw [← hy]; exact pi_lt hA1
  have HC := Lib.hid (And.intro hM hC)
  obtain ⟨Q, hQ⟩ : ∃ Q, K % l = Q := ⟨_, rfl⟩
  have hQl : Q < l := by rw [← hQ]; exact Nat.mod_lt _ (by omega)
  have l0 : ¬ l = 0 := by omega
  have e1 : Int.tmod (K : Int) (l : Int) = (Q : Int) := by rw [Int.tmod_eq_emod_of_nonneg (by omega), ← hQ]; rfl
  have e2 : (K : Int) % (l : Int) = (Q : Int) := by rw [← hQ]; rfl
  have heq : decide ((L : Int) = (k : Int)) = O := by
    rw [← hO]
    by_cases h : L = k
    · rw [decide_eq_true h, decide_eq_true (by omega)]
    · rw [decide_eq_false h, decide_eq_false (by omega)]
  have hbq : ((L : Int) == (k : Int)) = O := heq
  clear hy hM hC hO
  by_cases h0 : p = 0 ∧ s = 0
  · have hLk : L = k := by rw [← hL, lnN, if_pos h0]
    obtain ⟨rfl, rfl⟩ := h0
    subst hLk
    have hO : O = true := by rw [← heq]; simp
    subst hO
    clear hL hQ heq hbq
    go_enter Try.func10, Try.ntmps10
    go_wp2_with (refine wpList_load_want rfl 33 _ rfl _ _ rfl (rsp_load HR.out) ?_)
    refine (CC.out _).mono ?_
    rintro e w2 ⟨B, cp, rfl, HRD, hb⟩
    obtain ⟨bb, off, rfl, hbb, hv⟩ := HRD y (by rw [nts_length, HC.out.1]; exact hyA)
    have HV : Hid (w2.cell? ⟨bb, off + y, none⟩ = some (.int .i64 (C : Int))) := Lib.hid (by
      rw [hv, nts_at]
      have h1 := HC.out.2
      obtain ⟨h2, h3⟩ := List.getElem?_eq_some_iff.1 h1
      rw [h3])
    have HB2 := Lib.hid (HB.out.trans (hb.mono HB.out.size))
    clear hb CC HB HR HRD hv HC
    go_wp2_with fail
    refine wp_region_text [Is (.int .i64 (L : Int)), Is (.slice (some ⟨bb, off, none⟩) A cp), Is (.slice (some ⟨bb, off, none⟩) A cp), Is (.int .i64 (A : Int)), Is (.int .u32 (J : Int)), Is (.int .i64 (y : Int)), Is (.pointer (some ⟨bb, off + y, none⟩)), Is (.int .i64 (C : Int)), Is (.int .i64 (L : Int)), Is (.int .i64 (C : Int))] (by kernel_rfl) (by kernel_rfl) rfl ⟨stable_is _, stable_is _, stable_is _, stable_is _, stable_is _, stable_is _, stable_is _, stable_is _, stable_is _, stable_is _, trivial⟩ ⟨?_, ?_, ?_, ?_, ?_, ?_, ?_, ?_, ?_, ?_, trivial⟩ ?_
    · intro a w C0
      exact part_on (wanted_free rfl _) (op_move (.inl rfl) (C0.was 16 (by kernel_rfl)))
    · intro a w C0
      exact part_on (wanted_free rfl _) (op_move (.inl rfl) (C0.was 17 (by kernel_rfl)))
    · intro a w C0
      exact part_on (wanted_free rfl _) (op_move (.inl rfl) (C0.was 17 (by kernel_rfl)))
    · intro a w C0
      exact part_on (wanted_free rfl _) (op_len_slice rfl Try.underlying41 (C0.on (j := 2) (by kernel_rfl) rfl rfl) rfl)
    · intro a w C0
      exact part_on (wanted_free rfl _) (op_move (.inl rfl) (C0.was 5 (by kernel_rfl)))
    · intro a w C0
      exact part_on (wanted_free rfl _) (op_call2 rfl (reg_enters Try.func18 (by kernel_rfl) (by kernel_rfl)) (C0.on (j := 3) (by kernel_rfl) rfl rfl) (C0.on (j := 4) (by kernel_rfl) rfl rfl) (CP.out w))
    · intro a w C0
      exact part_on (wanted_free rfl _) (op_value (ixi_run rfl (C0.on (j := 1) (by kernel_rfl) rfl rfl) (C0.on (j := 5) (by kernel_rfl) rfl rfl) hyA) rfl)
    · intro a w C0
      exact part_on (wanted_free rfl _) (op_value (int_run rfl (C0.on (j := 6) (by kernel_rfl) rfl rfl) ((C0.below.cell (p := ⟨bb, off + y, none⟩) hbb).trans HV.out)) rfl)
    · intro a w C0
      exact part_on (wanted_free rfl _) (op_move (.inr rfl) (C0.on (j := 0) (by kernel_rfl) rfl rfl))
    · intro a w C0
      exact part_on (wanted_free rfl _) (op_move (.inr rfl) (C0.on (j := 7) (by kernel_rfl) rfl rfl))
    rintro wF hbF _ rfl _ rfl _ rfl _ rfl _ rfl _ rfl _ rfl _ rfl _ rfl _ rfl
    simp only [Fin, setAt, Exit.then, List.setIfInBounds_toArray, List.set_cons_succ, List.set_cons_zero]
    have HBF := Lib.hid (HB2.out.trans (hbF.mono HB2.out.size))
    clear hbF HB2 HV CP
    go_wp2
    go_ret2
    exact ⟨rfl, HBF.out⟩
  · have hLQ : Q = L := by rw [← hL, lnN, if_neg h0, hQ]
    subst hLQ
    have hz : ((p : Int) == 0 && (s : Int) == 0) = false := by
      rcases (show ¬ p = 0 ∨ ¬ s = 0 by omega) with h | h
      · rw [show ((p : Int) == 0) = false by simp; omega]; rfl
      · rw [show ((s : Int) == 0) = false by simp; omega, Bool.and_false]
    clear hL hQ
    by_cases hp : p = 0
    · have hs : ¬ s = 0 := fun hs => h0 ⟨hp, hs⟩
      subst hp
      clear h0 hz
      go_enter Try.func10, Try.ntmps10
      go_wp2_with (refine wpList_load_want rfl 33 _ rfl _ _ rfl (rsp_load HR.out) ?_)
      refine (CC.out _).mono ?_
      rintro e w2 ⟨B, cp, rfl, HRD, hb⟩
      obtain ⟨bb, off, rfl, hbb, hv⟩ := HRD y (by rw [nts_length, HC.out.1]; exact hyA)
      have HV : Hid (w2.cell? ⟨bb, off + y, none⟩ = some (.int .i64 (C : Int))) := Lib.hid (by
        rw [hv, nts_at]
        have h1 := HC.out.2
        obtain ⟨h2, h3⟩ := List.getElem?_eq_some_iff.1 h1
        rw [h3])
      have HB2 := Lib.hid (HB.out.trans (hb.mono HB.out.size))
      clear hb CC HB HR HRD hv HC
      go_wp2_with fail
      refine wp_region_text [Is (.int .i64 (Q : Int)), Is (.slice (some ⟨bb, off, none⟩) A cp), Is (.slice (some ⟨bb, off, none⟩) A cp), Is (.int .i64 (A : Int)), Is (.int .u32 (J : Int)), Is (.int .i64 (y : Int)), Is (.pointer (some ⟨bb, off + y, none⟩)), Is (.int .i64 (C : Int)), Is (.int .i64 (Q : Int)), Is (.int .i64 (C : Int))] (by kernel_rfl) (by kernel_rfl) rfl ⟨stable_is _, stable_is _, stable_is _, stable_is _, stable_is _, stable_is _, stable_is _, stable_is _, stable_is _, stable_is _, trivial⟩ ⟨?_, ?_, ?_, ?_, ?_, ?_, ?_, ?_, ?_, ?_, trivial⟩ ?_
      · intro a w C0
        exact part_on (wanted_free rfl _) (op_move (.inl rfl) (C0.was 16 (by kernel_rfl)))
      · intro a w C0
        exact part_on (wanted_free rfl _) (op_move (.inl rfl) (C0.was 17 (by kernel_rfl)))
      · intro a w C0
        exact part_on (wanted_free rfl _) (op_move (.inl rfl) (C0.was 17 (by kernel_rfl)))
      · intro a w C0
        exact part_on (wanted_free rfl _) (op_len_slice rfl Try.underlying41 (C0.on (j := 2) (by kernel_rfl) rfl rfl) rfl)
      · intro a w C0
        exact part_on (wanted_free rfl _) (op_move (.inl rfl) (C0.was 5 (by kernel_rfl)))
      · intro a w C0
        exact part_on (wanted_free rfl _) (op_call2 rfl (reg_enters Try.func18 (by kernel_rfl) (by kernel_rfl)) (C0.on (j := 3) (by kernel_rfl) rfl rfl) (C0.on (j := 4) (by kernel_rfl) rfl rfl) (CP.out w))
      · intro a w C0
        exact part_on (wanted_free rfl _) (op_value (ixi_run rfl (C0.on (j := 1) (by kernel_rfl) rfl rfl) (C0.on (j := 5) (by kernel_rfl) rfl rfl) hyA) rfl)
      · intro a w C0
        exact part_on (wanted_free rfl _) (op_value (int_run rfl (C0.on (j := 6) (by kernel_rfl) rfl rfl) ((C0.below.cell (p := ⟨bb, off + y, none⟩) hbb).trans HV.out)) rfl)
      · intro a w C0
        exact part_on (wanted_free rfl _) (op_move (.inr rfl) (C0.on (j := 0) (by kernel_rfl) rfl rfl))
      · intro a w C0
        exact part_on (wanted_free rfl _) (op_move (.inr rfl) (C0.on (j := 7) (by kernel_rfl) rfl rfl))
      rintro wF hbF _ rfl _ rfl _ rfl _ rfl _ rfl _ rfl _ rfl _ rfl _ rfl _ rfl
      simp only [Fin, setAt, Exit.then, List.setIfInBounds_toArray, List.set_cons_succ, List.set_cons_zero]
      have HBF := Lib.hid (HB2.out.trans (hbF.mono HB2.out.size))
      clear hbF HB2 HV CP
      go_wp2
      go_ret2
      exact ⟨rfl, HBF.out⟩
    · clear h0 hz
      go_enter Try.func10, Try.ntmps10
      go_wp2_with (refine wpList_load_want rfl 33 _ rfl _ _ rfl (rsp_load HR.out) ?_)
      refine (CC.out _).mono ?_
      rintro e w2 ⟨B, cp, rfl, HRD, hb⟩
      obtain ⟨bb, off, rfl, hbb, hv⟩ := HRD y (by rw [nts_length, HC.out.1]; exact hyA)
      have HV : Hid (w2.cell? ⟨bb, off + y, none⟩ = some (.int .i64 (C : Int))) := Lib.hid (by
        rw [hv, nts_at]
        have h1 := HC.out.2
        obtain ⟨h2, h3⟩ := List.getElem?_eq_some_iff.1 h1
        rw [h3])
      have HB2 := Lib.hid (HB.out.trans (hb.mono HB.out.size))
      clear hb CC HB HR HRD hv HC
      go_wp2_with fail
      refine wp_region_text [Is (.int .i64 (Q : Int)), Is (.slice (some ⟨bb, off, none⟩) A cp), Is (.slice (some ⟨bb, off, none⟩) A cp), Is (.int .i64 (A : Int)), Is (.int .u32 (J : Int)), Is (.int .i64 (y : Int)), Is (.pointer (some ⟨bb, off + y, none⟩)), Is (.int .i64 (C : Int)), Is (.int .i64 (Q : Int)), Is (.int .i64 (C : Int))] (by kernel_rfl) (by kernel_rfl) rfl ⟨stable_is _, stable_is _, stable_is _, stable_is _, stable_is _, stable_is _, stable_is _, stable_is _, stable_is _, stable_is _, trivial⟩ ⟨?_, ?_, ?_, ?_, ?_, ?_, ?_, ?_, ?_, ?_, trivial⟩ ?_
      · intro a w C0
        exact part_on (wanted_free rfl _) (op_move (.inl rfl) (C0.was 16 (by kernel_rfl)))
      · intro a w C0
        exact part_on (wanted_free rfl _) (op_move (.inl rfl) (C0.was 17 (by kernel_rfl)))
      · intro a w C0
        exact part_on (wanted_free rfl _) (op_move (.inl rfl) (C0.was 17 (by kernel_rfl)))
      · intro a w C0
        exact part_on (wanted_free rfl _) (op_len_slice rfl Try.underlying41 (C0.on (j := 2) (by kernel_rfl) rfl rfl) rfl)
      · intro a w C0
        exact part_on (wanted_free rfl _) (op_move (.inl rfl) (C0.was 5 (by kernel_rfl)))
      · intro a w C0
        exact part_on (wanted_free rfl _) (op_call2 rfl (reg_enters Try.func18 (by kernel_rfl) (by kernel_rfl)) (C0.on (j := 3) (by kernel_rfl) rfl rfl) (C0.on (j := 4) (by kernel_rfl) rfl rfl) (CP.out w))
      · intro a w C0
        exact part_on (wanted_free rfl _) (op_value (ixi_run rfl (C0.on (j := 1) (by kernel_rfl) rfl rfl) (C0.on (j := 5) (by kernel_rfl) rfl rfl) hyA) rfl)
      · intro a w C0
        exact part_on (wanted_free rfl _) (op_value (int_run rfl (C0.on (j := 6) (by kernel_rfl) rfl rfl) ((C0.below.cell (p := ⟨bb, off + y, none⟩) hbb).trans HV.out)) rfl)
      · intro a w C0
        exact part_on (wanted_free rfl _) (op_move (.inr rfl) (C0.on (j := 0) (by kernel_rfl) rfl rfl))
      · intro a w C0
        exact part_on (wanted_free rfl _) (op_move (.inr rfl) (C0.on (j := 7) (by kernel_rfl) rfl rfl))
      rintro wF hbF _ rfl _ rfl _ rfl _ rfl _ rfl _ rfl _ rfl _ rfl _ rfl _ rfl
      simp only [Fin, setAt, Exit.then, List.setIfInBounds_toArray, List.set_cons_succ, List.set_cons_zero]
      have HBF := Lib.hid (HB2.out.trans (hbF.mono HB2.out.size))
      clear hbF HB2 HV CP
      go_wp2
      go_ret2
      exact ⟨rfl, HBF.out⟩
end Go.Proofs.Ytgjaamiileoknaa

/- The law BlockXors by the calls' contracts. No condition. -/
import Derived.Test.YtnolgjbehnjomaaBbRows
import Derived.Test.YtnolgjbehnjomaaBbLawB
namespace Go.Proofs.Ytnolgjbehnjomaa
set_option maxRecDepth 50000
open Go.RowKit Bb

theorem op_made {P : Program} {o : Oper} {a : Act} {w w' : World} {Q : Exit → Act → World → Prop} {p : Value → World → Prop} {v : Value} (h : (execOp a.eval o).run P w = .ok (.value v) w') (hp : p v w') (hb : Below w.heap.size w w') : Does P p o a w Q := by
  unfold Does Oper.wp
  rw [h]
  exact ⟨v, rfl, hp, hb⟩
theorem turns_value {P : Program} {o : Oper} {a : Act} {w0 w w' : World} {Q : Exit → Act → World → Prop} {p : Value → World → Prop} {v : Value} (h : (execOp a.eval o).run P w = .ok (.value v) w') (hp : p v w') (hb : Below w0.heap.size w0 w') : Turns P p o a w0 w Q := by
  unfold Turns Oper.wp
  rw [h]
  exact ⟨v, rfl, hp, hb⟩
theorem op_append {P : Program} {o : Oper} {a : Act} {w w' : World} {x y : Operand} {t : TypeId} {v1 v2 v : Value} (ho : o.op = .call { callee := .builtin .append, args := #[x, y], argTypes := #[t, t] }) (hx : a.eval x = v1) (hy : a.eval y = v2) (hr : (Builtin.append_ #[t, t] o.type #[v1, v2]).run P w = .ok v w') : (execOp a.eval o).run P w = .ok (.value v) w' := by
  simp only [execOp, ho, resolve, invoke, builtin, Sem.run_bind, Sem.run_pure, Result.andThen_ok, List.map_toArray, List.map_cons, List.map_nil, hx, hy, hr]
theorem build_none_run {w : World} {ev : Operand → Value} {o : Oper} (hop : o.op = .buildSlice 22 0 #[]) : (execOp ev o).run Try.prog w = .ok (.value (.slice (some ⟨w.heap.size, 0, none⟩) 0 0)) (w.alloc (.cells #[] 26)) := by
  simp only [execOp, hop, Array.map_empty, Sem.run_bind, build_none, Result.andThen_ok, Sem.run_pure]
theorem build_one_run {w : World} {ev : Operand → Value} {x : Operand} {o : Oper} {z : List Nat} (hz : z.length = 128) (hop : o.op = .buildSlice 22 1 #[(0, x)]) (hx : ev x = .agg (wq z)) : (execOp ev o).run Try.prog w = .ok (.value (.slice (some ⟨w.heap.size, 0, none⟩) 1 1)) (w.alloc (.cells (wq z) 26)) := by
  simp only [execOp, hop, List.map_toArray, List.map_cons, List.map_nil, hx, Sem.run_bind, build_one w hz, Result.andThen_ok, Sem.run_pure]

set_option maxHeartbeats 6400000 in
theorem xors19_few {l : List (List Nat)} (ho : ∀ b ∈ l, okb b) (A : Option Addr) (c : Nat) (hl : l.length ≤ 20) (w : World) (hr : Reads w w.heap.size A (bcs l)) :
    Calls Try.prog 3 #[.slice A l.length c] w fun e w' => e = .returned (.bool true) ∧ Below w.heap.size w w' := by
  have d20 : decide ((l.length : Int) > 20) = false := by simp; omega
  have CA := Lib.hid awake19_any
  have HO := Lib.hid ho
  have HR := Lib.hid hr
  have HLN : Hid (l.length ≤ 1000000) := Lib.hid (by omega)
  have hz0 := zero_b
  have HLL := Lib.hid hl
  clear ho hr
  go_enter Try.func3, Try.ntmps3
  go_wp2_with fail
  refine (CA.out _).mono ?_
  rintro e w1 ⟨rfl, hb1⟩
  have B1 := Lib.hid hb1
  clear hb1 CA
  go_wp2
  go_loopw [3, 5, 14] (fun v3 _ v14 wr => ∃ i : Nat, i ≤ l.length ∧ v14 = .int .i64 (i : Int) ∧ v3 = .bool (clB (l.take i)) ∧ Hid (Below w.heap.size w wr)) (fun _ _ v14 _ => l.length - (intOf v14).toNat)
  case atStart => exact ⟨0, by omega, rfl, rfl, B1⟩
  case round =>
    obtain ⟨i, hi, rfl, rfl, BR⟩ := hrel
    by_cases h : i < l.length
    · have hdt : decide ((i : Int) < (l.length : Int)) = true := by simp; omega
      have hi0 : (0 : Int) ≤ (i : Int) := by omega
      have hi1 : (i : Int) < (l.length : Int) := by omega
      obtain ⟨b, off, rfl, hbB, hrd⟩ := reads_b (HR.out.below BR.out) HO.out i h
      have hbl := block_ok HO.out i h
      have HLD := Lib.hid (load_b hbl.1 hrd)
      have HT := Lib.hid (clB_take l i h)
      have HBL := Lib.hid hbl
      have HSZ : Hid ((wq (l.getD i [])).size = 128) := Lib.hid (by rw [wq_size]; exact hbl.1)
      clear hrd hbl hbB
      generalize l.getD i [] = x at *
      have HNB := Lib.hid (newb wr x)
      have B2 := Lib.hid (BR.out.trans (HNB.out.2.mono BR.out.size))
      obtain ⟨dz, hdz⟩ : ∃ d, decide (x = zb) = d := ⟨_, rfl⟩
      have HD := Lib.hid hdz
      rw [hdz] at HT
      clear hdz
      obtain ⟨ck, hck⟩ : ∃ d, clB (l.take i) = d := ⟨_, rfl⟩
      rw [hck] at HT ⊢
      clear hck
      cases ck <;> cases dz
      all_goals
        go_wp2_with (first
          | refine wpList_load_of rfl 26 (.tmp 16) rfl ⟨b, off + i * 128, none⟩ _ rfl HLD.out ?_
          | refine wpList_store_row rfl 26 (.tmp 5) (.tmp 17) rfl wr.heap.size (wq x) rfl rfl 26 _ (RowAt.new _ _ _) (by rw [HSZ.out]; exact b_size) (by rw [HSZ.out]; rfl) (wq_one _) ?_
          | refine wpList_value_want rfl _ (bload_run rfl rfl HNB.out.1 HSZ.out) ?_
          | refine wpList_value_want rfl _ (bbuild_run _ _ rfl) ?_
          | refine wpList_value_want rfl _ (beql_run _ HBL.out zb_ok HD.out _ _ _ rfl rfl rfl) ?_)
        go_roundw
        case rel => exact ⟨i + 1, by omega, by go_num, by rw [HT.out]; rfl, B2⟩
        case measure => simp [intOf]; omega
    · obtain rfl : i = l.length := by omega
      have hdt : decide ((l.length : Int) < (l.length : Int)) = false := by simp
      rw [List.take_length]
      obtain ⟨k, hk⟩ : ∃ k, k = clB l := ⟨_, rfl⟩
      rw [← hk]
      have hrw := (HR.out.below BR.out).more BR.out.size
      have CX := Lib.hid (xor_any HO.out A c wr hrw HLN.out)
      have HCL0 : Hid (∀ w : World, Reads w w.heap.size A (bcs l) → Calls Try.prog 9 #[.slice A l.length c] w fun e w' => ∃ v, e = .returned v ∧ Is (.bool k) v w' ∧ Below w.heap.size w w') := Lib.hid fun w h =>
        (clean_any HO.out A c w h HLN.out).mono fun e w' ⟨he, hw⟩ => ⟨_, he, by rw [hk]; rfl, by rw [← hw]; exact Below.refl _ _⟩
      have HRX0 : Hid (∀ w : World, Reads w w.heap.size A (bcs l) → Calls Try.prog 8 #[.slice A l.length c] w fun e w' => ∃ v, e = .returned v ∧ Is (.agg (wq (xB l))) v w' ∧ Below w.heap.size w w') := Lib.hid fun w h =>
        (rxor_any HO.out A c w h HLN.out).mono fun e w' ⟨he, hb⟩ => ⟨_, he, rfl, hb⟩
      have hzo := xB_ok l HO.out
      have HXX0 : Hid (∀ A c (w : World), Reads w w.heap.size A (bcs (l ++ [xB l])) → Calls Try.prog 7 #[.slice A (l ++ [xB l]).length c] w fun e w' => ∃ v, e = .returned v ∧ Is (.agg (wq zb)) v w' ∧ Below w.heap.size w w') := Lib.hid fun A c w h => by
        have ho2 : ∀ b ∈ l ++ [xB l], okb b := fun b hb => by
          rcases List.mem_append.1 hb with hb | hb
          · exact HO.out b hb
          · rw [List.mem_singleton.1 hb]; exact hzo
        have := xor_any ho2 A c w h (by rw [List.length_append]; have := HLL.out; simp; omega)
        rw [xB_twice] at this
        exact this.mono fun e w' ⟨he, hb⟩ => ⟨_, he, rfl, hb⟩
      have HZO0 := Lib.hid hzo
      generalize xB l = z at *
      clear hk hzo
      go_wp2_with fail
      refine CX.out.mono ?_
      rintro e w2 ⟨rfl, hb2⟩
      have HS2 := Lib.hid ((hrw.below hb2).more hb2.size)
      have B2 := Lib.hid (BR.out.trans (hb2.mono BR.out.size))
      clear hb2 hrw CX BR
      have HZS0 : Hid ((wq z).size = 128) := Lib.hid (by rw [wq_size]; exact HZO0.out.1)
      have HNB := Lib.hid (newb w2 z)
      have B3 := Lib.hid (B2.out.trans (HNB.out.2.mono B2.out.size))
      have HS3 := Lib.hid ((HS2.out.below HNB.out.2).more HNB.out.2.size)
      obtain ⟨b6, hb6⟩ : ∃ b, b = w2.heap.size := ⟨_, rfl⟩
      go_wp2_with (first
        | refine wpList_store_row rfl 26 (.tmp 6) (.tmp 26) rfl w2.heap.size (wq z) rfl rfl 26 _ (RowAt.new _ _ _) (by rw [HZS0.out]; exact b_size) (by rw [HZS0.out]; rfl) (wq_one _) ?_)
      rw [← hb6] at HNB B3 HS3 ⊢
      generalize World.setRow _ _ _ = wS at *
      have HS := Lib.hid HNB.out.1
      have HRS := HS3
      have HRX := HRX0
      have HCL := HCL0
      have HXX := HXX0
      have HZO := HZO0
      have HZS := HZS0
      obtain ⟨N, hN⟩ : ∃ N, N = wS.heap.size := ⟨_, rfl⟩
      have HN := Lib.hid hN
      clear HNB HS2 B2 hb6 hN HS3 HRX0 HCL0 HXX0 HZO0 HZS0 HR
      simp only [Act.put]
      refine wp_region_drift 16 (fun i => i == 18) [Is (.agg (wq z)), Is (.slice A l.length c), Is (.agg (wq z)), Is (.bool true), Is (.bool true), Is (.slice A l.length c), Is (.bool k), Is (.bool k), Is (.bool true), Is (.bool true), Is (.bool true), Em N, Is (.slice A l.length c), OwB N l, Is (.agg (wq z)), OneB z, Free, Free, Is (.agg (wq zb)), Free, Free, Free] [Is (.agg (wq z)), Is (.slice A l.length c), Is (.agg (wq z)), Is (.bool true), Is (.bool true), Is (.slice A l.length c), Is (.bool k), Is (.bool k), Is (.bool true), Is (.bool true), Is (.bool true), Free, Is (.slice A l.length c), Free, Is (.agg (wq z)), Free, RdB (l ++ [z]), Is (.agg (wq zb)), Is (.agg (wq zb)), Is (.bool true), Is (.bool true), Is (.bool true)] (by kernel_rfl) (by kernel_rfl) (by kernel_rfl) rfl (by decide) ⟨stable_is _, stable_is _, stable_is _, stable_is _, stable_is _, stable_is _, stable_is _, stable_is _, stable_is _, stable_is _, stable_is _, stable_em _, stable_is _, stable_owb _ _, stable_is _, stable_oneb _, stable_free, stable_free, stable_is _, stable_free, stable_free, stable_free, trivial⟩ ⟨stable_is _, stable_is _, stable_is _, stable_is _, stable_is _, stable_is _, stable_is _, stable_is _, stable_is _, stable_is _, stable_is _, stable_free, stable_is _, stable_free, stable_is _, stable_free, stable_rdb _, stable_is _, stable_is _, stable_is _, stable_is _, stable_is _, trivial⟩ ?conv ⟨?h0, ?h1, ?h2, ?h3, ?h4, ?h5, ?h6, ?h7, ?h8, ?h9, ?h10, ?h11, ?h12, ?h13, ?h14, ?h15, ?h16, ?h17, ?h18, ?h19, ?h20, ?h21, trivial⟩ ?mid ⟨?l0, ?l1, ?l2, ?l3, ?l4, ?l5, ?l6, ?l7, ?l8, ?l9, ?l10, ?l11, ?l12, ?l13, ?l14, ?l15, ?l16, ?l17, ?l18, ?l19, ?l20, ?l21, trivial⟩ ?fin
      case conv =>
        intro i v w w' hi h
        rcases (show i = 0 ∨ i = 1 ∨ i = 2 ∨ i = 3 ∨ i = 4 ∨ i = 5 ∨ i = 6 ∨ i = 7 ∨ i = 8 ∨ i = 9 ∨ i = 10 ∨ i = 11 ∨ i = 12 ∨ i = 13 ∨ i = 14 ∨ i = 15 ∨ i = 18 by
          rcases hi with hi | ⟨_, hi⟩
          · omega
          · have := eq_of_beq hi; omega) with rfl | rfl | rfl | rfl | rfl | rfl | rfl | rfl | rfl | rfl | rfl | rfl | rfl | rfl | rfl | rfl | rfl
        · exact h
        · exact h
        · exact h
        · exact h
        · exact h
        · exact h
        · exact h
        · exact h
        · exact h
        · exact h
        · exact h
        · exact trivial
        · exact h
        · exact trivial
        · exact h
        · exact trivial
        · exact h
      case h0 =>
        intro _ a w C
        exact part_on (wanted_free rfl _) (op_value (bload_run rfl (C.was 6 (by kernel_rfl)) (HS.out.below C.below HS.out.lt) HZS.out) rfl)
      case h1 =>
        intro _ a w C
        exact part_on (wanted_free rfl _) (op_move (.inl rfl) (C.was 0 (by kernel_rfl)))
      case h2 =>
        intro _ a w C
        exact part_on (wanted_free rfl _) (op_call1 rfl (reg_enters Try.func8 (by kernel_rfl) (by kernel_rfl)) (C.on (j := 1) (by kernel_rfl) rfl rfl) (HRX.out w ((HRS.out.below C.below).more C.below.size)))
      case h3 =>
        intro _ a w C
        exact part_on (wanted_free rfl _) (op_value (beql_run w HZO.out HZO.out (k := true) (decide_eq_true rfl) _ _ _ rfl (C.on (j := 0) (by kernel_rfl) rfl rfl) (C.on (j := 2) (by kernel_rfl) rfl rfl)) rfl)
      case h4 =>
        intro _ a w C
        exact part_on (wanted_free rfl _) (op_move (.inl rfl) (C.on (j := 3) (by kernel_rfl) rfl rfl))
      case h5 =>
        intro _ a w C
        exact part_on (wanted_on (j := 4) rfl rfl rfl (C.on (j := 4) (by kernel_rfl) rfl rfl)) (op_move (.inl rfl) (C.was 0 (by kernel_rfl)))
      case h6 =>
        intro _ a w C
        exact part_on (wanted_on (j := 4) rfl rfl rfl (C.on (j := 4) (by kernel_rfl) rfl rfl)) (op_call1 rfl (reg_enters Try.func9 (by kernel_rfl) (by kernel_rfl)) (C.on (j := 5) (by kernel_rfl) rfl rfl) (HCL.out w ((HRS.out.below C.below).more C.below.size)))
      case h7 =>
        intro _ a w C
        exact part_on (wanted_on (j := 4) rfl rfl rfl (C.on (j := 4) (by kernel_rfl) rfl rfl)) (op_move (.inl rfl) (C.was 3 (by kernel_rfl)))
      case h8 =>
        intro _ a w C
        exact part_on (wanted_on (j := 4) rfl rfl rfl (C.on (j := 4) (by kernel_rfl) rfl rfl)) (op_bin rfl (C.on (j := 6) (by kernel_rfl) rfl rfl) (C.on (j := 7) (by kernel_rfl) rfl rfl) rfl (by cases k <;> simp [go_sem]) rfl)
      case h9 =>
        intro _ a w C
        exact part_on (wanted_free rfl _) (op_pick (k := true) rfl (C.on (j := 4) (by kernel_rfl) rfl rfl) (C.on (j := 8) (by kernel_rfl) rfl rfl))
      case h10 =>
        intro _ a w C
        exact part_on (wanted_free rfl _) (op_move (.inl rfl) (C.on (j := 9) (by kernel_rfl) rfl rfl))
      case h11 =>
        intro _ a w C
        exact part_on (wanted_on (j := 10) rfl rfl rfl (C.on (j := 10) (by kernel_rfl) rfl rfl)) (op_made (build_none_run rfl) ⟨_, rfl, HN.out ▸ C.below.size, heap_alloc_last _ _⟩ ((Below.refl _ w).alloc (Nat.le_refl _) _))
      case h12 =>
        intro _ a w C
        exact part_on (wanted_on (j := 10) rfl rfl rfl (C.on (j := 10) (by kernel_rfl) rfl rfl)) (op_move (.inl rfl) (C.was 0 (by kernel_rfl)))
      case h13 =>
        intro _ a w C
        obtain ⟨g, e0, hg0, hgg⟩ : Em N _ _ := (C.on (j := 11) (by kernel_rfl) rfl rfl)
        obtain ⟨v1, w1, hr, h1, hb⟩ := app_first hg0 hgg (HN.out ▸ C.below.size) HO.out ((HRS.out.below C.below).more C.below.size) HLN.out _
        exact part_on (wanted_on (j := 10) rfl rfl rfl (C.on (j := 10) (by kernel_rfl) rfl rfl)) (op_made (op_append rfl e0 (C.on (j := 12) (by kernel_rfl) rfl rfl) hr) h1 hb)
      case h14 =>
        intro _ a w C
        exact part_on (wanted_on (j := 10) rfl rfl rfl (C.on (j := 10) (by kernel_rfl) rfl rfl)) (op_value (bload_run rfl (C.was 6 (by kernel_rfl)) (HS.out.below C.below HS.out.lt) HZS.out) rfl)
      case h15 =>
        intro _ a w C
        exact part_on (wanted_on (j := 10) rfl rfl rfl (C.on (j := 10) (by kernel_rfl) rfl rfl)) (op_made (build_one_run HZO.out.1 rfl (C.on (j := 14) (by kernel_rfl) rfl rfl)) ⟨_, rfl, RowAt.new _ _ _⟩ ((Below.refl _ w).alloc (Nat.le_refl _) _))
      case h16 =>
        intro hi
        exfalso
        rcases hi with hi | ⟨_, hi⟩
        · omega
        · cases hi
      case h17 =>
        intro hi
        exfalso
        rcases hi with hi | ⟨_, hi⟩
        · omega
        · cases hi
      case h18 =>
        intro _ a w C
        exact part_on (wanted_on (j := 10) rfl rfl rfl (C.on (j := 10) (by kernel_rfl) rfl rfl)) (op_value (bbuild_run w _ rfl) rfl)
      case h19 =>
        intro hi
        exfalso
        rcases hi with hi | ⟨_, hi⟩
        · omega
        · cases hi
      case h20 =>
        intro hi
        exfalso
        rcases hi with hi | ⟨_, hi⟩
        · omega
        · cases hi
      case h21 =>
        intro hi
        exfalso
        rcases hi with hi | ⟨_, hi⟩
        · omega
        · cases hi
      case mid =>
        intro o ho a w C
        cases ho
        refine ⟨wanted_on (j := 10) rfl rfl rfl (C.on (j := 10) (by kernel_rfl) rfl rfl), ?_⟩
        have h40 : OwB N l _ _ := C.on (j := 13) (by kernel_rfl) rfl rfl
        obtain ⟨g, e42, h42⟩ : OneB z _ _ := C.on (j := 15) (by kernel_rfl) rfl rfl
        obtain ⟨v1, w1, hr, h1, hb⟩ := app_more h40 (HN.out ▸ C.below.size) HZO.out h42 HLN.out _
        exact turns_value (op_append rfl rfl e42 hr) (owb_reads h1) (C.below.trans (HN.out ▸ hb))
      case l0 =>
        intro hi
        omega
      case l1 =>
        intro hi
        omega
      case l2 =>
        intro hi
        omega
      case l3 =>
        intro hi
        omega
      case l4 =>
        intro hi
        omega
      case l5 =>
        intro hi
        omega
      case l6 =>
        intro hi
        omega
      case l7 =>
        intro hi
        omega
      case l8 =>
        intro hi
        omega
      case l9 =>
        intro hi
        omega
      case l10 =>
        intro hi
        omega
      case l11 =>
        intro hi
        omega
      case l12 =>
        intro hi
        omega
      case l13 =>
        intro hi
        omega
      case l14 =>
        intro hi
        omega
      case l15 =>
        intro hi
        omega
      case l16 =>
        intro hi
        omega
      case l17 =>
        intro _ a w C
        obtain ⟨A2, c2, e0, h0⟩ : RdB (l ++ [z]) _ _ := (C.on (j := 16) (by kernel_rfl) rfl rfl)
        exact part_on (wanted_on (j := 10) rfl rfl rfl (C.on (j := 10) (by kernel_rfl) rfl rfl)) (op_call1 rfl (reg_enters Try.func7 (by kernel_rfl) (by kernel_rfl)) e0 (HXX.out A2 c2 w h0))
      case l18 =>
        intro _ a w C
        exact part_on (wanted_on (j := 10) rfl rfl rfl (C.on (j := 10) (by kernel_rfl) rfl rfl)) (op_value (bbuild_run w _ rfl) rfl)
      case l19 =>
        intro _ a w C
        exact part_on (wanted_on (j := 10) rfl rfl rfl (C.on (j := 10) (by kernel_rfl) rfl rfl)) (op_value (beql_run w zb_ok zb_ok (k := true) (decide_eq_true rfl) _ _ _ rfl (C.on (j := 17) (by kernel_rfl) rfl rfl) (C.on (j := 18) (by kernel_rfl) rfl rfl)) rfl)
      case l20 =>
        intro _ a w C
        exact part_on (wanted_free rfl _) (op_pick (k := true) rfl (C.on (j := 10) (by kernel_rfl) rfl rfl) (C.on (j := 19) (by kernel_rfl) rfl rfl))
      case l21 =>
        intro _ a w C
        exact part_on (wanted_free rfl _) (op_move (.inr rfl) (C.on (j := 20) (by kernel_rfl) rfl rfl))
      case fin =>
      rintro wF hbF _ rfl _ rfl _ rfl _ rfl _ rfl _ rfl _ rfl _ rfl _ rfl _ rfl _ rfl x11 _ _ rfl x13 _ _ rfl x15 _ x16 _ _ rfl _ rfl _ rfl _ rfl _ rfl
      simp only [Fin, setAt, Exit.then, List.setIfInBounds_toArray, List.set_cons_succ, List.set_cons_zero]
      go_wp2
      go_ret
      exact ⟨rfl, B3.out.trans (hbF.mono B3.out.size)⟩

theorem xors19_any {l : List (List Nat)} (ho : ∀ b ∈ l, okb b) (A : Option Addr) (c : Nat) (w : World) (hr : Reads w w.heap.size A (bcs l)) :
    Calls Try.prog 3 #[.slice A l.length c] w fun e w' => e = .returned (.bool true) ∧ Below w.heap.size w w' := by
  by_cases h : l.length ≤ 20
  · exact xors19_few ho A c h w hr
  · have d20 : decide ((l.length : Int) > 20) = true := by simp; omega
    have CA := Lib.hid awake19_any
    clear ho hr h
    go_enter Try.func3, Try.ntmps3
    go_wp2_with fail
    refine (CA.out _).mono ?_
    rintro e w1 ⟨rfl, hb1⟩
    have B1 := Lib.hid hb1
    clear hb1 CA
    go_wp2
    go_ret
    exact ⟨rfl, B1.out⟩
end Go.Proofs.Ytnolgjbehnjomaa

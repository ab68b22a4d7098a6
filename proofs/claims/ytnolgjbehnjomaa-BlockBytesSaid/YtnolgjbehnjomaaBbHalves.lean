/- The law BlockHalves by the calls' contracts. No condition. -/
import Derived.Test.YtnolgjbehnjomaaBbAwake
import Derived.Test.YtnolgjbehnjomaaReg
namespace Go.Proofs.Ytnolgjbehnjomaa
set_option maxRecDepth 50000
open Go.RowKit Bb

theorem op_call3 {P : Program} {o : Oper} {a : Act} {w : World} {Q : Exit → Act → World → Prop} {p : Value → World → Prop} {f : FuncId} {x y z : Operand} {ts : Array TypeId} {v1 v2 v3 : Value} (ho : o.op = .call { callee := .value (.func f), args := #[x, y, z], argTypes := ts }) (he : ∀ (args : Array Value) (w : World), (callFunc f args).run P w = .ok (.enter f args) w)
    (hx : a.eval x = v1) (hy : a.eval y = v2) (hz : a.eval z = v3) (hc : Calls P f #[v1, v2, v3] w fun e w' => ∃ v, e = .returned v ∧ p v w' ∧ Below w.heap.size w w') : Does P p o a w Q := by
  subst hx; subst hy; subst hz
  exact op_call ho he hc
theorem bload_run {w : World} {b : Nat} {L : List Nat} {ev : Operand → Value} {x : Operand} {o : Oper} (hop : o.op = .load 26 x) (hx : ev x = .pointer (some ⟨b, 0, none⟩)) (hR : RowAt w b 26 (wq L)) (hz : (wq L).size = 128) : (execOp ev o).run Try.prog w = .ok (.value (.agg (wq L))) w := by
  have h := hR.loadAt (P := Try.prog) Try.underlying26 (by rw [hz]; exact b_size)
  simp only [execOp, hop, hx, Sem.run_bind, h, Result.andThen_ok, Sem.run_pure]

/-- a half by any int -/
def hI (L : List Nat) (i : Int) : Nat := if 0 ≤ i ∧ i < 256 then hb L i.toNat else 0
theorem hI_lt (L : List Nat) (i : Int) : hI L i < 4294967296 := by
  unfold hI; split
  · exact hb_lt _ _
  · decide
theorem half_all {w : World} {b : Nat} {L : List Nat} (hR : RowAt w b 26 (wq L)) (hL : okb L) (i : Int) : Calls Try.prog 14 #[.pointer (some ⟨b, 0, none⟩), .int .i64 i] w fun e w' => e = .returned (.int .u32 (hI L i : Nat)) ∧ ∃ q, w' = w.drewN q := by
  by_cases h : 0 ≤ i ∧ i < 256
  · obtain ⟨n, rfl⟩ := Int.eq_ofNat_of_zero_le h.1
    have e : hI L (n : Int) = hb L n := by unfold hI; rw [if_pos h, Int.toNat_natCast]
    rw [e]
    exact half_any hR hL n (by omega)
  · have e : hI L i = 0 := by unfold hI; rw [if_neg h]
    rw [e]
    exact (half_bad ⟨b, 0, none⟩ i (by omega) w).mono fun e w' ⟨he, hw⟩ => ⟨he, 0, hw.symm⟩
theorem rhalf_all {L : List Nat} (hL : okb L) (i : Int) (w : World) : Calls Try.prog 15 #[.agg (wq L), .int .i64 i] w fun e w' => e = .returned (.int .u32 (hI L i : Nat)) ∧ Below w.heap.size w w' := by
  by_cases h : 0 ≤ i ∧ i < 256
  · obtain ⟨n, rfl⟩ := Int.eq_ofNat_of_zero_le h.1
    have e : hI L (n : Int) = hb L n := by unfold hI; rw [if_pos h, Int.toNat_natCast]
    rw [e]
    exact rhalf_any hL n (by omega) w
  · have e : hI L i = 0 := by unfold hI; rw [if_neg h]
    rw [e]
    exact rhalf_bad L i (by omega) w
theorem hI_sb {b : List Nat} (h : okb b) (i x : Nat) (k : Int) (hi : i < 256) (hx : x < 4294967296) : hI (sb b i x) k = if k = (i : Int) then x else hI b k := by
  unfold hI
  by_cases hk : 0 ≤ k ∧ k < 256
  · obtain ⟨n, rfl⟩ := Int.eq_ofNat_of_zero_le hk.1
    rw [if_pos hk, if_pos hk, Int.toNat_natCast, hb_sb h i x n hi hx]
    by_cases e : n = i
    · rw [if_pos e, if_pos (by omega)]
    · rw [if_neg e, if_neg (by omega)]
  · rw [if_neg hk, if_neg hk, if_neg (by omega)]

/-- a block that came in, and a copy of it that is turned -/
structure Cx (w wr : World) (b4 b9 : Nat) (L c : List Nat) : Prop where
  r4 : RowAt wr b4 26 (wq L)
  r9 : RowAt wr b9 26 (wq c)
  lt : b4 < b9
  base : w.heap.size ≤ b9
  below : Below w.heap.size w wr
section
variable {w wr w' : World} {b4 b9 : Nat} {L c : List Nat}
theorem Cx.new (h : RowAt wr b4 26 (wq L)) (hb : Below w.heap.size w wr) : Cx w ((wr.alloc (.cells (wq zb) 26)).setRow wr.heap.size (wq L)) b4 wr.heap.size L L :=
  ⟨(h.alloc _).setRowOther _ (by have := h.lt; omega) _, (RowAt.new wr _ _).setRow _, h.lt, hb.size, below_setRow (hb.alloc hb.size _) hb.size _⟩
theorem Cx.drewN (h : Cx w wr b4 b9 L c) (q : Nat) : Cx w (wr.drewN q) b4 b9 L c := ⟨h.r4, h.r9, h.lt, h.base, below_drewN h.below q⟩
theorem Cx.turn {c' : List Nat} (h : Cx w wr b4 b9 L c) (hr : RowAt w' b9 26 (wq c')) (hk : Kept (fun k => k = b9) wr w') : Cx w w' b4 b9 L c' :=
  ⟨(hk.block b4 h.r4.lt (by have := h.lt; omega)).trans h.r4, hr, h.lt, h.base, h.below.trans (hk.below h.below.size (fun x hx => by subst hx; exact h.base))⟩
end

set_option maxHeartbeats 3200000 in
/-- the law's first half: the block is laid, the example is right, halves are as the document says, and a copy is made -/
theorem halves_bad {L : List Nat} (hL : okb L) (i k : Int) (x : Nat) (hi : i < 0 ∨ 256 ≤ i) (w : World) :
    Calls Try.prog 5 #[.agg (wq L), .int .i64 i, .int .i64 k, .int .u32 (x : Int)] w fun e w' => e = .returned (.bool true) ∧ Below w.heap.size w w' := by
  obtain ⟨b4, hb4⟩ : ∃ b, b = w.heap.size := ⟨_, rfl⟩
  have HR := Lib.hid (RowAt.new w 26 (wq L))
  have HB := Lib.hid ((Below.refl _ w).alloc (Nat.le_refl _) (.cells (wq L) 26))
  have HL := Lib.hid hL
  have HSZ : Hid ((wq L).size = 128) := Lib.hid (by rw [wq_size]; exact hL.1)
  have CA := Lib.hid awake19_any
  have hy := hI_lt L i
  have HH : Hid (∀ w : World, RowAt w b4 26 (wq L) → Calls Try.prog 14 #[.pointer (some ⟨b4, 0, none⟩), .int .i64 i] w fun e w' => ∃ v, e = .returned v ∧ Is (.int .u32 (hI L i : Nat)) v w' ∧ Below w.heap.size w w') := Lib.hid fun w hR =>
    (half_all hR HL.out i).mono fun e w' ⟨he, q, hq⟩ => ⟨_, he, rfl, by rw [hq]; exact below_drewN (Below.refl _ _) q⟩
  have HRH : Hid (∀ w : World, Calls Try.prog 15 #[.agg (wq L), .int .i64 i] w fun e w' => ∃ v, e = .returned v ∧ Is (.int .u32 (hI L i : Nat)) v w' ∧ Below w.heap.size w w') := Lib.hid fun w =>
    (rhalf_all HL.out i w).mono fun e w' ⟨he, hb⟩ => ⟨_, he, rfl, hb⟩
  have HN : Hid (∀ w : World, Calls Try.prog 14 #[.pointer none, .int .i64 i] w fun e w' => ∃ v, e = .returned v ∧ Is (.int .u32 0) v w' ∧ Below w.heap.size w w') := Lib.hid fun w =>
    (half_nil i w).mono fun e w' ⟨he, hb⟩ => ⟨_, he, rfl, by rw [← hb]; exact Below.refl _ _⟩
  have HSN : Hid (∀ w : World, Calls Try.prog 16 #[.pointer none, .int .i64 i, .int .u32 (x : Int)] w fun e w' => ∃ v, e = .returned v ∧ Is (.bool false) v w' ∧ Below w.heap.size w w') := Lib.hid fun w =>
    (set_nil i x w).mono fun e w' ⟨he, hb⟩ => ⟨_, he, rfl, by rw [← hb]; exact Below.refl _ _⟩
  have HSB := Lib.hid fun (a : Addr) (w : World) => set_bad a i x hi w
  have hd : (decide (i ≥ 0) = false ∧ decide (i < 0) = true) ∨ (decide (i ≥ 0) = true ∧ decide (i < 256) = false ∧ decide (i < 0) = false ∧ decide (i > 255) = true) := by simp; omega
  generalize hI L i = y at *
  clear hL hi
  rw [← hb4] at HR
  go_enter Try.func5, Try.ntmps5
  go_wp2_with fail
  rw [← hb4]
  refine (CA.out _).mono ?_
  rintro e w2 ⟨rfl, hb2⟩
  have HR2 := Lib.hid (HR.out.below hb2 HR.out.lt)
  have B2 := Lib.hid (below_step HB.out hb2)
  have HB4 := Lib.hid hb4
  clear hb2 hb4 HR HB CA
  go_wp2
  refine wp_region_text [Is (.int .i64 i), Is (.int .u32 (y : Nat)), Is (.agg (wq L)), Is (.int .i64 i), Is (.int .u32 (y : Nat)), Is (.bool false), Is (.bool false), Is (.int .i64 i), Is (.int .u32 0), Is (.bool false), Is (.bool false), Is (.bool false), Is (.int .i64 i), Is (.int .u32 (x : Nat)), Is (.bool false), Is (.bool false)] (by kernel_rfl) (by kernel_rfl) rfl ⟨stable_is _, stable_is _, stable_is _, stable_is _, stable_is _, stable_is _, stable_is _, stable_is _, stable_is _, stable_is _, stable_is _, stable_is _, stable_is _, stable_is _, stable_is _, stable_is _, trivial⟩ ⟨?_, ?_, ?_, ?_, ?_, ?_, ?_, ?_, ?_, ?_, ?_, ?_, ?_, ?_, ?_, ?_, trivial⟩ ?_
  · intro a w C
    exact part_on (wanted_free rfl _) (op_move (.inl rfl) (C.was 1 (by kernel_rfl)))
  · intro a w C
    exact part_on (wanted_free rfl _) (op_call2 rfl (reg_enters Try.func14 (by kernel_rfl) (by kernel_rfl)) (C.was 4 (by kernel_rfl)) (C.on (j := 0) (by kernel_rfl) rfl rfl) (HH.out w (HR2.out.below C.below HR2.out.lt)))
  · intro a w C
    exact part_on (wanted_free rfl _) (op_value (bload_run rfl (C.was 4 (by kernel_rfl)) (HR2.out.below C.below HR2.out.lt) (by rw [HSZ.out])) rfl)
  · intro a w C
    exact part_on (wanted_free rfl _) (op_move (.inl rfl) (C.was 1 (by kernel_rfl)))
  · intro a w C
    exact part_on (wanted_free rfl _) (op_call2 rfl (reg_enters Try.func15 (by kernel_rfl) (by kernel_rfl)) (C.on (j := 2) (by kernel_rfl) rfl rfl) (C.on (j := 3) (by kernel_rfl) rfl rfl) (HRH.out w))
  · intro a w C
    exact part_on (wanted_free rfl _) (op_bin rfl (C.on (j := 1) (by kernel_rfl) rfl rfl) (C.on (j := 4) (by kernel_rfl) rfl rfl) rfl (by simp [go_sem]) rfl)
  · intro a w C
    exact part_on (wanted_free rfl _) (op_move (.inl rfl) (C.on (j := 5) (by kernel_rfl) rfl rfl))
  · intro a w C
    exact part_on (wanted_on (j := 6) rfl rfl rfl (C.on (j := 6) (by kernel_rfl) rfl rfl)) (op_move (.inl rfl) (C.was 1 (by kernel_rfl)))
  · intro a w C
    exact part_on (wanted_on (j := 6) rfl rfl rfl (C.on (j := 6) (by kernel_rfl) rfl rfl)) (op_call2 rfl (reg_enters Try.func14 (by kernel_rfl) (by kernel_rfl)) rfl (C.on (j := 7) (by kernel_rfl) rfl rfl) (HN.out w))
  · intro a w C
    exact part_on (wanted_on (j := 6) rfl rfl rfl (C.on (j := 6) (by kernel_rfl) rfl rfl)) (op_bin rfl (C.on (j := 8) (by kernel_rfl) rfl rfl) rfl rfl (by simp [go_sem]) rfl)
  · intro a w C
    exact part_on (wanted_free rfl _) (op_pick (k := false) rfl (C.on (j := 6) (by kernel_rfl) rfl rfl) (C.on (j := 9) (by kernel_rfl) rfl rfl))
  · intro a w C
    exact part_on (wanted_free rfl _) (op_move (.inl rfl) (C.on (j := 10) (by kernel_rfl) rfl rfl))
  · intro a w C
    exact part_on (wanted_on (j := 11) rfl rfl rfl (C.on (j := 11) (by kernel_rfl) rfl rfl)) (op_move (.inl rfl) (C.was 1 (by kernel_rfl)))
  · intro a w C
    exact part_on (wanted_on (j := 11) rfl rfl rfl (C.on (j := 11) (by kernel_rfl) rfl rfl)) (op_move (.inl rfl) (C.was 3 (by kernel_rfl)))
  · intro a w C
    exact part_on (wanted_on (j := 11) rfl rfl rfl (C.on (j := 11) (by kernel_rfl) rfl rfl)) (op_call3 rfl (reg_enters Try.func16 (by kernel_rfl) (by kernel_rfl)) rfl (C.on (j := 12) (by kernel_rfl) rfl rfl) (C.on (j := 13) (by kernel_rfl) rfl rfl) (HSN.out w))
  · intro a w C
    exact part_on (wanted_free rfl _) (op_pick (k := false) rfl (C.on (j := 11) (by kernel_rfl) rfl rfl) (C.on (j := 14) (by kernel_rfl) rfl rfl))
  rintro wF hbF _ rfl _ rfl _ rfl _ rfl _ rfl _ rfl _ rfl _ rfl _ rfl _ rfl _ rfl _ rfl _ rfl _ rfl _ rfl _ rfl
  simp only [Fin, setAt, Exit.then, List.setIfInBounds_toArray, List.set_cons_succ, List.set_cons_zero]
  have HX := Lib.hid (Cx.new (HR2.out.below hbF HR2.out.lt) (B2.out.trans (hbF.mono B2.out.size)))
  have HR3 := Lib.hid (HR2.out.below hbF HR2.out.lt)
  have HRN := Lib.hid (RowAt.new wF 26 (wq zb))
  have hz := zero_b
  clear hbF HR2 B2 HH HRH HN HSN
  go_wp2_with (first
    | refine wpList_load_row rfl 26 (.tmp 4) rfl b4 rfl 26 (wq L) (0, 0) _ HR3.out Try.underlying26 rfl (by rw [HSZ.out]; exact b_size) ?_
    | refine wpList_store_row rfl 26 (.tmp 9) (.tmp 28) rfl wF.heap.size (wq L) rfl rfl 26 _ HRN.out (by rw [HSZ.out]; exact b_size) (by rw [HSZ.out]; rfl) (wq_one _) ?_)
  obtain ⟨b9, hb9⟩ : ∃ b, b = wF.heap.size := ⟨_, rfl⟩
  rw [← hb9] at HX ⊢
  generalize World.setRow _ _ _ = w5 at *
  clear HR3 HRN hb9
  refine (HSB.out _ _).mono ?_
  rintro e w' ⟨rfl, rfl⟩
  clear HSB
  rcases hd with ⟨d1, d2⟩ | ⟨d1, d2, d3, d4⟩
  all_goals
    go_wp2_with (first
      | refine wpList_load_row rfl 26 (.tmp 4) rfl b4 rfl 26 (wq L) (0, 0) _ HX.out.r4 Try.underlying26 rfl (by rw [HSZ.out]; exact b_size) ?_
      | refine wpList_load_row rfl 26 (.tmp 9) rfl b9 rfl 26 (wq L) (0, 0) _ HX.out.r9 Try.underlying26 rfl (by rw [HSZ.out]; exact b_size) ?_
      | refine wpList_value_want rfl _ (beql_run _ HL.out HL.out (k := true) (decide_eq_true rfl) _ _ _ rfl rfl rfl) ?_)
    go_ret
    exact ⟨rfl, HX.out.below⟩
set_option maxHeartbeats 3200000 in
theorem halves_good {L : List Nat} (hL : okb L) (i : Nat) (k : Int) (x : Nat) (hi : i < 256) (hx : x < 4294967296) (w : World) :
    Calls Try.prog 5 #[.agg (wq L), .int .i64 (i : Int), .int .i64 k, .int .u32 (x : Int)] w fun e w' => e = .returned (.bool true) ∧ Below w.heap.size w w' := by
  obtain ⟨b4, hb4⟩ : ∃ b, b = w.heap.size := ⟨_, rfl⟩
  have HR := Lib.hid (RowAt.new w 26 (wq L))
  have HB := Lib.hid ((Below.refl _ w).alloc (Nat.le_refl _) (.cells (wq L) 26))
  have HL := Lib.hid hL
  have HSZ : Hid ((wq L).size = 128) := Lib.hid (by rw [wq_size]; exact hL.1)
  have CA := Lib.hid awake19_any
  have hy := hI_lt L i
  have HH : Hid (∀ w : World, RowAt w b4 26 (wq L) → Calls Try.prog 14 #[.pointer (some ⟨b4, 0, none⟩), .int .i64 (i : Int)] w fun e w' => ∃ v, e = .returned v ∧ Is (.int .u32 (hI L (i : Int) : Nat)) v w' ∧ Below w.heap.size w w') := Lib.hid fun w hR =>
    (half_all hR HL.out (i : Int)).mono fun e w' ⟨he, q, hq⟩ => ⟨_, he, rfl, by rw [hq]; exact below_drewN (Below.refl _ _) q⟩
  have HRH : Hid (∀ w : World, Calls Try.prog 15 #[.agg (wq L), .int .i64 (i : Int)] w fun e w' => ∃ v, e = .returned v ∧ Is (.int .u32 (hI L (i : Int) : Nat)) v w' ∧ Below w.heap.size w w') := Lib.hid fun w =>
    (rhalf_all HL.out (i : Int) w).mono fun e w' ⟨he, hb⟩ => ⟨_, he, rfl, hb⟩
  have HN : Hid (∀ w : World, Calls Try.prog 14 #[.pointer none, .int .i64 (i : Int)] w fun e w' => ∃ v, e = .returned v ∧ Is (.int .u32 0) v w' ∧ Below w.heap.size w w') := Lib.hid fun w =>
    (half_nil (i : Int) w).mono fun e w' ⟨he, hb⟩ => ⟨_, he, rfl, by rw [← hb]; exact Below.refl _ _⟩
  have HSN : Hid (∀ w : World, Calls Try.prog 16 #[.pointer none, .int .i64 (i : Int), .int .u32 (x : Int)] w fun e w' => ∃ v, e = .returned v ∧ Is (.bool false) v w' ∧ Below w.heap.size w w') := Lib.hid fun w =>
    (set_nil (i : Int) x w).mono fun e w' ⟨he, hb⟩ => ⟨_, he, rfl, by rw [← hb]; exact Below.refl _ _⟩
  have d1 : decide ((i : Int) ≥ 0) = true := by simp
  have d2 : decide ((i : Int) < 256) = true := by simp; omega
  have d3 : decide ((i : Int) < 0) = false := by simp
  have d4 : decide ((i : Int) > 255) = false := by simp; omega
  have HI := Lib.hid hi
  have HXX := Lib.hid hx
  have HO6 := Lib.hid (sb_ok hL i x hx)
  have HBK := Lib.hid (sb_back hL i x hi hx)
  have hiI : hI L (i : Int) = hb L i := by unfold hI; rw [if_pos (by omega), Int.toNat_natCast]
  have HBL := Lib.hid (hb_lt L i)
  have C4 : Hid (∀ w : World, RowAt w b4 26 (wq L) → Calls Try.prog 14 #[.pointer (some ⟨b4, 0, none⟩), .int .i64 k] w fun e w' => e = .returned (.int .u32 (hI L k : Nat)) ∧ ∃ q, w' = w.drewN q) := Lib.hid fun w hR => half_all hR HL.out k
  have C4i : Hid (∀ w : World, RowAt w b4 26 (wq L) → Calls Try.prog 14 #[.pointer (some ⟨b4, 0, none⟩), .int .i64 (i : Int)] w fun e w' => e = .returned (.int .u32 (hb L i : Nat)) ∧ ∃ q, w' = w.drewN q) := Lib.hid fun w hR => by rw [← hiI]; exact half_all hR HL.out (i : Int)
  have C9 : Hid (k ≠ (i : Int) → ∀ (w : World) (b : Nat), RowAt w b 26 (wq (sb L i x)) → Calls Try.prog 14 #[.pointer (some ⟨b, 0, none⟩), .int .i64 k] w fun e w' => e = .returned (.int .u32 (hI L k : Nat)) ∧ ∃ q, w' = w.drewN q) := Lib.hid fun hk w b hR => by
    have e := hI_sb hL i x k hi hx
    rw [if_neg hk] at e
    rw [← e]; exact half_all hR HO6.out k
  have C9i : Hid (∀ (w : World) (b : Nat), RowAt w b 26 (wq (sb L i x)) → Calls Try.prog 14 #[.pointer (some ⟨b, 0, none⟩), .int .i64 (i : Int)] w fun e w' => e = .returned (.int .u32 (x : Int)) ∧ ∃ q, w' = w.drewN q) := Lib.hid fun w b hR => by
    have e := hI_sb hL i x (i : Int) hi hx
    rw [if_pos rfl] at e
    have h := half_all hR HO6.out (i : Int)
    rwa [e] at h
  have hyk := hI_lt L k
  clear hiI
  generalize hI L (i : Int) = y at *
  clear hL hi
  rw [← hb4] at HR
  go_enter Try.func5, Try.ntmps5
  go_wp2_with fail
  rw [← hb4]
  refine (CA.out _).mono ?_
  rintro e w2 ⟨rfl, hb2⟩
  have HR2 := Lib.hid (HR.out.below hb2 HR.out.lt)
  have B2 := Lib.hid (below_step HB.out hb2)
  have HB4 := Lib.hid hb4
  clear hb2 hb4 HR HB CA
  go_wp2
  refine wp_region_text [Is (.int .i64 (i : Int)), Is (.int .u32 (y : Nat)), Is (.agg (wq L)), Is (.int .i64 (i : Int)), Is (.int .u32 (y : Nat)), Is (.bool false), Is (.bool false), Is (.int .i64 (i : Int)), Is (.int .u32 0), Is (.bool false), Is (.bool false), Is (.bool false), Is (.int .i64 (i : Int)), Is (.int .u32 (x : Nat)), Is (.bool false), Is (.bool false)] (by kernel_rfl) (by kernel_rfl) rfl ⟨stable_is _, stable_is _, stable_is _, stable_is _, stable_is _, stable_is _, stable_is _, stable_is _, stable_is _, stable_is _, stable_is _, stable_is _, stable_is _, stable_is _, stable_is _, stable_is _, trivial⟩ ⟨?_, ?_, ?_, ?_, ?_, ?_, ?_, ?_, ?_, ?_, ?_, ?_, ?_, ?_, ?_, ?_, trivial⟩ ?_
  · intro a w C
    exact part_on (wanted_free rfl _) (op_move (.inl rfl) (C.was 1 (by kernel_rfl)))
  · intro a w C
    exact part_on (wanted_free rfl _) (op_call2 rfl (reg_enters Try.func14 (by kernel_rfl) (by kernel_rfl)) (C.was 4 (by kernel_rfl)) (C.on (j := 0) (by kernel_rfl) rfl rfl) (HH.out w (HR2.out.below C.below HR2.out.lt)))
  · intro a w C
    exact part_on (wanted_free rfl _) (op_value (bload_run rfl (C.was 4 (by kernel_rfl)) (HR2.out.below C.below HR2.out.lt) (by rw [HSZ.out])) rfl)
  · intro a w C
    exact part_on (wanted_free rfl _) (op_move (.inl rfl) (C.was 1 (by kernel_rfl)))
  · intro a w C
    exact part_on (wanted_free rfl _) (op_call2 rfl (reg_enters Try.func15 (by kernel_rfl) (by kernel_rfl)) (C.on (j := 2) (by kernel_rfl) rfl rfl) (C.on (j := 3) (by kernel_rfl) rfl rfl) (HRH.out w))
  · intro a w C
    exact part_on (wanted_free rfl _) (op_bin rfl (C.on (j := 1) (by kernel_rfl) rfl rfl) (C.on (j := 4) (by kernel_rfl) rfl rfl) rfl (by simp [go_sem]) rfl)
  · intro a w C
    exact part_on (wanted_free rfl _) (op_move (.inl rfl) (C.on (j := 5) (by kernel_rfl) rfl rfl))
  · intro a w C
    exact part_on (wanted_on (j := 6) rfl rfl rfl (C.on (j := 6) (by kernel_rfl) rfl rfl)) (op_move (.inl rfl) (C.was 1 (by kernel_rfl)))
  · intro a w C
    exact part_on (wanted_on (j := 6) rfl rfl rfl (C.on (j := 6) (by kernel_rfl) rfl rfl)) (op_call2 rfl (reg_enters Try.func14 (by kernel_rfl) (by kernel_rfl)) rfl (C.on (j := 7) (by kernel_rfl) rfl rfl) (HN.out w))
  · intro a w C
    exact part_on (wanted_on (j := 6) rfl rfl rfl (C.on (j := 6) (by kernel_rfl) rfl rfl)) (op_bin rfl (C.on (j := 8) (by kernel_rfl) rfl rfl) rfl rfl (by simp [go_sem]) rfl)
  · intro a w C
    exact part_on (wanted_free rfl _) (op_pick (k := false) rfl (C.on (j := 6) (by kernel_rfl) rfl rfl) (C.on (j := 9) (by kernel_rfl) rfl rfl))
  · intro a w C
    exact part_on (wanted_free rfl _) (op_move (.inl rfl) (C.on (j := 10) (by kernel_rfl) rfl rfl))
  · intro a w C
    exact part_on (wanted_on (j := 11) rfl rfl rfl (C.on (j := 11) (by kernel_rfl) rfl rfl)) (op_move (.inl rfl) (C.was 1 (by kernel_rfl)))
  · intro a w C
    exact part_on (wanted_on (j := 11) rfl rfl rfl (C.on (j := 11) (by kernel_rfl) rfl rfl)) (op_move (.inl rfl) (C.was 3 (by kernel_rfl)))
  · intro a w C
    exact part_on (wanted_on (j := 11) rfl rfl rfl (C.on (j := 11) (by kernel_rfl) rfl rfl)) (op_call3 rfl (reg_enters Try.func16 (by kernel_rfl) (by kernel_rfl)) rfl (C.on (j := 12) (by kernel_rfl) rfl rfl) (C.on (j := 13) (by kernel_rfl) rfl rfl) (HSN.out w))
  · intro a w C
    exact part_on (wanted_free rfl _) (op_pick (k := false) rfl (C.on (j := 11) (by kernel_rfl) rfl rfl) (C.on (j := 14) (by kernel_rfl) rfl rfl))
  rintro wF hbF _ rfl _ rfl _ rfl _ rfl _ rfl _ rfl _ rfl _ rfl _ rfl _ rfl _ rfl _ rfl _ rfl _ rfl _ rfl _ rfl
  simp only [Fin, setAt, Exit.then, List.setIfInBounds_toArray, List.set_cons_succ, List.set_cons_zero]
  have HX := Lib.hid (Cx.new (HR2.out.below hbF HR2.out.lt) (B2.out.trans (hbF.mono B2.out.size)))
  have HR3 := Lib.hid (HR2.out.below hbF HR2.out.lt)
  have HRN := Lib.hid (RowAt.new wF 26 (wq zb))
  have hz := zero_b
  clear hbF HR2 B2 HH HRH HN HSN
  go_wp2_with (first
    | refine wpList_load_row rfl 26 (.tmp 4) rfl b4 rfl 26 (wq L) (0, 0) _ HR3.out Try.underlying26 rfl (by rw [HSZ.out]; exact b_size) ?_
    | refine wpList_store_row rfl 26 (.tmp 9) (.tmp 28) rfl wF.heap.size (wq L) rfl rfl 26 _ HRN.out (by rw [HSZ.out]; exact b_size) (by rw [HSZ.out]; rfl) (wq_one _) ?_)
  obtain ⟨b9, hb9⟩ : ∃ b, b = wF.heap.size := ⟨_, rfl⟩
  rw [← hb9] at HX ⊢
  generalize World.setRow _ _ _ = w5 at *
  clear HR3 HRN hb9
  refine (set_any HX.out.r9 HL.out i HI.out x HXX.out).mono ?_
  rintro e w6 ⟨rfl, hr6, hk6⟩
  have HX6 := Lib.hid (HX.out.turn hr6 hk6)
  clear hr6 hk6 HX
  generalize hI L k = z at *
  by_cases hki : k = (i : Int)
  · subst hki
    have e1 : ((i : Int) != (i : Int)) = false := by simp
    have e2 : ((i : Int) == (i : Int)) = true := by simp
    go_wp2_with fail
    refine (C9i.out _ _ HX6.out.r9).mono ?_
    rintro e w7 ⟨rfl, q7, rfl⟩
    have HX7 := Lib.hid (HX6.out.drewN q7)
    clear HX6
    generalize w6.drewN q7 = w7 at *
    go_wp2_with fail
    refine (C4i.out _ HX7.out.r4).mono ?_
    rintro e wa ⟨rfl, qa, rfl⟩
    have HXa := Lib.hid (HX7.out.drewN qa)
    clear HX7
    generalize w7.drewN qa = wa at *
    go_wp2_with fail
    refine (set_any HXa.out.r9 HO6.out i HI.out _ HBL.out).mono ?_
    rintro e wb ⟨rfl, hrb, hkb⟩
    have HXb := Lib.hid (HXa.out.turn hrb hkb)
    rw [HBK.out] at HXb
    clear HXa hrb hkb
    go_wp2_with (first
      | refine wpList_load_row rfl 26 (.tmp 4) rfl b4 rfl 26 (wq L) (0, 0) _ HXb.out.r4 Try.underlying26 rfl (by rw [HSZ.out]; exact b_size) ?_
      | refine wpList_load_row rfl 26 (.tmp 9) rfl b9 rfl 26 (wq L) (0, 0) _ HXb.out.r9 Try.underlying26 rfl (by rw [HSZ.out]; exact b_size) ?_
      | refine wpList_value_want rfl _ (beql_run _ HL.out HL.out (k := true) (decide_eq_true rfl) _ _ _ rfl rfl rfl) ?_)
    go_ret
    exact ⟨rfl, HXb.out.below⟩
  · have e1 : (k != (i : Int)) = true := by simp [hki]
    have e2 : (k == (i : Int)) = false := by simp [hki]
    have C9 := Lib.hid (C9.out hki)
    clear hki
    go_wp2_with fail
    refine (C9.out _ _ HX6.out.r9).mono ?_
    rintro e w7 ⟨rfl, q7, rfl⟩
    have HX7 := Lib.hid (HX6.out.drewN q7)
    clear HX6
    generalize w6.drewN q7 = w7 at *
    go_wp2_with fail
    refine (C4.out _ HX7.out.r4).mono ?_
    rintro e w8 ⟨rfl, q8, rfl⟩
    have HX8 := Lib.hid (HX7.out.drewN q8)
    clear HX7
    generalize w7.drewN q8 = w8 at *
    go_wp2_with fail
    refine (C9i.out _ _ HX8.out.r9).mono ?_
    rintro e w9 ⟨rfl, q9, rfl⟩
    have HX7 := Lib.hid (HX8.out.drewN q9)
    clear HX8
    generalize w8.drewN q9 = w7 at *
    go_wp2_with fail
    refine (C4i.out _ HX7.out.r4).mono ?_
    rintro e wa ⟨rfl, qa, rfl⟩
    have HXa := Lib.hid (HX7.out.drewN qa)
    clear HX7
    generalize w7.drewN qa = wa at *
    go_wp2_with fail
    refine (set_any HXa.out.r9 HO6.out i HI.out _ HBL.out).mono ?_
    rintro e wb ⟨rfl, hrb, hkb⟩
    have HXb := Lib.hid (HXa.out.turn hrb hkb)
    rw [HBK.out] at HXb
    clear HXa hrb hkb
    go_wp2_with (first
      | refine wpList_load_row rfl 26 (.tmp 4) rfl b4 rfl 26 (wq L) (0, 0) _ HXb.out.r4 Try.underlying26 rfl (by rw [HSZ.out]; exact b_size) ?_
      | refine wpList_load_row rfl 26 (.tmp 9) rfl b9 rfl 26 (wq L) (0, 0) _ HXb.out.r9 Try.underlying26 rfl (by rw [HSZ.out]; exact b_size) ?_
      | refine wpList_value_want rfl _ (beql_run _ HL.out HL.out (k := true) (decide_eq_true rfl) _ _ _ rfl rfl rfl) ?_)
    go_ret
    exact ⟨rfl, HXb.out.below⟩

theorem halves19_any {L : List Nat} (hL : okb L) (i k : Int) (x : Nat) (hx : x < 4294967296) (w : World) :
    Calls Try.prog 5 #[.agg (wq L), .int .i64 i, .int .i64 k, .int .u32 (x : Int)] w fun e w' => e = .returned (.bool true) ∧ Below w.heap.size w w' := by
  by_cases h : 0 ≤ i ∧ i < 256
  · obtain ⟨n, rfl⟩ := Int.eq_ofNat_of_zero_le h.1
    exact halves_good hL n k x (by omega) hx w
  · exact halves_bad hL i k x (by omega) w
end Go.Proofs.Ytnolgjbehnjomaa

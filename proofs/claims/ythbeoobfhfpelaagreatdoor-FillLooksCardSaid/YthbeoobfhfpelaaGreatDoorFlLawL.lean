/- The law FillLooks by the calls' contracts. Conditions: blake's and blend's tables lie at their places. -/
import Derived.Test.YthbeoobfhfpelaaGreatDoorFlAwake
import Derived.Test.YthbeoobfhfpelaaGreatDoorFlOne
namespace Go.Proofs.YthbeoobfhfpelaaGreatDoor
set_option maxRecDepth 50000
open Go.RowKit Bb Bn Bl

theorem reg_call5 {P : Program} {o : Oper} {a : Act} {w : World} {f : FuncId} {x1 x2 x3 x4 x5 : Operand} {ts : Array TypeId} {v1 v2 v3 v4 v5 : Value} (ho : o.op = .call { callee := .value (.func f), args := #[x1, x2, x3, x4, x5], argTypes := ts }) (he : ∀ (args : Array Value) (w : World), (callFunc f args).run P w = .ok (.enter f args) w)
    (h1 : a.eval x1 = v1) (h2 : a.eval x2 = v2) (h3 : a.eval x3 = v3) (h4 : a.eval x4 = v4) (h5 : a.eval x5 = v5) : (execOp a.eval o).run P w = .ok (.enter f #[v1, v2, v3, v4, v5]) w := by
  subst h1; subst h2; subst h3; subst h4; subst h5
  simp [execOp, ho, resolve, invoke, he, go_sem]
theorem step_new {w : World} {ev : Operand → Value} {o : Oper} (hop : o.op = .alloc 62) : (execOp ev o).run Tryz.prog w = .ok (.value (.pointer (some ⟨w.heap.size, 0, none⟩))) (w.alloc (.cells (stpc 0 0 0 0 0 0) 62)) := by
  simp [execOp, hop, go_sem]
theorem fl_of {t l g c : Nat} {tp ts kx ix : Int} (h1 : hasB t tp ts = true) (h2 : 0 ≤ kx) (h3 : kx < (l : Int)) (h4 : firN tp ts ≤ ix) (h5 : ix < (g : Int)) : ∃ p s k i : Nat, tp = (p : Int) ∧ ts = (s : Int) ∧ kx = (k : Int) ∧ ix = (i : Int) ∧ Fl t l c g p s k i := by
  unfold hasB at h1
  simp only [Bool.and_eq_true] at h1
  have a1 := in_true _ _ _ h1.1
  have a2 := in_true _ _ _ h1.2
  obtain ⟨h9, _⟩ := fir_zero h4
  obtain ⟨p, rfl⟩ := Int.eq_ofNat_of_zero_le a1.1
  obtain ⟨s, rfl⟩ := Int.eq_ofNat_of_zero_le a2.1
  obtain ⟨k, rfl⟩ := Int.eq_ofNat_of_zero_le h2
  obtain ⟨i, rfl⟩ := Int.eq_ofNat_of_zero_le h9
  rw [fiN_is] at h4
  exact ⟨p, s, k, i, rfl, rfl, rfl, rfl, by omega, by omega, by omega, by omega, by omega⟩

set_option maxHeartbeats 25600000 in
theorem looks32_any (pa pt pm pl pz : Int) (bt : ByteArray) (tp ts kx ix : Int) (W : World) (hK : QAt W) (hT : TAt W) :
    Calls Tryz.prog 4 #[pav pa pt pm pl pz, .string bt, tuv tp ts, .int .i64 kx, .int .i64 ix] W fun e w' => e = .returned (.bool true) ∧ Below W.heap.size W w' := by
  have CM := made_sh pa pt pm pl pz
  have HBW := Lib.hid (two_box W (.cells (pac pa pt pm pl pz) 23) (.cells (tuc tp ts) 48))
  have HP := Lib.hid ((RowAt.new W 23 (pac pa pt pm pl pz)).alloc (.cells (tuc tp ts) 48))
  have HTu : Hid (RowAt ((W.alloc (.cells (pac pa pt pm pl pz) 23)).alloc (.cells (tuc tp ts) 48)) (W.heap.size + 1) 48 (tuc tp ts)) := Lib.hid (by
    have h := RowAt.new (W.alloc (.cells (pac pa pt pm pl pz) 23)) 48 (tuc tp ts)
    rwa [World.size_alloc] at h)
  have CA := Lib.hid (awake32_any _ (hT.next HBW.out))
  have HKW := Lib.hid hK
  have HTW := Lib.hid hT
  clear hK hT
  go_enter Tryz.func4, Tryz.ntmps4
  go_wp2_with fail
  refine CA.out.mono ?_
  rintro e w1 ⟨rfl, hb⟩
  have HP1 := Lib.hid (RowAt.step HP.out hb)
  have HT1 := Lib.hid (RowAt.step HTu.out hb)
  have HB1 := Lib.hid (below_step HBW.out hb)
  clear CA HP HTu HBW hb
  generalize hT7 : W.heap.size + 1 = T7 at *
  have HT7 := Lib.hid hT7
  clear hT7
  go_wp2_with (refine wpList_load_want rfl 23 _ rfl _ _ rfl (pa_load HP1.out) ?_)
  rcases CM with CM | ⟨al, t, l, m, b, c, g, z, HSh, ht3, hl4, hb80, CM⟩
  · refine (CM _).mono ?_
    rintro e w2 ⟨rfl, hb⟩
    have HB2 := Lib.hid (below_step HB1.out hb)
    clear HP1 HB1 hb CM HT1
    go_upto_region 4 with fail
    refine wp_region_text [Is (.pointer none), Is (.bool true), Is (.bool true), Is undef, Is undef, Is undef, Is (.bool true), Is (.bool true), Is undef, Is undef, Is undef, Is undef, Is undef, Is undef, Is undef, Is (.bool true), Is (.bool true), Is undef, Is undef, Is (.bool true), Is (.bool true), Is undef, Is undef, Is undef, Is undef, Is undef, Is undef, Is undef, Is (.bool true), Is (.bool true), Is undef, Is undef, Is undef, Is undef, Is undef, Is undef, Is undef, Is undef, Is undef, Is undef, Is undef, Is (.bool true), Is (.bool true), Is undef, Is undef, Is undef, Is undef, Is undef, Is undef, Is undef, Is (.bool true)] (by kernel_rfl) (by kernel_rfl) rfl ⟨stable_is _, stable_is _, stable_is _, stable_is _, stable_is _, stable_is _, stable_is _, stable_is _, stable_is _, stable_is _, stable_is _, stable_is _, stable_is _, stable_is _, stable_is _, stable_is _, stable_is _, stable_is _, stable_is _, stable_is _, stable_is _, stable_is _, stable_is _, stable_is _, stable_is _, stable_is _, stable_is _, stable_is _, stable_is _, stable_is _, stable_is _, stable_is _, stable_is _, stable_is _, stable_is _, stable_is _, stable_is _, stable_is _, stable_is _, stable_is _, stable_is _, stable_is _, stable_is _, stable_is _, stable_is _, stable_is _, stable_is _, stable_is _, stable_is _, stable_is _, stable_is _, trivial⟩ ⟨?_, ?_, ?_, ?_, ?_, ?_, ?_, ?_, ?_, ?_, ?_, ?_, ?_, ?_, ?_, ?_, ?_, ?_, ?_, ?_, ?_, ?_, ?_, ?_, ?_, ?_, ?_, ?_, ?_, ?_, ?_, ?_, ?_, ?_, ?_, ?_, ?_, ?_, ?_, ?_, ?_, ?_, ?_, ?_, ?_, ?_, ?_, ?_, ?_, ?_, ?_, trivial⟩ ?_
    · intro a w C
      exact part_on (wanted_free rfl _) (op_move (.inl rfl) (C.was 11 (by kernel_rfl)))
    · intro a w C
      exact part_on (wanted_free rfl _) (op_bin rfl (C.on (j := 0) (by kernel_rfl) rfl rfl) rfl rfl (by simp [go_sem]) rfl)
    · intro a w C
      exact part_on (wanted_free rfl _) (op_move (.inl rfl) (C.on (j := 1) (by kernel_rfl) rfl rfl))
    · intro a w C
      exact part_off (wanted_off (j := 2) rfl rfl rfl (C.on (j := 2) (by kernel_rfl) rfl rfl)) rfl
    · intro a w C
      exact part_off (wanted_off (j := 2) rfl rfl rfl (C.on (j := 2) (by kernel_rfl) rfl rfl)) rfl
    · intro a w C
      exact part_off (wanted_off (j := 2) rfl rfl rfl (C.on (j := 2) (by kernel_rfl) rfl rfl)) rfl
    · intro a w C
      exact part_on (wanted_free rfl _) (op_pick (k := true) rfl (C.on (j := 2) (by kernel_rfl) rfl rfl) rfl)
    · intro a w C
      exact part_on (wanted_free rfl _) (op_move (.inl rfl) (C.on (j := 6) (by kernel_rfl) rfl rfl))
    · intro a w C
      exact part_off (wanted_off (j := 7) rfl rfl rfl (C.on (j := 7) (by kernel_rfl) rfl rfl)) rfl
    · intro a w C
      exact part_off (wanted_off (j := 7) rfl rfl rfl (C.on (j := 7) (by kernel_rfl) rfl rfl)) rfl
    · intro a w C
      exact part_off (wanted_off (j := 7) rfl rfl rfl (C.on (j := 7) (by kernel_rfl) rfl rfl)) rfl
    · intro a w C
      exact part_off (wanted_off (j := 7) rfl rfl rfl (C.on (j := 7) (by kernel_rfl) rfl rfl)) rfl
    · intro a w C
      exact part_off (wanted_off (j := 7) rfl rfl rfl (C.on (j := 7) (by kernel_rfl) rfl rfl)) rfl
    · intro a w C
      exact part_off (wanted_off (j := 7) rfl rfl rfl (C.on (j := 7) (by kernel_rfl) rfl rfl)) rfl
    · intro a w C
      exact part_off (wanted_off (j := 7) rfl rfl rfl (C.on (j := 7) (by kernel_rfl) rfl rfl)) rfl
    · intro a w C
      exact part_on (wanted_free rfl _) (op_pick (k := true) rfl (C.on (j := 7) (by kernel_rfl) rfl rfl) rfl)
    · intro a w C
      exact part_on (wanted_free rfl _) (op_move (.inl rfl) (C.on (j := 15) (by kernel_rfl) rfl rfl))
    · intro a w C
      exact part_off (wanted_off (j := 16) rfl rfl rfl (C.on (j := 16) (by kernel_rfl) rfl rfl)) rfl
    · intro a w C
      exact part_off (wanted_off (j := 16) rfl rfl rfl (C.on (j := 16) (by kernel_rfl) rfl rfl)) rfl
    · intro a w C
      exact part_on (wanted_free rfl _) (op_pick (k := true) rfl (C.on (j := 16) (by kernel_rfl) rfl rfl) rfl)
    · intro a w C
      exact part_on (wanted_free rfl _) (op_move (.inl rfl) (C.on (j := 19) (by kernel_rfl) rfl rfl))
    · intro a w C
      exact part_off (wanted_off (j := 20) rfl rfl rfl (C.on (j := 20) (by kernel_rfl) rfl rfl)) rfl
    · intro a w C
      exact part_off (wanted_off (j := 20) rfl rfl rfl (C.on (j := 20) (by kernel_rfl) rfl rfl)) rfl
    · intro a w C
      exact part_off (wanted_off (j := 20) rfl rfl rfl (C.on (j := 20) (by kernel_rfl) rfl rfl)) rfl
    · intro a w C
      exact part_off (wanted_off (j := 20) rfl rfl rfl (C.on (j := 20) (by kernel_rfl) rfl rfl)) rfl
    · intro a w C
      exact part_off (wanted_off (j := 20) rfl rfl rfl (C.on (j := 20) (by kernel_rfl) rfl rfl)) rfl
    · intro a w C
      exact part_off (wanted_off (j := 20) rfl rfl rfl (C.on (j := 20) (by kernel_rfl) rfl rfl)) rfl
    · intro a w C
      exact part_off (wanted_off (j := 20) rfl rfl rfl (C.on (j := 20) (by kernel_rfl) rfl rfl)) rfl
    · intro a w C
      exact part_on (wanted_free rfl _) (op_pick (k := true) rfl (C.on (j := 20) (by kernel_rfl) rfl rfl) rfl)
    · intro a w C
      exact part_on (wanted_free rfl _) (op_move (.inl rfl) (C.on (j := 28) (by kernel_rfl) rfl rfl))
    · intro a w C
      exact part_off (wanted_off (j := 29) rfl rfl rfl (C.on (j := 29) (by kernel_rfl) rfl rfl)) rfl
    · intro a w C
      exact part_off (wanted_off (j := 29) rfl rfl rfl (C.on (j := 29) (by kernel_rfl) rfl rfl)) rfl
    · intro a w C
      exact part_off (wanted_off (j := 29) rfl rfl rfl (C.on (j := 29) (by kernel_rfl) rfl rfl)) rfl
    · intro a w C
      exact part_off (wanted_off (j := 29) rfl rfl rfl (C.on (j := 29) (by kernel_rfl) rfl rfl)) rfl
    · intro a w C
      exact part_off (wanted_off (j := 29) rfl rfl rfl (C.on (j := 29) (by kernel_rfl) rfl rfl)) rfl
    · intro a w C
      exact part_off (wanted_off (j := 29) rfl rfl rfl (C.on (j := 29) (by kernel_rfl) rfl rfl)) rfl
    · intro a w C
      exact part_off (wanted_off (j := 29) rfl rfl rfl (C.on (j := 29) (by kernel_rfl) rfl rfl)) rfl
    · intro a w C
      exact part_off (wanted_off (j := 29) rfl rfl rfl (C.on (j := 29) (by kernel_rfl) rfl rfl)) rfl
    · intro a w C
      exact part_off (wanted_off (j := 29) rfl rfl rfl (C.on (j := 29) (by kernel_rfl) rfl rfl)) rfl
    · intro a w C
      exact part_off (wanted_off (j := 29) rfl rfl rfl (C.on (j := 29) (by kernel_rfl) rfl rfl)) rfl
    · intro a w C
      exact part_off (wanted_off (j := 29) rfl rfl rfl (C.on (j := 29) (by kernel_rfl) rfl rfl)) rfl
    · intro a w C
      exact part_on (wanted_free rfl _) (op_pick (k := true) rfl (C.on (j := 29) (by kernel_rfl) rfl rfl) rfl)
    · intro a w C
      exact part_on (wanted_free rfl _) (op_move (.inl rfl) (C.on (j := 41) (by kernel_rfl) rfl rfl))
    · intro a w C
      exact part_off (wanted_off (j := 42) rfl rfl rfl (C.on (j := 42) (by kernel_rfl) rfl rfl)) rfl
    · intro a w C
      exact part_off (wanted_off (j := 42) rfl rfl rfl (C.on (j := 42) (by kernel_rfl) rfl rfl)) rfl
    · intro a w C
      exact part_off (wanted_off (j := 42) rfl rfl rfl (C.on (j := 42) (by kernel_rfl) rfl rfl)) rfl
    · intro a w C
      exact part_off (wanted_off (j := 42) rfl rfl rfl (C.on (j := 42) (by kernel_rfl) rfl rfl)) rfl
    · intro a w C
      exact part_off (wanted_off (j := 42) rfl rfl rfl (C.on (j := 42) (by kernel_rfl) rfl rfl)) rfl
    · intro a w C
      exact part_off (wanted_off (j := 42) rfl rfl rfl (C.on (j := 42) (by kernel_rfl) rfl rfl)) rfl
    · intro a w C
      exact part_off (wanted_off (j := 42) rfl rfl rfl (C.on (j := 42) (by kernel_rfl) rfl rfl)) rfl
    · intro a w C
      exact part_on (wanted_free rfl _) (op_pick (k := true) rfl (C.on (j := 42) (by kernel_rfl) rfl rfl) rfl)
    rintro wF hbF _ rfl _ rfl _ rfl _ rfl _ rfl _ rfl _ rfl _ rfl _ rfl _ rfl _ rfl _ rfl _ rfl _ rfl _ rfl _ rfl _ rfl _ rfl _ rfl _ rfl _ rfl _ rfl _ rfl _ rfl _ rfl _ rfl _ rfl _ rfl _ rfl _ rfl _ rfl _ rfl _ rfl _ rfl _ rfl _ rfl _ rfl _ rfl _ rfl _ rfl _ rfl _ rfl _ rfl _ rfl _ rfl _ rfl _ rfl _ rfl _ rfl _ rfl _ rfl
    simp only [Fin, setAt, Exit.then, List.setIfInBounds_toArray, List.set_cons_succ, List.set_cons_zero]
    have HB3 := Lib.hid (HB2.out.trans (hbF.mono HB2.out.size))
    clear hbF HB2
    go_wp2
    go_ret
    exact ⟨rfl, HB3.out⟩
  refine (CM _).mono ?_
  rintro e w2 ⟨q, pc, h, G, rfl, hG, hGe, hb⟩
  have HB2 := Lib.hid (below_step HB1.out hb)
  have hGW : W.heap.size ≤ G := by have := HB1.out.size; omega
  have hHX : GT q pc h G al t l m b c g z (List.replicate b zb) T7 tp ts w2 := ⟨hG, RowAt.step HT1.out hb⟩
  have HX : Hid (∀ u, Below w2.heap.size w2 u → GT q pc h G al t l m b c g z (List.replicate b zb) T7 tp ts u) := Lib.hid fun u hu => hHX.step hu
  have CHas := Lib.hid fun w => sphas_any al t l m b c g z HSh.tm tp ts w
  have HSh2 := Lib.hid HSh
  clear HP1 HB1 hb CM hGe hG HT1 hHX
  obtain ⟨x2, h2⟩ : ∃ x2, decide ((200 : Int) < (bt.size : Int)) = x2 := ⟨_, rfl⟩
  obtain ⟨x3, h3⟩ : ∃ x3, hasB t tp ts = x3 := ⟨_, rfl⟩
  obtain ⟨x4, h4⟩ : ∃ x4, decide (kx < 0) = x4 := ⟨_, rfl⟩
  obtain ⟨x5, h5⟩ : ∃ x5, decide ((l : Int) ≤ kx) = x5 := ⟨_, rfl⟩
  obtain ⟨x6, h6⟩ : ∃ x6, decide (ix < firN tp ts) = x6 := ⟨_, rfl⟩
  obtain ⟨x7, h7⟩ : ∃ x7, decide ((g : Int) ≤ ix) = x7 := ⟨_, rfl⟩
  obtain ⟨y3, g3⟩ : ∃ y3, (x2 || !x3) = y3 := ⟨_, rfl⟩
  obtain ⟨y4, g4⟩ : ∃ y4, (y3 || x4) = y4 := ⟨_, rfl⟩
  obtain ⟨y5, g5⟩ : ∃ y5, (y4 || x5) = y5 := ⟨_, rfl⟩
  obtain ⟨y6, g6⟩ : ∃ y6, (y5 || x6) = y6 := ⟨_, rfl⟩
  obtain ⟨y7, g7⟩ : ∃ y7, (y6 || x7) = y7 := ⟨_, rfl⟩
  rw [h3] at CHas
  have H2 := Lib.hid h2
  have H3 := Lib.hid h3
  have H4 := Lib.hid h4
  have H5 := Lib.hid h5
  have H6 := Lib.hid h6
  have H7 := Lib.hid h7
  have HY3 := Lib.hid g3
  have HY4 := Lib.hid g4
  have HY5 := Lib.hid g5
  have HY6 := Lib.hid g6
  have HY7 := Lib.hid g7
  clear h2 h3 h4 h5 h6 h7 g3 g4 g5 g6 g7
  go_upto_region 4 with fail
  refine wp_region_text [Is (.pointer (some ⟨q, 0, none⟩)), Is (.bool false), Is (.bool false), Is (.string bt), Is (.int .i64 (bt.size : Int)), Is (.bool x2), Is (.bool x2), Is (.bool x2), Is (cond x2 undef (.pointer (some ⟨q, 0, none⟩))), Is (cond x2 undef (.pointer (some ⟨q, 0, none⟩))), Is (cond x2 undef (.pointer (some ⟨q, 1, none⟩))), Is (cond x2 undef (spv al t l m b c g z)), Is (cond x2 undef (tuv tp ts)), Is (cond x2 undef (.bool x3)), Is (cond x2 undef (.bool (!x3))), Is (.bool y3), Is (.bool y3), Is (cond y3 undef (.int .i64 kx)), Is (cond y3 undef (.bool x4)), Is (.bool y4), Is (.bool y4), Is (cond y4 undef (.int .i64 kx)), Is (cond y4 undef (.pointer (some ⟨q, 0, none⟩))), Is (cond y4 undef (.pointer (some ⟨q, 0, none⟩))), Is (cond y4 undef (.pointer (some ⟨q, 1, none⟩))), Is (cond y4 undef (.pointer (some ⟨q, 3, none⟩))), Is (cond y4 undef (.int .i64 (l : Int))), Is (cond y4 undef (.bool x5)), Is (.bool y5), Is (.bool y5), Is (cond y5 undef (.int .i64 ix)), Is (cond y5 undef (.pointer (some ⟨q, 0, none⟩))), Is (cond y5 undef (.pointer (some ⟨q, 0, none⟩))), Is (cond y5 undef (.pointer (some ⟨q, 1, none⟩))), Is (cond y5 undef (spv al t l m b c g z)), Is (cond y5 undef (.pointer (some ⟨T7, 0, none⟩))), Is (cond y5 undef (.int .i64 tp)), Is (cond y5 undef (.pointer (some ⟨T7, 1, none⟩))), Is (cond y5 undef (.int .i64 ts)), Is (cond y5 undef (.int .i64 (firN tp ts))), Is (cond y5 undef (.bool x6)), Is (.bool y6), Is (.bool y6), Is (cond y6 undef (.int .i64 ix)), Is (cond y6 undef (.pointer (some ⟨q, 0, none⟩))), Is (cond y6 undef (.pointer (some ⟨q, 0, none⟩))), Is (cond y6 undef (.pointer (some ⟨q, 1, none⟩))), Is (cond y6 undef (.pointer (some ⟨q, 7, none⟩))), Is (cond y6 undef (.int .i64 (g : Int))), Is (cond y6 undef (.bool x7)), Is (.bool y7)] (by kernel_rfl) (by kernel_rfl) rfl ⟨stable_is _, stable_is _, stable_is _, stable_is _, stable_is _, stable_is _, stable_is _, stable_is _, stable_is _, stable_is _, stable_is _, stable_is _, stable_is _, stable_is _, stable_is _, stable_is _, stable_is _, stable_is _, stable_is _, stable_is _, stable_is _, stable_is _, stable_is _, stable_is _, stable_is _, stable_is _, stable_is _, stable_is _, stable_is _, stable_is _, stable_is _, stable_is _, stable_is _, stable_is _, stable_is _, stable_is _, stable_is _, stable_is _, stable_is _, stable_is _, stable_is _, stable_is _, stable_is _, stable_is _, stable_is _, stable_is _, stable_is _, stable_is _, stable_is _, stable_is _, stable_is _, trivial⟩ ⟨?_, ?_, ?_, ?_, ?_, ?_, ?_, ?_, ?_, ?_, ?_, ?_, ?_, ?_, ?_, ?_, ?_, ?_, ?_, ?_, ?_, ?_, ?_, ?_, ?_, ?_, ?_, ?_, ?_, ?_, ?_, ?_, ?_, ?_, ?_, ?_, ?_, ?_, ?_, ?_, ?_, ?_, ?_, ?_, ?_, ?_, ?_, ?_, ?_, ?_, ?_, trivial⟩ ?_
  · intro a w C
    exact part_on (wanted_free rfl _) (op_move (.inl rfl) (C.was 11 (by kernel_rfl)))
  · intro a w C
    exact part_on (wanted_free rfl _) (op_bin rfl (C.on (j := 0) (by kernel_rfl) rfl rfl) rfl rfl (by simp [go_sem]) rfl)
  · intro a w C
    exact part_on (wanted_free rfl _) (op_move (.inl rfl) (C.on (j := 1) (by kernel_rfl) rfl rfl))
  · intro a w C
    exact part_on (wanted_on (j := 2) rfl rfl rfl (C.on (j := 2) (by kernel_rfl) rfl rfl)) (op_move (.inl rfl) (C.was 1 (by kernel_rfl)))
  · intro a w C
    exact part_on (wanted_on (j := 2) rfl rfl rfl (C.on (j := 2) (by kernel_rfl) rfl rfl)) (op_len_text rfl Tryz.underlying9 (C.on (j := 3) (by kernel_rfl) rfl rfl) rfl)
  · intro a w C
    exact part_on (wanted_on (j := 2) rfl rfl rfl (C.on (j := 2) (by kernel_rfl) rfl rfl)) (op_bin rfl (C.on (j := 4) (by kernel_rfl) rfl rfl) rfl rfl (by simp [go_sem, H2.out]) rfl)
  · intro a w C
    exact part_on (wanted_free rfl _) (op_pick (k := false) rfl (C.on (j := 2) (by kernel_rfl) rfl rfl) (C.on (j := 5) (by kernel_rfl) rfl rfl))
  · intro a w C
    exact part_on (wanted_free rfl _) (op_move (.inl rfl) (C.on (j := 6) (by kernel_rfl) rfl rfl))
  · intro a w C
    cases x2 with
    | true => exact part_off (wanted_off (j := 7) rfl rfl rfl (C.on (j := 7) (by kernel_rfl) rfl rfl)) rfl
    | false => exact part_on (wanted_on (j := 7) rfl rfl rfl (C.on (j := 7) (by kernel_rfl) rfl rfl)) (op_move (.inl rfl) (C.was 11 (by kernel_rfl)))
  · intro a w C
    cases x2 with
    | true => exact part_off (wanted_off (j := 7) rfl rfl rfl (C.on (j := 7) (by kernel_rfl) rfl rfl)) rfl
    | false => exact part_on (wanted_on (j := 7) rfl rfl rfl (C.on (j := 7) (by kernel_rfl) rfl rfl)) (op_value (nil_run rfl (C.on (j := 8) (by kernel_rfl) rfl rfl)) rfl)
  · intro a w C
    cases x2 with
    | true => exact part_off (wanted_off (j := 7) rfl rfl rfl (C.on (j := 7) (by kernel_rfl) rfl rfl)) rfl
    | false => exact part_on (wanted_on (j := 7) rfl rfl rfl (C.on (j := 7) (by kernel_rfl) rfl rfl)) (op_value (grf_run (k := 1) rfl (by decide) (C.on (j := 9) (by kernel_rfl) rfl rfl)) rfl)
  · intro a w C
    cases x2 with
    | true => exact part_off (wanted_off (j := 7) rfl rfl rfl (C.on (j := 7) (by kernel_rfl) rfl rfl)) rfl
    | false => exact part_on (wanted_on (j := 7) rfl rfl rfl (C.on (j := 7) (by kernel_rfl) rfl rfl)) (op_value (load_run rfl (C.on (j := 10) (by kernel_rfl) rfl rfl) (HX.out w C.below).gr.row.shape) rfl)
  · intro a w C
    cases x2 with
    | true => exact part_off (wanted_off (j := 7) rfl rfl rfl (C.on (j := 7) (by kernel_rfl) rfl rfl)) rfl
    | false => exact part_on (wanted_on (j := 7) rfl rfl rfl (C.on (j := 7) (by kernel_rfl) rfl rfl)) (op_value (load_run rfl (C.was 7 (by kernel_rfl)) (HX.out w C.below).tu) rfl)
  · intro a w C
    cases x2 with
    | true => exact part_off (wanted_off (j := 7) rfl rfl rfl (C.on (j := 7) (by kernel_rfl) rfl rfl)) rfl
    | false => exact part_on (wanted_on (j := 7) rfl rfl rfl (C.on (j := 7) (by kernel_rfl) rfl rfl)) (op_call2 rfl (reg_enters Tryz.func15 (by kernel_rfl) (by kernel_rfl)) (C.on (j := 11) (by kernel_rfl) rfl rfl) (C.on (j := 12) (by kernel_rfl) rfl rfl) (calls_is (CHas.out w)))
  · intro a w C
    cases x2 with
    | true => exact part_off (wanted_off (j := 7) rfl rfl rfl (C.on (j := 7) (by kernel_rfl) rfl rfl)) rfl
    | false => exact part_on (wanted_on (j := 7) rfl rfl rfl (C.on (j := 7) (by kernel_rfl) rfl rfl)) (op_value (not_run rfl (C.on (j := 13) (by kernel_rfl) rfl rfl)) rfl)
  · intro a w C
    cases x2 with
    | true => obtain rfl : true = y3 := HY3.out; exact part_on (wanted_free rfl _) (op_pick (k := true) rfl (C.on (j := 7) (by kernel_rfl) rfl rfl) rfl)
    | false => obtain rfl : (!x3) = y3 := HY3.out; exact part_on (wanted_free rfl _) (op_pick (k := false) rfl (C.on (j := 7) (by kernel_rfl) rfl rfl) (C.on (j := 14) (by kernel_rfl) rfl rfl))
  · intro a w C
    exact part_on (wanted_free rfl _) (op_move (.inl rfl) (C.on (j := 15) (by kernel_rfl) rfl rfl))
  · intro a w C
    cases y3 with
    | true => exact part_off (wanted_off (j := 16) rfl rfl rfl (C.on (j := 16) (by kernel_rfl) rfl rfl)) rfl
    | false => exact part_on (wanted_on (j := 16) rfl rfl rfl (C.on (j := 16) (by kernel_rfl) rfl rfl)) (op_move (.inl rfl) (C.was 3 (by kernel_rfl)))
  · intro a w C
    cases y3 with
    | true => exact part_off (wanted_off (j := 16) rfl rfl rfl (C.on (j := 16) (by kernel_rfl) rfl rfl)) rfl
    | false => exact part_on (wanted_on (j := 16) rfl rfl rfl (C.on (j := 16) (by kernel_rfl) rfl rfl)) (op_bin rfl (C.on (j := 17) (by kernel_rfl) rfl rfl) rfl rfl (by simp [go_sem, H4.out]) rfl)
  · intro a w C
    cases y3 with
    | true => obtain rfl : true = y4 := HY4.out; exact part_on (wanted_free rfl _) (op_pick (k := true) rfl (C.on (j := 16) (by kernel_rfl) rfl rfl) rfl)
    | false => obtain rfl : x4 = y4 := HY4.out; exact part_on (wanted_free rfl _) (op_pick (k := false) rfl (C.on (j := 16) (by kernel_rfl) rfl rfl) (C.on (j := 18) (by kernel_rfl) rfl rfl))
  · intro a w C
    exact part_on (wanted_free rfl _) (op_move (.inl rfl) (C.on (j := 19) (by kernel_rfl) rfl rfl))
  · intro a w C
    cases y4 with
    | true => exact part_off (wanted_off (j := 20) rfl rfl rfl (C.on (j := 20) (by kernel_rfl) rfl rfl)) rfl
    | false => exact part_on (wanted_on (j := 20) rfl rfl rfl (C.on (j := 20) (by kernel_rfl) rfl rfl)) (op_move (.inl rfl) (C.was 3 (by kernel_rfl)))
  · intro a w C
    cases y4 with
    | true => exact part_off (wanted_off (j := 20) rfl rfl rfl (C.on (j := 20) (by kernel_rfl) rfl rfl)) rfl
    | false => exact part_on (wanted_on (j := 20) rfl rfl rfl (C.on (j := 20) (by kernel_rfl) rfl rfl)) (op_move (.inl rfl) (C.was 11 (by kernel_rfl)))
  · intro a w C
    cases y4 with
    | true => exact part_off (wanted_off (j := 20) rfl rfl rfl (C.on (j := 20) (by kernel_rfl) rfl rfl)) rfl
    | false => exact part_on (wanted_on (j := 20) rfl rfl rfl (C.on (j := 20) (by kernel_rfl) rfl rfl)) (op_value (nil_run rfl (C.on (j := 22) (by kernel_rfl) rfl rfl)) rfl)
  · intro a w C
    cases y4 with
    | true => exact part_off (wanted_off (j := 20) rfl rfl rfl (C.on (j := 20) (by kernel_rfl) rfl rfl)) rfl
    | false => exact part_on (wanted_on (j := 20) rfl rfl rfl (C.on (j := 20) (by kernel_rfl) rfl rfl)) (op_value (grf_run (k := 1) rfl (by decide) (C.on (j := 23) (by kernel_rfl) rfl rfl)) rfl)
  · intro a w C
    cases y4 with
    | true => exact part_off (wanted_off (j := 20) rfl rfl rfl (C.on (j := 20) (by kernel_rfl) rfl rfl)) rfl
    | false => exact part_on (wanted_on (j := 20) rfl rfl rfl (C.on (j := 20) (by kernel_rfl) rfl rfl)) (op_value (spf_all (k := 2) rfl (by decide) (C.on (j := 24) (by kernel_rfl) rfl rfl)) rfl)
  · intro a w C
    cases y4 with
    | true => exact part_off (wanted_off (j := 20) rfl rfl rfl (C.on (j := 20) (by kernel_rfl) rfl rfl)) rfl
    | false => exact part_on (wanted_on (j := 20) rfl rfl rfl (C.on (j := 20) (by kernel_rfl) rfl rfl)) (op_value (int_run rfl (C.on (j := 25) (by kernel_rfl) rfl rfl) (HX.out w C.below).gr.row.lanes) rfl)
  · intro a w C
    cases y4 with
    | true => exact part_off (wanted_off (j := 20) rfl rfl rfl (C.on (j := 20) (by kernel_rfl) rfl rfl)) rfl
    | false => exact part_on (wanted_on (j := 20) rfl rfl rfl (C.on (j := 20) (by kernel_rfl) rfl rfl)) (op_bin rfl (C.on (j := 21) (by kernel_rfl) rfl rfl) (C.on (j := 26) (by kernel_rfl) rfl rfl) rfl (by simp [go_sem, H5.out]) rfl)
  · intro a w C
    cases y4 with
    | true => obtain rfl : true = y5 := HY5.out; exact part_on (wanted_free rfl _) (op_pick (k := true) rfl (C.on (j := 20) (by kernel_rfl) rfl rfl) rfl)
    | false => obtain rfl : x5 = y5 := HY5.out; exact part_on (wanted_free rfl _) (op_pick (k := false) rfl (C.on (j := 20) (by kernel_rfl) rfl rfl) (C.on (j := 27) (by kernel_rfl) rfl rfl))
  · intro a w C
    exact part_on (wanted_free rfl _) (op_move (.inl rfl) (C.on (j := 28) (by kernel_rfl) rfl rfl))
  · intro a w C
    cases y5 with
    | true => exact part_off (wanted_off (j := 29) rfl rfl rfl (C.on (j := 29) (by kernel_rfl) rfl rfl)) rfl
    | false => exact part_on (wanted_on (j := 29) rfl rfl rfl (C.on (j := 29) (by kernel_rfl) rfl rfl)) (op_move (.inl rfl) (C.was 4 (by kernel_rfl)))
  · intro a w C
    cases y5 with
    | true => exact part_off (wanted_off (j := 29) rfl rfl rfl (C.on (j := 29) (by kernel_rfl) rfl rfl)) rfl
    | false => exact part_on (wanted_on (j := 29) rfl rfl rfl (C.on (j := 29) (by kernel_rfl) rfl rfl)) (op_move (.inl rfl) (C.was 11 (by kernel_rfl)))
  · intro a w C
    cases y5 with
    | true => exact part_off (wanted_off (j := 29) rfl rfl rfl (C.on (j := 29) (by kernel_rfl) rfl rfl)) rfl
    | false => exact part_on (wanted_on (j := 29) rfl rfl rfl (C.on (j := 29) (by kernel_rfl) rfl rfl)) (op_value (nil_run rfl (C.on (j := 31) (by kernel_rfl) rfl rfl)) rfl)
  · intro a w C
    cases y5 with
    | true => exact part_off (wanted_off (j := 29) rfl rfl rfl (C.on (j := 29) (by kernel_rfl) rfl rfl)) rfl
    | false => exact part_on (wanted_on (j := 29) rfl rfl rfl (C.on (j := 29) (by kernel_rfl) rfl rfl)) (op_value (grf_run (k := 1) rfl (by decide) (C.on (j := 32) (by kernel_rfl) rfl rfl)) rfl)
  · intro a w C
    cases y5 with
    | true => exact part_off (wanted_off (j := 29) rfl rfl rfl (C.on (j := 29) (by kernel_rfl) rfl rfl)) rfl
    | false => exact part_on (wanted_on (j := 29) rfl rfl rfl (C.on (j := 29) (by kernel_rfl) rfl rfl)) (op_value (load_run rfl (C.on (j := 33) (by kernel_rfl) rfl rfl) (HX.out w C.below).gr.row.shape) rfl)
  · intro a w C
    cases y5 with
    | true => exact part_off (wanted_off (j := 29) rfl rfl rfl (C.on (j := 29) (by kernel_rfl) rfl rfl)) rfl
    | false => exact part_on (wanted_on (j := 29) rfl rfl rfl (C.on (j := 29) (by kernel_rfl) rfl rfl)) (op_value (tuf_run (k := 0) rfl (by decide) (C.was 7 (by kernel_rfl))) rfl)
  · intro a w C
    cases y5 with
    | true => exact part_off (wanted_off (j := 29) rfl rfl rfl (C.on (j := 29) (by kernel_rfl) rfl rfl)) rfl
    | false => exact part_on (wanted_on (j := 29) rfl rfl rfl (C.on (j := 29) (by kernel_rfl) rfl rfl)) (op_value (int_run rfl (C.on (j := 35) (by kernel_rfl) rfl rfl) (tu_cells (HX.out w C.below).row).1) rfl)
  · intro a w C
    cases y5 with
    | true => exact part_off (wanted_off (j := 29) rfl rfl rfl (C.on (j := 29) (by kernel_rfl) rfl rfl)) rfl
    | false => exact part_on (wanted_on (j := 29) rfl rfl rfl (C.on (j := 29) (by kernel_rfl) rfl rfl)) (op_value (tuf_run (k := 1) rfl (by decide) (C.was 7 (by kernel_rfl))) rfl)
  · intro a w C
    cases y5 with
    | true => exact part_off (wanted_off (j := 29) rfl rfl rfl (C.on (j := 29) (by kernel_rfl) rfl rfl)) rfl
    | false => exact part_on (wanted_on (j := 29) rfl rfl rfl (C.on (j := 29) (by kernel_rfl) rfl rfl)) (op_value (int_run rfl (C.on (j := 37) (by kernel_rfl) rfl rfl) (tu_cells (HX.out w C.below).row).2) rfl)
  · intro a w C
    cases y5 with
    | true => exact part_off (wanted_off (j := 29) rfl rfl rfl (C.on (j := 29) (by kernel_rfl) rfl rfl)) rfl
    | false => exact part_on (wanted_on (j := 29) rfl rfl rfl (C.on (j := 29) (by kernel_rfl) rfl rfl)) (op_call3 rfl (reg_enters Tryz.func16 (by kernel_rfl) (by kernel_rfl)) (C.on (j := 34) (by kernel_rfl) rfl rfl) (C.on (j := 36) (by kernel_rfl) rfl rfl) (C.on (j := 38) (by kernel_rfl) rfl rfl) (calls_is (spfirst_any al t l m b c g z tp ts w)))
  · intro a w C
    cases y5 with
    | true => exact part_off (wanted_off (j := 29) rfl rfl rfl (C.on (j := 29) (by kernel_rfl) rfl rfl)) rfl
    | false => exact part_on (wanted_on (j := 29) rfl rfl rfl (C.on (j := 29) (by kernel_rfl) rfl rfl)) (op_bin rfl (C.on (j := 30) (by kernel_rfl) rfl rfl) (C.on (j := 39) (by kernel_rfl) rfl rfl) rfl (by simp [go_sem, H6.out]) rfl)
  · intro a w C
    cases y5 with
    | true => obtain rfl : true = y6 := HY6.out; exact part_on (wanted_free rfl _) (op_pick (k := true) rfl (C.on (j := 29) (by kernel_rfl) rfl rfl) rfl)
    | false => obtain rfl : x6 = y6 := HY6.out; exact part_on (wanted_free rfl _) (op_pick (k := false) rfl (C.on (j := 29) (by kernel_rfl) rfl rfl) (C.on (j := 40) (by kernel_rfl) rfl rfl))
  · intro a w C
    exact part_on (wanted_free rfl _) (op_move (.inl rfl) (C.on (j := 41) (by kernel_rfl) rfl rfl))
  · intro a w C
    cases y6 with
    | true => exact part_off (wanted_off (j := 42) rfl rfl rfl (C.on (j := 42) (by kernel_rfl) rfl rfl)) rfl
    | false => exact part_on (wanted_on (j := 42) rfl rfl rfl (C.on (j := 42) (by kernel_rfl) rfl rfl)) (op_move (.inl rfl) (C.was 4 (by kernel_rfl)))
  · intro a w C
    cases y6 with
    | true => exact part_off (wanted_off (j := 42) rfl rfl rfl (C.on (j := 42) (by kernel_rfl) rfl rfl)) rfl
    | false => exact part_on (wanted_on (j := 42) rfl rfl rfl (C.on (j := 42) (by kernel_rfl) rfl rfl)) (op_move (.inl rfl) (C.was 11 (by kernel_rfl)))
  · intro a w C
    cases y6 with
    | true => exact part_off (wanted_off (j := 42) rfl rfl rfl (C.on (j := 42) (by kernel_rfl) rfl rfl)) rfl
    | false => exact part_on (wanted_on (j := 42) rfl rfl rfl (C.on (j := 42) (by kernel_rfl) rfl rfl)) (op_value (nil_run rfl (C.on (j := 44) (by kernel_rfl) rfl rfl)) rfl)
  · intro a w C
    cases y6 with
    | true => exact part_off (wanted_off (j := 42) rfl rfl rfl (C.on (j := 42) (by kernel_rfl) rfl rfl)) rfl
    | false => exact part_on (wanted_on (j := 42) rfl rfl rfl (C.on (j := 42) (by kernel_rfl) rfl rfl)) (op_value (grf_run (k := 1) rfl (by decide) (C.on (j := 45) (by kernel_rfl) rfl rfl)) rfl)
  · intro a w C
    cases y6 with
    | true => exact part_off (wanted_off (j := 42) rfl rfl rfl (C.on (j := 42) (by kernel_rfl) rfl rfl)) rfl
    | false => exact part_on (wanted_on (j := 42) rfl rfl rfl (C.on (j := 42) (by kernel_rfl) rfl rfl)) (op_value (spf_all (k := 6) rfl (by decide) (C.on (j := 46) (by kernel_rfl) rfl rfl)) rfl)
  · intro a w C
    cases y6 with
    | true => exact part_off (wanted_off (j := 42) rfl rfl rfl (C.on (j := 42) (by kernel_rfl) rfl rfl)) rfl
    | false => exact part_on (wanted_on (j := 42) rfl rfl rfl (C.on (j := 42) (by kernel_rfl) rfl rfl)) (op_value (int_run rfl (C.on (j := 47) (by kernel_rfl) rfl rfl) (HX.out w C.below).gr.row.segment) rfl)
  · intro a w C
    cases y6 with
    | true => exact part_off (wanted_off (j := 42) rfl rfl rfl (C.on (j := 42) (by kernel_rfl) rfl rfl)) rfl
    | false => exact part_on (wanted_on (j := 42) rfl rfl rfl (C.on (j := 42) (by kernel_rfl) rfl rfl)) (op_bin rfl (C.on (j := 43) (by kernel_rfl) rfl rfl) (C.on (j := 48) (by kernel_rfl) rfl rfl) rfl (by simp [go_sem, H7.out]) rfl)
  · intro a w C
    cases y6 with
    | true => obtain rfl : true = y7 := HY7.out; exact part_on (wanted_free rfl _) (op_pick (k := true) rfl (C.on (j := 42) (by kernel_rfl) rfl rfl) rfl)
    | false => obtain rfl : x7 = y7 := HY7.out; exact part_on (wanted_free rfl _) (op_pick (k := false) rfl (C.on (j := 42) (by kernel_rfl) rfl rfl) (C.on (j := 49) (by kernel_rfl) rfl rfl))
  rintro wF hbF _ rfl _ rfl _ rfl _ rfl _ rfl _ rfl _ rfl _ rfl _ rfl _ rfl _ rfl _ rfl _ rfl _ rfl _ rfl _ rfl _ rfl _ rfl _ rfl _ rfl _ rfl _ rfl _ rfl _ rfl _ rfl _ rfl _ rfl _ rfl _ rfl _ rfl _ rfl _ rfl _ rfl _ rfl _ rfl _ rfl _ rfl _ rfl _ rfl _ rfl _ rfl _ rfl _ rfl _ rfl _ rfl _ rfl _ rfl _ rfl _ rfl _ rfl _ rfl
  simp only [Fin, setAt, Exit.then, List.setIfInBounds_toArray, List.set_cons_succ, List.set_cons_zero]
  have HX3 := Lib.hid (HX.out wF hbF)
  have HB3 := Lib.hid (HB2.out.trans (hbF.mono HB2.out.size))
  clear hbF HX HB2 CHas
  cases y7 with
  | true =>
    go_wp2
    go_ret
    exact ⟨rfl, HB3.out⟩
  | false =>
  obtain ⟨rfl, rfl⟩ := Bool.or_eq_false_iff.1 HY7.out
  obtain ⟨rfl, rfl⟩ := Bool.or_eq_false_iff.1 HY6.out
  obtain ⟨rfl, rfl⟩ := Bool.or_eq_false_iff.1 HY5.out
  obtain ⟨rfl, rfl⟩ := Bool.or_eq_false_iff.1 HY4.out
  obtain ⟨rfl, h3⟩ := Bool.or_eq_false_iff.1 HY3.out
  obtain rfl : x3 = true := by simpa using h3
  have hss : bt.size ≤ 200 := by have := H2.out; simp at this; omega
  obtain ⟨p, s, k, i, rfl, rfl, rfl, rfl, R⟩ := fl_of (c := c) H3.out (by have := H4.out; simp at this; omega) (by have := H5.out; simp at this; omega) (by have := H6.out; simp at this; omega) (by have := H7.out; simp at this; omega)
  clear HY3 HY4 HY5 HY6 HY7 H2 H3 H4 H5 H6 H7 h3
  have S := HSh
  have hl0 := S.l1
  have hcm := S.cm
  have hc8 : 8 ≤ c := by have := S.cg; have := S.g2; omega
  have HBL := Lib.hid S.bl
  have hbL : (List.replicate b zb).length = b := by simp
  have hGw3 := HX3.out.gr.live.blk.lt
  have CBG := Lib.hid (begin_any (N0 := W.heap.size) HKW.out.1 hGW (HKW.out.next HB3.out) HX3.out.gr (by omega) (by omega) (by omega) (by rw [hbL]; exact HBL.out) (by rw [hbL]; omega) bt (by omega))
  obtain ⟨L1, hL1⟩ : ∃ L1, begTo bt c (List.replicate b zb) l = L1 := ⟨_, rfl⟩
  have hL1l : L1.length = l * c := by rw [← hL1, begTo_len, hbL]; exact HBL.out
  rw [hL1] at CBG
  have HL1 := Lib.hid hL1l
  clear hL1 hL1l hbL HBL HKW
  go_wp2_with fail
  refine CBG.out.mono ?_
  rintro e w5 ⟨rfl, hg5, hk5⟩
  have HG5 : Hid (GT q pc h G al t l m b c g z L1 T7 p s w5) := Lib.hid ⟨hg5, HX3.out.row.kept hk5 (RowAt.unlike HX3.out.row HX3.out.gr.live.blk (by rfl))⟩
  have HB5 : Hid (Below W.heap.size W w5) := Lib.hid (HB3.out.trans (hk5.below HB3.out.size fun x hx => by omega))
  clear hg5 hk5 HX3 HB3 CBG hGw3
  have CSg := Lib.hid (segment_any (p := 0) (s := 0) (k := 0) S S.t1 (by decide) S.l1 HG5.out.gr HL1.out (HTW.out.next HB5.out) (N0 := W.heap.size) ⟨HTW.out.1.1, HTW.out.2.1⟩ hGW)
  obtain ⟨L2, hL2⟩ : ∃ L2, segL al t l b c g L1 0 0 0 = L2 := ⟨_, rfl⟩
  have hL2l : L2.length = l * c := by rw [← hL2, segL_len]; exact HL1.out
  rw [hL2] at CSg
  have HL2 := Lib.hid hL2l
  clear hL2 hL2l HL1
  go_wp2_with (refine wpList_value_want rfl _ (turn_none_run rfl) ?_)
  refine CSg.out.mono ?_
  rintro e w7 ⟨rfl, hg7, hk7⟩
  have HG7 : Hid (GT q pc h G al t l m b c g z L2 T7 p s w7) := Lib.hid ⟨hg7, HG5.out.row.kept hk7 (RowAt.unlike HG5.out.row HG5.out.gr.live.blk (by rfl))⟩
  have HB7 : Hid (Below W.heap.size W w7) := Lib.hid (HB5.out.trans (hk7.below HB5.out.size fun x hx => by omega))
  have CAl := Lib.hid (all_any hg7 hl0 (by omega) (by omega) HL2.out (by rw [HL2.out]; exact Nat.le_trans (Nat.mul_le_mul hl4 hcm) (by decide)))
  clear hg7 hk7 HG5 HB5 CSg
  go_wp2_with fail
  refine CAl.out.mono ?_
  rintro e w8 ⟨v8, gs, rfl, hd8, hgl, hb8⟩
  obtain ⟨o, kk, rfl⟩ := hd8.head (by omega)
  rw [hgl] at hd8 ⊢
  have HD8 := Lib.hid hd8
  have HB8 := Lib.hid (HB7.out.trans (hb8.mono HB7.out.size))
  have HX8 := Lib.hid (HG7.out.step hb8)
  have hN8 : w7.heap.size ≤ w8.heap.size := hb8.size
  have hG7 : G < w7.heap.size := HG7.out.gr.live.blk.lt
  have hW7 : W.heap.size ≤ w7.heap.size := HB7.out.size
  generalize w7.heap.size = N8 at *
  have HGL := Lib.hid hgl
  clear hd8 hb8 HG7 HB7 CAl hgl
  obtain ⟨Wd, hWd⟩ : ∃ Wd, numW al t b c g L2 p s k i = Wd := ⟨_, rfl⟩
  have hW64 : Wd < 18446744073709551616 := by rw [← hWd]; exact numW_lt S R HL2.out HX8.out.gr.live.ok
  have hch := chosen_of S R Wd
  have hcol := R.col S
  obtain ⟨x0, hx0⟩ : ∃ x0, s * g + i = x0 := ⟨_, rfl⟩
  rw [hx0] at hcol
  obtain ⟨y0, hy0⟩ : ∃ y0, bfN c x0 = y0 := ⟨_, rfl⟩
  have hy0c : y0 < c := by rw [← hy0]; exact bfN_lt hcol
  obtain ⟨r0, hr0⟩ : ∃ r0, ofL l p s k Wd = r0 := ⟨_, rfl⟩
  obtain ⟨c0, hc0⟩ : ∃ c0, ofC l c g p s k i Wd = c0 := ⟨_, rfl⟩
  have hrl := hch.lane
  have hcc := hch.col
  rw [hr0] at hrl
  rw [hc0] at hcc
  have hkl := R.kl
  have hg7k := HGL.out
  have hkg : k < gs.length := by omega
  have hTab : TabN W.heap.size := ⟨HTW.out.1.1, HTW.out.2.1⟩
  obtain ⟨J, hJ⟩ : ∃ J, Wd % 4294967296 = J := ⟨_, rfl⟩
  obtain ⟨K, hK⟩ : ∃ K, Wd / 4294967296 = K := ⟨_, rfl⟩
  obtain ⟨nb0, hnb⟩ : ∃ nb0, newB al t l b c g L2 p s k i = nb0 := ⟨_, rfl⟩
  have hnbo : okb nb0 := by rw [← hnb]; exact newB_ok S R HL2.out HX8.out.gr.live.ok
  have HNB : Hid (xB (mix (L2.getD (k * c + y0) []) (L2.getD (r0 * c + c0) []) :: if p = 0 then [] else [L2.getD (k * c + x0) []]) = nb0) := Lib.hid (by rw [← hnb]; unfold newB newW; rw [hWd, hr0, hc0, hx0, hy0])
  have HNm0 : Hid (∀ (B : Nat) (u : World), TAt u → GrAt u q pc h G al t l m b c g z L2 → B ≤ u.heap.size → W.heap.size ≤ B → ∀ x, B ≤ x → Src u x al t l m b c g z p s k → Calls Tryz.prog 18 #[.pointer (some ⟨q, 0, none⟩), tuv p s, .int .i64 (k : Int), .int .i64 (i : Int), .pointer (some ⟨x, 0, none⟩)] u fun e w' => e = .returned (.tuple #[.int .u32 (J : Int), .int .u32 (K : Int), .int .i64 0]) ∧ (Below B u w' ∧ u.heap.size ≤ w'.heap.size)) := Lib.hid fun B u ht hg hB hWB x hx hs => by
    have H := numbers_any S R hg HL2.out hs ht hTab (by omega) Wd hWd
    rw [hJ, hK] at H
    exact H.mono fun e w' ⟨h1, _, h2⟩ => ⟨h1, h2.below hB fun y hy => by omega, h2.size⟩
  have HLk0 : Hid (∀ (B : Nat) (u : World), TAt u → GrAt u q pc h G al t l m b c g z L2 → B ≤ u.heap.size → W.heap.size ≤ B → ∀ x, B ≤ x → Src u x al t l m b c g z p s k → Calls Tryz.prog 21 #[.pointer (some ⟨q, 0, none⟩), tuv p s, .int .i64 (k : Int), .int .i64 (i : Int), .pointer (some ⟨x, 0, none⟩)] u fun e w' => e = .returned (.tuple #[stpv k x0 k y0 r0 c0, .int .i64 0]) ∧ (Below B u w' ∧ Kept (fun j => j = x) u w')) := Lib.hid fun B u ht hg hB hWB x hx hs => by
    have H := look_any S R hg HL2.out hs ht hTab (by omega) Wd hWd
    rw [hr0, hc0, hx0, hy0] at H
    exact H.mono fun e w' ⟨h1, _, h2⟩ => ⟨h1, h2.below hB fun y hy => by omega, h2⟩
  have COf : Hid (∀ w, Calls Tryz.prog 20 #[spv al t l m b c g z, tuv p s, .int .i64 (k : Int), .int .i64 (i : Int), .int .u32 (J : Int), .int .u32 (K : Int)] w fun e w' => e = .returned (.tuple #[sov r0 c0, .int .i64 0]) ∧ Below w.heap.size w w') := Lib.hid fun w => by
    have H := of_word S R m z Wd hW64 w
    rwa [hJ, hK, hr0, hc0] at H
  have CCo := Lib.hid fun w => column_is al t l m b c g z s i x0 hx0 (by omega) w
  have CBe : Hid (∀ w, Calls Tryz.prog 23 #[spv al t l m b c g z, .int .i64 (x0 : Int)] w fun e w' => e = .returned (.int .i64 (y0 : Int)) ∧ Below w.heap.size w w') := Lib.hid fun w => by
    have H := spbefore_any al t l m b c g z x0 (by omega) (by omega) w
    rwa [bfN_is (by omega), hy0] at H
  have HC1 := Lib.hid fun w => spot_still r0 c0 (by omega) (by omega) w
  have HC2 := Lib.hid fun w => spot_still k x0 (by omega) (by omega) w
  have HC3 := Lib.hid fun w => spot_still k y0 (by omega) (by omega) w
  have HOne : Hid (∀ u, DocAt u N8 (.slice (some ⟨o, 0, none⟩) l kk) c gs L2 → Calls Tryz.prog 24 #[spv al t l m b c g z, .slice (some ⟨o, 0, none⟩) l kk, .int .i64 (p : Int), .int .i64 (s : Int), .int .i64 (k : Int), .int .i64 (i : Int)] u (fun e w' => ∃ v, e = .returned v ∧ Is (.agg (wq nb0)) v w' ∧ Below u.heap.size u w')) := Lib.hid fun u hd => by
    have H := rone_any (m := m) (z := z) S R hd HGL.out
    rw [hnb] at H
    exact calls_is H
  have HKL := Lib.hid hkl
  have HX0 := Lib.hid hcol
  clear hch hJ hK hr0 hc0 hx0 hy0 hnb hWd hW64
  have HX : Hid (∀ u, Below w8.heap.size w8 u → GT q pc h G al t l m b c g z L2 T7 p s u) := Lib.hid fun u hu => HX8.out.step hu
  have HNm : Hid (∀ u, Below w8.heap.size w8 u → ∀ x, w8.heap.size ≤ x → Src u x al t l m b c g z p s k → Calls Tryz.prog 18 #[.pointer (some ⟨q, 0, none⟩), tuv p s, .int .i64 (k : Int), .int .i64 (i : Int), .pointer (some ⟨x, 0, none⟩)] u fun e w' => e = .returned (.tuple #[.int .u32 (J : Int), .int .u32 (K : Int), .int .i64 0]) ∧ (Below w8.heap.size u w' ∧ u.heap.size ≤ w'.heap.size)) := Lib.hid fun u hu => HNm0.out w8.heap.size u (HTW.out.next (HB8.out.trans (hu.mono HB8.out.size))) (HX.out u hu).gr hu.size (by omega)
  go_upto_region 9 with fail
  refine wp_region_stage (w8.heap.size) [11] [] [[0], [0], [0], [0], [0], [0], [0], [0], [0], [0], [0], [], [1], [1], [1], [1], [1], [1], [1]] [[Is (.pointer (some ⟨q, 0, none⟩)), Is (tuv (p : Int) (s : Int)), Is (.int .i64 (k : Int)), Is (.int .i64 (i : Int)), Is (.pointer (some ⟨q, 0, none⟩)), Is (.pointer (some ⟨q, 0, none⟩)), Is (.pointer (some ⟨q, 1, none⟩)), Is (spv al t l m b c g z), Is (tuv (p : Int) (s : Int)), Is (.int .i64 (k : Int)), SrcP w8.heap.size al t l m b c g z p s k, Is (.tuple #[.int .u32 (J : Int), .int .u32 (K : Int), .int .i64 0]), Is (.tuple #[.int .u32 (J : Int), .int .u32 (K : Int), .int .i64 0]), Is (.int .u32 (J : Int)), Is (.int .u32 (K : Int)), Is (.int .i64 0), Is (.int .u32 (J : Int)), Is (.int .u32 (K : Int)), Is (.int .i64 0)], [Is (.pointer (some ⟨q, 0, none⟩)), Is (tuv (p : Int) (s : Int)), Is (.int .i64 (k : Int)), Is (.int .i64 (i : Int)), Is (.pointer (some ⟨q, 0, none⟩)), Is (.pointer (some ⟨q, 0, none⟩)), Is (.pointer (some ⟨q, 1, none⟩)), Is (spv al t l m b c g z), Is (tuv (p : Int) (s : Int)), Is (.int .i64 (k : Int)), Free, Is (.tuple #[.int .u32 (J : Int), .int .u32 (K : Int), .int .i64 0]), Is (.tuple #[.int .u32 (J : Int), .int .u32 (K : Int), .int .i64 0]), Is (.int .u32 (J : Int)), Is (.int .u32 (K : Int)), Is (.int .i64 0), Is (.int .u32 (J : Int)), Is (.int .u32 (K : Int)), Is (.int .i64 0)]] [Is (.pointer (some ⟨q, 0, none⟩)), Is (tuv (p : Int) (s : Int)), Is (.int .i64 (k : Int)), Is (.int .i64 (i : Int)), Is (.pointer (some ⟨q, 0, none⟩)), Is (.pointer (some ⟨q, 0, none⟩)), Is (.pointer (some ⟨q, 1, none⟩)), Is (spv al t l m b c g z), Is (tuv (p : Int) (s : Int)), Is (.int .i64 (k : Int)), Free, Is (.tuple #[.int .u32 (J : Int), .int .u32 (K : Int), .int .i64 0]), Is (.tuple #[.int .u32 (J : Int), .int .u32 (K : Int), .int .i64 0]), Is (.int .u32 (J : Int)), Is (.int .u32 (K : Int)), Is (.int .i64 0), Is (.int .u32 (J : Int)), Is (.int .u32 (K : Int)), Is (.int .i64 0)] (Nat.le_refl _) (by kernel_rfl) (by kernel_rfl) rfl rfl ⟨⟨stable_is _, stable_is _, stable_is _, stable_is _, stable_is _, stable_is _, stable_is _, stable_is _, stable_is _, stable_is _, stable_srcp _ _ _ _ _ _ _ _ _ _ _ _, stable_is _, stable_is _, stable_is _, stable_is _, stable_is _, stable_is _, stable_is _, stable_is _, trivial⟩, ⟨stable_is _, stable_is _, stable_is _, stable_is _, stable_is _, stable_is _, stable_is _, stable_is _, stable_is _, stable_is _, stable_free, stable_is _, stable_is _, stable_is _, stable_is _, stable_is _, stable_is _, stable_is _, stable_is _, trivial⟩, trivial⟩ (by intro n hn o ho hd w; simp only [List.mem_cons, List.not_mem_nil, or_false] at hn; subst hn; first | trivial | (cases ho; cases hd)) rfl ⟨?p0, ?p1, ?p2, ?p3, ?p4, ?p5, ?p6, ?p7, ?p8, ?p9, ?p10, fun h => absurd (by simp) h, ?p12, ?p13, ?p14, ?p15, ?p16, ?p17, ?p18, trivial⟩ ⟨?t0, trivial⟩ (by decide) ?fin
  case p0 =>
    intro _ k hk; obtain rfl := List.mem_singleton.1 hk; intro a w C Z
    exact partS_on (wanted_free rfl _) (op_move (.inl rfl) (C.was 11 (by kernel_rfl)))
  case p1 =>
    intro _ k hk; obtain rfl := List.mem_singleton.1 hk; intro a w C Z
    exact partS_on (wanted_free rfl _) (op_value (load_run rfl (C.was 7 (by kernel_rfl)) (HX.out w C.below).tu) rfl)
  case p2 =>
    intro _ k hk; obtain rfl := List.mem_singleton.1 hk; intro a w C Z
    exact partS_on (wanted_free rfl _) (op_move (.inl rfl) (C.was 3 (by kernel_rfl)))
  case p3 =>
    intro _ k hk; obtain rfl := List.mem_singleton.1 hk; intro a w C Z
    exact partS_on (wanted_free rfl _) (op_move (.inl rfl) (C.was 4 (by kernel_rfl)))
  case p4 =>
    intro _ k hk; obtain rfl := List.mem_singleton.1 hk; intro a w C Z
    exact partS_on (wanted_free rfl _) (op_move (.inl rfl) (C.was 11 (by kernel_rfl)))
  case p5 =>
    intro _ k hk; obtain rfl := List.mem_singleton.1 hk; intro a w C Z
    exact partS_on (wanted_free rfl _) (op_value (nil_run rfl (C.on (j := 4) (by kernel_rfl) rfl rfl)) rfl)
  case p6 =>
    intro _ k hk; obtain rfl := List.mem_singleton.1 hk; intro a w C Z
    exact partS_on (wanted_free rfl _) (op_value (grf_run (k := 1) rfl (by decide) (C.on (j := 5) (by kernel_rfl) rfl rfl)) rfl)
  case p7 =>
    intro _ k hk; obtain rfl := List.mem_singleton.1 hk; intro a w C Z
    exact partS_on (wanted_free rfl _) (op_value (load_run rfl (C.on (j := 6) (by kernel_rfl) rfl rfl) (HX.out w C.below).gr.row.shape) rfl)
  case p8 =>
    intro _ k hk; obtain rfl := List.mem_singleton.1 hk; intro a w C Z
    exact partS_on (wanted_free rfl _) (op_value (load_run rfl (C.was 7 (by kernel_rfl)) (HX.out w C.below).tu) rfl)
  case p9 =>
    intro _ k hk; obtain rfl := List.mem_singleton.1 hk; intro a w C Z
    exact partS_on (wanted_free rfl _) (op_move (.inl rfl) (C.was 3 (by kernel_rfl)))
  case p10 =>
    intro _ k hk; obtain rfl := List.mem_singleton.1 hk; intro a w C Z
    exact partS_on (wanted_free rfl _) (op_call3 rfl (reg_enters Tryz.func19 (by kernel_rfl) (by kernel_rfl)) (C.on (j := 7) (by kernel_rfl) rfl rfl) (C.on (j := 8) (by kernel_rfl) rfl rfl) (C.on (j := 9) (by kernel_rfl) rfl rfl) (srcp_new w8.heap.size al t l m b c g z p s k w C.below.size))
  case p12 =>
    intro _ k hk; obtain rfl := List.mem_singleton.1 hk; intro a w C Z
    exact partS_on (wanted_free rfl _) (op_move (.inl rfl) (C.on (j := 11) (by kernel_rfl) rfl rfl))
  case p13 =>
    intro _ k hk; obtain rfl := List.mem_singleton.1 hk; intro a w C Z
    exact partS_on (wanted_free rfl _) (op_value (ext_run (v := .int .u32 (J : Int)) rfl (C.on (j := 12) (by kernel_rfl) rfl rfl) rfl) rfl)
  case p14 =>
    intro _ k hk; obtain rfl := List.mem_singleton.1 hk; intro a w C Z
    exact partS_on (wanted_free rfl _) (op_value (ext_run (v := .int .u32 (K : Int)) rfl (C.on (j := 12) (by kernel_rfl) rfl rfl) rfl) rfl)
  case p15 =>
    intro _ k hk; obtain rfl := List.mem_singleton.1 hk; intro a w C Z
    exact partS_on (wanted_free rfl _) (op_value (ext_run (v := .int .i64 0) rfl (C.on (j := 12) (by kernel_rfl) rfl rfl) rfl) rfl)
  case p16 =>
    intro _ k hk; obtain rfl := List.mem_singleton.1 hk; intro a w C Z
    exact partS_on (wanted_free rfl _) (op_move (.inr rfl) (C.on (j := 13) (by kernel_rfl) rfl rfl))
  case p17 =>
    intro _ k hk; obtain rfl := List.mem_singleton.1 hk; intro a w C Z
    exact partS_on (wanted_free rfl _) (op_move (.inr rfl) (C.on (j := 14) (by kernel_rfl) rfl rfl))
  case p18 =>
    intro _ k hk; obtain rfl := List.mem_singleton.1 hk; intro a w C Z
    exact partS_on (wanted_free rfl _) (op_move (.inr rfl) (C.on (j := 15) (by kernel_rfl) rfl rfl))
  case t0 =>
    intro o ho a w C A
    cases ho
    have cb : Below w8.heap.size w8 w := C.below
    obtain ⟨x, e1, hx, hs⟩ := (show SrcP w8.heap.size al t l m b c g z p s k _ w from (C.on (j := 10) (by kernel_rfl) rfl rfl))
    refine ⟨wanted_free rfl _, ?_⟩
    unfold TurnsS
    refine Oper.wp_mono ?_ (turn_enter (reg_call5 rfl (reg_enters Tryz.func18 (by kernel_rfl) (by kernel_rfl)) (C.on (j := 0) (by kernel_rfl) rfl rfl) (C.on (j := 1) (by kernel_rfl) rfl rfl) (C.on (j := 2) (by kernel_rfl) rfl rfl) (C.on (j := 3) (by kernel_rfl) rfl rfl) e1) (HNm.out w cb x hx hs))
    rintro a2 w2 ⟨rfl, hb2, hz⟩
    refine ⟨_, rfl, rfl, cb.trans hb2, hz, ?_⟩
    · intro i o2 d hi hd hne hnw h
      have hil := (List.getElem?_eq_some_iff.1 hi).1
      replace hil : i < 19 := hil
      obtain rfl | rfl | rfl | rfl | rfl | rfl | rfl | rfl | rfl | rfl | rfl | rfl | rfl | rfl | rfl | rfl | rfl | rfl | rfl : i = 0 ∨ i = 1 ∨ i = 2 ∨ i = 3 ∨ i = 4 ∨ i = 5 ∨ i = 6 ∨ i = 7 ∨ i = 8 ∨ i = 9 ∨ i = 10 ∨ i = 11 ∨ i = 12 ∨ i = 13 ∨ i = 14 ∨ i = 15 ∨ i = 16 ∨ i = 17 ∨ i = 18 := by omega
      · exact h
      · exact h
      · exact h
      · exact h
      · exact h
      · exact h
      · exact h
      · exact h
      · exact h
      · exact h
      · trivial
      · exact absurd rfl hne
      · exact absurd hnw (by rw [show waits _ 12 11 = true from by kernel_rfl]; decide)
      · exact absurd hnw (by rw [show waits _ 13 11 = true from by kernel_rfl]; decide)
      · exact absurd hnw (by rw [show waits _ 14 11 = true from by kernel_rfl]; decide)
      · exact absurd hnw (by rw [show waits _ 15 11 = true from by kernel_rfl]; decide)
      · exact absurd hnw (by rw [show waits _ 16 11 = true from by kernel_rfl]; decide)
      · exact absurd hnw (by rw [show waits _ 17 11 = true from by kernel_rfl]; decide)
      · exact absurd hnw (by rw [show waits _ 18 11 = true from by kernel_rfl]; decide)
  case fin =>
    rintro w9 hbF _ rfl _ rfl _ rfl _ rfl _ rfl _ rfl _ rfl _ rfl _ rfl _ rfl x94 _ _ rfl _ rfl _ rfl _ rfl _ rfl _ rfl _ rfl _ rfl
    simp only [Fin, setAt, Exit.then, List.setIfInBounds_toArray, List.set_cons_succ, List.set_cons_zero]
    have HX9 := Lib.hid (HX.out w9 hbF)
    have HD9 := Lib.hid (HD8.out.step hbF)
    have HB9 := Lib.hid (HB8.out.trans (hbF.mono HB8.out.size))
    have hN9 : N8 ≤ w9.heap.size := Nat.le_trans hN8 hbF.size
    clear hbF HX HNm HX8 HD8 HB8 HNm0
    have HX : Hid (∀ u, Below w9.heap.size w9 u → GT q pc h G al t l m b c g z L2 T7 p s u) := Lib.hid fun u hu => HX9.out.step hu
    go_upto_region 10 with fail
    refine wp_region_stage (w9.heap.size) [14] [13] [[0], [0], [0], [0], [0], [0], [0], [0], [0], [0], [0], [0], [0, 1], [0], [], [1]] [[Is (.pointer (some ⟨q, 0, none⟩)), Is (.pointer (some ⟨q, 0, none⟩)), Is (.pointer (some ⟨q, 1, none⟩)), Is (spv al t l m b c g z), Is (tuv (p : Int) (s : Int)), Is (.int .i64 (k : Int)), Is (.int .i64 (i : Int)), Is (.int .u32 (J : Int)), Is (.int .u32 (K : Int)), Is (.tuple #[sov r0 c0, .int .i64 0]), Is (.tuple #[sov r0 c0, .int .i64 0]), Is (sov r0 c0), Is (.int .i64 0), NewAt w9.heap.size 58 (soc 0 0), Free, Is (.int .i64 0)], [Is (.pointer (some ⟨q, 0, none⟩)), Is (.pointer (some ⟨q, 0, none⟩)), Is (.pointer (some ⟨q, 1, none⟩)), Is (spv al t l m b c g z), Is (tuv (p : Int) (s : Int)), Is (.int .i64 (k : Int)), Is (.int .i64 (i : Int)), Is (.int .u32 (J : Int)), Is (.int .u32 (K : Int)), Is (.tuple #[sov r0 c0, .int .i64 0]), Is (.tuple #[sov r0 c0, .int .i64 0]), Is (sov r0 c0), Is (.int .i64 0), NewAt w9.heap.size 58 (soc r0 c0), Free, Is (.int .i64 0)]] [Is (.pointer (some ⟨q, 0, none⟩)), Is (.pointer (some ⟨q, 0, none⟩)), Is (.pointer (some ⟨q, 1, none⟩)), Is (spv al t l m b c g z), Is (tuv (p : Int) (s : Int)), Is (.int .i64 (k : Int)), Is (.int .i64 (i : Int)), Is (.int .u32 (J : Int)), Is (.int .u32 (K : Int)), Is (.tuple #[sov r0 c0, .int .i64 0]), Is (.tuple #[sov r0 c0, .int .i64 0]), Is (sov r0 c0), Is (.int .i64 0), NewAt w9.heap.size 58 (soc r0 c0), Free, Is (.int .i64 0)] (Nat.le_refl _) (by kernel_rfl) (by kernel_rfl) rfl rfl ⟨⟨stable_is _, stable_is _, stable_is _, stable_is _, stable_is _, stable_is _, stable_is _, stable_is _, stable_is _, stable_is _, stable_is _, stable_is _, stable_is _, stable_newat _ _ _, stable_free, stable_is _, trivial⟩, ⟨stable_is _, stable_is _, stable_is _, stable_is _, stable_is _, stable_is _, stable_is _, stable_is _, stable_is _, stable_is _, stable_is _, stable_is _, stable_is _, stable_newat _ _ _, stable_free, stable_is _, trivial⟩, trivial⟩ (by intro n hn o ho hd w; simp only [List.mem_cons, List.not_mem_nil, or_false] at hn; subst hn; first | trivial | (cases ho; cases hd)) rfl ⟨?p0, ?p1, ?p2, ?p3, ?p4, ?p5, ?p6, ?p7, ?p8, ?p9, ?p10, ?p11, ?p12, ?p13, fun h => absurd (by simp) h, ?p15, trivial⟩ ⟨?t0, trivial⟩ (by decide) ?fin
    case p0 =>
      intro _ k hk; obtain rfl := List.mem_singleton.1 hk; intro a w C Z
      exact partS_on (wanted_free rfl _) (op_move (.inl rfl) (C.was 11 (by kernel_rfl)))
    case p1 =>
      intro _ k hk; obtain rfl := List.mem_singleton.1 hk; intro a w C Z
      exact partS_on (wanted_free rfl _) (op_value (nil_run rfl (C.on (j := 0) (by kernel_rfl) rfl rfl)) rfl)
    case p2 =>
      intro _ k hk; obtain rfl := List.mem_singleton.1 hk; intro a w C Z
      exact partS_on (wanted_free rfl _) (op_value (grf_run (k := 1) rfl (by decide) (C.on (j := 1) (by kernel_rfl) rfl rfl)) rfl)
    case p3 =>
      intro _ k hk; obtain rfl := List.mem_singleton.1 hk; intro a w C Z
      exact partS_on (wanted_free rfl _) (op_value (load_run rfl (C.on (j := 2) (by kernel_rfl) rfl rfl) (HX.out w C.below).gr.row.shape) rfl)
    case p4 =>
      intro _ k hk; obtain rfl := List.mem_singleton.1 hk; intro a w C Z
      exact partS_on (wanted_free rfl _) (op_value (load_run rfl (C.was 7 (by kernel_rfl)) (HX.out w C.below).tu) rfl)
    case p5 =>
      intro _ k hk; obtain rfl := List.mem_singleton.1 hk; intro a w C Z
      exact partS_on (wanted_free rfl _) (op_move (.inl rfl) (C.was 3 (by kernel_rfl)))
    case p6 =>
      intro _ k hk; obtain rfl := List.mem_singleton.1 hk; intro a w C Z
      exact partS_on (wanted_free rfl _) (op_move (.inl rfl) (C.was 4 (by kernel_rfl)))
    case p7 =>
      intro _ k hk; obtain rfl := List.mem_singleton.1 hk; intro a w C Z
      exact partS_on (wanted_free rfl _) (op_move (.inl rfl) (C.was 13 (by kernel_rfl)))
    case p8 =>
      intro _ k hk; obtain rfl := List.mem_singleton.1 hk; intro a w C Z
      exact partS_on (wanted_free rfl _) (op_move (.inl rfl) (C.was 14 (by kernel_rfl)))
    case p9 =>
      intro _ k hk; obtain rfl := List.mem_singleton.1 hk; intro a w C Z
      exact partS_on (wanted_free rfl _) (op_call6 rfl (reg_enters Tryz.func20 (by kernel_rfl) (by kernel_rfl)) (C.on (j := 3) (by kernel_rfl) rfl rfl) (C.on (j := 4) (by kernel_rfl) rfl rfl) (C.on (j := 5) (by kernel_rfl) rfl rfl) (C.on (j := 6) (by kernel_rfl) rfl rfl) (C.on (j := 7) (by kernel_rfl) rfl rfl) (C.on (j := 8) (by kernel_rfl) rfl rfl) (calls_is (COf.out w)))
    case p10 =>
      intro _ k hk; obtain rfl := List.mem_singleton.1 hk; intro a w C Z
      exact partS_on (wanted_free rfl _) (op_move (.inl rfl) (C.on (j := 9) (by kernel_rfl) rfl rfl))
    case p11 =>
      intro _ k hk; obtain rfl := List.mem_singleton.1 hk; intro a w C Z
      exact partS_on (wanted_free rfl _) (op_value (ext_run (v := sov r0 c0) rfl (C.on (j := 10) (by kernel_rfl) rfl rfl) rfl) rfl)
    case p12 =>
      intro _ k hk; replace hk : k ∈ [0, 1] := hk; simp only [List.mem_cons, List.not_mem_nil, or_false] at hk
      rcases hk with rfl | rfl
      · intro a w C Z
        exact partS_on (wanted_free rfl _) (op_value (ext_run (v := .int .i64 0) rfl (C.on (j := 10) (by kernel_rfl) rfl rfl) rfl) rfl)
      · intro a w C Z
        exact partS_on (wanted_free rfl _) (op_value (ext_run (v := .int .i64 0) rfl (C.on (j := 10) (by kernel_rfl) rfl rfl) rfl) rfl)
    case p13 =>
      intro _ k hk; obtain rfl := List.mem_singleton.1 hk; intro a w C Z
      exact partS_new (wanted_free rfl _) (op_fresh (spot_new rfl) ⟨_, rfl, C.below.size, RowAt.new _ _ _⟩)
    case p15 =>
      intro _ k hk; obtain rfl := List.mem_singleton.1 hk; intro a w C Z
      exact partS_on (wanted_free rfl _) (op_move (.inr rfl) (C.on (j := 12) (by kernel_rfl) rfl rfl))
    case t0 =>
      intro o ho a w C A
      cases ho
      obtain ⟨b1, e1, h1, hR⟩ := (C.on (j := 13) (by kernel_rfl) rfl rfl)
      refine ⟨wanted_free rfl _, stage_store rfl e1 (C.on (j := 11) (by kernel_rfl) rfl rfl) (soc_store hR) trivial (below_setRow C.below h1 _) (Nat.le_of_eq (setRow_size _ _ _).symm) ?_⟩
      · intro i o2 d hi hd hne hnw h
        have hil := (List.getElem?_eq_some_iff.1 hi).1
        replace hil : i < 16 := hil
        obtain rfl | rfl | rfl | rfl | rfl | rfl | rfl | rfl | rfl | rfl | rfl | rfl | rfl | rfl | rfl | rfl : i = 0 ∨ i = 1 ∨ i = 2 ∨ i = 3 ∨ i = 4 ∨ i = 5 ∨ i = 6 ∨ i = 7 ∨ i = 8 ∨ i = 9 ∨ i = 10 ∨ i = 11 ∨ i = 12 ∨ i = 13 ∨ i = 14 ∨ i = 15 := by omega
        · exact h
        · exact h
        · exact h
        · exact h
        · exact h
        · exact h
        · exact h
        · exact h
        · exact h
        · exact h
        · exact h
        · exact h
        · exact h
        · cases hi; cases hd; exact ⟨b1, e1, h1, hR.setRow _⟩
        · exact absurd rfl hne
        · exact absurd hnw (by rw [show waits _ 15 14 = true from by kernel_rfl]; decide)
    case fin =>
      rintro w10 hbF _ rfl _ rfl _ rfl _ rfl _ rfl _ rfl _ rfl _ rfl _ rfl _ rfl _ rfl _ rfl _ rfl _ ⟨S16, rfl, hS16, hR16⟩ _ _ _ rfl
      simp only [Fin, setAt, Exit.then, List.setIfInBounds_toArray, List.set_cons_succ, List.set_cons_zero]
      have HX10 := Lib.hid (HX.out w10 hbF)
      have HD10 := Lib.hid (HD9.out.step hbF)
      have HB10 := Lib.hid (HB9.out.trans (hbF.mono HB9.out.size))
      have hN10 : N8 ≤ w10.heap.size := Nat.le_trans hN9 hbF.size
      have H16 := Lib.hid hR16
      clear hbF HX HX9 HD9 HB9 hR16 COf
      have HX : Hid (∀ u, Below w10.heap.size w10 u → GT q pc h G al t l m b c g z L2 T7 p s u) := Lib.hid fun u hu => HX10.out.step hu
      have HLk : Hid (∀ u, Below w10.heap.size w10 u → ∀ x, w10.heap.size ≤ x → Src u x al t l m b c g z p s k → Calls Tryz.prog 21 #[.pointer (some ⟨q, 0, none⟩), tuv p s, .int .i64 (k : Int), .int .i64 (i : Int), .pointer (some ⟨x, 0, none⟩)] u fun e w' => e = .returned (.tuple #[stpv k x0 k y0 r0 c0, .int .i64 0]) ∧ (Below w10.heap.size u w' ∧ Kept (fun j => j = x) u w')) := Lib.hid fun u hu => HLk0.out w10.heap.size u (HTW.out.next (HB10.out.trans (hu.mono HB10.out.size))) (HX.out u hu).gr hu.size (by omega)
      go_upto_region 11 with fail
      refine wp_region_stage (w10.heap.size) [11, 16] [15] [[0], [0], [0], [0], [0], [0], [0], [0], [0], [0], [0], [], [1], [1], [1, 2], [0, 1], [], [2]] [[Is (.pointer (some ⟨q, 0, none⟩)), Is (tuv (p : Int) (s : Int)), Is (.int .i64 (k : Int)), Is (.int .i64 (i : Int)), Is (.pointer (some ⟨q, 0, none⟩)), Is (.pointer (some ⟨q, 0, none⟩)), Is (.pointer (some ⟨q, 1, none⟩)), Is (spv al t l m b c g z), Is (tuv (p : Int) (s : Int)), Is (.int .i64 (k : Int)), SrcP w10.heap.size al t l m b c g z p s k, Is (.tuple #[stpv k x0 k y0 r0 c0, .int .i64 0]), Is (.tuple #[stpv k x0 k y0 r0 c0, .int .i64 0]), Is (stpv k x0 k y0 r0 c0), Is (.int .i64 0), NewAt w10.heap.size 62 (stpc 0 0 0 0 0 0), Free, Is (.int .i64 0)], [Is (.pointer (some ⟨q, 0, none⟩)), Is (tuv (p : Int) (s : Int)), Is (.int .i64 (k : Int)), Is (.int .i64 (i : Int)), Is (.pointer (some ⟨q, 0, none⟩)), Is (.pointer (some ⟨q, 0, none⟩)), Is (.pointer (some ⟨q, 1, none⟩)), Is (spv al t l m b c g z), Is (tuv (p : Int) (s : Int)), Is (.int .i64 (k : Int)), Free, Is (.tuple #[stpv k x0 k y0 r0 c0, .int .i64 0]), Is (.tuple #[stpv k x0 k y0 r0 c0, .int .i64 0]), Is (stpv k x0 k y0 r0 c0), Is (.int .i64 0), NewAt w10.heap.size 62 (stpc 0 0 0 0 0 0), Free, Is (.int .i64 0)], [Is (.pointer (some ⟨q, 0, none⟩)), Is (tuv (p : Int) (s : Int)), Is (.int .i64 (k : Int)), Is (.int .i64 (i : Int)), Is (.pointer (some ⟨q, 0, none⟩)), Is (.pointer (some ⟨q, 0, none⟩)), Is (.pointer (some ⟨q, 1, none⟩)), Is (spv al t l m b c g z), Is (tuv (p : Int) (s : Int)), Is (.int .i64 (k : Int)), Free, Is (.tuple #[stpv k x0 k y0 r0 c0, .int .i64 0]), Is (.tuple #[stpv k x0 k y0 r0 c0, .int .i64 0]), Is (stpv k x0 k y0 r0 c0), Is (.int .i64 0), NewAt w10.heap.size 62 (stpc k x0 k y0 r0 c0), Free, Is (.int .i64 0)]] [Is (.pointer (some ⟨q, 0, none⟩)), Is (tuv (p : Int) (s : Int)), Is (.int .i64 (k : Int)), Is (.int .i64 (i : Int)), Is (.pointer (some ⟨q, 0, none⟩)), Is (.pointer (some ⟨q, 0, none⟩)), Is (.pointer (some ⟨q, 1, none⟩)), Is (spv al t l m b c g z), Is (tuv (p : Int) (s : Int)), Is (.int .i64 (k : Int)), Free, Is (.tuple #[stpv k x0 k y0 r0 c0, .int .i64 0]), Is (.tuple #[stpv k x0 k y0 r0 c0, .int .i64 0]), Is (stpv k x0 k y0 r0 c0), Is (.int .i64 0), NewAt w10.heap.size 62 (stpc k x0 k y0 r0 c0), Free, Is (.int .i64 0)] (Nat.le_refl _) (by kernel_rfl) (by kernel_rfl) rfl rfl ⟨⟨stable_is _, stable_is _, stable_is _, stable_is _, stable_is _, stable_is _, stable_is _, stable_is _, stable_is _, stable_is _, stable_srcp _ _ _ _ _ _ _ _ _ _ _ _, stable_is _, stable_is _, stable_is _, stable_is _, stable_newat _ _ _, stable_free, stable_is _, trivial⟩, ⟨stable_is _, stable_is _, stable_is _, stable_is _, stable_is _, stable_is _, stable_is _, stable_is _, stable_is _, stable_is _, stable_free, stable_is _, stable_is _, stable_is _, stable_is _, stable_newat _ _ _, stable_free, stable_is _, trivial⟩, ⟨stable_is _, stable_is _, stable_is _, stable_is _, stable_is _, stable_is _, stable_is _, stable_is _, stable_is _, stable_is _, stable_free, stable_is _, stable_is _, stable_is _, stable_is _, stable_newat _ _ _, stable_free, stable_is _, trivial⟩, trivial⟩ (by intro n hn o ho hd w; simp only [List.mem_cons, List.not_mem_nil, or_false] at hn; rcases hn with rfl | rfl <;> first | trivial | (cases ho; cases hd)) rfl ⟨?p0, ?p1, ?p2, ?p3, ?p4, ?p5, ?p6, ?p7, ?p8, ?p9, ?p10, fun h => absurd (by simp) h, ?p12, ?p13, ?p14, ?p15, fun h => absurd (by simp) h, ?p17, trivial⟩ ⟨?t0, ?t1, trivial⟩ (by decide) ?fin
      case p0 =>
        intro _ k hk; obtain rfl := List.mem_singleton.1 hk; intro a w C Z
        exact partS_on (wanted_free rfl _) (op_move (.inl rfl) (C.was 11 (by kernel_rfl)))
      case p1 =>
        intro _ k hk; obtain rfl := List.mem_singleton.1 hk; intro a w C Z
        exact partS_on (wanted_free rfl _) (op_value (load_run rfl (C.was 7 (by kernel_rfl)) (HX.out w C.below).tu) rfl)
      case p2 =>
        intro _ k hk; obtain rfl := List.mem_singleton.1 hk; intro a w C Z
        exact partS_on (wanted_free rfl _) (op_move (.inl rfl) (C.was 3 (by kernel_rfl)))
      case p3 =>
        intro _ k hk; obtain rfl := List.mem_singleton.1 hk; intro a w C Z
        exact partS_on (wanted_free rfl _) (op_move (.inl rfl) (C.was 4 (by kernel_rfl)))
      case p4 =>
        intro _ k hk; obtain rfl := List.mem_singleton.1 hk; intro a w C Z
        exact partS_on (wanted_free rfl _) (op_move (.inl rfl) (C.was 11 (by kernel_rfl)))
      case p5 =>
        intro _ k hk; obtain rfl := List.mem_singleton.1 hk; intro a w C Z
        exact partS_on (wanted_free rfl _) (op_value (nil_run rfl (C.on (j := 4) (by kernel_rfl) rfl rfl)) rfl)
      case p6 =>
        intro _ k hk; obtain rfl := List.mem_singleton.1 hk; intro a w C Z
        exact partS_on (wanted_free rfl _) (op_value (grf_run (k := 1) rfl (by decide) (C.on (j := 5) (by kernel_rfl) rfl rfl)) rfl)
      case p7 =>
        intro _ k hk; obtain rfl := List.mem_singleton.1 hk; intro a w C Z
        exact partS_on (wanted_free rfl _) (op_value (load_run rfl (C.on (j := 6) (by kernel_rfl) rfl rfl) (HX.out w C.below).gr.row.shape) rfl)
      case p8 =>
        intro _ k hk; obtain rfl := List.mem_singleton.1 hk; intro a w C Z
        exact partS_on (wanted_free rfl _) (op_value (load_run rfl (C.was 7 (by kernel_rfl)) (HX.out w C.below).tu) rfl)
      case p9 =>
        intro _ k hk; obtain rfl := List.mem_singleton.1 hk; intro a w C Z
        exact partS_on (wanted_free rfl _) (op_move (.inl rfl) (C.was 3 (by kernel_rfl)))
      case p10 =>
        intro _ k hk; obtain rfl := List.mem_singleton.1 hk; intro a w C Z
        exact partS_on (wanted_free rfl _) (op_call3 rfl (reg_enters Tryz.func19 (by kernel_rfl) (by kernel_rfl)) (C.on (j := 7) (by kernel_rfl) rfl rfl) (C.on (j := 8) (by kernel_rfl) rfl rfl) (C.on (j := 9) (by kernel_rfl) rfl rfl) (srcp_new w10.heap.size al t l m b c g z p s k w C.below.size))
      case p12 =>
        intro _ k hk; obtain rfl := List.mem_singleton.1 hk; intro a w C Z
        exact partS_on (wanted_free rfl _) (op_move (.inl rfl) (C.on (j := 11) (by kernel_rfl) rfl rfl))
      case p13 =>
        intro _ k hk; obtain rfl := List.mem_singleton.1 hk; intro a w C Z
        exact partS_on (wanted_free rfl _) (op_value (ext_run (v := stpv k x0 k y0 r0 c0) rfl (C.on (j := 12) (by kernel_rfl) rfl rfl) rfl) rfl)
      case p14 =>
        intro _ k hk; replace hk : k ∈ [1, 2] := hk; simp only [List.mem_cons, List.not_mem_nil, or_false] at hk
        rcases hk with rfl | rfl
        · intro a w C Z
          exact partS_on (wanted_free rfl _) (op_value (ext_run (v := .int .i64 0) rfl (C.on (j := 12) (by kernel_rfl) rfl rfl) rfl) rfl)
        · intro a w C Z
          exact partS_on (wanted_free rfl _) (op_value (ext_run (v := .int .i64 0) rfl (C.on (j := 12) (by kernel_rfl) rfl rfl) rfl) rfl)
      case p15 =>
        intro _ k hk; replace hk : k ∈ [0, 1] := hk; simp only [List.mem_cons, List.not_mem_nil, or_false] at hk
        rcases hk with rfl | rfl
        · intro a w C Z
          exact partS_new (wanted_free rfl _) (op_fresh (step_new rfl) ⟨_, rfl, C.below.size, RowAt.new _ _ _⟩)
        · intro a w C Z
          exact partS_new (wanted_free rfl _) (op_fresh (step_new rfl) ⟨_, rfl, Z, RowAt.new _ _ _⟩)
      case p17 =>
        intro _ k hk; obtain rfl := List.mem_singleton.1 hk; intro a w C Z
        exact partS_on (wanted_free rfl _) (op_move (.inr rfl) (C.on (j := 14) (by kernel_rfl) rfl rfl))
      case t0 =>
        intro o ho a w C A
        cases ho
        have cb : Below w10.heap.size w10 w := C.below
        obtain ⟨x, e1, hx, hs⟩ := (show SrcP w10.heap.size al t l m b c g z p s k _ w from (C.on (j := 10) (by kernel_rfl) rfl rfl))
        refine ⟨wanted_free rfl _, ?_⟩
        unfold TurnsS
        refine Oper.wp_mono ?_ (turn_enter (reg_call5 rfl (reg_enters Tryz.func21 (by kernel_rfl) (by kernel_rfl)) (C.on (j := 0) (by kernel_rfl) rfl rfl) (C.on (j := 1) (by kernel_rfl) rfl rfl) (C.on (j := 2) (by kernel_rfl) rfl rfl) (C.on (j := 3) (by kernel_rfl) rfl rfl) e1) (HLk.out w cb x hx hs))
        rintro a2 w2 ⟨rfl, hb2, hk2⟩
        refine ⟨_, rfl, rfl, cb.trans hb2, hk2.size, ?_⟩
        · intro i o2 d hi hd hne hnw h
          have hil := (List.getElem?_eq_some_iff.1 hi).1
          replace hil : i < 18 := hil
          obtain rfl | rfl | rfl | rfl | rfl | rfl | rfl | rfl | rfl | rfl | rfl | rfl | rfl | rfl | rfl | rfl | rfl | rfl : i = 0 ∨ i = 1 ∨ i = 2 ∨ i = 3 ∨ i = 4 ∨ i = 5 ∨ i = 6 ∨ i = 7 ∨ i = 8 ∨ i = 9 ∨ i = 10 ∨ i = 11 ∨ i = 12 ∨ i = 13 ∨ i = 14 ∨ i = 15 ∨ i = 16 ∨ i = 17 := by omega
          · exact h
          · exact h
          · exact h
          · exact h
          · exact h
          · exact h
          · exact h
          · exact h
          · exact h
          · exact h
          · trivial
          · exact absurd rfl hne
          · exact absurd hnw (by rw [show waits _ 12 11 = true from by kernel_rfl]; decide)
          · exact absurd hnw (by rw [show waits _ 13 11 = true from by kernel_rfl]; decide)
          · exact absurd hnw (by rw [show waits _ 14 11 = true from by kernel_rfl]; decide)
          · obtain ⟨b2, e2, h2, hR2⟩ := h; exact ⟨b2, e2, h2, hR2.kept hk2 (hs.unlike hR2 (by rfl))⟩
          · cases hi; cases hd
          · exact absurd hnw (by rw [show waits _ 17 11 = true from by kernel_rfl]; decide)
      case t1 =>
        intro o ho a w C A
        cases ho
        obtain ⟨b1, e1, h1, hR⟩ := (C.on (j := 15) (by kernel_rfl) rfl rfl)
        refine ⟨wanted_free rfl _, stage_store rfl e1 (C.on (j := 13) (by kernel_rfl) rfl rfl) (stpc_store hR) trivial (below_setRow (Below.refl _ _) h1 _) (Nat.le_of_eq (setRow_size _ _ _).symm) ?_⟩
        · intro i o2 d hi hd hne hnw h
          have hil := (List.getElem?_eq_some_iff.1 hi).1
          replace hil : i < 18 := hil
          obtain rfl | rfl | rfl | rfl | rfl | rfl | rfl | rfl | rfl | rfl | rfl | rfl | rfl | rfl | rfl | rfl | rfl | rfl : i = 0 ∨ i = 1 ∨ i = 2 ∨ i = 3 ∨ i = 4 ∨ i = 5 ∨ i = 6 ∨ i = 7 ∨ i = 8 ∨ i = 9 ∨ i = 10 ∨ i = 11 ∨ i = 12 ∨ i = 13 ∨ i = 14 ∨ i = 15 ∨ i = 16 ∨ i = 17 := by omega
          · exact h
          · exact h
          · exact h
          · exact h
          · exact h
          · exact h
          · exact h
          · exact h
          · exact h
          · exact h
          · trivial
          · exact h
          · exact h
          · exact h
          · exact h
          · cases hi; cases hd; exact ⟨b1, e1, h1, hR.setRow _⟩
          · exact absurd rfl hne
          · exact absurd hnw (by rw [show waits _ 17 16 = true from by kernel_rfl]; decide)
      case fin =>
        rintro w11 hbF _ rfl _ rfl _ rfl _ rfl _ rfl _ rfl _ rfl _ rfl _ rfl _ rfl x123 _ _ rfl _ rfl _ rfl _ rfl _ ⟨S18, rfl, hS18, hR18⟩ _ _ _ rfl
        simp only [Fin, setAt, Exit.then, List.setIfInBounds_toArray, List.set_cons_succ, List.set_cons_zero]
        have HX11 := Lib.hid (HX.out w11 hbF)
        have HD11 := Lib.hid (HD10.out.step hbF)
        have HB11 := Lib.hid (HB10.out.trans (hbF.mono HB10.out.size))
        have hN11 : N8 ≤ w11.heap.size := Nat.le_trans hN10 hbF.size
        have H1611 := Lib.hid (RowAt.step H16.out hbF)
        have H18 := Lib.hid hR18
        have hS18N : N8 ≤ S18 := Nat.le_trans hN10 hS18
        clear hbF HX HX10 HD10 HB10 hR18 HLk HLk0 H16 hS18 hS16
        have HX : Hid (∀ u, Below w11.heap.size w11 u → GT q pc h G al t l m b c g z L2 T7 p s u) := Lib.hid fun u hu => HX11.out.step hu
        have HY : Hid (∀ u, Below w11.heap.size w11 u → RowAt u S16 58 (soc r0 c0) ∧ RowAt u S18 62 (stpc k x0 k y0 r0 c0) ∧ u.cell? ⟨S18, 1, none⟩ = some (.int .i64 (x0 : Int))) := Lib.hid fun u hu => ⟨RowAt.step H1611.out hu, RowAt.step H18.out hu, ((RowAt.step H18.out hu).cell 1).trans rfl⟩
        go_upto_region 12 with fail
        refine wp_region_text [Is (.int .i64 0), Is (.bool false), Is (.bool false), Is (.int .i64 0), Is (.bool false), Is (.bool false), Is (.bool false), Is (.int .i64 0), Is (.bool false), Is (.bool false), Is (.bool false), Is (.pointer (some ⟨S18, 4, none⟩)), Is (sov r0 c0), Is (sov r0 c0), Is (.bool false), Is (.bool false), Is (.bool false), Is (.pointer (some ⟨S18, 0, none⟩)), Is (sov k x0), Is (.int .i64 (k : Int)), Is (.pointer (some ⟨q, 0, none⟩)), Is (.pointer (some ⟨q, 0, none⟩)), Is (.pointer (some ⟨q, 1, none⟩)), Is (spv al t l m b c g z), Is (.pointer (some ⟨T7, 1, none⟩)), Is (.int .i64 (s : Int)), Is (.int .i64 (i : Int)), Is (.int .i64 (x0 : Int)), Is (sov k x0), Is (.bool false), Is (.bool false), Is (.bool false), Is (.pointer (some ⟨S18, 2, none⟩)), Is (sov k y0), Is (.int .i64 (k : Int)), Is (.pointer (some ⟨q, 0, none⟩)), Is (.pointer (some ⟨q, 0, none⟩)), Is (.pointer (some ⟨q, 1, none⟩)), Is (spv al t l m b c g z), Is (.pointer (some ⟨S18, 0, none⟩)), Is (.pointer (some ⟨S18, 1, none⟩)), Is (.int .i64 (x0 : Int)), Is (.int .i64 (y0 : Int)), Is (sov k y0), Is (.bool false), Is (.bool false)] (by kernel_rfl) (by kernel_rfl) rfl ⟨stable_is _, stable_is _, stable_is _, stable_is _, stable_is _, stable_is _, stable_is _, stable_is _, stable_is _, stable_is _, stable_is _, stable_is _, stable_is _, stable_is _, stable_is _, stable_is _, stable_is _, stable_is _, stable_is _, stable_is _, stable_is _, stable_is _, stable_is _, stable_is _, stable_is _, stable_is _, stable_is _, stable_is _, stable_is _, stable_is _, stable_is _, stable_is _, stable_is _, stable_is _, stable_is _, stable_is _, stable_is _, stable_is _, stable_is _, stable_is _, stable_is _, stable_is _, stable_is _, stable_is _, stable_is _, stable_is _, trivial⟩ ⟨?_, ?_, ?_, ?_, ?_, ?_, ?_, ?_, ?_, ?_, ?_, ?_, ?_, ?_, ?_, ?_, ?_, ?_, ?_, ?_, ?_, ?_, ?_, ?_, ?_, ?_, ?_, ?_, ?_, ?_, ?_, ?_, ?_, ?_, ?_, ?_, ?_, ?_, ?_, ?_, ?_, ?_, ?_, ?_, ?_, ?_, trivial⟩ ?_
        · intro a w C
          exact part_on (wanted_free rfl _) (op_move (.inl rfl) (C.was 19 (by kernel_rfl)))
        · intro a w C
          exact part_on (wanted_free rfl _) (op_bin rfl (C.on (j := 0) (by kernel_rfl) rfl rfl) rfl rfl (by simp [go_sem]) rfl)
        · intro a w C
          exact part_on (wanted_free rfl _) (op_move (.inl rfl) (C.on (j := 1) (by kernel_rfl) rfl rfl))
        · intro a w C
          exact part_on (wanted_on (j := 2) rfl rfl rfl (C.on (j := 2) (by kernel_rfl) rfl rfl)) (op_move (.inl rfl) (C.was 15 (by kernel_rfl)))
        · intro a w C
          exact part_on (wanted_on (j := 2) rfl rfl rfl (C.on (j := 2) (by kernel_rfl) rfl rfl)) (op_bin rfl (C.on (j := 3) (by kernel_rfl) rfl rfl) rfl rfl (by simp [go_sem]) rfl)
        · intro a w C
          exact part_on (wanted_free rfl _) (op_pick (k := false) rfl (C.on (j := 2) (by kernel_rfl) rfl rfl) (C.on (j := 4) (by kernel_rfl) rfl rfl))
        · intro a w C
          exact part_on (wanted_free rfl _) (op_move (.inl rfl) (C.on (j := 5) (by kernel_rfl) rfl rfl))
        · intro a w C
          exact part_on (wanted_on (j := 6) rfl rfl rfl (C.on (j := 6) (by kernel_rfl) rfl rfl)) (op_move (.inl rfl) (C.was 17 (by kernel_rfl)))
        · intro a w C
          exact part_on (wanted_on (j := 6) rfl rfl rfl (C.on (j := 6) (by kernel_rfl) rfl rfl)) (op_bin rfl (C.on (j := 7) (by kernel_rfl) rfl rfl) rfl rfl (by simp [go_sem]) rfl)
        · intro a w C
          exact part_on (wanted_free rfl _) (op_pick (k := false) rfl (C.on (j := 6) (by kernel_rfl) rfl rfl) (C.on (j := 8) (by kernel_rfl) rfl rfl))
        · intro a w C
          exact part_on (wanted_free rfl _) (op_move (.inl rfl) (C.on (j := 9) (by kernel_rfl) rfl rfl))
        · intro a w C
          exact part_on (wanted_on (j := 10) rfl rfl rfl (C.on (j := 10) (by kernel_rfl) rfl rfl)) (op_value (stepf_run (k := 2) rfl (by decide) (C.was 18 (by kernel_rfl))) rfl)
        · intro a w C
          exact part_on (wanted_on (j := 10) rfl rfl rfl (C.on (j := 10) (by kernel_rfl) rfl rfl)) (op_value (load_run rfl (C.on (j := 11) (by kernel_rfl) rfl rfl) (step_loads (HY.out w C.below).2.1).2.2) rfl)
        · intro a w C
          exact part_on (wanted_on (j := 10) rfl rfl rfl (C.on (j := 10) (by kernel_rfl) rfl rfl)) (op_value (load_run rfl (C.was 16 (by kernel_rfl)) (so_load (HY.out w C.below).1)) rfl)
        · intro a w C
          exact part_on (wanted_on (j := 10) rfl rfl rfl (C.on (j := 10) (by kernel_rfl) rfl rfl)) (op_value (cmp_run _ _ _ _ rfl (C.on (j := 12) (by kernel_rfl) rfl rfl) (C.on (j := 13) (by kernel_rfl) rfl rfl) g_so (HC1.out _)) rfl)
        · intro a w C
          exact part_on (wanted_free rfl _) (op_pick (k := false) rfl (C.on (j := 10) (by kernel_rfl) rfl rfl) (C.on (j := 14) (by kernel_rfl) rfl rfl))
        · intro a w C
          exact part_on (wanted_free rfl _) (op_move (.inl rfl) (C.on (j := 15) (by kernel_rfl) rfl rfl))
        · intro a w C
          exact part_on (wanted_on (j := 16) rfl rfl rfl (C.on (j := 16) (by kernel_rfl) rfl rfl)) (op_value (stepf_run (k := 0) rfl (by decide) (C.was 18 (by kernel_rfl))) rfl)
        · intro a w C
          exact part_on (wanted_on (j := 16) rfl rfl rfl (C.on (j := 16) (by kernel_rfl) rfl rfl)) (op_value (load_run rfl (C.on (j := 17) (by kernel_rfl) rfl rfl) (step_loads (HY.out w C.below).2.1).1) rfl)
        · intro a w C
          exact part_on (wanted_on (j := 16) rfl rfl rfl (C.on (j := 16) (by kernel_rfl) rfl rfl)) (op_move (.inl rfl) (C.was 3 (by kernel_rfl)))
        · intro a w C
          exact part_on (wanted_on (j := 16) rfl rfl rfl (C.on (j := 16) (by kernel_rfl) rfl rfl)) (op_move (.inl rfl) (C.was 11 (by kernel_rfl)))
        · intro a w C
          exact part_on (wanted_on (j := 16) rfl rfl rfl (C.on (j := 16) (by kernel_rfl) rfl rfl)) (op_value (nil_run rfl (C.on (j := 20) (by kernel_rfl) rfl rfl)) rfl)
        · intro a w C
          exact part_on (wanted_on (j := 16) rfl rfl rfl (C.on (j := 16) (by kernel_rfl) rfl rfl)) (op_value (grf_run (k := 1) rfl (by decide) (C.on (j := 21) (by kernel_rfl) rfl rfl)) rfl)
        · intro a w C
          exact part_on (wanted_on (j := 16) rfl rfl rfl (C.on (j := 16) (by kernel_rfl) rfl rfl)) (op_value (load_run rfl (C.on (j := 22) (by kernel_rfl) rfl rfl) (HX.out w C.below).gr.row.shape) rfl)
        · intro a w C
          exact part_on (wanted_on (j := 16) rfl rfl rfl (C.on (j := 16) (by kernel_rfl) rfl rfl)) (op_value (tuf_run (k := 1) rfl (by decide) (C.was 7 (by kernel_rfl))) rfl)
        · intro a w C
          exact part_on (wanted_on (j := 16) rfl rfl rfl (C.on (j := 16) (by kernel_rfl) rfl rfl)) (op_value (int_run rfl (C.on (j := 24) (by kernel_rfl) rfl rfl) (tu_cells (HX.out w C.below).row).2) rfl)
        · intro a w C
          exact part_on (wanted_on (j := 16) rfl rfl rfl (C.on (j := 16) (by kernel_rfl) rfl rfl)) (op_move (.inl rfl) (C.was 4 (by kernel_rfl)))
        · intro a w C
          exact part_on (wanted_on (j := 16) rfl rfl rfl (C.on (j := 16) (by kernel_rfl) rfl rfl)) (op_call3 rfl (reg_enters Tryz.func22 (by kernel_rfl) (by kernel_rfl)) (C.on (j := 23) (by kernel_rfl) rfl rfl) (C.on (j := 25) (by kernel_rfl) rfl rfl) (C.on (j := 26) (by kernel_rfl) rfl rfl) (calls_is (CCo.out w)))
        · intro a w C
          exact part_on (wanted_on (j := 16) rfl rfl rfl (C.on (j := 16) (by kernel_rfl) rfl rfl)) (op_value (so_run rfl (C.on (j := 19) (by kernel_rfl) rfl rfl) (C.on (j := 27) (by kernel_rfl) rfl rfl)) rfl)
        · intro a w C
          exact part_on (wanted_on (j := 16) rfl rfl rfl (C.on (j := 16) (by kernel_rfl) rfl rfl)) (op_value (cmp_run _ _ _ _ rfl (C.on (j := 18) (by kernel_rfl) rfl rfl) (C.on (j := 28) (by kernel_rfl) rfl rfl) g_so (HC2.out _)) rfl)
        · intro a w C
          exact part_on (wanted_free rfl _) (op_pick (k := false) rfl (C.on (j := 16) (by kernel_rfl) rfl rfl) (C.on (j := 29) (by kernel_rfl) rfl rfl))
        · intro a w C
          exact part_on (wanted_free rfl _) (op_move (.inl rfl) (C.on (j := 30) (by kernel_rfl) rfl rfl))
        · intro a w C
          exact part_on (wanted_on (j := 31) rfl rfl rfl (C.on (j := 31) (by kernel_rfl) rfl rfl)) (op_value (stepf_run (k := 1) rfl (by decide) (C.was 18 (by kernel_rfl))) rfl)
        · intro a w C
          exact part_on (wanted_on (j := 31) rfl rfl rfl (C.on (j := 31) (by kernel_rfl) rfl rfl)) (op_value (load_run rfl (C.on (j := 32) (by kernel_rfl) rfl rfl) (step_loads (HY.out w C.below).2.1).2.1) rfl)
        · intro a w C
          exact part_on (wanted_on (j := 31) rfl rfl rfl (C.on (j := 31) (by kernel_rfl) rfl rfl)) (op_move (.inl rfl) (C.was 3 (by kernel_rfl)))
        · intro a w C
          exact part_on (wanted_on (j := 31) rfl rfl rfl (C.on (j := 31) (by kernel_rfl) rfl rfl)) (op_move (.inl rfl) (C.was 11 (by kernel_rfl)))
        · intro a w C
          exact part_on (wanted_on (j := 31) rfl rfl rfl (C.on (j := 31) (by kernel_rfl) rfl rfl)) (op_value (nil_run rfl (C.on (j := 35) (by kernel_rfl) rfl rfl)) rfl)
        · intro a w C
          exact part_on (wanted_on (j := 31) rfl rfl rfl (C.on (j := 31) (by kernel_rfl) rfl rfl)) (op_value (grf_run (k := 1) rfl (by decide) (C.on (j := 36) (by kernel_rfl) rfl rfl)) rfl)
        · intro a w C
          exact part_on (wanted_on (j := 31) rfl rfl rfl (C.on (j := 31) (by kernel_rfl) rfl rfl)) (op_value (load_run rfl (C.on (j := 37) (by kernel_rfl) rfl rfl) (HX.out w C.below).gr.row.shape) rfl)
        · intro a w C
          exact part_on (wanted_on (j := 31) rfl rfl rfl (C.on (j := 31) (by kernel_rfl) rfl rfl)) (op_value (stepf_run (k := 0) rfl (by decide) (C.was 18 (by kernel_rfl))) rfl)
        · intro a w C
          exact part_on (wanted_on (j := 31) rfl rfl rfl (C.on (j := 31) (by kernel_rfl) rfl rfl)) (op_value (sof_run (k := 1) rfl (by decide) (C.on (j := 39) (by kernel_rfl) rfl rfl)) rfl)
        · intro a w C
          exact part_on (wanted_on (j := 31) rfl rfl rfl (C.on (j := 31) (by kernel_rfl) rfl rfl)) (op_value (int_run rfl (C.on (j := 40) (by kernel_rfl) rfl rfl) (HY.out w C.below).2.2) rfl)
        · intro a w C
          exact part_on (wanted_on (j := 31) rfl rfl rfl (C.on (j := 31) (by kernel_rfl) rfl rfl)) (op_call2 rfl (reg_enters Tryz.func23 (by kernel_rfl) (by kernel_rfl)) (C.on (j := 38) (by kernel_rfl) rfl rfl) (C.on (j := 41) (by kernel_rfl) rfl rfl) (calls_is (CBe.out w)))
        · intro a w C
          exact part_on (wanted_on (j := 31) rfl rfl rfl (C.on (j := 31) (by kernel_rfl) rfl rfl)) (op_value (so_run rfl (C.on (j := 34) (by kernel_rfl) rfl rfl) (C.on (j := 42) (by kernel_rfl) rfl rfl)) rfl)
        · intro a w C
          exact part_on (wanted_on (j := 31) rfl rfl rfl (C.on (j := 31) (by kernel_rfl) rfl rfl)) (op_value (cmp_run _ _ _ _ rfl (C.on (j := 33) (by kernel_rfl) rfl rfl) (C.on (j := 43) (by kernel_rfl) rfl rfl) g_so (HC3.out _)) rfl)
        · intro a w C
          exact part_on (wanted_free rfl _) (op_pick (k := false) rfl (C.on (j := 31) (by kernel_rfl) rfl rfl) (C.on (j := 44) (by kernel_rfl) rfl rfl))
        rintro w12 hbF _ rfl _ rfl _ rfl _ rfl _ rfl _ rfl _ rfl _ rfl _ rfl _ rfl _ rfl _ rfl _ rfl _ rfl _ rfl _ rfl _ rfl _ rfl _ rfl _ rfl _ rfl _ rfl _ rfl _ rfl _ rfl _ rfl _ rfl _ rfl _ rfl _ rfl _ rfl _ rfl _ rfl _ rfl _ rfl _ rfl _ rfl _ rfl _ rfl _ rfl _ rfl _ rfl _ rfl _ rfl _ rfl _ rfl
        simp only [Fin, setAt, Exit.then, List.setIfInBounds_toArray, List.set_cons_succ, List.set_cons_zero]
        have HX12 := Lib.hid (HX.out w12 hbF)
        have HD12 := Lib.hid (HD11.out.step hbF)
        have HB12 := Lib.hid (HB11.out.trans (hbF.mono HB11.out.size))
        have hN8w : N8 ≤ w12.heap.size := Nat.le_trans hN11 hbF.size
        have H1812 := Lib.hid (RowAt.step H18.out hbF)
        clear hbF HX HY HX11 HD11 HB11 H18 H1611 HC1 HC2 HC3 CCo CBe
        have HX : Hid (∀ u, Below w12.heap.size w12 u → GT q pc h G al t l m b c g z L2 T7 p s u) := Lib.hid fun u hu => HX12.out.step hu
        obtain ⟨gk, hgk⟩ : ∃ gk, gs.getD k 0 = gk := ⟨_, rfl⟩
        have hgkN : N8 ≤ gk := by rw [← hgk]; exact HD12.out.ge _ (getD_mem hkg)
        have hbk : BlkAt w12 gk (lane c L2 k) := by
          have h := HD12.out.blk k hkg
          rwa [hgk] at h
        obtain ⟨F, hF⟩ : ∃ F : World → Prop, F = fun u => (DocAt u N8 (.slice (some ⟨o, 0, none⟩) l kk) c gs (L2.set (k * c + x0) nb0) ∧ RowAt u S18 62 (stpc k x0 k y0 r0 c0)) ∧ (GT q pc h G al t l m b c g z L2 T7 p s u ∧ Below W.heap.size W u) := ⟨_, rfl⟩
        have HFS : Hid (∀ u u', F u → Below u.heap.size u u' → F u') := Lib.hid fun u u' hu hb => by
          subst hF
          exact ⟨⟨hu.1.1.step hb, RowAt.step hu.1.2 hb⟩, hu.2.1.step hb, hu.2.2.trans (hb.mono hu.2.2.size)⟩
        have HFE : Hid (∀ u, F u → (DocAt u N8 (.slice (some ⟨o, 0, none⟩) l kk) c gs (L2.set (k * c + x0) nb0) ∧ RowAt u S18 62 (stpc k x0 k y0 r0 c0)) ∧ (GT q pc h G al t l m b c g z L2 T7 p s u ∧ Below W.heap.size W u)) := Lib.hid fun u hu => by subst hF; exact hu
        have HQ : Hid (∀ u, Below w12.heap.size w12 u → (loadVar 69 ⟨o, k, none⟩).run Tryz.prog u = .ok (.slice (some ⟨gk, 0, none⟩) c c) u ∧ u.cell? ⟨S18, 1, none⟩ = some (.int .i64 (x0 : Int)) ∧
            Calls Tryz.prog 24 #[spv al t l m b c g z, .slice (some ⟨o, 0, none⟩) l kk, .int .i64 (p : Int), .int .i64 (s : Int), .int .i64 (k : Int), .int .i64 (i : Int)] u (fun e w' => ∃ v, e = .returned v ∧ Is (.agg (wq nb0)) v w' ∧ Below u.heap.size u w') ∧
            ∃ w7, (storeVar 67 ⟨gk, x0 * 128, none⟩ (.agg (wq nb0))).run Tryz.prog u = .ok () w7 ∧ F w7 ∧ Below N8 w12 w7 ∧ u.heap.size ≤ w7.heap.size) := Lib.hid fun u hu => by
          have hd := HD12.out.step hu
          have hr := RowAt.step H1812.out hu
          have hg := HX12.out.step hu
          have h1 := doc_row hd hkg
          rw [hgk] at h1
          refine ⟨h1, (hr.cell 1).trans rfl, HOne.out u hd, ?_⟩
          obtain ⟨w7, hs7, hd7, hk7⟩ := hd.store hkg hcol hnbo
          rw [hgk] at hs7 hk7
          have hbu := RowAt.step hbk hu
          have hb7 : Below N8 w12 w7 := (hu.mono hN8w).trans (hk7.below (Nat.le_trans hN8w hu.size) fun x hx => by omega)
          refine ⟨w7, hs7, ?_, hb7, hk7.size⟩
          subst hF
          refine ⟨⟨hd7, RowAt.kept hr hk7 (RowAt.unlike hr hbu (by rfl))⟩, ⟨hg.gr.keep hk7 (RowAt.unlike hg.gr.row hbu (by rfl)) (RowAt.unlike hg.gr.live.row hbu (by rfl)) (by omega), RowAt.kept hg.row hk7 (RowAt.unlike hg.row hbu (by rfl))⟩, HB12.out.trans (hb7.mono hW7)⟩
        clear hF hgk hnbo
        go_upto_region 14 with fail
        refine wp_region_stage (N8) [20] [] [[0], [0], [0], [0], [0], [0], [0], [0], [0], [0], [0], [0], [0], [0], [0], [0], [0], [0], [0], [0], []] [[Is (.slice (some ⟨o, 0, none⟩) l kk), Is (.int .i64 (k : Int)), Is (.pointer (some ⟨o, k, none⟩)), Is (.slice (some ⟨gk, 0, none⟩) c c), Is (.pointer (some ⟨S18, 0, none⟩)), Is (.pointer (some ⟨S18, 1, none⟩)), Is (.int .i64 (x0 : Int)), Is (.pointer (some ⟨q, 0, none⟩)), Is (.pointer (some ⟨q, 0, none⟩)), Is (.pointer (some ⟨q, 1, none⟩)), Is (spv al t l m b c g z), Is (.slice (some ⟨o, 0, none⟩) l kk), Is (.pointer (some ⟨T7, 0, none⟩)), Is (.int .i64 (p : Int)), Is (.pointer (some ⟨T7, 1, none⟩)), Is (.int .i64 (s : Int)), Is (.int .i64 (k : Int)), Is (.int .i64 (i : Int)), Is (.agg (wq nb0)), Is (.pointer (some ⟨gk, x0 * 128, none⟩)), Free], [Is (.slice (some ⟨o, 0, none⟩) l kk), Is (.int .i64 (k : Int)), Is (.pointer (some ⟨o, k, none⟩)), Is (.slice (some ⟨gk, 0, none⟩) c c), Is (.pointer (some ⟨S18, 0, none⟩)), Is (.pointer (some ⟨S18, 1, none⟩)), Is (.int .i64 (x0 : Int)), Is (.pointer (some ⟨q, 0, none⟩)), Is (.pointer (some ⟨q, 0, none⟩)), Is (.pointer (some ⟨q, 1, none⟩)), Is (spv al t l m b c g z), Is (.slice (some ⟨o, 0, none⟩) l kk), Is (.pointer (some ⟨T7, 0, none⟩)), Is (.int .i64 (p : Int)), Is (.pointer (some ⟨T7, 1, none⟩)), Is (.int .i64 (s : Int)), Is (.int .i64 (k : Int)), Is (.int .i64 (i : Int)), Is (.agg (wq nb0)), IsF (.pointer (some ⟨gk, x0 * 128, none⟩)) F, Free]] [Is (.slice (some ⟨o, 0, none⟩) l kk), Is (.int .i64 (k : Int)), Is (.pointer (some ⟨o, k, none⟩)), Is (.slice (some ⟨gk, 0, none⟩) c c), Is (.pointer (some ⟨S18, 0, none⟩)), Is (.pointer (some ⟨S18, 1, none⟩)), Is (.int .i64 (x0 : Int)), Is (.pointer (some ⟨q, 0, none⟩)), Is (.pointer (some ⟨q, 0, none⟩)), Is (.pointer (some ⟨q, 1, none⟩)), Is (spv al t l m b c g z), Is (.slice (some ⟨o, 0, none⟩) l kk), Is (.pointer (some ⟨T7, 0, none⟩)), Is (.int .i64 (p : Int)), Is (.pointer (some ⟨T7, 1, none⟩)), Is (.int .i64 (s : Int)), Is (.int .i64 (k : Int)), Is (.int .i64 (i : Int)), Is (.agg (wq nb0)), IsF (.pointer (some ⟨gk, x0 * 128, none⟩)) F, Free] hN8w (by kernel_rfl) (by kernel_rfl) rfl rfl ⟨⟨stable_is _, stable_is _, stable_is _, stable_is _, stable_is _, stable_is _, stable_is _, stable_is _, stable_is _, stable_is _, stable_is _, stable_is _, stable_is _, stable_is _, stable_is _, stable_is _, stable_is _, stable_is _, stable_is _, stable_is _, stable_free, trivial⟩, ⟨stable_is _, stable_is _, stable_is _, stable_is _, stable_is _, stable_is _, stable_is _, stable_is _, stable_is _, stable_is _, stable_is _, stable_is _, stable_is _, stable_is _, stable_is _, stable_is _, stable_is _, stable_is _, stable_is _, stable_isf _ HFS.out, stable_free, trivial⟩, trivial⟩ (by intro n hn o ho hd w; simp only [List.mem_cons, List.not_mem_nil, or_false] at hn; subst hn; first | trivial | (cases ho; cases hd)) rfl ⟨?p0, ?p1, ?p2, ?p3, ?p4, ?p5, ?p6, ?p7, ?p8, ?p9, ?p10, ?p11, ?p12, ?p13, ?p14, ?p15, ?p16, ?p17, ?p18, ?p19, fun h => absurd (by simp) h, trivial⟩ ⟨?t0, trivial⟩ (by decide) ?fin
        case p0 =>
          intro _ k hk; obtain rfl := List.mem_singleton.1 hk; intro a w C Z
          exact partS_on (wanted_free rfl _) (op_move (.inl rfl) (C.was 12 (by kernel_rfl)))
        case p1 =>
          intro _ k hk; obtain rfl := List.mem_singleton.1 hk; intro a w C Z
          exact partS_on (wanted_free rfl _) (op_move (.inl rfl) (C.was 3 (by kernel_rfl)))
        case p2 =>
          intro _ k hk; obtain rfl := List.mem_singleton.1 hk; intro a w C Z
          exact partS_on (wanted_free rfl _) (op_value (ixg_run rfl (C.on (j := 0) (by kernel_rfl) rfl rfl) (C.on (j := 1) (by kernel_rfl) rfl rfl) HKL.out) rfl)
        case p3 =>
          intro _ k hk; obtain rfl := List.mem_singleton.1 hk; intro a w C Z
          exact partS_on (wanted_free rfl _) (op_value (load_run rfl (C.on (j := 2) (by kernel_rfl) rfl rfl) (HQ.out w C.below).1) rfl)
        case p4 =>
          intro _ k hk; obtain rfl := List.mem_singleton.1 hk; intro a w C Z
          exact partS_on (wanted_free rfl _) (op_value (stepf_run (k := 0) rfl (by decide) (C.was 18 (by kernel_rfl))) rfl)
        case p5 =>
          intro _ k hk; obtain rfl := List.mem_singleton.1 hk; intro a w C Z
          exact partS_on (wanted_free rfl _) (op_value (sof_run (k := 1) rfl (by decide) (C.on (j := 4) (by kernel_rfl) rfl rfl)) rfl)
        case p6 =>
          intro _ k hk; obtain rfl := List.mem_singleton.1 hk; intro a w C Z
          exact partS_on (wanted_free rfl _) (op_value (int_run rfl (C.on (j := 5) (by kernel_rfl) rfl rfl) (HQ.out w C.below).2.1) rfl)
        case p7 =>
          intro _ k hk; obtain rfl := List.mem_singleton.1 hk; intro a w C Z
          exact partS_on (wanted_free rfl _) (op_move (.inl rfl) (C.was 11 (by kernel_rfl)))
        case p8 =>
          intro _ k hk; obtain rfl := List.mem_singleton.1 hk; intro a w C Z
          exact partS_on (wanted_free rfl _) (op_value (nil_run rfl (C.on (j := 7) (by kernel_rfl) rfl rfl)) rfl)
        case p9 =>
          intro _ k hk; obtain rfl := List.mem_singleton.1 hk; intro a w C Z
          exact partS_on (wanted_free rfl _) (op_value (grf_run (k := 1) rfl (by decide) (C.on (j := 8) (by kernel_rfl) rfl rfl)) rfl)
        case p10 =>
          intro _ k hk; obtain rfl := List.mem_singleton.1 hk; intro a w C Z
          exact partS_on (wanted_free rfl _) (op_value (load_run rfl (C.on (j := 9) (by kernel_rfl) rfl rfl) (HX.out w C.below).gr.row.shape) rfl)
        case p11 =>
          intro _ k hk; obtain rfl := List.mem_singleton.1 hk; intro a w C Z
          exact partS_on (wanted_free rfl _) (op_move (.inl rfl) (C.was 12 (by kernel_rfl)))
        case p12 =>
          intro _ k hk; obtain rfl := List.mem_singleton.1 hk; intro a w C Z
          exact partS_on (wanted_free rfl _) (op_value (tuf_run (k := 0) rfl (by decide) (C.was 7 (by kernel_rfl))) rfl)
        case p13 =>
          intro _ k hk; obtain rfl := List.mem_singleton.1 hk; intro a w C Z
          exact partS_on (wanted_free rfl _) (op_value (int_run rfl (C.on (j := 12) (by kernel_rfl) rfl rfl) (tu_cells (HX.out w C.below).row).1) rfl)
        case p14 =>
          intro _ k hk; obtain rfl := List.mem_singleton.1 hk; intro a w C Z
          exact partS_on (wanted_free rfl _) (op_value (tuf_run (k := 1) rfl (by decide) (C.was 7 (by kernel_rfl))) rfl)
        case p15 =>
          intro _ k hk; obtain rfl := List.mem_singleton.1 hk; intro a w C Z
          exact partS_on (wanted_free rfl _) (op_value (int_run rfl (C.on (j := 14) (by kernel_rfl) rfl rfl) (tu_cells (HX.out w C.below).row).2) rfl)
        case p16 =>
          intro _ k hk; obtain rfl := List.mem_singleton.1 hk; intro a w C Z
          exact partS_on (wanted_free rfl _) (op_move (.inl rfl) (C.was 3 (by kernel_rfl)))
        case p17 =>
          intro _ k hk; obtain rfl := List.mem_singleton.1 hk; intro a w C Z
          exact partS_on (wanted_free rfl _) (op_move (.inl rfl) (C.was 4 (by kernel_rfl)))
        case p18 =>
          intro _ k hk; obtain rfl := List.mem_singleton.1 hk; intro a w C Z
          exact partS_on (wanted_free rfl _) (op_call6 rfl (reg_enters Tryz.func24 (by kernel_rfl) (by kernel_rfl)) (C.on (j := 10) (by kernel_rfl) rfl rfl) (C.on (j := 11) (by kernel_rfl) rfl rfl) (C.on (j := 13) (by kernel_rfl) rfl rfl) (C.on (j := 15) (by kernel_rfl) rfl rfl) (C.on (j := 16) (by kernel_rfl) rfl rfl) (C.on (j := 17) (by kernel_rfl) rfl rfl) (HQ.out w C.below).2.2.1)
        case p19 =>
          intro _ k hk; obtain rfl := List.mem_singleton.1 hk; intro a w C Z
          exact partS_on (wanted_free rfl _) (op_value (ixr_run rfl (C.on (j := 3) (by kernel_rfl) rfl rfl) (C.on (j := 6) (by kernel_rfl) rfl rfl) HX0.out) rfl)
        case t0 =>
          intro o ho a w C A
          cases ho
          have cb : Below w12.heap.size w12 w := C.below
          obtain ⟨w7, hst, hF7, hb7, hz7⟩ := (HQ.out w cb).2.2.2
          refine ⟨wanted_free rfl _, stage_store rfl (C.on (j := 19) (by kernel_rfl) rfl rfl) (C.on (j := 18) (by kernel_rfl) rfl rfl) hst trivial hb7 hz7 ?_⟩
          · intro i o2 d hi hd hne hnw h
            have hil := (List.getElem?_eq_some_iff.1 hi).1
            replace hil : i < 21 := hil
            obtain rfl | rfl | rfl | rfl | rfl | rfl | rfl | rfl | rfl | rfl | rfl | rfl | rfl | rfl | rfl | rfl | rfl | rfl | rfl | rfl | rfl : i = 0 ∨ i = 1 ∨ i = 2 ∨ i = 3 ∨ i = 4 ∨ i = 5 ∨ i = 6 ∨ i = 7 ∨ i = 8 ∨ i = 9 ∨ i = 10 ∨ i = 11 ∨ i = 12 ∨ i = 13 ∨ i = 14 ∨ i = 15 ∨ i = 16 ∨ i = 17 ∨ i = 18 ∨ i = 19 ∨ i = 20 := by omega
            · exact h
            · exact h
            · exact h
            · exact h
            · exact h
            · exact h
            · exact h
            · exact h
            · exact h
            · exact h
            · exact h
            · exact h
            · exact h
            · exact h
            · exact h
            · exact h
            · exact h
            · exact h
            · exact h
            · exact ⟨h, hF7⟩
            · exact absurd rfl hne
        case fin =>
          rintro w14 hbF _ rfl _ rfl _ rfl _ rfl _ rfl _ rfl _ rfl _ rfl _ rfl _ rfl _ rfl _ rfl _ rfl _ rfl _ rfl _ rfl _ rfl _ rfl _ rfl _ ⟨rfl, hFF⟩ _ _
          simp only [Fin, setAt, Exit.then, List.setIfInBounds_toArray, List.set_cons_succ, List.set_cons_zero]
          obtain ⟨⟨hd14, hr14⟩, hg14, hb14⟩ := HFE.out _ hFF
          have HD14 := Lib.hid hd14
          have HR14 := Lib.hid hr14
          have HG14 := Lib.hid hg14
          have HB14 := Lib.hid hb14
          have HFi := Lib.hid (fill_any hg14.gr (by omega) (by omega) HL2.out (HTW.out.next hb14) p s k x0 k y0 r0 c0 hkl hcol hkl hy0c hrl hcc nb0 HNB.out)
          clear hd14 hr14 hg14 hb14 HFE HFS HQ hFF HX HX12 HD12 HB12 H1812 HOne HNB
          go_wp2_with (first
            | refine wpList_load_want rfl 48 _ rfl _ _ rfl (HG14.out.tu) ?_
            | refine wpList_load_want rfl 62 _ rfl _ _ rfl (stpc_load HR14.out) ?_)
          refine HFi.out.mono ?_
          rintro e w15 ⟨rfl, hg15, hk15⟩
          have HD15 := Lib.hid (HD14.out.kept hk15 fun x hx => by omega)
          have HB15 : Hid (Below W.heap.size W w15) := Lib.hid (HB14.out.trans (hk15.below HB14.out.size fun x hx => by omega))
          have HL3 : Hid ((L2.set (k * c + x0) nb0).length = l * c) := Lib.hid (by rw [List.length_set]; exact HL2.out)
          have HC := Lib.hid (all_any hg15 hl0 (by omega) (by omega) HL3.out (by rw [HL3.out]; exact Nat.le_trans (Nat.mul_le_mul hl4 hcm) (by decide)))
          clear hg15 hk15 HD14 HR14 HG14 HB14 HFi
          go_wp2_with fail
          refine HC.out.mono ?_
          rintro e w16 ⟨v16, gs16, rfl, hd16, hgl16, hb16⟩
          have HB16 := Lib.hid (HB15.out.trans (hb16.mono HB15.out.size))
          have HC2 := Lib.hid (same_any hd16 (HD15.out.step hb16) hgl16 HGL.out hl0 (by omega) (by omega))
          clear hd16 hb16 HD15 HB15 HC
          go_wp2_with fail
          refine HC2.out.mono ?_
          rintro e w17 ⟨rfl, hb17⟩
          have HB17 := Lib.hid (HB16.out.trans (hb17.mono HB16.out.size))
          clear hb17 HB16 HC2
          go_wp2
          go_ret
          exact ⟨rfl, HB17.out⟩
end Go.Proofs.YthbeoobfhfpelaaGreatDoor

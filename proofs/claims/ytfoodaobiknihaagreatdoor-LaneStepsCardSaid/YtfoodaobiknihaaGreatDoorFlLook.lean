/- Look of package fill: what a block hangs on, by its contract. Conditions: those typed. -/
import Derived.Test.YtfoodaobiknihaaGreatDoorFlNum
namespace Go.Proofs.YtfoodaobiknihaaGreatDoor
set_option maxRecDepth 50000
open Go.RowKit Bb Bn
abbrev stpv (k x k' y r c : Int) : Value := .agg #[.int .i64 k, .int .i64 x, .int .i64 k', .int .i64 y, .int .i64 r, .int .i64 c]
abbrev stpc (k x k' y r c : Int) : Array Value := #[.int .i64 k, .int .i64 x, .int .i64 k', .int .i64 y, .int .i64 r, .int .i64 c]
theorem step_size : (Tryz.prog.info? 98).map (·.size) = some 6 := by kernel_rfl
theorem step_one (k x k' y r c : Int) : (stpc k x k' y r c).all (·.oneCell') = true := by simp [Value.oneCell']
theorem step_build (w : World) (k x k' y r c : Int) : (Instr.build 98 #[(0, sov k x), (1, sov k' y), (2, sov r c)]).run Tryz.prog w = .ok (stpv k x k' y r c) w := by
  have h : ∀ k x k' y r c : Int, Tryz.prog.built 98 [(0, sov k x), (1, sov k' y), (2, sov r c)] = some (stpc k x k' y r c) := fun k x k' y r c => by kernel_rfl
  exact run_build w _ _ _ (h ..)
theorem step_run {w : World} {ev : Operand → Value} {o : Oper} {x0 x1 x2 : Operand} {k x k' y r c : Int} (hop : o.op = .build 98 #[(0, x0), (1, x1), (2, x2)]) (h0 : ev x0 = sov k x) (h1 : ev x1 = sov k' y) (h2 : ev x2 = sov r c) : (execOp ev o).run Tryz.prog w = .ok (.value (stpv k x k' y r c)) w := by
  simp only [execOp, hop, List.map_toArray, List.map_cons, List.map_nil, h0, h1, h2, Sem.run_bind, step_build, Result.andThen_ok, Sem.run_pure]
theorem stpc_store {w : World} {b : Nat} {k x k' y r c k2 x2 k3 y2 r2 c2 : Int} (h : RowAt w b 98 (stpc k x k' y r c)) : (storeVar 98 ⟨b, 0, none⟩ (stpv k2 x2 k3 y2 r2 c2)).run Tryz.prog w = .ok () (w.setRow b (stpc k2 x2 k3 y2 r2 c2)) :=
  h.store (C' := stpc k2 x2 k3 y2 r2 c2) step_size rfl (step_one _ _ _ _ _ _)
theorem of_word {a t l b c g p s k i : Nat} (S : Sh a t l b c g) (R : Fl t l c g p s k i) (m z W : Nat) (hW : W < 18446744073709551616) (w : World) : Calls Tryz.prog 64 #[spv a t l m b c g z, tuv p s, .int .i64 (k : Int), .int .i64 (i : Int), .int .u32 ((W % 4294967296 : Nat) : Int), .int .u32 ((W / 4294967296 : Nat) : Int)] w fun e w' => e = .returned (.tuple #[sov (ofL l p s k W) (ofC l c g p s k i W), .int .i64 0]) ∧ Below w.heap.size w w' := by
  have hlm := S.lm
  have hcm := S.cm
  obtain ⟨A, h1, h2, h3, h4, h5⟩ := plof_good (t := t) (l := l) (c := c) (g := g) (p := p) (s := s) (k := k) (i := i) a b m z (W % 4294967296) (W / 4294967296) (Nat.mod_lt _ (by decide)) (by omega) (R.ref S) R.re S.tm (by omega) (by omega)
  have hA : ofA l c g p s k i W = A := by
    unfold ofA ofL
    rw [h1]; rfl
  have e : colN c g p s (piN A (W % 4294967296)) = ofC l c g p s k i W := by unfold ofC; rw [hA]
  have h6 := h5 w
  rw [e] at h6
  exact h6
set_option maxHeartbeats 12800000 in
theorem look_any {a t l m b c g z p s k i q pc h G x : Nat} {L : List (List Nat)} {w : World} (S : Sh a t l b c g) (R : Fl t l c g p s k i) (hG : GrAt w q pc h G a t l m b c g z L) (hL : L.length = l * c) (hS : Src w x a t l m b c g z p s k) {N0 : Nat} (hT : TAt w) (hN : TabN N0) (hx : N0 ≤ x) (W : Nat) (hW : numW a t b c g L p s k i = W) :
    Calls Tryz.prog 40 #[.pointer (some ⟨q, 0, none⟩), tuv p s, .int .i64 (k : Int), .int .i64 (i : Int), .pointer (some ⟨x, 0, none⟩)] w fun e w' => e = .returned (.tuple #[stpv k (s * g + i : Nat) k (bfN c (s * g + i)) (ofL l p s k W) (ofC l c g p s k i W), .int .i64 0]) ∧ Src w' x a t l m b c g z p s k ∧ Kept (fun j => j = x) w w' := by
  have hW64 : W < 18446744073709551616 := by rw [← hW]; exact numW_lt S R hL hG.live.ok
  have hcol := R.col S
  have hcm := S.cm
  have CN := fun u (hu : Below w.heap.size w u) => numbers_any S R (hG.step hu) hL (hS.step hu) (hT.next hu) hN hx W hW
  have COf := Lib.hid fun w => of_word S R m z W hW64 w
  obtain ⟨J, hJ⟩ : ∃ J, W % 4294967296 = J := ⟨_, rfl⟩
  obtain ⟨K, hK⟩ : ∃ K, W / 4294967296 = K := ⟨_, rfl⟩
  rw [hJ, hK] at COf
  simp only [hJ, hK] at CN
  obtain ⟨r0, hr0⟩ : ∃ r0, ofL l p s k W = r0 := ⟨_, rfl⟩
  obtain ⟨c0, hc0⟩ : ∃ c0, ofC l c g p s k i W = c0 := ⟨_, rfl⟩
  rw [hr0, hc0] at COf ⊢
  obtain ⟨x0, hx0⟩ : ∃ x0, s * g + i = x0 := ⟨_, rfl⟩
  rw [hx0] at hcol ⊢
  obtain ⟨y0, hy0⟩ : ∃ y0, bfN c x0 = y0 := ⟨_, rfl⟩
  rw [hy0]
  have CSp := Lib.hid fun w => spots_any a t l m b c g z p s k i x0 y0 hx0 hy0 (by omega) (by omega) (by omega) w
  obtain ⟨w1, e1⟩ : ∃ w1, w1 = (w.alloc (.cells (tuc p s) 28)).alloc (.cells (stpc 0 0 0 0 0 0) 98) := ⟨_, rfl⟩
  have b1 : Below w.heap.size w w1 := by rw [e1]; exact two_box _ _ _
  have HGT : GT q pc h G a t l m b c g z L w.heap.size p s w1 := ⟨hG.step b1, by rw [e1]; exact (RowAt.new _ _ _).alloc _⟩
  have HRes : RowAt w1 (w.heap.size + 1) 98 (stpc 0 0 0 0 0 0) := by
    rw [e1]
    have h := RowAt.new (w.alloc (.cells (tuc p s) 28)) 98 (stpc 0 0 0 0 0 0)
    rwa [World.size_alloc] at h
  have CN1 := Lib.hid (CN w1 b1)
  have HB : Hid (Kept (fun j => j = x) w w1) := Lib.hid (Kept.of_below b1)
  have HG1 := Lib.hid HGT
  have HR1 := Lib.hid HRes
  have HS1 := Lib.hid (hS.step b1)
  have hxw := hS.lt
  have E1 := Lib.hid e1
  clear b1 e1 hG hS hT HGT HRes CN hW hJ hK hr0 hc0 hx0 hy0 hcol
  go_enter Tryz.func40, Tryz.ntmps40
  go_upto_region 1 with fail
  rw [← E1.out]
  clear E1
  generalize hT0 : w.heap.size = T0 at *
  have HT0 := Lib.hid hT0
  clear hT0
  go_wp2_with (refine wpList_load_want rfl 28 _ rfl _ _ rfl (HG1.out.tu) ?_)
  refine CN1.out.mono ?_
  rintro e w2 ⟨rfl, hS2, hk2⟩
  have HK2 : Hid (Kept (fun j => j = x) w w2) := Lib.hid (HB.out.trans hk2 fun _ _ h => h)
  have HG2 : GT q pc h G a t l m b c g z L T0 p s w2 := ⟨by
    obtain ⟨n, v, h1, _⟩ := HS1.out
    exact HG1.out.gr.far hk2 h1 rfl rfl rfl, HG1.out.row.kept hk2 (by omega)⟩
  have HX2 : Hid (∀ u, Below w2.heap.size w2 u → GT q pc h G a t l m b c g z L T0 p s u) := Lib.hid fun u hu => HG2.step hu
  have HR2 := Lib.hid (HR1.out.kept hk2 (by omega))
  have HS2 := Lib.hid hS2
  clear HG1 HR1 HS1 HB CN1 hk2 hS2 HG2
  go_upto_region 4 with fail
  refine wp_region_stage (w2.heap.size) [14] [13] [[0], [0], [0], [0], [0], [0], [0], [0], [0], [0], [0], [0], [0, 1], [0], [], [1]] [[Is (.pointer (some ⟨q, 0, none⟩)), Is (.pointer (some ⟨q, 0, none⟩)), Is (.pointer (some ⟨q, 0 + 1, none⟩)), Is (spv a t l m b c g z), Is (tuv p s), Is (.int .i64 (k : Int)), Is (.int .i64 (i : Int)), Is (.int .u32 (J : Int)), Is (.int .u32 (K : Int)), Is (.tuple #[sov r0 c0, .int .i64 0]), Is (.tuple #[sov r0 c0, .int .i64 0]), Is (sov r0 c0), Is (.int .i64 0), NewAt w2.heap.size 30 (soc 0 0), Free, Is (.int .i64 0)], [Is (.pointer (some ⟨q, 0, none⟩)), Is (.pointer (some ⟨q, 0, none⟩)), Is (.pointer (some ⟨q, 0 + 1, none⟩)), Is (spv a t l m b c g z), Is (tuv p s), Is (.int .i64 (k : Int)), Is (.int .i64 (i : Int)), Is (.int .u32 (J : Int)), Is (.int .u32 (K : Int)), Is (.tuple #[sov r0 c0, .int .i64 0]), Is (.tuple #[sov r0 c0, .int .i64 0]), Is (sov r0 c0), Is (.int .i64 0), NewAt w2.heap.size 30 (soc r0 c0), Free, Is (.int .i64 0)]] [Is (.pointer (some ⟨q, 0, none⟩)), Is (.pointer (some ⟨q, 0, none⟩)), Is (.pointer (some ⟨q, 0 + 1, none⟩)), Is (spv a t l m b c g z), Is (tuv p s), Is (.int .i64 (k : Int)), Is (.int .i64 (i : Int)), Is (.int .u32 (J : Int)), Is (.int .u32 (K : Int)), Is (.tuple #[sov r0 c0, .int .i64 0]), Is (.tuple #[sov r0 c0, .int .i64 0]), Is (sov r0 c0), Is (.int .i64 0), NewAt w2.heap.size 30 (soc r0 c0), Free, Is (.int .i64 0)] (Nat.le_refl _) (by kernel_rfl) (by kernel_rfl) rfl rfl ⟨⟨stable_is _, stable_is _, stable_is _, stable_is _, stable_is _, stable_is _, stable_is _, stable_is _, stable_is _, stable_is _, stable_is _, stable_is _, stable_is _, stable_newat _ _ _, stable_free, stable_is _, trivial⟩, ⟨stable_is _, stable_is _, stable_is _, stable_is _, stable_is _, stable_is _, stable_is _, stable_is _, stable_is _, stable_is _, stable_is _, stable_is _, stable_is _, stable_newat _ _ _, stable_free, stable_is _, trivial⟩, trivial⟩ (by intro n hn o ho hd w; simp only [List.mem_cons, List.not_mem_nil, or_false] at hn; subst hn; first | trivial | (cases ho; cases hd)) rfl ⟨?p0, ?p1, ?p2, ?p3, ?p4, ?p5, ?p6, ?p7, ?p8, ?p9, ?p10, ?p11, ?p12, ?p13, fun h => absurd (by simp) h, ?p15, trivial⟩ ⟨?t0, trivial⟩ (by decide) ?fin
  case p0 =>
    intro _ k hk; obtain rfl := List.mem_singleton.1 hk; intro a w C Z
    exact partS_on (wanted_free rfl _) (op_move (.inl rfl) (C.was 0 (by kernel_rfl)))
  case p1 =>
    intro _ k hk; obtain rfl := List.mem_singleton.1 hk; intro a w C Z
    exact partS_on (wanted_free rfl _) (op_value (nil_run rfl (C.on (j := 0) (by kernel_rfl) rfl rfl)) rfl)
  case p2 =>
    intro _ k hk; obtain rfl := List.mem_singleton.1 hk; intro a w C Z
    exact partS_on (wanted_free rfl _) (op_value (grf_run (k := 1) rfl (by decide) (C.on (j := 1) (by kernel_rfl) rfl rfl)) rfl)
  case p3 =>
    intro _ k hk; obtain rfl := List.mem_singleton.1 hk; intro a w C Z
    exact partS_on (wanted_free rfl _) (op_value (load_run rfl (C.on (j := 2) (by kernel_rfl) rfl rfl) (HX2.out w C.below).gr.row.shape) rfl)
  case p4 =>
    intro _ k hk; obtain rfl := List.mem_singleton.1 hk; intro a w C Z
    exact partS_on (wanted_free rfl _) (op_value (load_run rfl (C.was 6 (by kernel_rfl)) (HX2.out w C.below).tu) rfl)
  case p5 =>
    intro _ k hk; obtain rfl := List.mem_singleton.1 hk; intro a w C Z
    exact partS_on (wanted_free rfl _) (op_move (.inl rfl) (C.was 2 (by kernel_rfl)))
  case p6 =>
    intro _ k hk; obtain rfl := List.mem_singleton.1 hk; intro a w C Z
    exact partS_on (wanted_free rfl _) (op_move (.inl rfl) (C.was 3 (by kernel_rfl)))
  case p7 =>
    intro _ k hk; obtain rfl := List.mem_singleton.1 hk; intro a w C Z
    exact partS_on (wanted_free rfl _) (op_move (.inl rfl) (C.was 12 (by kernel_rfl)))
  case p8 =>
    intro _ k hk; obtain rfl := List.mem_singleton.1 hk; intro a w C Z
    exact partS_on (wanted_free rfl _) (op_move (.inl rfl) (C.was 13 (by kernel_rfl)))
  case p9 =>
    intro _ k hk; obtain rfl := List.mem_singleton.1 hk; intro a w C Z
    exact partS_on (wanted_free rfl _) (op_call6 rfl (reg_enters Tryz.func64 (by kernel_rfl) (by kernel_rfl)) (C.on (j := 3) (by kernel_rfl) rfl rfl) (C.on (j := 4) (by kernel_rfl) rfl rfl) (C.on (j := 5) (by kernel_rfl) rfl rfl) (C.on (j := 6) (by kernel_rfl) rfl rfl) (C.on (j := 7) (by kernel_rfl) rfl rfl) (C.on (j := 8) (by kernel_rfl) rfl rfl) (calls_is (COf.out w)))
  case p10 =>
    intro _ k hk; obtain rfl := List.mem_singleton.1 hk; intro a w C Z
    exact partS_on (wanted_free rfl _) (op_move (.inl rfl) (C.on (j := 9) (by kernel_rfl) rfl rfl))
  case p11 =>
    intro _ k hk; obtain rfl := List.mem_singleton.1 hk; intro a w C Z
    exact partS_on (wanted_free rfl _) (op_value (ext_run (v := sov r0 c0) rfl (C.on (j := 10) (by kernel_rfl) rfl rfl) rfl) rfl)
  case p12 =>
    intro _ k hk; replace hk : k ∈ [0, 1] := hk; simp only [List.mem_cons, List.not_mem_nil, or_false] at hk
    rcases hk with rfl | rfl
    · intro a w C Z
      exact partS_on (wanted_free rfl _) (op_value (ext_run (v := .int .i64 0) rfl (C.on (j := 10) (by kernel_rfl) rfl rfl) rfl) rfl)
    · intro a w C Z
      exact partS_on (wanted_free rfl _) (op_value (ext_run (v := .int .i64 0) rfl (C.on (j := 10) (by kernel_rfl) rfl rfl) rfl) rfl)
  case p13 =>
    intro _ k hk; obtain rfl := List.mem_singleton.1 hk; intro a w C Z
    exact partS_new (wanted_free rfl _) (op_fresh (spot_new rfl) ⟨_, rfl, C.below.size, RowAt.new _ _ _⟩)
  case p15 =>
    intro _ k hk; obtain rfl := List.mem_singleton.1 hk; intro a w C Z
    exact partS_on (wanted_free rfl _) (op_move (.inr rfl) (C.on (j := 12) (by kernel_rfl) rfl rfl))
  case t0 =>
    intro o ho a w C A
    cases ho
    obtain ⟨b1, e1, h1, hR⟩ := (C.on (j := 13) (by kernel_rfl) rfl rfl)
    refine ⟨wanted_free rfl _, stage_store rfl e1 (C.on (j := 11) (by kernel_rfl) rfl rfl) (soc_store hR) trivial (below_setRow C.below h1 _) (Nat.le_of_eq (setRow_size _ _ _).symm) ?_⟩
    · intro i o2 d hi hd hne hnw h
      have hil := (List.getElem?_eq_some_iff.1 hi).1
      replace hil : i < 16 := hil
      obtain rfl | rfl | rfl | rfl | rfl | rfl | rfl | rfl | rfl | rfl | rfl | rfl | rfl | rfl | rfl | rfl : i = 0 ∨ i = 1 ∨ i = 2 ∨ i = 3 ∨ i = 4 ∨ i = 5 ∨ i = 6 ∨ i = 7 ∨ i = 8 ∨ i = 9 ∨ i = 10 ∨ i = 11 ∨ i = 12 ∨ i = 13 ∨ i = 14 ∨ i = 15 := by omega
      · exact h
      · exact h
      · exact h
      · exact h
      · exact h
      · exact h
      · exact h
      · exact h
      · exact h
      · exact h
      · exact h
      · exact h
      · exact h
      · cases hi; cases hd; exact ⟨b1, e1, h1, hR.setRow _⟩
      · exact absurd rfl hne
      · exact absurd hnw (by rw [show waits _ 15 14 = true from by kernel_rfl]; decide)
  case fin =>
    rintro w3 hbF _ rfl _ rfl _ rfl _ rfl _ rfl _ rfl _ rfl _ rfl _ rfl _ rfl _ rfl _ rfl _ rfl _ ⟨S15, rfl, hS15, hR15⟩ _ _ _ rfl
    simp only [Fin, setAt, Exit.then, List.setIfInBounds_toArray, List.set_cons_succ, List.set_cons_zero]
    have HK3 : Hid (Kept (fun j => j = x) w w3) := Lib.hid (HK2.out.trans (Kept.of_below (M := fun _ => False) hbF) fun _ _ h => h.elim)
    have HX3 : Hid (∀ u, Below w3.heap.size w3 u → GT q pc h G a t l m b c g z L T0 p s u) := Lib.hid fun u hu => (HX2.out w3 hbF).step hu
    have HR3 := Lib.hid (HR2.out.step hbF)
    have HS3 := Lib.hid (HS2.out.step hbF)
    have H15 := Lib.hid hR15
    clear hbF HK2 HX2 HR2 HS2 hR15 hS15
    go_upto_region 7 with fail
    refine wp_region_stage (w3.heap.size) [13, 14] [11, 12] [[0], [0], [0], [0], [0], [0], [0], [0], [0], [0], [0, 1], [0], [0], [], []] [[Is (.pointer (some ⟨q, 0, none⟩)), Is (.pointer (some ⟨q, 0, none⟩)), Is (.pointer (some ⟨q, 0 + 1, none⟩)), Is (spv a t l m b c g z), Is (tuv p s), Is (.int .i64 (k : Int)), Is (.int .i64 (i : Int)), Is (.tuple #[sov k x0, sov k y0]), Is (.tuple #[sov k x0, sov k y0]), Is (sov k x0), Is (sov k y0), NewAt w3.heap.size 30 (soc 0 0), NewAt w3.heap.size 30 (soc 0 0), Free, Free], [Is (.pointer (some ⟨q, 0, none⟩)), Is (.pointer (some ⟨q, 0, none⟩)), Is (.pointer (some ⟨q, 0 + 1, none⟩)), Is (spv a t l m b c g z), Is (tuv p s), Is (.int .i64 (k : Int)), Is (.int .i64 (i : Int)), Is (.tuple #[sov k x0, sov k y0]), Is (.tuple #[sov k x0, sov k y0]), Is (sov k x0), Is (sov k y0), NewAt w3.heap.size 30 (soc k x0), NewAt w3.heap.size 30 (soc 0 0), Free, Free], [Is (.pointer (some ⟨q, 0, none⟩)), Is (.pointer (some ⟨q, 0, none⟩)), Is (.pointer (some ⟨q, 0 + 1, none⟩)), Is (spv a t l m b c g z), Is (tuv p s), Is (.int .i64 (k : Int)), Is (.int .i64 (i : Int)), Is (.tuple #[sov k x0, sov k y0]), Is (.tuple #[sov k x0, sov k y0]), Is (sov k x0), Is (sov k y0), NewAt w3.heap.size 30 (soc k x0), NewAt w3.heap.size 30 (soc k y0), Free, Free]] [Is (.pointer (some ⟨q, 0, none⟩)), Is (.pointer (some ⟨q, 0, none⟩)), Is (.pointer (some ⟨q, 0 + 1, none⟩)), Is (spv a t l m b c g z), Is (tuv p s), Is (.int .i64 (k : Int)), Is (.int .i64 (i : Int)), Is (.tuple #[sov k x0, sov k y0]), Is (.tuple #[sov k x0, sov k y0]), Is (sov k x0), Is (sov k y0), NewAt w3.heap.size 30 (soc k x0), NewAt w3.heap.size 30 (soc k y0), Free, Free] (Nat.le_refl _) (by kernel_rfl) (by kernel_rfl) rfl rfl ⟨⟨stable_is _, stable_is _, stable_is _, stable_is _, stable_is _, stable_is _, stable_is _, stable_is _, stable_is _, stable_is _, stable_is _, stable_newat _ _ _, stable_newat _ _ _, stable_free, stable_free, trivial⟩, ⟨stable_is _, stable_is _, stable_is _, stable_is _, stable_is _, stable_is _, stable_is _, stable_is _, stable_is _, stable_is _, stable_is _, stable_newat _ _ _, stable_newat _ _ _, stable_free, stable_free, trivial⟩, ⟨stable_is _, stable_is _, stable_is _, stable_is _, stable_is _, stable_is _, stable_is _, stable_is _, stable_is _, stable_is _, stable_is _, stable_newat _ _ _, stable_newat _ _ _, stable_free, stable_free, trivial⟩, trivial⟩ (by intro n hn o ho hd w; simp only [List.mem_cons, List.not_mem_nil, or_false] at hn; rcases hn with rfl | rfl <;> first | trivial | (cases ho; cases hd)) rfl ⟨?p0, ?p1, ?p2, ?p3, ?p4, ?p5, ?p6, ?p7, ?p8, ?p9, ?p10, ?p11, ?p12, fun h => absurd (by simp) h, fun h => absurd (by simp) h, trivial⟩ ⟨?t0, ?t1, trivial⟩ (by decide) ?fin
    case p0 =>
      intro _ k hk; obtain rfl := List.mem_singleton.1 hk; intro a w C Z
      exact partS_on (wanted_free rfl _) (op_move (.inl rfl) (C.was 0 (by kernel_rfl)))
    case p1 =>
      intro _ k hk; obtain rfl := List.mem_singleton.1 hk; intro a w C Z
      exact partS_on (wanted_free rfl _) (op_value (nil_run rfl (C.on (j := 0) (by kernel_rfl) rfl rfl)) rfl)
    case p2 =>
      intro _ k hk; obtain rfl := List.mem_singleton.1 hk; intro a w C Z
      exact partS_on (wanted_free rfl _) (op_value (grf_run (k := 1) rfl (by decide) (C.on (j := 1) (by kernel_rfl) rfl rfl)) rfl)
    case p3 =>
      intro _ k hk; obtain rfl := List.mem_singleton.1 hk; intro a w C Z
      exact partS_on (wanted_free rfl _) (op_value (load_run rfl (C.on (j := 2) (by kernel_rfl) rfl rfl) (HX3.out w C.below).gr.row.shape) rfl)
    case p4 =>
      intro _ k hk; obtain rfl := List.mem_singleton.1 hk; intro a w C Z
      exact partS_on (wanted_free rfl _) (op_value (load_run rfl (C.was 6 (by kernel_rfl)) (HX3.out w C.below).tu) rfl)
    case p5 =>
      intro _ k hk; obtain rfl := List.mem_singleton.1 hk; intro a w C Z
      exact partS_on (wanted_free rfl _) (op_move (.inl rfl) (C.was 2 (by kernel_rfl)))
    case p6 =>
      intro _ k hk; obtain rfl := List.mem_singleton.1 hk; intro a w C Z
      exact partS_on (wanted_free rfl _) (op_move (.inl rfl) (C.was 3 (by kernel_rfl)))
    case p7 =>
      intro _ k hk; obtain rfl := List.mem_singleton.1 hk; intro a w C Z
      exact partS_on (wanted_free rfl _) (op_call4 rfl (reg_enters Tryz.func65 (by kernel_rfl) (by kernel_rfl)) (C.on (j := 3) (by kernel_rfl) rfl rfl) (C.on (j := 4) (by kernel_rfl) rfl rfl) (C.on (j := 5) (by kernel_rfl) rfl rfl) (C.on (j := 6) (by kernel_rfl) rfl rfl) (calls_is (CSp.out w)))
    case p8 =>
      intro _ k hk; obtain rfl := List.mem_singleton.1 hk; intro a w C Z
      exact partS_on (wanted_free rfl _) (op_move (.inl rfl) (C.on (j := 7) (by kernel_rfl) rfl rfl))
    case p9 =>
      intro _ k hk; obtain rfl := List.mem_singleton.1 hk; intro a w C Z
      exact partS_on (wanted_free rfl _) (op_value (ext_run (v := sov k x0) rfl (C.on (j := 8) (by kernel_rfl) rfl rfl) rfl) rfl)
    case p10 =>
      intro _ k hk; replace hk : k ∈ [0, 1] := hk; simp only [List.mem_cons, List.not_mem_nil, or_false] at hk
      rcases hk with rfl | rfl
      · intro a w C Z
        exact partS_on (wanted_free rfl _) (op_value (ext_run (v := sov k y0) rfl (C.on (j := 8) (by kernel_rfl) rfl rfl) rfl) rfl)
      · intro a w C Z
        exact partS_on (wanted_free rfl _) (op_value (ext_run (v := sov k y0) rfl (C.on (j := 8) (by kernel_rfl) rfl rfl) rfl) rfl)
    case p11 =>
      intro _ k hk; obtain rfl := List.mem_singleton.1 hk; intro a w C Z
      exact partS_new (wanted_free rfl _) (op_fresh (spot_new rfl) ⟨_, rfl, C.below.size, RowAt.new _ _ _⟩)
    case p12 =>
      intro _ k hk; obtain rfl := List.mem_singleton.1 hk; intro a w C Z
      exact partS_new (wanted_free rfl _) (op_fresh (spot_new rfl) ⟨_, rfl, C.below.size, RowAt.new _ _ _⟩)
    case t0 =>
      intro o ho a w C A
      cases ho
      obtain ⟨b1, e1, h1, hR⟩ := (C.on (j := 11) (by kernel_rfl) rfl rfl)
      refine ⟨wanted_free rfl _, stage_store rfl e1 (C.on (j := 9) (by kernel_rfl) rfl rfl) (soc_store hR) trivial (below_setRow C.below h1 _) (Nat.le_of_eq (setRow_size _ _ _).symm) ?_⟩
      · intro i o2 d hi hd hne hnw h
        have hil := (List.getElem?_eq_some_iff.1 hi).1
        replace hil : i < 15 := hil
        obtain rfl | rfl | rfl | rfl | rfl | rfl | rfl | rfl | rfl | rfl | rfl | rfl | rfl | rfl | rfl : i = 0 ∨ i = 1 ∨ i = 2 ∨ i = 3 ∨ i = 4 ∨ i = 5 ∨ i = 6 ∨ i = 7 ∨ i = 8 ∨ i = 9 ∨ i = 10 ∨ i = 11 ∨ i = 12 ∨ i = 13 ∨ i = 14 := by omega
        · exact h
        · exact h
        · exact h
        · exact h
        · exact h
        · exact h
        · exact h
        · exact h
        · exact h
        · exact h
        · exact h
        · cases hi; cases hd; exact ⟨b1, e1, h1, hR.setRow _⟩
        · exact h.other (fun e => A 11 12 _ _ _ _ (by simp) (by simp) (by decide) (by kernel_rfl) (by kernel_rfl) rfl rfl rfl rfl (e1.trans (by cases hi; cases hd; exact e.symm))) _
        · exact absurd rfl hne
        · cases hi; cases hd
    case t1 =>
      intro o ho a w C A
      cases ho
      obtain ⟨b1, e1, h1, hR⟩ := (C.on (j := 12) (by kernel_rfl) rfl rfl)
      refine ⟨wanted_free rfl _, stage_store rfl e1 (C.on (j := 10) (by kernel_rfl) rfl rfl) (soc_store hR) trivial (below_setRow (Below.refl _ _) h1 _) (Nat.le_of_eq (setRow_size _ _ _).symm) ?_⟩
      · intro i o2 d hi hd hne hnw h
        have hil := (List.getElem?_eq_some_iff.1 hi).1
        replace hil : i < 15 := hil
        obtain rfl | rfl | rfl | rfl | rfl | rfl | rfl | rfl | rfl | rfl | rfl | rfl | rfl | rfl | rfl : i = 0 ∨ i = 1 ∨ i = 2 ∨ i = 3 ∨ i = 4 ∨ i = 5 ∨ i = 6 ∨ i = 7 ∨ i = 8 ∨ i = 9 ∨ i = 10 ∨ i = 11 ∨ i = 12 ∨ i = 13 ∨ i = 14 := by omega
        · exact h
        · exact h
        · exact h
        · exact h
        · exact h
        · exact h
        · exact h
        · exact h
        · exact h
        · exact h
        · exact h
        · exact h.other (fun e => A 11 12 _ _ _ _ (by simp) (by simp) (by decide) (by kernel_rfl) (by kernel_rfl) rfl rfl rfl rfl ((by cases hi; cases hd; exact e : _ = _).trans e1.symm)) _
        · cases hi; cases hd; exact ⟨b1, e1, h1, hR.setRow _⟩
        · cases hi; cases hd
        · exact absurd rfl hne
    case fin =>
      rintro w4 hbF _ rfl _ rfl _ rfl _ rfl _ rfl _ rfl _ rfl _ rfl _ rfl _ rfl _ rfl _ ⟨S16, rfl, hS16, hR16⟩ _ ⟨S17, rfl, hS17, hR17⟩ _ _ _ _
      simp only [Fin, setAt, Exit.then, List.setIfInBounds_toArray, List.set_cons_succ, List.set_cons_zero]
      have HK4 : Hid (Kept (fun j => j = x) w w4) := Lib.hid (HK3.out.trans (Kept.of_below (M := fun _ => False) hbF) fun _ _ h => h.elim)
      have HR4 := Lib.hid (HR3.out.step hbF)
      have HS4 := Lib.hid (HS3.out.step hbF)
      have H154 := Lib.hid (H15.out.step hbF)
      have H16 := Lib.hid hR16
      have H17 := Lib.hid hR17
      clear hbF HK3 HX3 HR3 HS3 H15 hR16 hR17 hS16 hS17
      go_wp2_with (first
        | refine wpList_load_want rfl 30 _ rfl _ _ rfl (so_load H16.out) ?_
        | refine wpList_load_want rfl 30 _ rfl _ _ rfl (so_load H17.out) ?_
        | refine wpList_load_want rfl 30 _ rfl _ _ rfl (so_load H154.out) ?_
        | refine wpList_value_want rfl _ (step_run rfl rfl rfl rfl) ?_
        | refine wpList_store_of rfl _ _ _ rfl ⟨T0 + 1, 0, none⟩ _ rfl rfl (stpc_store HR4.out) ?_)
      refine bodyPost_ret (results_row_tmp rfl _ (p := 10) rfl (HR4.out.setRow (stpc k x0 k y0 r0 c0)) Tryz.underlying98 rfl step_size) rfl ⟨rfl, ?_, ?_⟩
      · exact HS4.out.kept (kept_row _ _ _) (by omega)
      · exact HK4.out.trans (kept_row _ _ _) fun y hy e => by have := HT0.out; omega
end Go.Proofs.YtfoodaobiknihaaGreatDoor

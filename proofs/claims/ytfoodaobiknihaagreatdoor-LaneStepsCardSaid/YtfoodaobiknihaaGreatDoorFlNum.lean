/- A source of addresses under way, and Numbers of package fill, by their contracts. Conditions: those typed. -/
import Derived.Test.YtfoodaobiknihaaGreatDoorFlX
namespace Go.Proofs.YtfoodaobiknihaaGreatDoor
set_option maxRecDepth 50000
open Go.RowKit Bb Bn
def TabN (B : Nat) : Prop := 2 < B ∧ 0 < B
theorem tabs_kept {w w' : World} {B x : Nat} (h : TAt w) (hB : TabN B) (hx : B ≤ x) (hk : Kept (fun j => j = x) w w') (hw : B ≤ w.heap.size) : TAt w' := h.below (hk.below hw fun j hj => by omega) hB.1 hB.2
def Src (w : World) (x a t l m b c g z p s k : Nat) : Prop := ∃ n v, SrAt w x a t l m b c g z p s k n v ∧ v.length = 128 ∧ (n = 0 ∨ v = addL p k s b t ((a : Int) - 1) (n : Int))
section
variable {w w' : World} {x a t l m b c g z p s k : Nat}
theorem Src.step (h : Src w x a t l m b c g z p s k) (hb : Below w.heap.size w w') : Src w' x a t l m b c g z p s k := by
  obtain ⟨n, v, h1, h2, h3⟩ := h
  exact ⟨n, v, h1.step hb, h2, h3⟩
theorem Src.lt (h : Src w x a t l m b c g z p s k) : x < w.heap.size := by
  obtain ⟨n, v, h1, _⟩ := h
  exact RowAt.lt h1
theorem Src.kept {M : Nat → Prop} (h : Src w x a t l m b c g z p s k) (hk : Kept M w w') (hM : ¬ M x) : Src w' x a t l m b c g z p s k := by
  obtain ⟨n, v, h1, h2, h3⟩ := h
  exact ⟨n, v, RowAt.kept h1 hk hM, h2, h3⟩
theorem src_at (ha : a = 1 ∨ a = 2 ∨ a = 3) (h : Src w x a t l m b c g z p s k) {N0 : Nat} (hT : TAt w) (hN : TabN N0) (hx : N0 ≤ x) (i X : Nat) (hi : i ≤ 4611686018427387904) (hX : (addL p k s b t ((a : Int) - 1) ((i / 128 + 1 : Nat) : Int)).getD (i % 128) 0 = X) :
    Calls Tryz.prog 85 #[.pointer (some ⟨x, 0, none⟩), .int .i64 (i : Int)] w fun e w' => e = .returned (.tuple #[.int .u32 ((X % 4294967296 : Nat) : Int), .int .u32 ((X / 4294967296 : Nat) : Int)]) ∧ Src w' x a t l m b c g z p s k ∧ Kept (fun j => j = x) w w' := by
  have hxl := h.lt
  have h' := h
  obtain ⟨n, v, h1, h2, h3⟩ := h
  have hX64 : X < 18446744073709551616 := by rw [← hX]; exact ok_at (add_ok _ _ _ _ _ _ _) _
  by_cases hn : n = i / 128 + 1
  · have hv : v = addL p k s b t ((a : Int) - 1) (n : Int) := by
      rcases h3 with h3 | h3
      · omega
      · exact h3
    refine (at_held a t l m b c g z p s k i (i / 128) (i % 128) n X _ _ hi rfl rfl (by omega) h2 (by rw [hv, hn]; exact hX) hX64 rfl rfl h1).mono ?_
    rintro e w' ⟨rfl, rfl⟩
    exact ⟨rfl, h', Kept.refl _ _⟩
  · refine (at_makes ha t l m b c g z p s k i (i / 128) (i % 128) (i / 128 + 1) n X _ _ hi rfl rfl rfl hn h2 hX hX64 rfl rfl h1 (fun w' hk => tabs_kept hT hN hx hk (by omega))).mono ?_
    rintro e w' ⟨rfl, h4, h5⟩
    exact ⟨rfl, ⟨_, _, h4, (add_ok _ _ _ _ _ _ _).1, .inr rfl⟩, h5⟩
end
structure GT (q pc h G a t l m b c g z : Nat) (L : List (List Nat)) (T0 : Nat) (p s : Int) (u : World) : Prop where
  gr : GrAt u q pc h G a t l m b c g z L
  row : RowAt u T0 28 (tuc p s)
section
variable {u u' : World} {q pc h G a t l m b c g z T0 : Nat} {L : List (List Nat)} {p s : Int}
theorem GT.step (H : GT q pc h G a t l m b c g z L T0 p s u) (hb : Below u.heap.size u u') : GT q pc h G a t l m b c g z L T0 p s u' := ⟨H.gr.step hb, RowAt.step H.row hb⟩
theorem GT.tu (H : GT q pc h G a t l m b c g z L T0 p s u) : (loadVar 28 ⟨T0, 0, none⟩).run Tryz.prog u = .ok (tuv p s) u := tu_load H.row
theorem GrAt.keep {M : Nat → Prop} (H : GrAt u q pc h G a t l m b c g z L) (hk : Kept M u u') (h1 : ¬ M q) (h2 : ¬ M pc) (h3 : ¬ M G) : GrAt u' q pc h G a t l m b c g z L := ⟨RowAt.kept H.row hk h1, H.live.kept hk h2 h3⟩
theorem GrAt.far {x : Nat} (H : GrAt u q pc h G a t l m b c g z L) (hk : Kept (fun j => j = x) u u') {ty : TypeId} {C : Array Value} (hx : RowAt u x ty C) (h1 : (46 == ty) = false) (h2 : (111 == ty) = false) (h3 : (83 == ty) = false) : GrAt u' q pc h G a t l m b c g z L :=
  H.keep hk (RowAt.unlike H.row hx h1) (RowAt.unlike H.live.row hx h2) (RowAt.unlike H.live.blk hx h3)
end
set_option maxHeartbeats 6400000 in
theorem numbers_any {a t l m b c g z p s k i q pc h G x : Nat} {L : List (List Nat)} {w : World} (S : Sh a t l b c g) (R : Fl t l c g p s k i) (hG : GrAt w q pc h G a t l m b c g z L) (hL : L.length = l * c) (hS : Src w x a t l m b c g z p s k) {N0 : Nat} (hT : TAt w) (hN : TabN N0) (hx : N0 ≤ x) (W : Nat) (hW : numW a t b c g L p s k i = W) :
    Calls Tryz.prog 63 #[.pointer (some ⟨q, 0, none⟩), tuv p s, .int .i64 (k : Int), .int .i64 (i : Int), .pointer (some ⟨x, 0, none⟩)] w fun e w' => e = .returned (.tuple #[.int .u32 ((W % 4294967296 : Nat) : Int), .int .u32 ((W / 4294967296 : Nat) : Int), .int .i64 0]) ∧ Src w' x a t l m b c g z p s k ∧ Kept (fun j => j = x) w w' := by
  have hLc : L.length ≤ 400000 := by
    rw [hL]
    exact Nat.le_trans (Nat.mul_le_mul S.lm S.cm) (by decide)
  have hW64 : W < 18446744073709551616 := by rw [← hW]; exact numW_lt S R hL hG.live.ok
  have hcol := R.col S
  have hlm := S.lm
  have hcm := S.cm
  have hig := R.hi
  have hcg := S.cg
  obtain ⟨J, hJ⟩ : ∃ J, J = W % 4294967296 := ⟨_, rfl⟩
  obtain ⟨K, hK⟩ : ∃ K, K = W / 4294967296 := ⟨_, rfl⟩
  rw [← hJ, ← hK]
  obtain ⟨x0, hx0⟩ : ∃ x0, s * g + i = x0 := ⟨_, rfl⟩
  obtain ⟨y0, hy0⟩ : ∃ y0, bfN c x0 = y0 := ⟨_, rfl⟩
  have hy0c : y0 < c := by rw [← hy0]; exact bfN_lt (by omega)
  have CFr := Lib.hid fun w => free_any S.ha t l m b c g z p s (by omega) w
  have CSp := Lib.hid fun w => spots_any a t l m b c g z p s k i x0 y0 hx0 hy0 (by omega) (by omega) (by omega) w
  obtain ⟨w1, e1⟩ : ∃ w1, w1 = w.alloc (.cells (tuc p s) 28) := ⟨_, rfl⟩
  have b1 : Below w.heap.size w w1 := by rw [e1]; exact one_box _ _
  have HGT : GT q pc h G a t l m b c g z L w.heap.size p s w1 := ⟨hG.step b1, by rw [e1]; exact RowAt.new _ _ _⟩
  have HX : Hid (∀ u, Below w1.heap.size w1 u → GT q pc h G a t l m b c g z L w.heap.size p s u) := Lib.hid fun u hu => HGT.step hu
  have HSr := Lib.hid (hS.step b1)
  have HTa := Lib.hid (hT.next b1)
  have HB := Lib.hid b1
  have E1 := Lib.hid e1
  have HJK := Lib.hid (And.intro hJ hK)
  have HXL := Lib.hid hS.lt
  clear b1 e1 hG hS hT hJ hK HGT
  go_enter Tryz.func63, Tryz.ntmps63
  go_upto_region 3 with fail
  rw [← E1.out]
  clear E1
  generalize hT0 : w.heap.size = T0 at *
  have HT0 := Lib.hid hT0
  clear hT0
  refine wp_region_text [Is (.pointer (some ⟨q, 0, none⟩)), Is (.pointer (some ⟨q, 0, none⟩)), Is (.pointer (some ⟨q, 0 + 1, none⟩)), Is (spv a t l m b c g z), Is (tuv p s), Is (.bool (freeB a p s))] (by kernel_rfl) (by kernel_rfl) rfl ⟨stable_is _, stable_is _, stable_is _, stable_is _, stable_is _, stable_is _, trivial⟩ ⟨?_, ?_, ?_, ?_, ?_, ?_, trivial⟩ ?_
  · intro a w C
    exact part_on (wanted_free rfl _) (op_move (.inl rfl) (C.was 0 (by kernel_rfl)))
  · intro a w C
    exact part_on (wanted_free rfl _) (op_value (nil_run rfl (C.on (j := 0) (by kernel_rfl) rfl rfl)) rfl)
  · intro a w C
    exact part_on (wanted_free rfl _) (op_value (grf_run (k := 1) rfl (by decide) (C.on (j := 1) (by kernel_rfl) rfl rfl)) rfl)
  · intro a w C
    exact part_on (wanted_free rfl _) (op_value (load_run rfl (C.on (j := 2) (by kernel_rfl) rfl rfl) (HX.out w C.below).gr.row.shape) rfl)
  · intro a w C
    exact part_on (wanted_free rfl _) (op_value (load_run rfl (C.was 6 (by kernel_rfl)) (HX.out w C.below).tu) rfl)
  · intro a w C
    exact part_on (wanted_free rfl _) (op_call2 rfl (reg_enters Tryz.func84 (by kernel_rfl) (by kernel_rfl)) (C.on (j := 3) (by kernel_rfl) rfl rfl) (C.on (j := 4) (by kernel_rfl) rfl rfl) (calls_is (CFr.out w)))
  rintro wF hbF _ rfl _ rfl _ rfl _ rfl _ rfl _ rfl
  simp only [Fin, setAt, Exit.then, List.setIfInBounds_toArray, List.set_cons_succ, List.set_cons_zero]
  have HB2 := Lib.hid (HB.out.trans (hbF.mono (HT0.out ▸ HB.out.size)))
  have HX2 : Hid (∀ u, Below wF.heap.size wF u → GT q pc h G a t l m b c g z L T0 p s u) := Lib.hid fun u hu => (HX.out wF hbF).step hu
  have HSr2 := Lib.hid (HSr.out.step hbF)
  have HT2 := Lib.hid (HTa.out.next hbF)
  clear hbF HX HSr HTa HB
  cases hfr : freeB a p s with
  | true =>
    have CA := Lib.hid (src_at S.ha HSr2.out HT2.out hN hx i W (by omega) (by rw [← hW]; unfold numW; rw [if_pos hfr]))
    rw [← HJK.out.1, ← HJK.out.2] at CA
    clear hW
    go_wp2_with fail
    refine CA.out.mono ?_
    rintro e w3 ⟨rfl, hS3, hk3⟩
    go_wp2
    refine bodyPost_ret (results_tmp3 rfl _ _ _) rfl ⟨rfl, hS3, (Kept.of_below (M := fun j => j = x) (HT0.out.symm ▸ HB2.out)).trans hk3 fun _ _ h => h⟩
  | false =>
    obtain ⟨n0, hn0⟩ : ∃ n0, k * c + y0 = n0 := ⟨_, rfl⟩
    have hn0L : n0 < L.length := by rw [hL, ← hn0]; exact place_lt S R.kl hy0c
    have CL : Hid (∀ u, Below wF.heap.size wF u → _) := Lib.hid fun u hu => gload_any (HX2.out u hu).gr (by omega) (by omega) k y0 n0 R.kl hy0c hn0 hn0L (by omega)
    have hX0 : (L.getD n0 []).getD 0 0 = W := by
      rw [← hW]; unfold numW
      rw [hfr, hx0, hy0, hn0]; rfl
    have hok0 := block_ok (HX2.out wF (Below.refl _ _)).gr.live.ok n0 hn0L
    have CWd := Lib.hid fun w => words_any W J K hW64 HJK.out.1.symm HJK.out.2.symm w
    generalize L.getD n0 [] = bl at *
    have HBL := Lib.hid (And.intro hok0.1 hX0)
    clear hW hX0 hok0
    go_upto_region 6 with fail
    refine wp_region_stage (wF.heap.size) [13, 14] [11, 12] [[0], [0], [0], [0], [0], [0], [0], [0], [0], [0], [0, 1], [0], [0], [], []] [[Is (.pointer (some ⟨q, 0, none⟩)), Is (.pointer (some ⟨q, 0, none⟩)), Is (.pointer (some ⟨q, 0 + 1, none⟩)), Is (spv a t l m b c g z), Is (tuv p s), Is (.int .i64 (k : Int)), Is (.int .i64 (i : Int)), Is (.tuple #[sov k x0, sov k y0]), Is (.tuple #[sov k x0, sov k y0]), Is (sov k x0), Is (sov k y0), NewAt wF.heap.size 30 (soc 0 0), NewAt wF.heap.size 30 (soc 0 0), Free, Free], [Is (.pointer (some ⟨q, 0, none⟩)), Is (.pointer (some ⟨q, 0, none⟩)), Is (.pointer (some ⟨q, 0 + 1, none⟩)), Is (spv a t l m b c g z), Is (tuv p s), Is (.int .i64 (k : Int)), Is (.int .i64 (i : Int)), Is (.tuple #[sov k x0, sov k y0]), Is (.tuple #[sov k x0, sov k y0]), Is (sov k x0), Is (sov k y0), Free, NewAt wF.heap.size 30 (soc 0 0), Free, Free], [Is (.pointer (some ⟨q, 0, none⟩)), Is (.pointer (some ⟨q, 0, none⟩)), Is (.pointer (some ⟨q, 0 + 1, none⟩)), Is (spv a t l m b c g z), Is (tuv p s), Is (.int .i64 (k : Int)), Is (.int .i64 (i : Int)), Is (.tuple #[sov k x0, sov k y0]), Is (.tuple #[sov k x0, sov k y0]), Is (sov k x0), Is (sov k y0), Free, NewAt wF.heap.size 30 (soc k y0), Free, Free]] [Is (.pointer (some ⟨q, 0, none⟩)), Is (.pointer (some ⟨q, 0, none⟩)), Is (.pointer (some ⟨q, 0 + 1, none⟩)), Is (spv a t l m b c g z), Is (tuv p s), Is (.int .i64 (k : Int)), Is (.int .i64 (i : Int)), Is (.tuple #[sov k x0, sov k y0]), Is (.tuple #[sov k x0, sov k y0]), Is (sov k x0), Is (sov k y0), Free, NewAt wF.heap.size 30 (soc k y0), Free, Free] (Nat.le_refl _) (by kernel_rfl) (by kernel_rfl) rfl rfl ⟨⟨stable_is _, stable_is _, stable_is _, stable_is _, stable_is _, stable_is _, stable_is _, stable_is _, stable_is _, stable_is _, stable_is _, stable_newat _ _ _, stable_newat _ _ _, stable_free, stable_free, trivial⟩, ⟨stable_is _, stable_is _, stable_is _, stable_is _, stable_is _, stable_is _, stable_is _, stable_is _, stable_is _, stable_is _, stable_is _, stable_free, stable_newat _ _ _, stable_free, stable_free, trivial⟩, ⟨stable_is _, stable_is _, stable_is _, stable_is _, stable_is _, stable_is _, stable_is _, stable_is _, stable_is _, stable_is _, stable_is _, stable_free, stable_newat _ _ _, stable_free, stable_free, trivial⟩, trivial⟩ (by intro n hn o ho hd w; simp only [List.mem_cons, List.not_mem_nil, or_false] at hn; rcases hn with rfl | rfl <;> first | trivial | (cases ho; cases hd)) rfl ⟨?p0, ?p1, ?p2, ?p3, ?p4, ?p5, ?p6, ?p7, ?p8, ?p9, ?p10, ?p11, ?p12, fun h => absurd (by simp) h, fun h => absurd (by simp) h, trivial⟩ ⟨?t0, ?t1, trivial⟩ (by decide) ?fin
    case p0 =>
      intro _ k hk; obtain rfl := List.mem_singleton.1 hk; intro a w C Z
      exact partS_on (wanted_free rfl _) (op_move (.inl rfl) (C.was 0 (by kernel_rfl)))
    case p1 =>
      intro _ k hk; obtain rfl := List.mem_singleton.1 hk; intro a w C Z
      exact partS_on (wanted_free rfl _) (op_value (nil_run rfl (C.on (j := 0) (by kernel_rfl) rfl rfl)) rfl)
    case p2 =>
      intro _ k hk; obtain rfl := List.mem_singleton.1 hk; intro a w C Z
      exact partS_on (wanted_free rfl _) (op_value (grf_run (k := 1) rfl (by decide) (C.on (j := 1) (by kernel_rfl) rfl rfl)) rfl)
    case p3 =>
      intro _ k hk; obtain rfl := List.mem_singleton.1 hk; intro a w C Z
      exact partS_on (wanted_free rfl _) (op_value (load_run rfl (C.on (j := 2) (by kernel_rfl) rfl rfl) (HX2.out w C.below).gr.row.shape) rfl)
    case p4 =>
      intro _ k hk; obtain rfl := List.mem_singleton.1 hk; intro a w C Z
      exact partS_on (wanted_free rfl _) (op_value (load_run rfl (C.was 6 (by kernel_rfl)) (HX2.out w C.below).tu) rfl)
    case p5 =>
      intro _ k hk; obtain rfl := List.mem_singleton.1 hk; intro a w C Z
      exact partS_on (wanted_free rfl _) (op_move (.inl rfl) (C.was 2 (by kernel_rfl)))
    case p6 =>
      intro _ k hk; obtain rfl := List.mem_singleton.1 hk; intro a w C Z
      exact partS_on (wanted_free rfl _) (op_move (.inl rfl) (C.was 3 (by kernel_rfl)))
    case p7 =>
      intro _ k hk; obtain rfl := List.mem_singleton.1 hk; intro a w C Z
      exact partS_on (wanted_free rfl _) (op_call4 rfl (reg_enters Tryz.func65 (by kernel_rfl) (by kernel_rfl)) (C.on (j := 3) (by kernel_rfl) rfl rfl) (C.on (j := 4) (by kernel_rfl) rfl rfl) (C.on (j := 5) (by kernel_rfl) rfl rfl) (C.on (j := 6) (by kernel_rfl) rfl rfl) (calls_is (CSp.out w)))
    case p8 =>
      intro _ k hk; obtain rfl := List.mem_singleton.1 hk; intro a w C Z
      exact partS_on (wanted_free rfl _) (op_move (.inl rfl) (C.on (j := 7) (by kernel_rfl) rfl rfl))
    case p9 =>
      intro _ k hk; obtain rfl := List.mem_singleton.1 hk; intro a w C Z
      exact partS_on (wanted_free rfl _) (op_value (ext_run (v := sov k x0) rfl (C.on (j := 8) (by kernel_rfl) rfl rfl) rfl) rfl)
    case p10 =>
      intro _ k hk; replace hk : k ∈ [0, 1] := hk; simp only [List.mem_cons, List.not_mem_nil, or_false] at hk
      rcases hk with rfl | rfl
      · intro a w C Z
        exact partS_on (wanted_free rfl _) (op_value (ext_run (v := sov k y0) rfl (C.on (j := 8) (by kernel_rfl) rfl rfl) rfl) rfl)
      · intro a w C Z
        exact partS_on (wanted_free rfl _) (op_value (ext_run (v := sov k y0) rfl (C.on (j := 8) (by kernel_rfl) rfl rfl) rfl) rfl)
    case p11 =>
      intro _ k hk; obtain rfl := List.mem_singleton.1 hk; intro a w C Z
      exact partS_new (wanted_free rfl _) (op_fresh (spot_new rfl) ⟨_, rfl, C.below.size, RowAt.new _ _ _⟩)
    case p12 =>
      intro _ k hk; obtain rfl := List.mem_singleton.1 hk; intro a w C Z
      exact partS_new (wanted_free rfl _) (op_fresh (spot_new rfl) ⟨_, rfl, C.below.size, RowAt.new _ _ _⟩)
    case t0 =>
      intro o ho a w C A
      cases ho
      obtain ⟨b1, e1, h1, hR⟩ := (C.on (j := 11) (by kernel_rfl) rfl rfl)
      refine ⟨wanted_free rfl _, stage_store rfl e1 (C.on (j := 9) (by kernel_rfl) rfl rfl) (soc_store hR) trivial (below_setRow C.below h1 _) (Nat.le_of_eq (setRow_size _ _ _).symm) ?_⟩
      · intro i o2 d hi hd hne hnw h
        have hil := (List.getElem?_eq_some_iff.1 hi).1
        replace hil : i < 15 := hil
        obtain rfl | rfl | rfl | rfl | rfl | rfl | rfl | rfl | rfl | rfl | rfl | rfl | rfl | rfl | rfl : i = 0 ∨ i = 1 ∨ i = 2 ∨ i = 3 ∨ i = 4 ∨ i = 5 ∨ i = 6 ∨ i = 7 ∨ i = 8 ∨ i = 9 ∨ i = 10 ∨ i = 11 ∨ i = 12 ∨ i = 13 ∨ i = 14 := by omega
        · exact h
        · exact h
        · exact h
        · exact h
        · exact h
        · exact h
        · exact h
        · exact h
        · exact h
        · exact h
        · exact h
        · trivial
        · exact h.other (fun e => A 11 12 _ _ _ _ (by simp) (by simp) (by decide) (by kernel_rfl) (by kernel_rfl) rfl rfl rfl rfl (e1.trans (by cases hi; cases hd; exact e.symm))) _
        · exact absurd rfl hne
        · cases hi; cases hd
    case t1 =>
      intro o ho a w C A
      cases ho
      obtain ⟨b1, e1, h1, hR⟩ := (C.on (j := 12) (by kernel_rfl) rfl rfl)
      refine ⟨wanted_free rfl _, stage_store rfl e1 (C.on (j := 10) (by kernel_rfl) rfl rfl) (soc_store hR) trivial (below_setRow (Below.refl _ _) h1 _) (Nat.le_of_eq (setRow_size _ _ _).symm) ?_⟩
      · intro i o2 d hi hd hne hnw h
        have hil := (List.getElem?_eq_some_iff.1 hi).1
        replace hil : i < 15 := hil
        obtain rfl | rfl | rfl | rfl | rfl | rfl | rfl | rfl | rfl | rfl | rfl | rfl | rfl | rfl | rfl : i = 0 ∨ i = 1 ∨ i = 2 ∨ i = 3 ∨ i = 4 ∨ i = 5 ∨ i = 6 ∨ i = 7 ∨ i = 8 ∨ i = 9 ∨ i = 10 ∨ i = 11 ∨ i = 12 ∨ i = 13 ∨ i = 14 := by omega
        · exact h
        · exact h
        · exact h
        · exact h
        · exact h
        · exact h
        · exact h
        · exact h
        · exact h
        · exact h
        · exact h
        · trivial
        · cases hi; cases hd; exact ⟨b1, e1, h1, hR.setRow _⟩
        · cases hi; cases hd
        · exact absurd rfl hne
    case fin =>
      rintro wG hbF _ rfl _ rfl _ rfl _ rfl _ rfl _ rfl _ rfl _ rfl _ rfl _ rfl _ rfl x15 hx15 _ ⟨S0, rfl, hS0, hSR⟩ _ _ _ _
      simp only [Fin, setAt, Exit.then, List.setIfInBounds_toArray, List.set_cons_succ, List.set_cons_zero]
      have HB3 := Lib.hid (HB2.out.trans (hbF.mono (HT0.out ▸ HB2.out.size)))
      have CL3 := Lib.hid (CL.out wG hbF)
      have HSR := Lib.hid hSR
      have HSr3 := Lib.hid (HSr2.out.step hbF)
      clear hbF hSR CL HX2 HSr2 HT2 HB2 hS0 CFr CSp
      go_wp2_with (refine wpList_load_want rfl 30 _ rfl _ _ rfl (so_load HSR.out) ?_)
      refine CL3.out.mono ?_
      rintro e w3 ⟨rfl, hb⟩
      have HB4 := Lib.hid (HB3.out.trans (hb.mono (HT0.out ▸ HB3.out.size)))
      have HSr4 := Lib.hid (HSr3.out.step hb)
      obtain ⟨w4, e4⟩ : ∃ w4, w4 = (w3.alloc (.cells (wq zb) 83)).setRow w3.heap.size (wq bl) := ⟨_, rfl⟩
      have hr4 : RowAt w4 w3.heap.size 83 (wq bl) := by rw [e4]; exact (RowAt.new _ _ _).setRow _
      have b4 : Below w3.heap.size w3 w4 := by rw [e4]; exact set_below _ _
      have c4 : w4.cell? ⟨w3.heap.size, 0, none⟩ = some (.int .u64 (W : Int)) := by
        rw [hr4.cell 0, wq_at bl 0 (by rw [HBL.out.1]; decide), HBL.out.2]
      have HB5 := Lib.hid (HB4.out.trans (b4.mono (HT0.out ▸ HB4.out.size)))
      have HSr5 := Lib.hid (HSr4.out.step b4)
      have E4 := Lib.hid e4
      have hz := zero_b
      clear hb HB3 HSr3 HSR CL3 HB4 HSr4 hr4 b4 e4
      go_upto_region 8 with (refine wpList_store_of rfl _ _ _ rfl ⟨w3.heap.size, 0, none⟩ _ rfl rfl (set_new _ HBL.out.1) ?_)
      rw [← E4.out]
      clear E4
      go_wp2_with fail
      refine (CWd.out _).mono ?_
      rintro e w5 ⟨rfl, rfl⟩
      go_wp2
      refine bodyPost_ret (results_tmp3 rfl _ _ _) rfl ⟨rfl, HSr5.out, Kept.of_below ?_⟩
      exact HT0.out.symm ▸ HB5.out
end Go.Proofs.YtfoodaobiknihaaGreatDoor

/- The law GridTags by the calls' contracts. Condition: blake's table lies at its place. -/
import Derived.Test.YtpampgkhjcfeaaaDoorGdRef
import Derived.Test.YtpampgkhjcfeaaaDoorGdLawS
namespace Go.Proofs.YtpampgkhjcfeaaaDoor
set_option maxRecDepth 50000
open Go.RowKit Bb Bl

/-- a value, and what holds behind it; the document's grid, and what holds behind it -/
def IsF (V : Value) (F : World → Prop) : Value → World → Prop := fun v u => v = V ∧ F u
def DocF (N c l : Nat) (M : List (List Nat)) (F : World → Prop) : Value → World → Prop := fun v u => ∃ gs, DocAt u N v c gs M ∧ gs.length = l ∧ F u
def Any : World → Prop := fun _ => True
theorem stable_isf (V : Value) {F : World → Prop} (h : ∀ u u', F u → Below u.heap.size u u' → F u') : Stable (IsF V F) := fun _ _ _ ⟨e, hf⟩ hb => ⟨e, h _ _ hf hb⟩
theorem stable_docf (N c l : Nat) (M : List (List Nat)) {F : World → Prop} (h : ∀ u u', F u → Below u.heap.size u u' → F u') : Stable (DocF N c l M F) := fun _ _ _ ⟨gs, d, e, hf⟩ hb => ⟨gs, d.step hb, e, h _ _ hf hb⟩
theorem reg_call2 {P : Program} {o : Oper} {a : Act} {w : World} {f : FuncId} {x y : Operand} {ts : Array TypeId} {v1 v2 : Value} (ho : o.op = .call { callee := .value (.func f), args := #[x, y], argTypes := ts }) (he : ∀ (args : Array Value) (w : World), (callFunc f args).run P w = .ok (.enter f args) w)
    (hx : a.eval x = v1) (hy : a.eval y = v2) : (execOp a.eval o).run P w = .ok (.enter f #[v1, v2]) w := by
  subst hx; subst hy
  simp [execOp, ho, resolve, invoke, he, go_sem]
/-- the grid, the shape's variable and the constants' -/
structure Fx (q p h G a t l m b c g z S0 F0 : Nat) (M : List (List Nat)) (u : World) : Prop where
  gr : GrAt u q p h G a t l m b c g z M
  sh : RowAt u S0 45 (spc a t l m b c g z)
  fx : RowAt u F0 57 (wq iv)
section
variable {u u' : World} {q p h G a t l m b c g z S0 F0 : Nat} {M M' : List (List Nat)}
theorem Fx.step (H : Fx q p h G a t l m b c g z S0 F0 M u) (hb : Below u.heap.size u u') : Fx q p h G a t l m b c g z S0 F0 M u' := ⟨H.gr.step hb, RowAt.step H.sh hb, RowAt.step H.fx hb⟩
theorem Fx.turn (H : Fx q p h G a t l m b c g z S0 F0 M u) (hk : Kept (fun j => j = G) u u') (hg : GrAt u' q p h G a t l m b c g z M') : Fx q p h G a t l m b c g z S0 F0 M' u' :=
  ⟨hg, RowAt.kept H.sh hk (RowAt.unlike H.sh H.gr.live.blk (by rfl)), RowAt.kept H.fx hk (RowAt.unlike H.fx H.gr.live.blk (by rfl))⟩
theorem Fx.loads (H : Fx q p h G a t l m b c g z S0 F0 M u) : (loadVar 57 ⟨F0, 0, none⟩).run Tryd.prog u = .ok (.agg (wq iv)) u ∧ (loadVar 45 ⟨S0, 0, none⟩).run Tryd.prog u = .ok (spv a t l m b c g z) u :=
  ⟨RowAt.load H.fx Tryd.underlying57 (by kernel_rfl), sub_load H.sh s27_agg s27_size 0 (spc a t l m b c g z).toList rfl fun j v h => by simpa using h⟩
end

set_option maxHeartbeats 12800000 in
theorem tags31_any (pa pt pm pl pz : Int) (s : ByteArray) {A : Option Addr} (cp : Nat) (ls : List Ac) (W : World) (hK : QAt W) (hR : Reads W W.heap.size A (acs ls)) (hU : ∀ x ∈ ls, x.w < 18446744073709551616) :
    Calls Tryd.prog 4 #[pav pa pt pm pl pz, .string s, .slice A ls.length cp] W fun e w' => e = .returned (.bool true) ∧ Below W.heap.size W w' := by
  have CA := Lib.hid awake31_any
  have CM := made_ways pa pt pm pl pz
  have HRd := Lib.hid hR
  have HU := Lib.hid hU
  have HP := Lib.hid (RowAt.new W 23 (pac pa pt pm pl pz))
  have HBW := Lib.hid (one_box W (.cells (pac pa pt pm pl pz) 23))
  have hz := zero_b
  have h0 : 0 < W.heap.size := hK.1
  have HKW := Lib.hid hK
  clear hR hU hK
  go_enter Tryd.func4, Tryd.ntmps4
  go_wp2_with fail
  refine (CA.out _).mono ?_
  rintro e w1 ⟨rfl, hb⟩
  have HP1 := Lib.hid (RowAt.step HP.out hb)
  have HB1 := Lib.hid (below_step HBW.out hb)
  clear CA HP HBW hb
  go_wp2_with (refine wpList_load_want rfl 23 _ rfl _ _ rfl (pa_load HP1.out) ?_)
  rcases CM with CM | ⟨al, t, l, m, b, c, g, z, HFw, CM⟩
  · refine (CM _).mono ?_
    rintro e w2 ⟨rfl, hb⟩
    have HB2 := Lib.hid (below_step HB1.out hb)
    clear HP1 HB1 hb CM
    go_wp2
    go_ret
    exact ⟨rfl, HB2.out⟩
  refine (CM _).mono ?_
  rintro e w2 ⟨q, p, h, G, rfl, hG, hGe, hb⟩
  have HB2 := Lib.hid (below_step HB1.out hb)
  have hGW : W.heap.size ≤ G := by have := HB1.out.size; omega
  have HG := Lib.hid hG
  clear HP1 HB1 hb CM hGe hG
  by_cases hs2 : 200 < s.size
  · have d1 : decide ((200 : Int) < (s.size : Int)) = true := by simp; omega
    have d2 : decide (200 < s.size) = true := by simp; omega
    go_wp2
    go_ret
    exact ⟨rfl, HB2.out⟩
  have d1 : decide ((200 : Int) < (s.size : Int)) = false := by simp; omega
  have d2 : decide (200 < s.size) = false := by simp; omega
  by_cases hlong : 50 < ls.length
  · have d3 : decide ((50 : Int) < (ls.length : Int)) = true := by simp; omega
    have d4 : decide (50 < ls.length) = true := by simp; omega
    go_wp2
    go_ret
    exact ⟨rfl, HB2.out⟩
  have d3 : decide ((50 : Int) < (ls.length : Int)) = false := by simp; omega
  have d4 : decide (50 < ls.length) = false := by simp; omega
  have hls : ls.length ≤ 50 := by omega
  have hss : s.size ≤ 200 := by omega
  clear hlong hs2
  have k0 := HG.out.row.shape
  obtain ⟨hl0, hl4, hc8, hc80, hb80, hbl, hz4, hz10⟩ := HFw
  have HBL := Lib.hid hbl
  clear hbl
  go_upto_region 7 with (refine wpList_load_want rfl 47 _ rfl _ _ rfl k0 ?_)
  have b3 : Below w2.heap.size w2 (w2.alloc (.cells (spc al t l m b c g z) 45)) := one_box _ _
  have HS3 := Lib.hid (RowAt.new w2 45 (spc al t l m b c g z))
  have HG3 := Lib.hid (HG.out.step b3)
  have HB3 := Lib.hid (below_step HB2.out b3)
  generalize World.alloc w2 _ = w3 at *
  generalize w2.heap.size = S0 at *
  clear b3 k0 HG HB2
  go_wp2_with fail
  refine (rknown_any w3).mono ?_
  rintro e w4 ⟨rfl, hb⟩
  have hfz := RowAt.new w4 57 #[.int .u64 0, .int .u64 0, .int .u64 0, .int .u64 0, .int .u64 0, .int .u64 0, .int .u64 0, .int .u64 0]
  have HST := Lib.hid (hfz.store (P := Tryd.prog) (C' := wq iv) (by kernel_rfl) (by kernel_rfl) (wq_one _))
  have HF5 := Lib.hid (RowAt.setRow hfz (wq iv))
  have hb5 := below_step hb (below_setRow (one_box w4 (.cells #[.int .u64 0, .int .u64 0, .int .u64 0, .int .u64 0, .int .u64 0, .int .u64 0, .int .u64 0, .int .u64 0] 57)) (Nat.le_refl _) (wq iv))
  have HS5 := Lib.hid (RowAt.step HS3.out hb5)
  have HG5 := Lib.hid (HG3.out.step hb5)
  have HB5 := Lib.hid (below_step HB3.out hb5)
  clear hb hb5 HS3 HG3 HB3 hfz
  go_upto_region 8 with (refine wpList_store_of rfl _ _ _ rfl ⟨w4.heap.size, 0, none⟩ _ rfl rfl HST.out ?_)
  simp only [Act.put]
  clear HST
  generalize World.setRow _ _ _ = w5 at *
  generalize w4.heap.size = F0 at *
  obtain ⟨B, hB⟩ : ∃ B, B = W.heap.size := ⟨_, rfl⟩
  have hB0 : 0 < B := by omega
  have hBG : B ≤ G := by omega
  have hB8 : B ≤ w5.heap.size := by rw [hB]; exact HB5.out.size
  have hGw : G < w5.heap.size := HG5.out.live.blk.lt
  have HBB := Lib.hid hB
  have hbL : (List.replicate b zb).length = b := by simp
  have HBR : Hid (begTo s c (List.replicate b zb) l = begTo s c (List.replicate (l * c) zb) l) := Lib.hid (by rw [HBL.out])
  have HBN : Hid ((begTo s c (List.replicate b zb) l).length = b) := Lib.hid (by rw [begTo_len]; exact hbL)
  have HQ : Hid (∀ u, Below B w5 u → QAt u) := Lib.hid fun u hu => (HKW.out.next HB5.out).below hu hB0
  have CBG0 := fun u (hu : Below w5.heap.size w5 u) => begin_any (N0 := B) hB0 hBG (HQ.out u (hu.mono hB8)) (HG5.out.step hu) (by omega) (by omega) (by omega) (by rw [hbL]; exact HBL.out) (by rw [hbL]; omega) s (by omega)
  obtain ⟨M, hM⟩ : ∃ M, M = begTo s c (List.replicate b zb) l := ⟨_, rfl⟩
  rw [← hM] at HBR HBN CBG0
  obtain ⟨F, hF⟩ : ∃ F : World → Prop, F = fun u => Fx q p h G al t l m b c g z S0 F0 M u ∧ Below B w5 u := ⟨_, rfl⟩
  have HFS : Hid (∀ u u', F u → Below u.heap.size u u' → F u') := Lib.hid fun u u' hu hb => by
    subst hF
    exact ⟨hu.1.step hb, hu.2.trans (hb.mono (by have := hu.2.size; omega))⟩
  have CBG : Hid (∀ u, Below w5.heap.size w5 u → Calls Tryd.prog 10 #[.pointer (some ⟨q, 0, none⟩), .string s] u fun e w' => e = .returned (.int .i64 0) ∧ F w' ∧ Below B w5 w') := Lib.hid fun u hu => by
    refine (CBG0 u hu).mono ?_
    rintro e w' ⟨rfl, hg, hk⟩
    have h1 : Below B w5 w' := (hu.mono hB8).trans (hk.below (by have := hu.size; omega) fun x hx => by omega)
    subst hF
    exact ⟨rfl, ⟨(show Fx q p h G al t l m b c g z S0 F0 (List.replicate b zb) u from ⟨HG5.out.step hu, RowAt.step HS5.out hu, RowAt.step HF5.out hu⟩).turn hk hg, h1⟩, h1⟩
  have CAll : Hid (∀ u, F u → Calls Tryd.prog 14 #[.pointer (some ⟨q, 0, none⟩)] u fun e w' => ∃ v, e = .returned v ∧ DocF 0 c l M F v w' ∧ Below u.heap.size u w') := Lib.hid fun u hu => by
    have h1 := hu
    rw [hF] at h1
    refine (all_any h1.1.gr hl0 (by omega) (by omega) (by rw [HBN.out]; exact HBL.out) (by rw [HBN.out]; omega)).mono ?_
    rintro e w' ⟨v, gs, rfl, hd, hg, hb⟩
    exact ⟨v, rfl, ⟨gs, hd.weak (Nat.zero_le _), hg, HFS.out _ _ hu hb⟩, hb⟩
  have CRB : Hid (∀ u, F u → Calls Tryd.prog 16 #[.agg (wq iv), spv al t l m b c g z, .string s] u fun e w' => ∃ v, e = .returned v ∧ DocF 0 c l M F v w' ∧ Below u.heap.size u w') := Lib.hid fun u hu => by
    refine (rbegin_any al t l m b c g z hl0 (by omega) (by omega) (by omega) s (by omega) u).mono ?_
    rintro e w' ⟨v, gs, rfl, hd, hg, hb⟩
    rw [← HBR.out] at hd
    exact ⟨v, rfl, ⟨gs, hd.weak (Nat.zero_le _), hg, HFS.out _ _ hu hb⟩, hb⟩
  have HFL : Hid (∀ u, F u → (loadVar 57 ⟨F0, 0, none⟩).run Tryd.prog u = .ok (.agg (wq iv)) u ∧ (loadVar 45 ⟨S0, 0, none⟩).run Tryd.prog u = .ok (spv al t l m b c g z) u) := Lib.hid fun u hu => by
    rw [hF] at hu
    exact hu.1.loads
  have HFE : Hid (∀ u, F u → Fx q p h G al t l m b c g z S0 F0 M u ∧ Below B w5 u) := Lib.hid fun u hu => by rw [hF] at hu; exact hu
  clear hF hM CBG0 hbL HBR HF5 HS5 HG5 hGw hB
  refine wp_region_own B 2 hB8 [Is (.pointer (some ⟨q, 0, none⟩)), Is (.string s)] [IsF (.int .i64 0) F, IsF (.bool false) F, IsF (.bool false) F, IsF (.pointer (some ⟨q, 0, none⟩)) F, DocF 0 c l M F, IsF (.agg (wq iv)) F, IsF (spv al t l m b c g z) F, IsF (.string s) F, DocF 0 c l M F, IsF (.bool true) F, IsF (.bool false) F, IsF (.bool false) F] (by kernel_rfl) (by kernel_rfl) (by kernel_rfl) rfl rfl (by decide) ⟨stable_is _, stable_is _, trivial⟩ ⟨stable_isf _ HFS.out, stable_isf _ HFS.out, stable_isf _ HFS.out, stable_isf _ HFS.out, stable_docf _ _ _ _ HFS.out, stable_isf _ HFS.out, stable_isf _ HFS.out, stable_isf _ HFS.out, stable_docf _ _ _ _ HFS.out, stable_isf _ HFS.out, stable_isf _ HFS.out, stable_isf _ HFS.out, trivial⟩ ⟨?h0, ?h1, trivial⟩ ?mid ⟨?l0, ?l1, ?l2, ?l3, ?l4, ?l5, ?l6, ?l7, ?l8, ?l9, ?l10, trivial⟩ ?fin
  case h0 =>
    intro a w C Y
    exact part_on (wanted_free rfl _) (op_move (.inl rfl) (C.was 7 (by kernel_rfl)))
  case h1 =>
    intro a w C Y
    exact part_on (wanted_free rfl _) (op_move (.inl rfl) (C.was 1 (by kernel_rfl)))
  case mid =>
    intro u hu a w C
    cases hu
    refine ⟨wanted_free rfl _, ?_⟩
    unfold TurnsB
    refine Oper.wp_mono ?_ (turn_enter (R := fun w' => F w' ∧ Below B w5 w') (v := .int .i64 0) (reg_call2 rfl (reg_enters Tryd.func10 (by kernel_rfl) (by kernel_rfl)) (C.on (j := 0) (by kernel_rfl) rfl rfl) (C.on (j := 1) (by kernel_rfl) rfl rfl)) (CBG.out w C.below))
    rintro a' w' ⟨rfl, hF, hb⟩
    exact ⟨_, rfl, ⟨rfl, hF⟩, hb⟩
  case l0 =>
    intro a w C
    exact part_on (wanted_free rfl _) (op_bin rfl (show IsF (.int .i64 0) F _ w from C.on (j := 2) (by kernel_rfl) rfl rfl).1 rfl rfl (by simp [go_sem]) ⟨rfl, (show IsF (.int .i64 0) F _ w from C.on (j := 2) (by kernel_rfl) rfl rfl).2⟩)
  case l1 =>
    intro a w C
    exact part_on (wanted_free rfl _) (op_move (.inl rfl) (show IsF (.bool false) F _ w from C.on (j := 3) (by kernel_rfl) rfl rfl))
  case l2 =>
    intro a w C
    exact part_on (wanted_on (j := 4) rfl rfl rfl (show IsF (.bool false) F _ w from C.on (j := 4) (by kernel_rfl) rfl rfl).1) (op_move (.inl rfl) ⟨C.was 7 (by kernel_rfl), (show IsF (.bool false) F _ w from C.on (j := 4) (by kernel_rfl) rfl rfl).2⟩)
  case l3 =>
    intro a w C
    exact part_on (wanted_on (j := 4) rfl rfl rfl (show IsF (.bool false) F _ w from C.on (j := 4) (by kernel_rfl) rfl rfl).1) (op_call1 rfl (reg_enters Tryd.func14 (by kernel_rfl) (by kernel_rfl)) (show IsF (.pointer (some ⟨q, 0, none⟩)) F _ w from C.on (j := 5) (by kernel_rfl) rfl rfl).1 (CAll.out w (show IsF (.bool false) F _ w from C.on (j := 4) (by kernel_rfl) rfl rfl).2))
  case l4 =>
    intro a w C
    exact part_on (wanted_on (j := 4) rfl rfl rfl (show IsF (.bool false) F _ w from C.on (j := 4) (by kernel_rfl) rfl rfl).1) (op_value (load_run rfl (C.was 9 (by kernel_rfl)) (HFL.out w (show IsF (.bool false) F _ w from C.on (j := 4) (by kernel_rfl) rfl rfl).2).1) ⟨rfl, (show IsF (.bool false) F _ w from C.on (j := 4) (by kernel_rfl) rfl rfl).2⟩)
  case l5 =>
    intro a w C
    exact part_on (wanted_on (j := 4) rfl rfl rfl (show IsF (.bool false) F _ w from C.on (j := 4) (by kernel_rfl) rfl rfl).1) (op_value (load_run rfl (C.was 8 (by kernel_rfl)) (HFL.out w (show IsF (.bool false) F _ w from C.on (j := 4) (by kernel_rfl) rfl rfl).2).2) ⟨rfl, (show IsF (.bool false) F _ w from C.on (j := 4) (by kernel_rfl) rfl rfl).2⟩)
  case l6 =>
    intro a w C
    exact part_on (wanted_on (j := 4) rfl rfl rfl (show IsF (.bool false) F _ w from C.on (j := 4) (by kernel_rfl) rfl rfl).1) (op_move (.inl rfl) ⟨C.was 1 (by kernel_rfl), (show IsF (.bool false) F _ w from C.on (j := 4) (by kernel_rfl) rfl rfl).2⟩)
  case l7 =>
    intro a w C
    have e7 := (show IsF (.agg (wq iv)) F _ w from C.on (j := 7) (by kernel_rfl) rfl rfl).1
    have e8 := (show IsF (spv al t l m b c g z) F _ w from C.on (j := 8) (by kernel_rfl) rfl rfl).1
    have e9 := (show IsF (.string s) F _ w from C.on (j := 9) (by kernel_rfl) rfl rfl).1
    have hF := (show IsF (.bool false) F _ w from C.on (j := 4) (by kernel_rfl) rfl rfl).2
    have hc := CRB.out w hF
    exact part_on (wanted_on (j := 4) rfl rfl rfl (show IsF (.bool false) F _ w from C.on (j := 4) (by kernel_rfl) rfl rfl).1) (op_call3 (v1 := .agg (wq iv)) (v2 := spv al t l m b c g z) (v3 := .string s) rfl (reg_enters Tryd.func16 (by kernel_rfl) (by kernel_rfl)) e7 e8 e9 hc)
  case l8 =>
    intro a w C
    obtain ⟨gs1, d1, l1, hF⟩ := (show DocF 0 c l M F _ w from C.on (j := 6) (by kernel_rfl) rfl rfl)
    obtain ⟨gs2, d2, l2, -⟩ := (show DocF 0 c l M F _ w from C.on (j := 10) (by kernel_rfl) rfl rfl)
    refine part_on (wanted_on (j := 4) rfl rfl rfl (show IsF (.bool false) F _ w from C.on (j := 4) (by kernel_rfl) rfl rfl).1) (op_call2 rfl (reg_enters Tryd.func13 (by kernel_rfl) (by kernel_rfl)) rfl rfl ((same_any d1 d2 l1 l2 hl0 (by omega) (by omega)).mono ?_))
    rintro e w' ⟨rfl, hb⟩
    exact ⟨_, rfl, ⟨rfl, HFS.out _ _ hF hb⟩, hb⟩
  case l9 =>
    intro a w C
    exact part_on (wanted_on (j := 4) rfl rfl rfl (show IsF (.bool false) F _ w from C.on (j := 4) (by kernel_rfl) rfl rfl).1) (op_value (not_run rfl (show IsF (.bool true) F _ w from C.on (j := 11) (by kernel_rfl) rfl rfl).1) ⟨rfl, (show IsF (.bool false) F _ w from C.on (j := 4) (by kernel_rfl) rfl rfl).2⟩)
  case l10 =>
    intro a w C
    exact part_on (wanted_free rfl _) (op_pick (k := false) rfl (show IsF (.bool false) F _ w from C.on (j := 4) (by kernel_rfl) rfl rfl).1 ⟨(show IsF (.bool false) F _ w from C.on (j := 12) (by kernel_rfl) rfl rfl).1, (show IsF (.bool false) F _ w from C.on (j := 4) (by kernel_rfl) rfl rfl).2⟩)
  case fin =>
  rintro wF hbF x35 - x36 - x37 - x38 - x39 - x40 - x41 - x42 - x43 - x44 - x45 - x46 - x47 - x48 ⟨rfl, hFF⟩
  simp only [Fin, setAt, Exit.then, List.setIfInBounds_toArray, List.set_cons_succ, List.set_cons_zero]
  obtain ⟨hfx, hbw⟩ := HFE.out _ hFF
  have HFX := Lib.hid hfx
  have HBF := Lib.hid hbw
  have HG2 := Lib.hid hGW
  clear hFF hfx hbw hbF HFS CBG CAll CRB HFL HFE hGW
  go_wp2
  go_loopw [51] (fun v51 wr => ∃ j L, j ≤ ls.length ∧ v51 = .int .i64 (j : Int) ∧ Hid (Fx q p h G al t l m b c g z S0 F0 L wr) ∧ Hid (L.length = b) ∧ Hid (Below B w5 wr)) (fun v51 _ => ls.length - (intOf v51).toNat)
  case atStart => exact ⟨0, M, Nat.zero_le _, rfl, HFX, HBN, HBF⟩
  case round =>
    obtain ⟨j, L, hj, rfl, HX, HL, HB⟩ := hrel
    by_cases hjl : j < ls.length
    · have d5 : decide ((j : Int) < (ls.length : Int)) = true := by simp; omega
      have d6 : decide (j < ls.length) = true := by simp; omega
      have hj0 : (0 : Int) ≤ (j : Int) := by omega
      have hj1 : (j : Int) < (ls.length : Int) := by omega
      obtain ⟨rb, ro, rfl, _, y0, y1, y2⟩ := act_reads ((HRd.out.below HB5.out).below (by rw [← HBB.out]; exact HB.out)) j hjl
      have hu := HU.out _ (List.getElem_mem hjl)
      generalize ls[j] = zz at *
      obtain ⟨x, y, u⟩ := zz
      simp only at y0 y1 y2 hu
      have hb := one_box wr (.cells #[.int .i64 x, .int .i64 y, .int .u64 (u : Int)] 51)
      have hA := RowAt.new wr 51 #[.int .i64 x, .int .i64 y, .int .u64 (u : Int)]
      obtain ⟨w11, e11⟩ : ∃ w11, w11 = wr.alloc (.cells #[.int .i64 x, .int .i64 y, .int .u64 (u : Int)] 51) := ⟨_, rfl⟩
      rw [← e11] at hb hA
      have HX11 := Lib.hid (HX.out.step hb)
      have HB11 := Lib.hid (HB.out.trans (hb.mono (by have := HB.out.size; omega)))
      have HA := Lib.hid hA
      have HO := Lib.hid (ob_ok hu)
      have E11 := Lib.hid e11
      clear hb hA e11 HX HB hu
      go_upto_region 13 with fail
      rw [← E11.out]
      clear E11
      generalize wr.heap.size = X at *
      have k0 : w11.cell? ⟨X, 0, none⟩ = some (.int .i64 x) := (HA.out.cell 0).trans rfl
      have k1 : w11.cell? ⟨X, 1, none⟩ = some (.int .i64 y) := (HA.out.cell 1).trans rfl
      have k2 : w11.cell? ⟨X, 2, none⟩ = some (.int .u64 (u : Int)) := (HA.out.cell 2).trans rfl
      clear y0 y1 y2
      go_wp2_with (first
        | refine wpList_value_want rfl _ (so_run rfl rfl rfl) ?_
        | refine wpList_value_want rfl _ (ob_run rfl rfl) ?_)
      cases hin : inG l c x y with
      | false =>
        refine (gstore_bad HX11.out.gr.row (by omega) (by omega) x y (ob u) hin).mono ?_
        rintro e w12 ⟨rfl, hb⟩
        have HX12 := Lib.hid (HX11.out.step hb)
        have HB12 := Lib.hid (HB11.out.trans (hb.mono (by have := HB11.out.size; omega)))
        clear hb k0 k1 k2 HX11 HB11 HA
        go_wp2
        go_roundw
        case rel => exact ⟨j + 1, L, by omega, by go_num, HX12, HL, HB12⟩
        case measure => simp [intOf]; omega
      | true =>
        obtain ⟨i, k, hi, hk, rfl, rfl⟩ := inG_yes hin
        have hic : (i + 1) * c ≤ l * c := Nat.mul_le_mul_right c hi
        rw [Nat.add_mul, Nat.one_mul, ← HBL.out] at hic
        obtain ⟨n, hn⟩ : ∃ n, n = i * c + k := ⟨_, rfl⟩
        have hnL : n < L.length := by rw [HL.out]; omega
        refine (gstore_any HX11.out.gr (by omega) (by omega) i k n hi hk hn.symm hnL (by rw [HL.out]; omega) HO.out).mono ?_
        rintro e w12 ⟨rfl, hg, hkk⟩
        have HX12 := Lib.hid (HX11.out.turn hkk hg)
        have HB12 := Lib.hid (HB11.out.trans (hkk.below (B := B) (by have := HB11.out.size; omega) fun x hx => by omega))
        have HL12 : Hid ((L.set n (ob u)).length = b) := Lib.hid (by rw [List.length_set]; exact HL.out)
        clear hg hkk k0 k1 k2 HX11 HB11 HA hin hic hn hnL
        go_wp2
        go_roundw
        case rel => exact ⟨j + 1, L.set n (ob u), by omega, by go_num, HX12, HL12, HB12⟩
        case measure => simp [intOf]; omega
    · obtain rfl : j = ls.length := by omega
      have d5 : decide ((ls.length : Int) < (ls.length : Int)) = false := by simp
      have CT := Lib.hid (tag_any (HQ.out _ HB.out) HX.out.gr (by omega) (by omega) (by omega) (by rw [HL.out]; exact HBL.out) (by rw [HL.out]; omega) hz4 hz10)
      obtain ⟨T, hT⟩ : ∃ T, tx (longL z (tl (strOf (byB (xB (lastL c L l)))))) = T := ⟨_, rfl⟩
      rw [hT] at CT
      have HT := Lib.hid hT
      clear hT
      go_wp2_with fail
      refine CT.out.mono ?_
      rintro e w11 ⟨rfl, hb⟩
      have HX11 := Lib.hid (HX.out.step hb)
      have HB11 := Lib.hid (HB.out.trans (hb.mono (by have := HB.out.size; omega)))
      clear hb CT HX HB
      go_wp2
      have HFL2 : Hid (∀ u, Below w11.heap.size w11 u → (loadVar 57 ⟨F0, 0, none⟩).run Tryd.prog u = .ok (.agg (wq iv)) u ∧ (loadVar 45 ⟨S0, 0, none⟩).run Tryd.prog u = .ok (spv al t l m b c g z) u) := Lib.hid fun u hu => (HX11.out.step hu).loads
      have CAll2 : Hid (∀ u, Below w11.heap.size w11 u → Calls Tryd.prog 14 #[.pointer (some ⟨q, 0, none⟩)] u fun e w' => ∃ v, e = .returned v ∧ DocF 0 c l L Any v w' ∧ Below u.heap.size u w') := Lib.hid fun u hu => by
        refine (all_any (HX11.out.step hu).gr hl0 (by omega) (by omega) (by rw [HL.out]; exact HBL.out) (by rw [HL.out]; omega)).mono ?_
        rintro e w' ⟨v, gs, rfl, hd, hg, hb⟩
        exact ⟨v, rfl, ⟨gs, hd.weak (Nat.zero_le _), hg, trivial⟩, hb⟩
      refine wp_region_text [Is (.int .i64 0), Is (.bool true), Is (.bool true), Is (.string T), Is (.agg (wq iv)), Is (spv al t l m b c g z), Is (.pointer (some ⟨q, 0, none⟩)), DocF 0 c l L Any, Is (.string T), Is (.bool true), Is (.bool true), Is (.bool true)] (by kernel_rfl) (by kernel_rfl) rfl ⟨stable_is _, stable_is _, stable_is _, stable_is _, stable_is _, stable_is _, stable_is _, stable_docf _ _ _ _ (fun _ _ _ _ => trivial), stable_is _, stable_is _, stable_is _, stable_is _, trivial⟩ ⟨?_, ?_, ?_, ?_, ?_, ?_, ?_, ?_, ?_, ?_, ?_, ?_, trivial⟩ ?_
      · intro a w C
        exact part_on (wanted_free rfl _) (op_move (.inl rfl) (C.was 13 (by kernel_rfl)))
      · intro a w C
        exact part_on (wanted_free rfl _) (op_bin rfl (C.on (j := 0) (by kernel_rfl) rfl rfl) rfl rfl (by simp [go_sem]) rfl)
      · intro a w C
        exact part_on (wanted_free rfl _) (op_move (.inl rfl) (C.on (j := 1) (by kernel_rfl) rfl rfl))
      · intro a w C
        exact part_on (wanted_on (j := 2) rfl rfl rfl (C.on (j := 2) (by kernel_rfl) rfl rfl)) (op_move (.inl rfl) (C.was 12 (by kernel_rfl)))
      · intro a w C
        exact part_on (wanted_on (j := 2) rfl rfl rfl (C.on (j := 2) (by kernel_rfl) rfl rfl)) (op_value (load_run rfl (C.was 9 (by kernel_rfl)) (HFL2.out w C.below).1) rfl)
      · intro a w C
        exact part_on (wanted_on (j := 2) rfl rfl rfl (C.on (j := 2) (by kernel_rfl) rfl rfl)) (op_value (load_run rfl (C.was 8 (by kernel_rfl)) (HFL2.out w C.below).2) rfl)
      · intro a w C
        exact part_on (wanted_on (j := 2) rfl rfl rfl (C.on (j := 2) (by kernel_rfl) rfl rfl)) (op_move (.inl rfl) (C.was 7 (by kernel_rfl)))
      · intro a w C
        exact part_on (wanted_on (j := 2) rfl rfl rfl (C.on (j := 2) (by kernel_rfl) rfl rfl)) (op_call1 rfl (reg_enters Tryd.func14 (by kernel_rfl) (by kernel_rfl)) (C.on (j := 6) (by kernel_rfl) rfl rfl) (CAll2.out w C.below))
      · intro a w C
        obtain ⟨gs, d, hgl, -⟩ := (show DocF 0 c l L Any _ w from (C.on (j := 7) (by kernel_rfl) rfl rfl))
        exact part_on (wanted_on (j := 2) rfl rfl rfl (C.on (j := 2) (by kernel_rfl) rfl rfl)) (op_call3 rfl (reg_enters Tryd.func17 (by kernel_rfl) (by kernel_rfl)) (C.on (j := 4) (by kernel_rfl) rfl rfl) (C.on (j := 5) (by kernel_rfl) rfl rfl) rfl (calls_is (by have h := rtag_any (a := al) (t := t) (m := m) (b := b) (g := g) (z := z) d hgl hl0 (by omega) (by omega) (by omega) hz4 hz10; rw [HT.out] at h; exact h)))
      · intro a w C
        exact part_on (wanted_on (j := 2) rfl rfl rfl (C.on (j := 2) (by kernel_rfl) rfl rfl)) (op_bin rfl (C.on (j := 3) (by kernel_rfl) rfl rfl) (C.on (j := 8) (by kernel_rfl) rfl rfl) rfl (by simp [go_sem]) rfl)
      · intro a w C
        exact part_on (wanted_free rfl _) (op_pick (k := true) rfl (C.on (j := 2) (by kernel_rfl) rfl rfl) (C.on (j := 9) (by kernel_rfl) rfl rfl))
      · intro a w C
        exact part_on (wanted_free rfl _) (op_move (.inr rfl) (C.on (j := 10) (by kernel_rfl) rfl rfl))
      rintro wF hbF _ rfl _ rfl _ rfl _ rfl _ rfl _ rfl _ rfl x78 hx78 _ rfl _ rfl _ rfl _ rfl
      simp only [Fin, setAt, Exit.then, List.setIfInBounds_toArray, List.set_cons_succ, List.set_cons_zero]
      have HBZ := Lib.hid (HB11.out.trans (hbF.mono (by have := HB11.out.size; omega)))
      clear hbF HFL2 CAll2 HX11 HB11
      go_wp2
      go_ret
      exact ⟨rfl, HB5.out.trans (by rw [← HBB.out]; exact HBZ.out)⟩
end Go.Proofs.YtpampgkhjcfeaaaDoor

/- The law FillAll by the calls' contracts. Conditions: blake's and blend's tables lie at their places. -/
import Derived.Test.YthbeoobfhfpelaaGreatDoorFlAwake
import Derived.Test.YthbeoobfhfpelaaGreatDoorGr
namespace Go.Proofs.YthbeoobfhfpelaaGreatDoor
set_option maxRecDepth 50000
open Go.RowKit Bb Bn Bl

/-- the document's grid, as a statement made it -/
def DocG (N c l : Nat) (M : List (List Nat)) : Value → World → Prop := fun v u => ∃ gs, DocAt u N v c gs M ∧ gs.length = l
theorem stable_docg (N c l : Nat) (M : List (List Nat)) : Stable (DocG N c l M) := fun _ _ _ ⟨gs, d, e⟩ hb => ⟨gs, d.step hb, e⟩
theorem reg_call2 {P : Program} {o : Oper} {a : Act} {w : World} {f : FuncId} {x y : Operand} {ts : Array TypeId} {v1 v2 : Value} (ho : o.op = .call { callee := .value (.func f), args := #[x, y], argTypes := ts }) (he : ∀ (args : Array Value) (w : World), (callFunc f args).run P w = .ok (.enter f args) w)
    (hx : a.eval x = v1) (hy : a.eval y = v2) : (execOp a.eval o).run P w = .ok (.enter f #[v1, v2]) w := by
  subst hx; subst hy
  simp [execOp, ho, resolve, invoke, he, go_sem]
theorem op_call0 {P : Program} {o : Oper} {a : Act} {w : World} {Q : Exit → Act → World → Prop} {p : Value → World → Prop} {f : FuncId} {ts : Array TypeId} (ho : o.op = .call { callee := .value (.func f), args := #[], argTypes := ts }) (he : ∀ (args : Array Value) (w : World), (callFunc f args).run P w = .ok (.enter f args) w)
    (hc : Calls P f #[] w fun e w' => ∃ v, e = .returned v ∧ p v w' ∧ Below w.heap.size w w') : Does P p o a w Q := op_call ho he hc

set_option maxHeartbeats 12800000 in
theorem all32_any (pa pt pm pl pz : Int) (s : ByteArray) (W : World) (hK : QAt W) (hT : TAt W) :
    Calls Tryz.prog 3 #[pav pa pt pm pl pz, .string s] W fun e w' => e = .returned (.bool true) ∧ Below W.heap.size W w' := by
  have CM := made_sh pa pt pm pl pz
  have HP := Lib.hid (RowAt.new W 23 (pac pa pt pm pl pz))
  have HBW := Lib.hid (one_box W (.cells (pac pa pt pm pl pz) 23))
  have CA := Lib.hid (awake32_any _ (hT.next HBW.out))
  have HKW := Lib.hid hK
  have HTW := Lib.hid hT
  clear hK hT
  go_enter Tryz.func3, Tryz.ntmps3
  go_wp2_with fail
  refine CA.out.mono ?_
  rintro e w1 ⟨rfl, hb⟩
  have HP1 := Lib.hid (RowAt.step HP.out hb)
  have HB1 := Lib.hid (below_step HBW.out hb)
  clear CA HP HBW hb
  go_wp2_with (refine wpList_load_want rfl 23 _ rfl _ _ rfl (pa_load HP1.out) ?_)
  rcases CM with CM | ⟨al, t, l, m, b, c, g, z, HSh, ht3, hl4, hb80, CM⟩
  · refine (CM _).mono ?_
    rintro e w2 ⟨rfl, hb⟩
    have HB2 := Lib.hid (below_step HB1.out hb)
    clear HP1 HB1 hb CM
    go_wp2
    go_ret
    exact ⟨rfl, HB2.out⟩
  refine (CM _).mono ?_
  rintro e w2 ⟨q, p, h, G, rfl, hG, hGe, hb⟩
  have HB2 := Lib.hid (below_step HB1.out hb)
  have hGW : W.heap.size ≤ G := by have := HB1.out.size; omega
  have HG := Lib.hid hG
  clear HP1 HB1 hb CM hGe hG
  by_cases hs2 : 200 < s.size
  · have d1 : decide ((200 : Int) < (s.size : Int)) = true := by simp; omega
    have d2 : decide (200 < s.size) = true := by simp; omega
    go_wp2
    go_ret
    exact ⟨rfl, HB2.out⟩
  have d1 : decide ((200 : Int) < (s.size : Int)) = false := by simp; omega
  have d2 : decide (200 < s.size) = false := by simp; omega
  have hss : s.size ≤ 200 := by omega
  have S := HSh
  have hl0 := S.l1
  have HSh := Lib.hid HSh
  have hcm := S.cm
  have hc8 : 8 ≤ c := by have := S.cg; have := S.g2; omega
  have HBL := Lib.hid S.bl
  have hbL : (List.replicate b zb).length = b := by simp
  have hGw2 := HG.out.live.blk.lt
  have CBG := Lib.hid (begin_any (N0 := W.heap.size) HKW.out.1 hGW (HKW.out.next HB2.out) HG.out (by omega) (by omega) (by omega) (by rw [hbL]; exact HBL.out) (by rw [hbL]; omega) s (by omega))
  obtain ⟨M, hM⟩ : ∃ M, begTo s c (List.replicate b zb) l = M := ⟨_, rfl⟩
  have hMl : M.length = l * c := by rw [← hM, begTo_len, hbL]; exact HBL.out
  have HM0 : Hid (begTo s c (List.replicate (l * c) zb) l = M) := Lib.hid (by rw [← hM, HBL.out])
  rw [hM] at CBG
  have HML := Lib.hid hMl
  clear S hs2 hM hMl
  go_wp2_with fail
  refine CBG.out.mono ?_
  rintro e w3 ⟨rfl, hg3, hk3⟩
  have HG3 := Lib.hid hg3
  have HB3 : Hid (Below W.heap.size W w3) := Lib.hid (HB2.out.trans (hk3.below HB2.out.size fun x hx => by omega))
  have k0 := HG3.out.row.shape
  clear hg3 hk3 HG HB2 CBG hbL hGw2
  go_upto_region 8 with (refine wpList_load_want rfl 32 _ rfl _ _ rfl k0 ?_)
  obtain ⟨w5, e5⟩ : ∃ w5, w5 = w3.alloc (.cells (spc al t l m b c g z) 30) := ⟨_, rfl⟩
  have b5 : Below w3.heap.size w3 w5 := by rw [e5]; exact one_box _ _
  have hr5 : RowAt w5 w3.heap.size 30 (spc al t l m b c g z) := by rw [e5]; exact RowAt.new _ _ _
  have HS : Hid (∀ u, Below w5.heap.size w5 u → (loadVar 30 ⟨w3.heap.size, 0, none⟩).run Tryz.prog u = .ok (spv al t l m b c g z) u) := Lib.hid fun u hu => rsp_loadN (RowAt.step hr5 hu)
  have HG5 := Lib.hid (HG3.out.step b5)
  have HB5 := Lib.hid (HB3.out.trans (b5.mono HB3.out.size))
  have E5 := Lib.hid e5
  have CRB : Hid (∀ u, Below w5.heap.size w5 u → Calls Tryz.prog 10 #[.agg (wq iv), spv al t l m b c g z, .string s] u fun e w' => ∃ v, e = .returned v ∧ DocG w5.heap.size c l M v w' ∧ Below u.heap.size u w') := Lib.hid fun u hu => by
    refine (rbegin_any al t l m b c g z hl0 (by omega) (by omega) (by omega) s (by omega) u).mono ?_
    rintro e w' ⟨v, gs, rfl, hd, hg, hb⟩
    rw [HM0.out] at hd
    exact ⟨v, rfl, ⟨gs, hd.weak hu.size, hg⟩, hb⟩
  obtain ⟨M', hM'⟩ : ∃ M', allTo al t l b c g M (4 * t) = M' := ⟨_, rfl⟩
  have HMM := Lib.hid hM'
  have HML2 : Hid (M'.length = l * c) := Lib.hid (by rw [← hM', allTo_len]; exact HML.out)
  clear b5 hr5 e5 HG3 HB3 k0 hM'
  rw [← E5.out]
  clear E5
  generalize w3.heap.size = S6 at *
  refine wp_region_stage (w5.heap.size) [5] [] [[0], [0], [0], [0], [0], [], [1]] [[Is (spv al t l m b c g z), Is (.agg (wq iv)), Is (spv al t l m b c g z), Is (.string s), DocG w5.heap.size c l M, Free, Free], [Is (spv al t l m b c g z), Is (.agg (wq iv)), Is (spv al t l m b c g z), Is (.string s), Free, DocG w5.heap.size c l M', DocG w5.heap.size c l M']] [Is (spv al t l m b c g z), Is (.agg (wq iv)), Is (spv al t l m b c g z), Is (.string s), Free, DocG w5.heap.size c l M', DocG w5.heap.size c l M'] (Nat.le_refl _) (by kernel_rfl) (by kernel_rfl) rfl rfl ⟨⟨stable_is _, stable_is _, stable_is _, stable_is _, stable_docg _ _ _ _, stable_free, stable_free, trivial⟩, ⟨stable_is _, stable_is _, stable_is _, stable_is _, stable_free, stable_docg _ _ _ _, stable_docg _ _ _ _, trivial⟩, trivial⟩ (by intro n hn o ho hd w; simp only [List.mem_cons, List.not_mem_nil, or_false] at hn; subst hn; first | trivial | (cases ho; cases hd)) rfl ⟨?p0, ?p1, ?p2, ?p3, ?p4, fun h => absurd (by simp) h, ?p6, trivial⟩ ⟨?t0, trivial⟩ (by decide) ?fin
  case p0 =>
    intro _ k hk; obtain rfl := List.mem_singleton.1 hk; intro a w C
    exact partS_on (wanted_free rfl _) (op_value (load_run rfl (C.was 6 (by kernel_rfl)) (HS.out w C.below)) rfl)
  case p1 =>
    intro _ k hk; obtain rfl := List.mem_singleton.1 hk; intro a w C
    exact partS_on (wanted_free rfl _) (op_call0 rfl (reg_enters Tryz.func11 (by kernel_rfl) (by kernel_rfl)) (calls_is (rknown_any w)))
  case p2 =>
    intro _ k hk; obtain rfl := List.mem_singleton.1 hk; intro a w C
    exact partS_on (wanted_free rfl _) (op_value (load_run rfl (C.was 6 (by kernel_rfl)) (HS.out w C.below)) rfl)
  case p3 =>
    intro _ k hk; obtain rfl := List.mem_singleton.1 hk; intro a w C
    exact partS_on (wanted_free rfl _) (op_move (.inl rfl) (C.was 1 (by kernel_rfl)))
  case p4 =>
    intro _ k hk; obtain rfl := List.mem_singleton.1 hk; intro a w C
    exact partS_on (wanted_free rfl _) (op_call3 rfl (reg_enters Tryz.func10 (by kernel_rfl) (by kernel_rfl)) (C.on (j := 1) (by kernel_rfl) rfl rfl) (C.on (j := 2) (by kernel_rfl) rfl rfl) (C.on (j := 3) (by kernel_rfl) rfl rfl) (CRB.out w C.below))
  case p6 =>
    intro _ k hk; obtain rfl := List.mem_singleton.1 hk; intro a w C
    exact partS_on (wanted_free rfl _) (op_move (.inr rfl) (C.on (j := 5) (by kernel_rfl) rfl rfl))
  case t0 =>
    intro o ho a w C A
    cases ho
    have cb : Below w5.heap.size w5 w := C.below
    obtain ⟨gs, hd, hgl⟩ := (show DocG w5.heap.size c l M _ w from (C.on (j := 4) (by kernel_rfl) rfl rfl))
    refine ⟨wanted_free rfl _, ?_⟩
    unfold TurnsS
    refine Oper.wp_mono ?_ (turn_enter (reg_call2 rfl (reg_enters Tryz.func9 (by kernel_rfl) (by kernel_rfl)) (C.on (j := 0) (by kernel_rfl) rfl rfl) rfl) ((rall_any (m := m) (z := z) HSh.out hd hgl cb.size).mono (fun e w' h => (show e = .returned _ ∧ (DocAt w' w5.heap.size _ c gs M' ∧ Below w5.heap.size w w') by rw [HMM.out] at h; exact h))))
    rintro a2 w2 ⟨rfl, hd2, hb2⟩
    refine ⟨_, rfl, ⟨gs, hd2, hgl⟩, cb.trans hb2, hb2.size, ?_⟩
    · intro i o2 d hi hd hne hnw h
      have hil := (List.getElem?_eq_some_iff.1 hi).1
      replace hil : i < 7 := hil
      obtain rfl | rfl | rfl | rfl | rfl | rfl | rfl : i = 0 ∨ i = 1 ∨ i = 2 ∨ i = 3 ∨ i = 4 ∨ i = 5 ∨ i = 6 := by omega
      · exact h
      · exact h
      · exact h
      · exact h
      · trivial
      · exact absurd rfl hne
      · exact absurd hnw (by rw [show waits _ 6 5 = true from by kernel_rfl]; decide)
  case fin =>
    rintro w7 hbF _ rfl _ rfl _ rfl _ rfl x30 _ x31 _ x7 ⟨gs7, hd7, hgl7⟩
    simp only [Fin, setAt, Exit.then, List.setIfInBounds_toArray, List.set_cons_succ, List.set_cons_zero]
    have HG7 := Lib.hid (HG5.out.step hbF)
    have HB7 := Lib.hid (HB5.out.trans (hbF.mono HB5.out.size))
    have HD7 := Lib.hid hd7
    have hG5w : G < w5.heap.size := HG5.out.live.blk.lt
    have CFA := Lib.hid (fillall_any HSh.out HG7.out HML.out (HTW.out.next HB7.out) (N0 := W.heap.size) ⟨HTW.out.1.1, HTW.out.2.1⟩ hGW)
    rw [HMM.out] at CFA
    have hz : w5.heap.size ≤ w7.heap.size := hbF.size
    clear hbF HG5 HB5 hd7 HS CRB
    go_wp2_with fail
    refine CFA.out.mono ?_
    rintro e w8 ⟨rfl, hg8, hk8⟩
    have HD8 := Lib.hid (HD7.out.kept hk8 fun x hx => by omega)
    have HB8 : Hid (Below W.heap.size W w8) := Lib.hid (HB7.out.trans (hk8.below HB7.out.size fun x hx => by omega))
    have HC := Lib.hid (all_any hg8 hl0 (by omega) (by omega) HML2.out (by rw [HML2.out]; exact Nat.le_trans (Nat.mul_le_mul hl4 hcm) (by decide)))
    clear hg8 hk8 HG7 HB7 HD7 CFA
    go_wp2_with fail
    refine HC.out.mono ?_
    rintro e w9 ⟨v9, gs9, rfl, hd9, hgl9, hb9⟩
    have HB9 := Lib.hid (HB8.out.trans (hb9.mono HB8.out.size))
    have HC2 := Lib.hid (same_any hd9 (HD8.out.step hb9) hgl9 hgl7 hl0 (by omega) (by omega))
    clear hd9 hb9 HD8 HB8 HC
    go_wp2_with fail
    refine HC2.out.mono ?_
    rintro e w10 ⟨rfl, hb10⟩
    have HB10 := Lib.hid (HB9.out.trans (hb10.mono HB9.out.size))
    clear hb10 HB9 HC2
    go_wp2
    go_ret
    exact ⟨rfl, HB10.out⟩
end Go.Proofs.YthbeoobfhfpelaaGreatDoor

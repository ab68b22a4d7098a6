/- The document's Key by its contract. Conditions: those typed. -/
import Derived.Test.YtcbccjcnllifjaaGreatDoorAgRef
import Derived.Test.YtcbccjcnllifjaaGreatDoorAgRun
import Derived.Test.YtcbccjcnllifjaaGreatDoorFlRall
import Derived.Test.YtcbccjcnllifjaaGreatDoorGdTagR
namespace Go.Proofs.YtcbccjcnllifjaaGreatDoor
set_option maxRecDepth 50000
open Go.RowKit Bb Bl
def DocG (N c l : Nat) (M : List (List Nat)) : Value → World → Prop := fun v u => ∃ gs, DocAt u N v c gs M ∧ gs.length = l
theorem stable_docg (N c l : Nat) (M : List (List Nat)) : Stable (DocG N c l M) := fun _ _ _ ⟨gs, d, e⟩ hb => ⟨gs, d.step hb, e⟩
theorem reg_call2 {P : Program} {o : Oper} {a : Act} {w : World} {f : FuncId} {x y : Operand} {ts : Array TypeId} {v1 v2 : Value} (ho : o.op = .call { callee := .value (.func f), args := #[x, y], argTypes := ts }) (he : ∀ (args : Array Value) (w : World), (callFunc f args).run P w = .ok (.enter f args) w)
    (hx : a.eval x = v1) (hy : a.eval y = v2) : (execOp a.eval o).run P w = .ok (.enter f #[v1, v2]) w := by
  subst hx; subst hy
  simp [execOp, ho, resolve, invoke, he, go_sem]
theorem fx_size : (Tryz.prog.info? 35).map (·.size) = some 8 := by kernel_rfl
theorem fx_new (w : World) : (storeVar 35 ⟨w.heap.size, 0, none⟩ (.agg (wq iv))).run Tryz.prog (w.alloc (.cells (wq (List.replicate 8 0)) 35)) = .ok () ((w.alloc (.cells (wq (List.replicate 8 0)) 35)).setRow w.heap.size (wq iv)) :=
  RowAt.store (RowAt.new w _ _) fx_size rfl (by kernel_rfl)
theorem fx_rows (w : World) : ∃ w2, w2 = (w.alloc (.cells (wq (List.replicate 8 0)) 35)).setRow w.heap.size (wq iv) ∧ RowAt w2 w.heap.size 35 (wq iv) ∧ Below w.heap.size w w2 :=
  ⟨_, rfl, RowAt.setRow (RowAt.new w _ _) _, below_setRow (one_box w _) (Nat.le_refl _) _⟩
set_option maxHeartbeats 6400000 in
theorem rkey_any {al t l m b c g z : Nat} (hM : Mok al t m l z) (CO : ∀ w : World, Calls Tryz.prog 15 #[pav al t m l z] w fun e w' => e = .returned (.tuple #[spv al t l m b c g z, .bool true]) ∧ Below w.heap.size w w') (S : Sh al t l b c g)
    (s1 s2 s3 s4 : ByteArray) (hs1 : s1.size ≤ 4096) (hs2 : s2.size ≤ 64) (hs3 : s3.size ≤ 4096) (hs4 : s4.size ≤ 4096) (w : World) :
    Calls Tryz.prog 18 #[pav al t m l z, inv s1 s2 s3 s4] w fun e w' => e = .returned (.string (tx (agL al t l b c g z (tx (hdL al t l m z s1 s2 s3 s4))))) ∧ Below w.heap.size w w' := by
  have hz4 : 4 ≤ z := hM.2.2.2.2.2.2.2.1
  have hz10 : z ≤ 1024 := hM.2.2.2.2.2.2.2.2
  obtain ⟨HH, hHH⟩ : ∃ HH, HH = tx (hdL al t l m z s1 s2 s3 s4) := ⟨_, rfl⟩
  have hHs : HH.size = 64 := by
    rw [hHH, tx_size]
    exact blkL_length0 64 (by decide) _ (by rw [hdX_length]; omega)
  have CH : Hid (∀ u : World, Calls Tryz.prog 10 #[.agg (wq iv), pav al t m l z, inv s1 s2 s3 s4] u fun e w' => ∃ v, e = .returned v ∧ Is (.string HH) v w' ∧ Below u.heap.size u w') := Lib.hid fun u => by
    rw [hHH]
    exact calls_is (rhead_any hM s1 s2 s3 s4 hs1 hs2 hs3 hs4 u)
  rw [← hHH]
  obtain ⟨TT, hTT⟩ : ∃ TT, TT = tx (agL al t l b c g z HH) := ⟨_, rfl⟩
  rw [← hTT]
  have hl0 := S.l1
  have hlm := S.lm
  have hcm := S.cm
  have hc8 : 8 ≤ c := by have := S.cg; have := S.g2; omega
  have hbl := S.bl
  have HSh := Lib.hid S
  obtain ⟨M, hMd⟩ : ∃ M, begTo HH c (List.replicate (l * c) zb) l = M := ⟨_, rfl⟩
  obtain ⟨M', hM'⟩ : ∃ M', allTo al t l b c g M (4 * t) = M' := ⟨_, rfl⟩
  have HMM := Lib.hid hM'
  have CTG : Hid (∀ (u : World) (v : Value) (gs : List Nat), ∀ {N : Nat}, DocAt u N v c gs M' → gs.length = l → Calls Tryz.prog 34 #[.agg (wq iv), spv al t l m b c g z, v] u fun e w' => ∃ v, e = .returned v ∧ Is (.string TT) v w' ∧ Below u.heap.size u w') := Lib.hid fun u v gs N hd hgl => by
    have h := rtag_any (a := al) (t := t) (m := m) (b := b) (g := g) hd hgl hl0 (by omega) (by omega) (by omega) hz4 hz10
    rw [hTT]
    rw [← hM', ← hMd, ← hbl] at h
    exact calls_is h
  have HM0 := Lib.hid hMd
  have C1 := Lib.hid rknown_any
  have C2 := Lib.hid CO
  obtain ⟨hp, hi, hb⟩ := pin_rows al t m l z s1 s2 s3 s4 w
  have HP0 := Lib.hid hp
  have HI0 := Lib.hid hi
  have HBW := Lib.hid hb
  have HHs := Lib.hid hHs
  clear hp hi hb CO S hTT hHH hM' hMd hM hbl hHs
  go_enter Tryz.func18, Tryz.ntmps18
  go_wp2_with fail
  refine (C1.out _).mono ?_
  rintro e w1 ⟨rfl, hb⟩
  obtain ⟨w2, e2, hF, hb2⟩ := fx_rows w1
  have HP1 := Lib.hid ((HP0.out.step hb).step hb2)
  have HI1 := Lib.hid ((HI0.out.step hb).step hb2)
  have HF1 := Lib.hid hF
  have HB1 := Lib.hid (below_step (below_step HBW.out hb) hb2)
  have E2 := Lib.hid e2
  clear hb C1 HP0 HI0 HBW hF hb2 e2
  go_upto_region 2 with (refine wpList_store_of rfl _ _ _ rfl ⟨w1.heap.size, 0, none⟩ _ rfl rfl (fx_new w1) ?_)
  rw [← E2.out]
  generalize w1.heap.size = F5 at *
  clear E2
  go_wp2_with (refine wpList_load_want rfl 23 _ rfl _ _ rfl (pa_load HP1.out) ?_)
  refine (C2.out _).mono ?_
  rintro e w3 ⟨rfl, hb⟩
  have HP2 := Lib.hid (HP1.out.step hb)
  have HI2 := Lib.hid (HI1.out.step hb)
  have HF2 := Lib.hid (HF1.out.step hb)
  have HB2 := Lib.hid (below_step HB1.out hb)
  clear hb C2 HP1 HI1 HF1 HB1
  go_upto_region 3 with fail
  obtain ⟨w5, e5⟩ : ∃ w5, w5 = w3.alloc (.cells (spc al t l m b c g z) 44) := ⟨_, rfl⟩
  have b5 : Below w3.heap.size w3 w5 := by rw [e5]; exact one_box _ _
  have hr5 : RowAt w5 w3.heap.size 44 (spc al t l m b c g z) := by rw [e5]; exact RowAt.new _ _ _
  have HS : Hid (∀ u, Below w5.heap.size w5 u → (loadVar 44 ⟨w3.heap.size, 0, none⟩).run Tryz.prog u = .ok (spv al t l m b c g z) u) := Lib.hid fun u hu => rsp_loadN (RowAt.step hr5 hu)
  have hf5 := HF2.out.step b5
  have hp5 := HP2.out.step b5
  have hi5 := HI2.out.step b5
  have HV : Hid (∀ u, Below w5.heap.size w5 u → (loadVar 35 ⟨F5, 0, none⟩).run Tryz.prog u = .ok (.agg (wq iv)) u) := Lib.hid fun u hu => RowAt.load (hf5.step hu) Tryz.underlying35 fx_size
  have HP : Hid (∀ u, Below w5.heap.size w5 u → (loadVar 23 ⟨w.heap.size, 0, none⟩).run Tryz.prog u = .ok (pav al t m l z) u) := Lib.hid fun u hu => pa_load (hp5.step hu)
  have HI : Hid (∀ u, Below w5.heap.size w5 u → (loadVar 25 ⟨w.heap.size + 1, 0, none⟩).run Tryz.prog u = .ok (inv s1 s2 s3 s4) u) := Lib.hid fun u hu => in_load (hi5.step hu)
  have HB5 := Lib.hid (HB2.out.trans (b5.mono HB2.out.size))
  have CRB : Hid (∀ u, Below w5.heap.size w5 u → Calls Tryz.prog 36 #[.agg (wq iv), spv al t l m b c g z, .string HH] u fun e w' => ∃ v, e = .returned v ∧ DocG w5.heap.size c l M v w' ∧ Below u.heap.size u w') := Lib.hid fun u hu => by
    refine (rbegin_any al t l m b c g z hl0 (by omega) (by omega) (by omega) HH (by rw [HHs.out]; decide) u).mono ?_
    rintro e w' ⟨v, gs, rfl, hd, hg, hb⟩
    rw [HM0.out] at hd
    exact ⟨v, rfl, ⟨gs, hd.weak hu.size, hg⟩, hb⟩
  rw [← e5]
  generalize w3.heap.size = S6 at *
  obtain ⟨I3, hI3⟩ : ∃ I, I = w.heap.size + 1 := ⟨_, rfl⟩
  obtain ⟨P2, hP2⟩ : ∃ P, P = w.heap.size := ⟨_, rfl⟩
  rw [← hI3] at HI
  rw [← hP2] at HP
  rw [← hI3, ← hP2]
  clear e5 b5 hr5 hf5 hp5 hi5 HP2 HI2 HF2 HB2 hI3 hP2 HM0 HHs
  refine wp_region_stage (w5.heap.size) [10] [] [[0, 1], [0, 1], [0], [0], [0], [0], [0], [0], [0], [0], [], [1], [1]] [[Is (.agg (wq iv)), Is (spv al t l m b c g z), Is (spv al t l m b c g z), Is (.agg (wq iv)), Is (spv al t l m b c g z), Is (.agg (wq iv)), Is (pav al t m l z), Is (inv s1 s2 s3 s4), Is (.string HH), DocG w5.heap.size c l M, Free, Is (.string TT), Is (.string TT)], [Is (.agg (wq iv)), Is (spv al t l m b c g z), Is (spv al t l m b c g z), Is (.agg (wq iv)), Is (spv al t l m b c g z), Is (.agg (wq iv)), Is (pav al t m l z), Is (inv s1 s2 s3 s4), Is (.string HH), Free, DocG w5.heap.size c l M', Is (.string TT), Is (.string TT)]] [Is (.agg (wq iv)), Is (spv al t l m b c g z), Is (spv al t l m b c g z), Is (.agg (wq iv)), Is (spv al t l m b c g z), Is (.agg (wq iv)), Is (pav al t m l z), Is (inv s1 s2 s3 s4), Is (.string HH), Free, DocG w5.heap.size c l M', Is (.string TT), Is (.string TT)] (Nat.le_refl _) (by kernel_rfl) (by kernel_rfl) rfl rfl ⟨⟨stable_is _, stable_is _, stable_is _, stable_is _, stable_is _, stable_is _, stable_is _, stable_is _, stable_is _, stable_docg _ _ _ _, stable_free, stable_is _, stable_is _, trivial⟩, ⟨stable_is _, stable_is _, stable_is _, stable_is _, stable_is _, stable_is _, stable_is _, stable_is _, stable_is _, stable_free, stable_docg _ _ _ _, stable_is _, stable_is _, trivial⟩, trivial⟩ (by intro n hn o ho hd w; simp only [List.mem_cons, List.not_mem_nil, or_false] at hn; subst hn; first | trivial | (cases ho; cases hd)) rfl ⟨?p0, ?p1, ?p2, ?p3, ?p4, ?p5, ?p6, ?p7, ?p8, ?p9, fun h => absurd (by simp) h, ?p11, ?p12, trivial⟩ ⟨?t0, trivial⟩ (by decide) ?fin
  case p0 =>
    intro _ k hk; replace hk : k ∈ [0, 1] := hk; simp only [List.mem_cons, List.not_mem_nil, or_false] at hk
    rcases hk with rfl | rfl
    · intro a w C Z
      exact partS_on (wanted_free rfl _) (op_value (load_run rfl (C.was 5 (by kernel_rfl)) (HV.out w Z)) rfl)
    · intro a w C Z
      exact partS_on (wanted_free rfl _) (op_value (load_run rfl (C.was 5 (by kernel_rfl)) (HV.out w Z)) rfl)
  case p1 =>
    intro _ k hk; replace hk : k ∈ [0, 1] := hk; simp only [List.mem_cons, List.not_mem_nil, or_false] at hk
    rcases hk with rfl | rfl
    · intro a w C Z
      exact partS_on (wanted_free rfl _) (op_value (load_run rfl (C.was 6 (by kernel_rfl)) (HS.out w Z)) rfl)
    · intro a w C Z
      exact partS_on (wanted_free rfl _) (op_value (load_run rfl (C.was 6 (by kernel_rfl)) (HS.out w Z)) rfl)
  case p2 =>
    intro _ k hk; obtain rfl := List.mem_singleton.1 hk; intro a w C Z
    exact partS_on (wanted_free rfl _) (op_value (load_run rfl (C.was 6 (by kernel_rfl)) (HS.out w Z)) rfl)
  case p3 =>
    intro _ k hk; obtain rfl := List.mem_singleton.1 hk; intro a w C Z
    exact partS_on (wanted_free rfl _) (op_value (load_run rfl (C.was 5 (by kernel_rfl)) (HV.out w Z)) rfl)
  case p4 =>
    intro _ k hk; obtain rfl := List.mem_singleton.1 hk; intro a w C Z
    exact partS_on (wanted_free rfl _) (op_value (load_run rfl (C.was 6 (by kernel_rfl)) (HS.out w Z)) rfl)
  case p5 =>
    intro _ k hk; obtain rfl := List.mem_singleton.1 hk; intro a w C Z
    exact partS_on (wanted_free rfl _) (op_value (load_run rfl (C.was 5 (by kernel_rfl)) (HV.out w Z)) rfl)
  case p6 =>
    intro _ k hk; obtain rfl := List.mem_singleton.1 hk; intro a w C Z
    exact partS_on (wanted_free rfl _) (op_value (load_run rfl (C.was 2 (by kernel_rfl)) (HP.out w C.below)) rfl)
  case p7 =>
    intro _ k hk; obtain rfl := List.mem_singleton.1 hk; intro a w C Z
    exact partS_on (wanted_free rfl _) (op_value (load_run rfl (C.was 3 (by kernel_rfl)) (HI.out w C.below)) rfl)
  case p8 =>
    intro _ k hk; obtain rfl := List.mem_singleton.1 hk; intro a w C Z
    exact partS_on (wanted_free rfl _) (op_call3 rfl (reg_enters Tryz.func10 (by kernel_rfl) (by kernel_rfl)) (C.on (j := 5) (by kernel_rfl) rfl rfl) (C.on (j := 6) (by kernel_rfl) rfl rfl) (C.on (j := 7) (by kernel_rfl) rfl rfl) (CH.out w))
  case p9 =>
    intro _ k hk; obtain rfl := List.mem_singleton.1 hk; intro a w C Z
    exact partS_on (wanted_free rfl _) (op_call3 rfl (reg_enters Tryz.func36 (by kernel_rfl) (by kernel_rfl)) (C.on (j := 3) (by kernel_rfl) rfl rfl) (C.on (j := 4) (by kernel_rfl) rfl rfl) (C.on (j := 8) (by kernel_rfl) rfl rfl) (CRB.out w C.below))
  case p11 =>
    intro _ k hk; obtain rfl := List.mem_singleton.1 hk; intro a w C Z
    obtain ⟨gs, hd, hgl⟩ := (show DocG w5.heap.size c l M' _ w from (C.on (j := 10) (by kernel_rfl) rfl rfl))
    exact partS_on (wanted_free rfl _) (op_call3 rfl (reg_enters Tryz.func34 (by kernel_rfl) (by kernel_rfl)) (C.on (j := 0) (by kernel_rfl) rfl rfl) (C.on (j := 1) (by kernel_rfl) rfl rfl) rfl (CTG.out w _ gs hd hgl))
  case p12 =>
    intro _ k hk; obtain rfl := List.mem_singleton.1 hk; intro a w C Z
    exact partS_on (wanted_free rfl _) (op_move (.inr rfl) (C.on (j := 11) (by kernel_rfl) rfl rfl))
  case t0 =>
    intro o ho a w C A
    cases ho
    have cb : Below w5.heap.size w5 w := C.below
    obtain ⟨gs, hd, hgl⟩ := (show DocG w5.heap.size c l M _ w from (C.on (j := 9) (by kernel_rfl) rfl rfl))
    refine ⟨wanted_free rfl _, ?_⟩
    unfold TurnsS
    refine Oper.wp_mono ?_ (turn_enter (reg_call2 rfl (reg_enters Tryz.func35 (by kernel_rfl) (by kernel_rfl)) (C.on (j := 2) (by kernel_rfl) rfl rfl) rfl) ((rall_any (m := m) (z := z) HSh.out hd hgl cb.size).mono (fun e w' h => (show e = .returned _ ∧ (DocAt w' w5.heap.size _ c gs M' ∧ Below w5.heap.size w w') by rw [HMM.out] at h; exact h))))
    rintro a2 w2 ⟨rfl, hd2, hb2⟩
    refine ⟨_, rfl, ⟨gs, hd2, hgl⟩, cb.trans hb2, hb2.size, ?_⟩
    · intro i o2 d hi hd hne hnw h
      have hil := (List.getElem?_eq_some_iff.1 hi).1
      replace hil : i < 13 := hil
      obtain rfl | rfl | rfl | rfl | rfl | rfl | rfl | rfl | rfl | rfl | rfl | rfl | rfl : i = 0 ∨ i = 1 ∨ i = 2 ∨ i = 3 ∨ i = 4 ∨ i = 5 ∨ i = 6 ∨ i = 7 ∨ i = 8 ∨ i = 9 ∨ i = 10 ∨ i = 11 ∨ i = 12 := by omega
      · exact h
      · exact h
      · exact h
      · exact h
      · exact h
      · exact h
      · exact h
      · exact h
      · exact h
      · trivial
      · exact absurd rfl hne
      · exact absurd hnw (by rw [show waits _ 11 10 = true from by kernel_rfl]; decide)
      · exact absurd hnw (by rw [show waits _ 12 10 = true from by kernel_rfl]; decide)
  case fin =>
    rintro wF hbF _ rfl _ rfl _ rfl _ rfl _ rfl _ rfl _ rfl _ rfl _ rfl x9 _ x10 ⟨gs7, hd7, hgl7⟩ _ rfl _ rfl
    simp only [Fin, setAt, Exit.then, List.setIfInBounds_toArray, List.set_cons_succ, List.set_cons_zero]
    have HBF := Lib.hid (HB5.out.trans (hbF.mono HB5.out.size))
    clear hbF HS HV HP HI HB5 CRB CTG CH HMM HSh
    go_wp2
    go_ret
    exact ⟨rfl, HBF.out⟩
end Go.Proofs.YtcbccjcnllifjaaGreatDoor

/- The law LaneSteps by the calls' contracts. Conditions: blake's and blend's tables lie at their places. -/
import Derived.Test.YtfoodaobiknihaaGreatDoorLnSt
import Derived.Test.YtfoodaobiknihaaGreatDoorStageK
import Derived.Test.YtfoodaobiknihaaGreatDoorGr
namespace Go.Proofs.YtfoodaobiknihaaGreatDoor
set_option maxRecDepth 50000
open Go.RowKit Bb Bn Bl
def DocG (N c l : Nat) (M : List (List Nat)) : Value → World → Prop := fun v u => ∃ gs, DocAt u N v c gs M ∧ gs.length = l
theorem stable_docg (N c l : Nat) (M : List (List Nat)) : Stable (DocG N c l M) := fun _ _ _ ⟨gs, d, e⟩ hb => ⟨gs, d.step hb, e⟩
theorem op_call0 {P : Program} {o : Oper} {a : Act} {w : World} {Q : Exit → Act → World → Prop} {p : Value → World → Prop} {f : FuncId} {ts : Array TypeId} (ho : o.op = .call { callee := .value (.func f), args := #[], argTypes := ts }) (he : ∀ (args : Array Value) (w : World), (callFunc f args).run P w = .ok (.enter f args) w)
    (hc : Calls P f #[] w fun e w' => ∃ v, e = .returned v ∧ p v w' ∧ Below w.heap.size w w') : Does P p o a w Q := op_call ho he hc
def RlIs (T : Nat) (C : Array Value) (v : Value) : Value → World → Prop := fun u w => u = v ∧ RowAt w T 57 C
theorem stable_rlis (T : Nat) (C : Array Value) (v : Value) : Stable (RlIs T C v) := fun _ _ _ ⟨e, h⟩ hb => ⟨e, RowAt.step h hb⟩
section
variable {w : World} {v : Value} {ev : Operand → Value} {x y : Operand} {o : Oper}
theorem bool_run {ad : Addr} (hop : o.op = .load 4 x) (hx : ev x = .pointer (some ad)) (hc : w.cell? ad = some v) : (execOp ev o).run Tryz.prog w = .ok (.value v) w := by
  simp [execOp, hop, hx, hc, go_sem]
theorem rl0_build (w : World) : (Instr.build 57 #[(2, .int .i64 2)]).run Tryz.prog w = .ok (rlv 0 0 2 false false false) w := run_build w _ _ _ (by kernel_rfl)
theorem rl0_run {xx : Operand} (hop : o.op = .build 57 #[(2, xx)]) (hx : ev xx = .int .i64 2) : (execOp ev o).run Tryz.prog w = .ok (.value (rlv 0 0 2 false false false)) w := by
  simp only [execOp, hop, List.map_toArray, List.map_cons, List.map_nil, hx, Sem.run_bind, rl0_build, Result.andThen_ok, Sem.run_pure]
end
set_option maxHeartbeats 51200000 in
theorem steps34_any (pa pt pm pl pz : Int) (s : ByteArray) (who : Int) {A : Option Addr} (cp : Nat) (bs : List Bool) (W : World) (hR : Reads W W.heap.size A (bs.map Value.bool)) (hK : QAt W) (hT : TAt W) :
    Calls Tryz.prog 3 #[pav pa pt pm pl pz, .string s, .int .i64 who, .slice A bs.length cp] W fun e w' => e = .returned (.bool true) ∧ Below W.heap.size W w' := by
  have CM := made_sh pa pt pm pl pz
  have HP := Lib.hid (RowAt.new W 23 (pac pa pt pm pl pz))
  have HBW := Lib.hid (one_box W (.cells (pac pa pt pm pl pz) 23))
  have CA := Lib.hid (awake34_any _ (hT.next HBW.out))
  have HTu := Lib.hid (tu_neq 0 0 (by decide) (by decide))
  have HKW := Lib.hid hK
  have HTW := Lib.hid hT
  have HRd := Lib.hid hR
  clear hK hT hR
  go_enter Tryz.func3, Tryz.ntmps3
  go_wp2_with fail
  refine CA.out.mono ?_
  rintro e w1 ⟨rfl, hb⟩
  have HP1 := Lib.hid (RowAt.step HP.out hb)
  have HB1 := Lib.hid (below_step HBW.out hb)
  clear CA HP HBW hb
  go_wp2_with fail
  refine (step_nil _).mono ?_
  rintro e w2 ⟨rfl, hb⟩
  have hb2 := below_step hb (one_box w2 (.cells (evc 0 0 0 0 0 0 0 0) 32))
  have HP2 := Lib.hid (RowAt.step HP1.out hb2)
  have HB2 := Lib.hid (below_step HB1.out hb2)
  clear HP1 HB1 hb hb2
  go_upto_region 5 with fail
  generalize World.alloc w2 _ = w3 at *
  go_wp2_with fail
  refine (open_none _).mono ?_
  rintro e w4 ⟨rfl, rfl⟩
  go_wp2_with fail
  refine (waits_none _).mono ?_
  rintro e w4 ⟨rfl, rfl⟩
  go_wp2_with fail
  refine (number_none _).mono ?_
  rintro e w4 ⟨rfl, rfl⟩
  go_wp2_with fail
  refine (turn_none_ln _).mono ?_
  rintro e w4 ⟨rfl, hb⟩
  have HP4 := Lib.hid (RowAt.step HP2.out hb)
  have HB4 := Lib.hid (below_step HB2.out hb)
  clear HP2 HB2 hb
  go_wp2_with (first
    | refine wpList_value_want rfl _ (turn_ln0_run rfl) ?_
    | refine wpList_value_want rfl _ (cmp_runS _ _ _ _ rfl rfl rfl g_tu (HTu.out _)) ?_
    | refine wpList_load_want rfl 23 _ rfl _ _ rfl (pa_load HP4.out) ?_)
  rcases CM with CM | ⟨al, t, l, m, b, c, g, z, HSh, ht3, hl4, hb80, CM⟩
  · refine (CM _).mono ?_
    rintro e w5 ⟨rfl, hb⟩
    have HB5 := Lib.hid (below_step HB4.out hb)
    clear HP4 HB4 hb CM
    go_wp2
    go_ret
    exact ⟨rfl, HB5.out⟩
  refine (CM _).mono ?_
  rintro e w5 ⟨q, pc, h, G, rfl, hG, hGe, hb⟩
  have HB5 := Lib.hid (below_step HB4.out hb)
  have hGW : W.heap.size ≤ G := by have := HB4.out.size; omega
  have HG := Lib.hid hG
  clear HP4 HB4 hb CM hGe hG
  by_cases hs2 : 200 < s.size
  · have d1 : decide ((200 : Int) < (s.size : Int)) = true := by simp; omega
    have d2 : decide (200 < s.size) = true := by simp; omega
    go_wp2
    go_ret
    exact ⟨rfl, HB5.out⟩
  have d1 : decide ((200 : Int) < (s.size : Int)) = false := by simp; omega
  have d2 : decide (200 < s.size) = false := by simp; omega
  by_cases hn2 : 200 < bs.length
  · have d3 : decide ((200 : Int) < (bs.length : Int)) = true := by simp; omega
    have d4 : decide (200 < bs.length) = true := by simp; omega
    go_wp2
    go_ret
    exact ⟨rfl, HB5.out⟩
  have d3 : decide ((200 : Int) < (bs.length : Int)) = false := by simp; omega
  have d4 : decide (200 < bs.length) = false := by simp; omega
  have hss : s.size ≤ 200 := by omega
  have hbs : bs.length ≤ 200 := by omega
  clear hs2 hn2
  have kl := HG.out.row.lanes
  by_cases hw : who < 0 ∨ (l : Int) ≤ who
  · have CN := Lib.hid (lnew_bad HG.out who hw)
    go_wp2_with fail
    refine CN.out.mono ?_
    rintro e w6 ⟨rfl, rfl⟩
    by_cases hw0 : who < 0
    · have d5 : decide (who < 0) = true := by simp; omega
      clear hw
      go_wp2
      go_ret
      exact ⟨rfl, HB5.out⟩
    · have d5 : decide (who < 0) = false := by simp; omega
      have d6 : decide ((l : Int) ≤ who) = true := by simp; omega
      clear hw
      go_wp2
      go_ret
      exact ⟨rfl, HB5.out⟩
  obtain ⟨k, rfl⟩ : ∃ k : Nat, who = (k : Int) := ⟨who.toNat, by omega⟩
  have hkl : k < l := by omega
  have d5 : decide ((k : Int) < 0) = false := by simp
  have d6 : decide ((l : Int) ≤ (k : Int)) = false := by simp; omega
  have d7 : decide (l ≤ k) = false := by simp; omega
  have CN := Lib.hid (lnew_any HG.out k hkl)
  clear hw kl
  go_wp2_with fail
  refine CN.out.mono ?_
  rintro e w6 ⟨bl, x, rfl, hblw, hxw, hr6, hs6, hb6⟩
  have hG6 := HG.out.step hb6
  have hB6 := below_step HB5.out hb6
  have hz5 := HB5.out.size
  have kl := hG6.row.lanes
  have S := HSh
  have hl0 := S.l1
  have hcm := S.cm
  have hg2 := S.g2
  have hc8 : 8 ≤ c := by have := S.cg; omega
  have HBL := Lib.hid S.bl
  have hbL : (List.replicate b zb).length = b := by simp
  have hGw6 := hG6.live.blk.lt
  have CBG := Lib.hid (begin_any (N0 := W.heap.size) HKW.out.1 hGW (HKW.out.next hB6) hG6 (by omega) (by omega) (by omega) (by rw [hbL]; exact HBL.out) (by rw [hbL]; omega) s (by omega))
  obtain ⟨M, hM⟩ : ∃ M, begTo s c (List.replicate b zb) l = M := ⟨_, rfl⟩
  have hMl : M.length = l * c := by rw [← hM, begTo_len, hbL]; exact HBL.out
  have HM0 : Hid (begTo s c (List.replicate (l * c) zb) l = M) := Lib.hid (by rw [← hM, HBL.out])
  rw [hM] at CBG
  have HML := Lib.hid hMl
  have HB6 := Lib.hid hB6
  have HR6 := Lib.hid hr6
  have HS6 := Lib.hid hs6
  have HW6 : Hid (W.heap.size ≤ bl ∧ W.heap.size ≤ x ∧ G < w6.heap.size ∧ bl ≠ G ∧ x ≠ G) := Lib.hid ⟨by omega, by omega, hGw6, RowAt.unlike hr6 hG6.live.blk (by rfl), Ne.symm (hs6.unlike hG6.live.blk (by rfl))⟩
  have HSh := Lib.hid HSh
  clear S hM hMl CN hr6 hs6 hb6 hG6 hB6 hblw hxw hGw6 hz5 HG HB5
  go_wp2_with fail
  refine CBG.out.mono ?_
  rintro e w3 ⟨rfl, hg3, hk3⟩
  have HG3 := Lib.hid hg3
  have HB3 : Hid (Below W.heap.size W w3) := Lib.hid (HB6.out.trans (hk3.below HB6.out.size fun x hx => by omega))
  have HR3 := Lib.hid (HR6.out.kept hk3 HW6.out.2.2.2.1)
  have HS3 := Lib.hid (HS6.out.kept hk3 HW6.out.2.2.2.2)
  have k0 := HG3.out.row.shape
  clear hg3 hk3 CBG hbL HB6 HR6 HS6 kl
  go_upto_region 15 with (refine wpList_load_want rfl 44 _ rfl _ _ rfl k0 ?_)
  obtain ⟨w5, e5⟩ : ∃ w5, w5 = w3.alloc (.cells (spc al t l m b c g z) 48) := ⟨_, rfl⟩
  have b5 : Below w3.heap.size w3 w5 := by rw [e5]; exact one_box _ _
  have hr5 : RowAt w5 w3.heap.size 48 (spc al t l m b c g z) := by rw [e5]; exact RowAt.new _ _ _
  have HS : Hid (∀ u, Below w5.heap.size w5 u → (loadVar 48 ⟨w3.heap.size, 0, none⟩).run Tryz.prog u = .ok (spv al t l m b c g z) u) := Lib.hid fun u hu => rsp_loadN (RowAt.step hr5 hu)
  have HSh5 := Lib.hid hr5
  have HG5 := Lib.hid (HG3.out.step b5)
  have HB5 := Lib.hid (HB3.out.trans (b5.mono HB3.out.size))
  have HR5 := Lib.hid (HR3.out.step b5)
  have HS5 := Lib.hid (HS3.out.step b5)
  have E5 := Lib.hid e5
  have CRB : Hid (∀ u, Below w5.heap.size w5 u → Calls Tryz.prog 13 #[.agg (wq iv), spv al t l m b c g z, .string s] u fun e w' => ∃ v, e = .returned v ∧ DocG w5.heap.size c l M v w' ∧ Below u.heap.size u w') := Lib.hid fun u hu => by
    refine (rbegin_any al t l m b c g z hl0 (by omega) (by omega) (by omega) s (by omega) u).mono ?_
    rintro e w' ⟨v, gs, rfl, hd, hg, hb⟩
    rw [HM0.out] at hd
    exact ⟨v, rfl, ⟨gs, hd.weak hu.size, hg⟩, hb⟩
  clear b5 hr5 e5 HG3 HB3 k0 HR3 HS3
  rw [← E5.out]
  clear E5
  generalize w3.heap.size = T15 at *
  refine wp_region_text [Is (.agg (wq iv)), Is (spv al t l m b c g z), Is (.string s), DocG w5.heap.size c l M, DocG w5.heap.size c l M] (by kernel_rfl) (by kernel_rfl) rfl ⟨stable_is _, stable_is _, stable_is _, stable_docg _ _ _ _, stable_docg _ _ _ _, trivial⟩ ⟨?_, ?_, ?_, ?_, ?_, trivial⟩ ?_
  · intro a w C
    exact part_on (wanted_free rfl _) (op_call0 rfl (reg_enters Tryz.func14 (by kernel_rfl) (by kernel_rfl))  (calls_is (rknown_any w)))
  · intro a w C
    exact part_on (wanted_free rfl _) (op_value (load_run rfl (C.was 15 (by kernel_rfl)) (HS.out w C.below)) rfl)
  · intro a w C
    exact part_on (wanted_free rfl _) (op_move (.inl rfl) (C.was 1 (by kernel_rfl)))
  · intro a w C
    exact part_on (wanted_free rfl _) (op_call3 rfl (reg_enters Tryz.func13 (by kernel_rfl) (by kernel_rfl)) (C.on (j := 0) (by kernel_rfl) rfl rfl) (C.on (j := 1) (by kernel_rfl) rfl rfl) (C.on (j := 2) (by kernel_rfl) rfl rfl) (CRB.out w C.below))
  · intro a w C
    exact part_on (wanted_free rfl _) (op_move (.inr rfl) (C.on (j := 3) (by kernel_rfl) rfl rfl))
  rintro w7 hbF _ rfl _ rfl _ rfl x101 hx101 x16 hx16
  simp only [Fin, setAt, Exit.then, List.setIfInBounds_toArray, List.set_cons_succ, List.set_cons_zero]
  obtain ⟨gs, hd7, hgl7⟩ := hx16
  have HB7 := Lib.hid (below_step HB5.out hbF)
  have hx17 := one_box w7 (.cells (rlc 0 0 2 false false false) 57)
  have HLf : Hid (Lf W G al t l b c g k bl w5.heap.size w7.heap.size gs) := Lib.hid ⟨HSh.out, hgl7, hkl, HG5.out.live.blk.lt, hGW, HW6.out.1, HB5.out.size, HB7.out.size, HTW.out⟩
  have HLw : Hid (∀ w8, w8 = w7.alloc (.cells (rlc 0 0 2 false false false) 57) → Lw W w8 q pc h G al t l m b c g z k bl x w5.heap.size T15 w7.heap.size x16 gs M M (.go 0 0 2 none) (rlc 0 0 2 false false false)) := Lib.hid fun w8 e8 => by
    subst e8
    exact ⟨⟨(HR5.out.step hbF).step hx17, (HS5.out.step hbF).step hx17⟩, (HG5.out.step hbF).step hx17, hd7.step hx17, RowAt.step (RowAt.step HSh5.out hbF) hx17, RowAt.new _ _ _, below_step HB7.out hx17, by have := hbF.size; have := hx17.size; omega, HW6.out.2.1, HML.out⟩
  clear hd7 hbF hx17 hx101 HR5 HS5 HG5 HSh5 HB7 HS CRB
  generalize x16 = V at *
  go_upto_region 17 with (refine wpList_value_want rfl _ (rl0_run rfl rfl) ?_)
  obtain ⟨w8, e8⟩ : ∃ w8, w8 = w7.alloc (.cells (rlc 0 0 2 false false false) 57) := ⟨_, rfl⟩
  rw [← e8]
  have HL8 := Lib.hid (HLw.out w8 e8)
  have HF := HLf
  clear HLw HLf e8
  generalize w7.heap.size = T17 at *
  generalize w5.heap.size = N at *
  have ht1 := HSh.out.t1
  go_wp2
  go_loopw [16, 105] (fun v16 v105 wr => ∃ j σ x L, j ≤ bs.length ∧ v16 = V ∧ v105 = .int .i64 ((j : Nat) : Int) ∧ Hid (Lw W wr q pc h G al t l m b c g z k bl x N T15 T17 V gs L L σ (rlS g σ)) ∧ Hid (Ln.Ok t g σ) ∧ Hid (∀ p s i D, σ = .go p s i (some D) → numW al t b c g L p s k i = D)) (fun _ v105 _ => bs.length - (intOf v105).toNat)
  case atStart => exact ⟨0, .go 0 0 2 none, x, M, Nat.zero_le _, rfl, rfl, HL8, Lib.hid ⟨by omega, by omega, Nat.le_refl _, hg2, fun h => by cases h⟩, Lib.hid fun _ _ _ _ e => by cases e⟩
  case round =>
    clear HL8
    obtain ⟨j, σ, x, L, hj, hv, rfl, HL, HO, HD⟩ := hrel
    obtain rfl := hv.symm
    by_cases hjl : j < bs.length
    · have d8 : decide ((j : Int) < (bs.length : Int)) = true := by simp; omega
      have d9 : decide (j < bs.length) = true := by simp; omega
      have hj0 : (0 : Int) ≤ (j : Int) := by omega
      have hj1 : (j : Int) < (bs.length : Int) := by omega
      obtain ⟨rb, ro, rfl, _, y0⟩ := (HRd.out.below HL.out.below) j (by rw [List.length_map]; exact hjl)
      rw [List.getElem_map] at y0
      generalize bs[j] = f at *
      cases f with
      | false =>
        cases σ with
        | go p s i h0 =>
          have HQ : Hid (∀ u, Below wr.heap.size wr u → (Calls Tryz.prog 6 #[.pointer (some ⟨bl, 0, none⟩)] u fun e w' => ∃ v, e = .returned v ∧ Is (.bool false) v w' ∧ Below u.heap.size u w') ∧ RowAt u T17 57 (rlc p s i h0.isSome false false)) := Lib.hid fun u hu => ⟨calls_same (open_other (HL.out.on hu).ln rfl), (HL.out.on hu).rl⟩
          go_upto_region 21 with fail
          clear y0
          refine wp_region_text [Is (.pointer (some ⟨bl, 0, none⟩)), Is (.bool false), Is (.pointer (some ⟨T17, 4, none⟩)), Is (.bool false), Is (.bool false), Is undef, Is undef, Is undef, Is (.bool false), Is (.bool false)] (by kernel_rfl) (by kernel_rfl) rfl ⟨stable_is _, stable_is _, stable_is _, stable_is _, stable_is _, stable_is _, stable_is _, stable_is _, stable_is _, stable_is _, trivial⟩ ⟨?_, ?_, ?_, ?_, ?_, ?_, ?_, ?_, ?_, ?_, trivial⟩ ?_
          · intro a w C
            exact part_on (wanted_free rfl _) (op_move (.inl rfl) (C.was 13 (by kernel_rfl)))
          · intro a w C
            exact part_on (wanted_free rfl _) (op_call1 rfl (reg_enters Tryz.func6 (by kernel_rfl) (by kernel_rfl)) (C.on (j := 0) (by kernel_rfl) rfl rfl) ((HQ.out w C.below).1))
          · intro a w C
            exact part_on (wanted_free rfl _) (op_value (rlf_run (k := 4) rfl (by decide) (C.was 17 (by kernel_rfl))) rfl)
          · intro a w C
            exact part_on (wanted_free rfl _) (op_value (bool_run rfl (C.on (j := 2) (by kernel_rfl) rfl rfl) (rl_cell (HQ.out w C.below).2 4 rfl)) rfl)
          · intro a w C
            exact part_on (wanted_free rfl _) (op_move (.inl rfl) (C.on (j := 3) (by kernel_rfl) rfl rfl))
          · intro a w C
            exact part_off (wanted_off (j := 4) rfl rfl rfl (C.on (j := 4) (by kernel_rfl) rfl rfl)) rfl
          · intro a w C
            exact part_off (wanted_off (j := 4) rfl rfl rfl (C.on (j := 4) (by kernel_rfl) rfl rfl)) rfl
          · intro a w C
            exact part_off (wanted_off (j := 4) rfl rfl rfl (C.on (j := 4) (by kernel_rfl) rfl rfl)) rfl
          · intro a w C
            exact part_on (wanted_free rfl _) (op_pick (k := false) rfl (C.on (j := 4) (by kernel_rfl) rfl rfl) rfl)
          · intro a w C
            exact part_on (wanted_free rfl _) (op_bin rfl (C.on (j := 1) (by kernel_rfl) rfl rfl) (C.on (j := 8) (by kernel_rfl) rfl rfl) rfl (by simp [go_sem]) rfl)
          rintro w7 hbF _ rfl _ rfl _ rfl _ rfl _ rfl _ rfl _ rfl _ rfl _ rfl _ rfl
          simp only [Fin, setAt, Exit.then, List.setIfInBounds_toArray, List.set_cons_succ, List.set_cons_zero]
          have H7 := Lib.hid (HL.out.on hbF)
          clear hbF HQ
          go_wp2_with (first
            | refine wpList_load_want rfl 48 _ rfl _ _ rfl (rsp_loadN H7.out.sh) ?_
            | refine wpList_load_want rfl 57 _ rfl _ _ rfl (rl_load H7.out.rl) ?_)
          refine (rf_on H7.out ropen_not).mono ?_
          rintro e w8 ⟨rfl, h8⟩
          have H8 := Lib.hid h8
          clear h8 H7
          go_wp2_with (refine wpList_store_of rfl _ _ _ rfl ⟨T17, 0, none⟩ _ rfl rfl (rl_store H8.out.rl) ?_)
          go_roundw
          case rel => exact ⟨j + 1, (.go p s i h0), x, L, by omega, rfl, by go_num, Lib.hid (H8.out.set HF.out (kept_row _ _ _) (RowAt.setRow H8.out.rl (rlc p s i h0.isSome false false))), HO, HD⟩
          case measure => simp [intOf]; omega
        | gate p s =>
          obtain ⟨hO1, hO2⟩ := HO.out
          have HLr := HL.out
          obtain ⟨p1, s1, i1, f1, f2, f3, CRo, HRo⟩ := rf_open (a := al) (l := l) (m := m) (b := b) (c := c) (g := g) (z := z) HF.out.S.tm hO1 hO2
          obtain ⟨F, hF⟩ : ∃ F : World → Prop, F = fun u => ∃ x', Lw W u q pc h G al t l m b c g z k bl x' N T15 T17 V gs (L) (L) (opL t p s) (rlc p s g false true false) := ⟨_, rfl⟩
          have HFS : Hid (∀ u u', F u → Below u.heap.size u u' → F u') := Lib.hid fun u u' hu hb => by
            subst hF
            obtain ⟨x', hu⟩ := hu
            exact ⟨x', hu.on hb⟩
          have HFE : Hid (∀ u, F u → ∃ x', Lw W u q pc h G al t l m b c g z k bl x' N T15 T17 V gs (L) (L) (opL t p s) (rlc p s g false true false)) := Lib.hid fun u hu => by subst hF; exact hu
          have HQ : Hid (∀ u, Kept (fun j => j = bl) wr u → RowAt u T17 57 (rlc p s g false true false)) := Lib.hid fun u hu => RowAt.kept HLr.rl hu (RowAt.unlike HLr.rl HLr.ln.1 (by rfl))
          have COp : Hid (∀ u, Below wr.heap.size wr u → Calls Tryz.prog 6 #[.pointer (some ⟨bl, 0, none⟩)] u fun e w' => e = .returned (.bool true) ∧ (F w' ∧ Kept (fun j => j = bl) u w')) := Lib.hid fun u hu => by
            refine (pr_open HF.out hO1 hO2 (HLr.on hu)).mono ?_
            rintro e w' ⟨rfl, h1, h2⟩
            subst hF
            exact ⟨rfl, h1, h2⟩
          have HRo := Lib.hid HRo
          have CRo := Lib.hid CRo
          clear hF HLr
          go_upto_region 21 with fail
          clear y0
          refine wp_region_stageK (fun j => j = bl) [1] [] [[0], [], [0, 1], [0, 1], [1], [1], [1], [1], [1], [1]] [[Is (.pointer (some ⟨bl, 0, none⟩)), Free, Is (.pointer (some ⟨T17, 4, none⟩)), Is (.bool true), Is (.bool true), Is (.pointer (some ⟨T17, 5, none⟩)), Is (.bool false), Is (.bool true), Is (.bool true), Is (.bool false)], [Is (.pointer (some ⟨bl, 0, none⟩)), IsF (.bool true) F, Is (.pointer (some ⟨T17, 4, none⟩)), Is (.bool true), Is (.bool true), Is (.pointer (some ⟨T17, 5, none⟩)), Is (.bool false), Is (.bool true), Is (.bool true), Is (.bool false)]] [Is (.pointer (some ⟨bl, 0, none⟩)), IsF (.bool true) F, Is (.pointer (some ⟨T17, 4, none⟩)), Is (.bool true), Is (.bool true), Is (.pointer (some ⟨T17, 5, none⟩)), Is (.bool false), Is (.bool true), Is (.bool true), Is (.bool false)] (by kernel_rfl) (by kernel_rfl) rfl rfl ⟨⟨stable_is _, stable_free, stable_is _, stable_is _, stable_is _, stable_is _, stable_is _, stable_is _, stable_is _, stable_is _, trivial⟩, ⟨stable_is _, stable_isf _ HFS.out, stable_is _, stable_is _, stable_is _, stable_is _, stable_is _, stable_is _, stable_is _, stable_is _, trivial⟩, trivial⟩ (by intro n hn o ho hd w; simp only [List.mem_cons, List.not_mem_nil, or_false] at hn; subst hn; first | trivial | (cases ho; cases hd)) rfl ⟨?p0, fun h => absurd (by simp) h, ?p2, ?p3, ?p4, ?p5, ?p6, ?p7, ?p8, ?p9, trivial⟩ ⟨?t0, trivial⟩ (by decide) ?fin
          case p0 =>
            intro _ k hk; obtain rfl := List.mem_singleton.1 hk; intro a w C Z
            exact partS_on (wanted_free rfl _) (op_move (.inl rfl) (C.was 13 (by kernel_rfl)))
          case p2 =>
            intro _ k hk; replace hk : k ∈ [0, 1] := hk; simp only [List.mem_cons, List.not_mem_nil, or_false] at hk
            rcases hk with rfl | rfl
            · intro a w C Z
              exact partS_on (wanted_free rfl _) (op_value (rlf_run (k := 4) rfl (by decide) (C.was 17 (by kernel_rfl))) rfl)
            · intro a w C Z
              exact partS_on (wanted_free rfl _) (op_value (rlf_run (k := 4) rfl (by decide) (C.was 17 (by kernel_rfl))) rfl)
          case p3 =>
            intro _ k hk; replace hk : k ∈ [0, 1] := hk; simp only [List.mem_cons, List.not_mem_nil, or_false] at hk
            rcases hk with rfl | rfl
            · intro a w C Z
              exact partS_on (wanted_free rfl _) (op_value (bool_run rfl (C.on (j := 2) (by kernel_rfl) rfl rfl) (rl_cell (HQ.out w Z) 4 rfl)) rfl)
            · intro a w C Z
              exact partS_on (wanted_free rfl _) (op_value (bool_run rfl (C.on (j := 2) (by kernel_rfl) rfl rfl) (rl_cell (HQ.out w Z) 4 rfl)) rfl)
          case p4 =>
            intro _ k hk; obtain rfl := List.mem_singleton.1 hk; intro a w C Z
            exact partS_on (wanted_free rfl _) (op_move (.inl rfl) (C.on (j := 3) (by kernel_rfl) rfl rfl))
          case p5 =>
            intro _ k hk; obtain rfl := List.mem_singleton.1 hk; intro a w C Z
            exact partS_on (wanted_on (j := 4) rfl rfl rfl (C.on (j := 4) (by kernel_rfl) rfl rfl)) (op_value (rlf_run (k := 5) rfl (by decide) (C.was 17 (by kernel_rfl))) rfl)
          case p6 =>
            intro _ k hk; obtain rfl := List.mem_singleton.1 hk; intro a w C Z
            exact partS_on (wanted_on (j := 4) rfl rfl rfl (C.on (j := 4) (by kernel_rfl) rfl rfl)) (op_value (bool_run rfl (C.on (j := 5) (by kernel_rfl) rfl rfl) (rl_cell (HQ.out w Z) 5 rfl)) rfl)
          case p7 =>
            intro _ k hk; obtain rfl := List.mem_singleton.1 hk; intro a w C Z
            exact partS_on (wanted_on (j := 4) rfl rfl rfl (C.on (j := 4) (by kernel_rfl) rfl rfl)) (op_value (not_run rfl (C.on (j := 6) (by kernel_rfl) rfl rfl)) rfl)
          case p8 =>
            intro _ k hk; obtain rfl := List.mem_singleton.1 hk; intro a w C Z
            exact partS_on (wanted_free rfl _) (op_pick (k := true) rfl (C.on (j := 4) (by kernel_rfl) rfl rfl) (C.on (j := 7) (by kernel_rfl) rfl rfl))
          case p9 =>
            intro _ k hk; obtain rfl := List.mem_singleton.1 hk; intro a w C Z
            exact partS_on (wanted_free rfl _) (op_bin rfl ((C.on (j := 1) (by kernel_rfl) rfl rfl)).1 (C.on (j := 8) (by kernel_rfl) rfl rfl) rfl (by simp [go_sem]) rfl)
          case t0 =>
            intro o ho a w C A
            cases ho
            have cb : Below wr.heap.size wr w := C.below
            refine ⟨wanted_free rfl _, ?_⟩
            unfold TurnsK
            refine Oper.wp_mono ?_ (turn_enter (reg_call1 rfl (reg_enters Tryz.func6 (by kernel_rfl) (by kernel_rfl)) (C.on (j := 0) (by kernel_rfl) rfl rfl)) (COp.out w cb))
            rintro a2 w2 ⟨rfl, hF2, hk2⟩
            refine ⟨_, rfl, ⟨rfl, hF2⟩, (Kept.of_below (M := fun j => j = bl) cb).trans hk2 fun _ _ h => h, hk2.size, ?_⟩
            · intro i o2 d hi hd hne hnw h
              have hil := (List.getElem?_eq_some_iff.1 hi).1
              replace hil : i < 10 := hil
              obtain rfl | rfl | rfl | rfl | rfl | rfl | rfl | rfl | rfl | rfl : i = 0 ∨ i = 1 ∨ i = 2 ∨ i = 3 ∨ i = 4 ∨ i = 5 ∨ i = 6 ∨ i = 7 ∨ i = 8 ∨ i = 9 := by omega
              · exact h
              · exact absurd rfl hne
              · exact h
              · exact h
              · exact absurd hnw (by rw [show waits _ 4 1 = true from by kernel_rfl]; decide)
              · exact absurd hnw (by rw [show waits _ 5 1 = true from by kernel_rfl]; decide)
              · exact absurd hnw (by rw [show waits _ 6 1 = true from by kernel_rfl]; decide)
              · exact absurd hnw (by rw [show waits _ 7 1 = true from by kernel_rfl]; decide)
              · exact absurd hnw (by rw [show waits _ 8 1 = true from by kernel_rfl]; decide)
              · exact absurd hnw (by rw [show waits _ 9 1 = true from by kernel_rfl]; decide)
          case fin =>
            rintro wF hbF _ rfl _ ⟨rfl, hFF⟩ _ rfl _ rfl _ rfl _ rfl _ rfl _ rfl _ rfl _ rfl
            simp only [Fin, setAt, Exit.then, List.setIfInBounds_toArray, List.set_cons_succ, List.set_cons_zero]
            obtain ⟨x', h7⟩ := HFE.out _ hFF
            have H7 := Lib.hid h7
            clear hFF hbF h7 HFS HFE HQ COp
            go_wp2_with (first
              | refine wpList_load_want rfl 48 _ rfl _ _ rfl (rsp_loadN H7.out.sh) ?_
              | refine wpList_load_want rfl 57 _ rfl _ _ rfl (rl_load H7.out.rl) ?_)
            refine (rf_on H7.out (CRo.out _)).mono ?_
            rintro e w8 ⟨rfl, h8⟩
            have H8 := Lib.hid h8
            clear h8 H7
            go_wp2_with (refine wpList_store_of rfl _ _ _ rfl ⟨T17, 0, none⟩ _ rfl rfl (rl_store H8.out.rl) ?_)
            go_roundw
            case rel =>
              have h9 := H8.out.set HF.out (kept_row _ _ (rlc p1 s1 i1 f1 f2 f3)) (RC' := rlS g (opL t p s)) (by rw [← rlS_open HRo.out]; exact RowAt.setRow H8.out.rl _)
              refine ⟨j + 1, opL t p s, x', L, by omega, rfl, by go_num, Lib.hid h9, Lib.hid (op_ok HF.out.S.g2 hO1 hO2), Lib.hid fun p2 s2 i2 D2 e => ?_⟩
              exfalso
              unfold opL at e
              split at e <;> cases e
            case measure => simp [intOf]; omega
        | done p s =>
          have HQ : Hid (∀ u, Below wr.heap.size wr u → (Calls Tryz.prog 6 #[.pointer (some ⟨bl, 0, none⟩)] u fun e w' => ∃ v, e = .returned v ∧ Is (.bool false) v w' ∧ Below u.heap.size u w') ∧ RowAt u T17 57 (rlc p s g false true true)) := Lib.hid fun u hu => ⟨calls_same (open_other (HL.out.on hu).ln rfl), (HL.out.on hu).rl⟩
          go_upto_region 21 with fail
          clear y0
          refine wp_region_text [Is (.pointer (some ⟨bl, 0, none⟩)), Is (.bool false), Is (.pointer (some ⟨T17, 4, none⟩)), Is (.bool true), Is (.bool true), Is (.pointer (some ⟨T17, 5, none⟩)), Is (.bool true), Is (.bool false), Is (.bool false), Is (.bool false)] (by kernel_rfl) (by kernel_rfl) rfl ⟨stable_is _, stable_is _, stable_is _, stable_is _, stable_is _, stable_is _, stable_is _, stable_is _, stable_is _, stable_is _, trivial⟩ ⟨?_, ?_, ?_, ?_, ?_, ?_, ?_, ?_, ?_, ?_, trivial⟩ ?_
          · intro a w C
            exact part_on (wanted_free rfl _) (op_move (.inl rfl) (C.was 13 (by kernel_rfl)))
          · intro a w C
            exact part_on (wanted_free rfl _) (op_call1 rfl (reg_enters Tryz.func6 (by kernel_rfl) (by kernel_rfl)) (C.on (j := 0) (by kernel_rfl) rfl rfl) ((HQ.out w C.below).1))
          · intro a w C
            exact part_on (wanted_free rfl _) (op_value (rlf_run (k := 4) rfl (by decide) (C.was 17 (by kernel_rfl))) rfl)
          · intro a w C
            exact part_on (wanted_free rfl _) (op_value (bool_run rfl (C.on (j := 2) (by kernel_rfl) rfl rfl) (rl_cell (HQ.out w C.below).2 4 rfl)) rfl)
          · intro a w C
            exact part_on (wanted_free rfl _) (op_move (.inl rfl) (C.on (j := 3) (by kernel_rfl) rfl rfl))
          · intro a w C
            exact part_on (wanted_on (j := 4) rfl rfl rfl (C.on (j := 4) (by kernel_rfl) rfl rfl)) (op_value (rlf_run (k := 5) rfl (by decide) (C.was 17 (by kernel_rfl))) rfl)
          · intro a w C
            exact part_on (wanted_on (j := 4) rfl rfl rfl (C.on (j := 4) (by kernel_rfl) rfl rfl)) (op_value (bool_run rfl (C.on (j := 5) (by kernel_rfl) rfl rfl) (rl_cell (HQ.out w C.below).2 5 rfl)) rfl)
          · intro a w C
            exact part_on (wanted_on (j := 4) rfl rfl rfl (C.on (j := 4) (by kernel_rfl) rfl rfl)) (op_value (not_run rfl (C.on (j := 6) (by kernel_rfl) rfl rfl)) rfl)
          · intro a w C
            exact part_on (wanted_free rfl _) (op_pick (k := true) rfl (C.on (j := 4) (by kernel_rfl) rfl rfl) (C.on (j := 7) (by kernel_rfl) rfl rfl))
          · intro a w C
            exact part_on (wanted_free rfl _) (op_bin rfl (C.on (j := 1) (by kernel_rfl) rfl rfl) (C.on (j := 8) (by kernel_rfl) rfl rfl) rfl (by simp [go_sem]) rfl)
          rintro w7 hbF _ rfl _ rfl _ rfl _ rfl _ rfl _ rfl _ rfl _ rfl _ rfl _ rfl
          simp only [Fin, setAt, Exit.then, List.setIfInBounds_toArray, List.set_cons_succ, List.set_cons_zero]
          have H7 := Lib.hid (HL.out.on hbF)
          clear hbF HQ
          go_wp2_with (first
            | refine wpList_load_want rfl 48 _ rfl _ _ rfl (rsp_loadN H7.out.sh) ?_
            | refine wpList_load_want rfl 57 _ rfl _ _ rfl (rl_load H7.out.rl) ?_)
          refine (rf_on H7.out ropen_done).mono ?_
          rintro e w8 ⟨rfl, h8⟩
          have H8 := Lib.hid h8
          clear h8 H7
          go_wp2_with (refine wpList_store_of rfl _ _ _ rfl ⟨T17, 0, none⟩ _ rfl rfl (rl_store H8.out.rl) ?_)
          go_roundw
          case rel => exact ⟨j + 1, (.done p s), x, L, by omega, rfl, by go_num, Lib.hid (H8.out.set HF.out (kept_row _ _ _) (RowAt.setRow H8.out.rl (rlc p s g false true true))), HO, HD⟩
          case measure => simp [intOf]; omega
      | true =>
        cases σ with
        | go p s i h0 =>
          by_cases hig : i < g
          · cases h0 with
            | none =>
              obtain ⟨hp, hs, hlo, _, _⟩ := HO.out
              have hp4 := HF.out.S.tm
              have R : Fl t l c g p s k i := ⟨hp, hs, HF.out.kl, hlo, hig⟩
              obtain ⟨D, hD⟩ : ∃ D, numW al t b c g L p s k i = D := ⟨_, rfl⟩
              have hCS := pr_look HF.out R HL.out D hD
              obtain ⟨x0, hx0⟩ : ∃ x0, s * g + i = x0 := ⟨_, rfl⟩
              obtain ⟨r0, hr0⟩ : ∃ r0, ofL l p s k D = r0 := ⟨_, rfl⟩
              obtain ⟨c0, hc0⟩ : ∃ c0, ofC l c g p s k i D = c0 := ⟨_, rfl⟩
              rw [hx0, hr0, hc0] at hCS
              have HCS := Lib.hid hCS
              have HDD := Lib.hid hD
              clear hCS hx0 hr0 hc0 hD R
              have CS := Lib.hid (HCS.out)
              clear HL
              go_wp2_with fail
              clear y0
              refine CS.out.mono ?_
              rintro e w7 ⟨rfl, h7⟩
              obtain ⟨w8, e8⟩ : ∃ w8, w8 = w7.alloc (.cells (evc 1 k p s k x0 r0 c0) 32) := ⟨_, rfl⟩
              have b8 : Below w7.heap.size w7 w8 := by rw [e8]; exact one_box _ _
              have hE8 : RowAt w8 w7.heap.size 32 (evc 1 k p s k x0 r0 c0) := by rw [e8]; exact RowAt.new _ _ _
              have h8 := h7.on b8
              have CR : Hid (Calls Tryz.prog 16 #[spv al t l m b c g z, V, .int .i64 (k : Int), rlv p s i false false false] w8 fun e w' => e = .returned (.tuple #[V, rlv p s i true false false, .int .i64 1, .int .i64 0]) ∧ Lw W w' q pc h G al t l m b c g z k bl x N T15 T17 V gs (L) (L) (.go p s i (some D)) (rlc p s i false false false) ∧ RowAt w' w7.heap.size 32 (evc 1 k p s k x0 r0 c0)) := Lib.hid ((rstep_look hig).mono fun _ _ ⟨e, hb⟩ => ⟨e, h8.on hb, RowAt.step hE8 hb⟩)
              have H8 := Lib.hid h8
              have E8 := Lib.hid e8
              clear CS h7 e8 b8 hE8 h8
              go_upto_region 25 with fail
              rw [← E8.out]
              clear E8
              generalize w7.heap.size = T20 at *
              go_wp2_with (first
                | refine wpList_load_want rfl 48 _ rfl _ _ rfl (rsp_loadN H8.out.sh) ?_
                | refine wpList_load_want rfl 57 _ rfl _ _ rfl (rl_load H8.out.rl) ?_)
              refine CR.out.mono ?_
              rintro e w9 ⟨rfl, h9, hE9⟩
              obtain ⟨w10, e10⟩ : ∃ w10, w10 = w9.alloc (.cells (rlc p s i true false false) 57) := ⟨_, rfl⟩
              have b10 : Below w9.heap.size w9 w10 := by rw [e10]; exact one_box _ _
              have hX10 : RowAt w10 w9.heap.size 57 (rlc p s i true false false) := by rw [e10]; exact RowAt.new _ _ _
              have hX17 : w9.heap.size ≠ T17 := by have := RowAt.lt h9.rl; omega
              have h10 := h9.on b10
              have hE10 := RowAt.step hE9 b10
              have H10 := Lib.hid h10
              have HE10 := Lib.hid hE10
              have HX10 := Lib.hid hX10
              have HX17 := Lib.hid hX17
              have E10 := Lib.hid e10
              have k0 := ev_kind hE10
              have k1 := ev_lane hE10
              have k2 : w10.cell? ⟨T20, 2, none⟩ = some (.int .i64 (p : Int)) := (hE10.cell 2).trans rfl
              have k3 : w10.cell? ⟨T20, 3, none⟩ = some (.int .i64 (s : Int)) := (hE10.cell 3).trans rfl
              have n0 : w10.cell? ⟨T17, 0, none⟩ = some (.int .i64 (p : Int)) := rl_cell h10.rl 0 rfl
              have n1 : w10.cell? ⟨T17, 1, none⟩ = some (.int .i64 (s : Int)) := rl_cell h10.rl 1 rfl
              have HTn : Hid (p ≤ 140737488351232 ∧ s ≤ 140737488351232) := Lib.hid ⟨by omega, by omega⟩
              clear CR h9 hE9 e10 b10 hX10 h10 hE10 hX17 H8
              go_upto_region 26 with fail
              rw [← E10.out]
              clear E10
              generalize w9.heap.size = T23 at *
              go_upto_region 32 with fail
              clear k0 k1 k2 k3 n0 n1
              have HQ32 : Hid (∀ u, Kept (fun j => j = T17) w10 u → RowAt u T23 57 (rlc p s i true false false)) := Lib.hid fun u hu => RowAt.kept HX10.out hu HX17.out
              have HQ17 : Hid (∀ u, Below w10.heap.size w10 u → RowAt u T17 57 (rlc p s i false false false)) := Lib.hid fun u hu => RowAt.step H10.out.rl hu
              refine wp_region_stageK (fun j => j = T17) [3] [] [[0], [0], [0], []] [[Is V, Is (rlv p s i true false false), Is V, Free], [Is V, RlIs T17 (rlc p s i true false false) (rlv p s i true false false), Is V, Free]] [Is V, RlIs T17 (rlc p s i true false false) (rlv p s i true false false), Is V, Free] (by kernel_rfl) (by kernel_rfl) rfl rfl ⟨⟨stable_is _, stable_is _, stable_is _, stable_free, trivial⟩, ⟨stable_is _, stable_rlis _ _ _, stable_is _, stable_free, trivial⟩, trivial⟩ (by intro n hn o ho hd w; simp only [List.mem_cons, List.not_mem_nil, or_false] at hn; subst hn; first | trivial | (cases ho; cases hd)) rfl ⟨?p0, ?p1, ?p2, fun h => absurd (by simp) h, trivial⟩ ⟨?t0, trivial⟩ (by decide) ?fin
              case p0 =>
                intro _ k hk; obtain rfl := List.mem_singleton.1 hk; intro a w C Z
                exact partS_on (wanted_free rfl _) (op_move (.inl rfl) (C.was 22 (by kernel_rfl)))
              case p1 =>
                intro _ k hk; obtain rfl := List.mem_singleton.1 hk; intro a w C Z
                exact partS_on (wanted_free rfl _) (op_value (load_run rfl (C.was 23 (by kernel_rfl)) (rl_load (HQ32.out w Z))) rfl)
              case p2 =>
                intro _ k hk; obtain rfl := List.mem_singleton.1 hk; intro a w C Z
                exact partS_on (wanted_free rfl _) (op_move (.inr rfl) (C.on (j := 0) (by kernel_rfl) rfl rfl))
              case t0 =>
                intro o ho a w C A
                cases ho
                have hr := HQ17.out w C.below
                refine ⟨wanted_free rfl _, stage_storeK rfl (C.was 17 (by kernel_rfl)) (C.on (j := 1) (by kernel_rfl) rfl rfl) (rl_store hr) trivial ((Kept.of_below (M := fun j => j = T17) C.below).trans (kept_row _ _ _) fun _ _ h => h) (Nat.le_of_eq (setRow_size _ _ _).symm) ?_⟩
                · intro i o2 d hi hd hne hnw h
                  have hil := (List.getElem?_eq_some_iff.1 hi).1
                  replace hil : i < 4 := hil
                  obtain rfl | rfl | rfl | rfl : i = 0 ∨ i = 1 ∨ i = 2 ∨ i = 3 := by omega
                  · exact h
                  · exact ⟨h, RowAt.setRow hr _⟩
                  · exact h
                  · exact absurd rfl hne
              case fin =>
                rintro w11 hb11 v0 hv0 _ ⟨rfl, hr11⟩ v2 hv2 _ _
                simp only [Fin, setAt, Exit.then, List.setIfInBounds_toArray, List.set_cons_succ, List.set_cons_zero]
                obtain rfl : V = v0 := Eq.symm hv0
                obtain rfl : V = v2 := Eq.symm hv2
                have H11 := Lib.hid (H10.out.set HF.out hb11 hr11)
                clear hb11 hr11 HQ32 HQ17 H10 HE10 HX10 HX17
                have HQ3 : Hid (∀ u, Below w11.heap.size w11 u → Lw W u q pc h G al t l m b c g z k bl x N T15 T17 V gs (L) (L) (.go p s i (some D)) (rlc p s i true false false)) := Lib.hid fun u hu => H11.out.on hu
                go_upto_region 33 with fail
                refine wp_region_text [Is (.pointer (some ⟨bl, 0, none⟩)), Is (.bool false), Is (.pointer (some ⟨T17, 4, none⟩)), Is (.bool false), Is (.bool false), Is undef, Is undef, Is undef, Is (.bool false), Is (.bool false), Is (.bool false), Is (.pointer (some ⟨bl, 0, none⟩)), Is (.bool false), Is (.pointer (some ⟨T17, 5, none⟩)), Is (.bool false), Is (.bool false), Is (.bool false), Is (.bool false), Is (.pointer (some ⟨bl, 0, none⟩)), Is (.int .i64 (k : Int)), Is (.int .i64 (k : Int)), Is (.bool false), Is (.bool false)] (by kernel_rfl) (by kernel_rfl) rfl ⟨stable_is _, stable_is _, stable_is _, stable_is _, stable_is _, stable_is _, stable_is _, stable_is _, stable_is _, stable_is _, stable_is _, stable_is _, stable_is _, stable_is _, stable_is _, stable_is _, stable_is _, stable_is _, stable_is _, stable_is _, stable_is _, stable_is _, stable_is _, trivial⟩ ⟨?_, ?_, ?_, ?_, ?_, ?_, ?_, ?_, ?_, ?_, ?_, ?_, ?_, ?_, ?_, ?_, ?_, ?_, ?_, ?_, ?_, ?_, ?_, trivial⟩ ?_
                · intro a w C
                  exact part_on (wanted_free rfl _) (op_move (.inl rfl) (C.was 13 (by kernel_rfl)))
                · intro a w C
                  exact part_on (wanted_free rfl _) (op_call1 rfl (reg_enters Tryz.func7 (by kernel_rfl) (by kernel_rfl)) (C.on (j := 0) (by kernel_rfl) rfl rfl) (calls_same (waits_at (HQ3.out w C.below).ln)))
                · intro a w C
                  exact part_on (wanted_free rfl _) (op_value (rlf_run (k := 4) rfl (by decide) (C.was 17 (by kernel_rfl))) rfl)
                · intro a w C
                  exact part_on (wanted_free rfl _) (op_value (bool_run rfl (C.on (j := 2) (by kernel_rfl) rfl rfl) (rl_cell (HQ3.out w C.below).rl 4 rfl)) rfl)
                · intro a w C
                  exact part_on (wanted_free rfl _) (op_move (.inl rfl) (C.on (j := 3) (by kernel_rfl) rfl rfl))
                · intro a w C
                  exact part_off (wanted_off (j := 4) rfl rfl rfl (C.on (j := 4) (by kernel_rfl) rfl rfl)) rfl
                · intro a w C
                  exact part_off (wanted_off (j := 4) rfl rfl rfl (C.on (j := 4) (by kernel_rfl) rfl rfl)) rfl
                · intro a w C
                  exact part_off (wanted_off (j := 4) rfl rfl rfl (C.on (j := 4) (by kernel_rfl) rfl rfl)) rfl
                · intro a w C
                  exact part_on (wanted_free rfl _) (op_pick (k := false) rfl (C.on (j := 4) (by kernel_rfl) rfl rfl) rfl)
                · intro a w C
                  exact part_on (wanted_free rfl _) (op_bin rfl (C.on (j := 1) (by kernel_rfl) rfl rfl) (C.on (j := 8) (by kernel_rfl) rfl rfl) rfl (by simp [go_sem]) rfl)
                · intro a w C
                  exact part_on (wanted_free rfl _) (op_move (.inl rfl) (C.on (j := 9) (by kernel_rfl) rfl rfl))
                · intro a w C
                  exact part_on (wanted_on (j := 10) rfl rfl rfl (C.on (j := 10) (by kernel_rfl) rfl rfl)) (op_move (.inl rfl) (C.was 13 (by kernel_rfl)))
                · intro a w C
                  exact part_on (wanted_on (j := 10) rfl rfl rfl (C.on (j := 10) (by kernel_rfl) rfl rfl)) (op_call1 rfl (reg_enters Tryz.func17 (by kernel_rfl) (by kernel_rfl)) (C.on (j := 11) (by kernel_rfl) rfl rfl) (calls_same (done_at (HQ3.out w C.below).ln)))
                · intro a w C
                  exact part_on (wanted_on (j := 10) rfl rfl rfl (C.on (j := 10) (by kernel_rfl) rfl rfl)) (op_value (rlf_run (k := 5) rfl (by decide) (C.was 17 (by kernel_rfl))) rfl)
                · intro a w C
                  exact part_on (wanted_on (j := 10) rfl rfl rfl (C.on (j := 10) (by kernel_rfl) rfl rfl)) (op_value (bool_run rfl (C.on (j := 13) (by kernel_rfl) rfl rfl) (rl_cell (HQ3.out w C.below).rl 5 rfl)) rfl)
                · intro a w C
                  exact part_on (wanted_on (j := 10) rfl rfl rfl (C.on (j := 10) (by kernel_rfl) rfl rfl)) (op_bin rfl (C.on (j := 12) (by kernel_rfl) rfl rfl) (C.on (j := 14) (by kernel_rfl) rfl rfl) rfl (by simp [go_sem]) rfl)
                · intro a w C
                  exact part_on (wanted_free rfl _) (op_pick (k := false) rfl (C.on (j := 10) (by kernel_rfl) rfl rfl) (C.on (j := 15) (by kernel_rfl) rfl rfl))
                · intro a w C
                  exact part_on (wanted_free rfl _) (op_move (.inl rfl) (C.on (j := 16) (by kernel_rfl) rfl rfl))
                · intro a w C
                  exact part_on (wanted_on (j := 17) rfl rfl rfl (C.on (j := 17) (by kernel_rfl) rfl rfl)) (op_move (.inl rfl) (C.was 13 (by kernel_rfl)))
                · intro a w C
                  exact part_on (wanted_on (j := 17) rfl rfl rfl (C.on (j := 17) (by kernel_rfl) rfl rfl)) (op_call1 rfl (reg_enters Tryz.func8 (by kernel_rfl) (by kernel_rfl)) (C.on (j := 18) (by kernel_rfl) rfl rfl) (calls_same (number_at (HQ3.out w C.below).ln)))
                · intro a w C
                  exact part_on (wanted_on (j := 17) rfl rfl rfl (C.on (j := 17) (by kernel_rfl) rfl rfl)) (op_move (.inl rfl) (C.was 2 (by kernel_rfl)))
                · intro a w C
                  exact part_on (wanted_on (j := 17) rfl rfl rfl (C.on (j := 17) (by kernel_rfl) rfl rfl)) (op_bin rfl (C.on (j := 19) (by kernel_rfl) rfl rfl) (C.on (j := 20) (by kernel_rfl) rfl rfl) rfl (by simp [go_sem]) rfl)
                · intro a w C
                  exact part_on (wanted_free rfl _) (op_pick (k := false) rfl (C.on (j := 17) (by kernel_rfl) rfl rfl) (C.on (j := 21) (by kernel_rfl) rfl rfl))
                rintro w12 hb12 _ rfl _ rfl _ rfl _ rfl _ rfl _ rfl _ rfl _ rfl _ rfl _ rfl _ rfl _ rfl _ rfl _ rfl _ rfl _ rfl _ rfl _ rfl _ rfl _ rfl _ rfl _ rfl _ rfl
                simp only [Fin, setAt, Exit.then, List.setIfInBounds_toArray, List.set_cons_succ, List.set_cons_zero]
                have H12 := Lib.hid (H11.out.on hb12)
                clear hb12 HQ3 H11
                go_wp2
                go_roundw
                case rel => exact ⟨j + 1, (.go p s i (some D)), x, (L), by omega, rfl, by go_num, H12, (Lib.hid ⟨hp, hs, hlo, Nat.le_of_lt hig, fun _ => hig⟩), (Lib.hid fun _ _ _ _ e => by cases e; exact HDD.out)⟩
                case measure => simp [intOf]; omega
            | some D =>
              clear hig
              obtain ⟨hp, hs, hlo, hhi, hsm⟩ := HO.out
              have hp4 := HF.out.S.tm
              have hig := hsm rfl
              have R : Fl t l c g p s k i := ⟨hp, hs, HF.out.kl, hlo, hig⟩
              have hD := HD.out p s i D rfl
              have hCS := pr_fill HF.out R HL.out hD
              have hcol := R.col HF.out.S
              have hcm := HF.out.S.cm
              have hlm := HF.out.S.lm
              have hkl := HF.out.kl
              have hCR := fun w N gs V L (hd : DocAt w N V c gs L) (hg : gs.length = l) (hn : N ≤ w.heap.size) => rstep_fill (m := m) (z := z) HF.out.S R hd hg hn
              obtain ⟨i2, hi2⟩ : ∃ i2, i + 1 = i2 := ⟨_, rfl⟩
              rw [hi2] at hCS hCR
              have HCR := Lib.hid hCR
              have hlo2 : fiN p s ≤ i2 := by omega
              have hhi2 : i2 ≤ g := by omega
              obtain ⟨sg, hsg⟩ : ∃ sg, s * g = sg := ⟨_, rfl⟩
              obtain ⟨x0, hx0⟩ : ∃ x0, sg + i = x0 := ⟨_, rfl⟩
              obtain ⟨r0, hr0⟩ : ∃ r0, ofL l p s k D = r0 := ⟨_, rfl⟩
              obtain ⟨c0, hc0⟩ : ∃ c0, ofC l c g p s k i D = c0 := ⟨_, rfl⟩
              rw [hsg, hx0, hr0, hc0] at hCS
              rw [hsg, hx0] at hcol
              have q1 : (s : Int) * (g : Int) = (sg : Int) := by rw [← hsg]; simp
              have q2 : (sg : Int) + (i : Int) = (x0 : Int) := by omega
              have q1w : IntKind.i64.wrap (sg : Int) = (sg : Int) := by rw [IntKind.wrap_i64]; omega
              have q2w : IntKind.i64.wrap (x0 : Int) = (x0 : Int) := by rw [IntKind.wrap_i64]; omega
              have HN1 : Hid (k ≤ 140737488351232 ∧ x0 ≤ 140737488351232) := Lib.hid ⟨by omega, by omega⟩
              have HCS := Lib.hid hCS
              have HR := Lib.hid R
              clear hCS hCR hsg hx0 hr0 hc0 hD R hsm hi2
              have CS := Lib.hid (HCS.out)
              clear HL
              go_wp2_with fail
              clear y0
              refine CS.out.mono ?_
              rintro e w7 ⟨rfl, h7⟩
              obtain ⟨w8, e8⟩ : ∃ w8, w8 = w7.alloc (.cells (evc 2 k p s k x0 r0 c0) 32) := ⟨_, rfl⟩
              have b8 : Below w7.heap.size w7 w8 := by rw [e8]; exact one_box _ _
              have hE8 : RowAt w8 w7.heap.size 32 (evc 2 k p s k x0 r0 c0) := by rw [e8]; exact RowAt.new _ _ _
              have h8 := h7.on b8
              have CR : Hid (Calls Tryz.prog 16 #[spv al t l m b c g z, V, .int .i64 (k : Int), rlv p s i true false false] w8 fun e w' => e = .returned (.tuple #[V, rlv p s i2 false false false, .int .i64 2, .int .i64 0]) ∧ Lw W w' q pc h G al t l m b c g z k bl x N T15 T17 V gs (stepL al t l b c g L p s k i) (stepL al t l b c g L p s k i) (.go p s i2 none) (rlc p s i true false false) ∧ RowAt w' w7.heap.size 32 (evc 2 k p s k x0 r0 c0)) := Lib.hid ((HCR.out _ _ _ _ _ h8.doc HF.out.gl h8.nw).mono fun _ _ ⟨e, hd, hk⟩ => ⟨e, h8.docs HF.out hk hd, RowAt.kept hE8 hk (RowAt.unlike hE8 (h8.doc.blk k (by rw [HF.out.gl]; exact HF.out.kl)) (by rfl))⟩)
              have H8 := Lib.hid h8
              have E8 := Lib.hid e8
              clear CS h7 e8 b8 hE8 h8
              go_upto_region 25 with fail
              rw [← E8.out]
              clear E8
              generalize w7.heap.size = T20 at *
              go_wp2_with (first
                | refine wpList_load_want rfl 48 _ rfl _ _ rfl (rsp_loadN H8.out.sh) ?_
                | refine wpList_load_want rfl 57 _ rfl _ _ rfl (rl_load H8.out.rl) ?_)
              refine CR.out.mono ?_
              rintro e w9 ⟨rfl, h9, hE9⟩
              obtain ⟨w10, e10⟩ : ∃ w10, w10 = w9.alloc (.cells (rlc p s i2 false false false) 57) := ⟨_, rfl⟩
              have b10 : Below w9.heap.size w9 w10 := by rw [e10]; exact one_box _ _
              have hX10 : RowAt w10 w9.heap.size 57 (rlc p s i2 false false false) := by rw [e10]; exact RowAt.new _ _ _
              have hX17 : w9.heap.size ≠ T17 := by have := RowAt.lt h9.rl; omega
              have h10 := h9.on b10
              have hE10 := RowAt.step hE9 b10
              have H10 := Lib.hid h10
              have HE10 := Lib.hid hE10
              have HX10 := Lib.hid hX10
              have HX17 := Lib.hid hX17
              have E10 := Lib.hid e10
              have k0 := ev_kind hE10
              have k1 := ev_lane hE10
              have k2 : w10.cell? ⟨T20, 2, none⟩ = some (.int .i64 (p : Int)) := (hE10.cell 2).trans rfl
              have k3 : w10.cell? ⟨T20, 3, none⟩ = some (.int .i64 (s : Int)) := (hE10.cell 3).trans rfl
              have k4 : w10.cell? ⟨T20, 4, none⟩ = some (.int .i64 (k : Int)) := (hE10.cell 4).trans rfl
              have k5 : w10.cell? ⟨T20, 5, none⟩ = some (.int .i64 (x0 : Int)) := (hE10.cell 5).trans rfl
              have k6 : w10.cell? ⟨T20, 6, none⟩ = some (.int .i64 (r0 : Int)) := (hE10.cell 6).trans rfl
              have k7 : w10.cell? ⟨T20, 7, none⟩ = some (.int .i64 (c0 : Int)) := (hE10.cell 7).trans rfl
              have n0 : w10.cell? ⟨T17, 0, none⟩ = some (.int .i64 (p : Int)) := rl_cell h10.rl 0 rfl
              have n1 : w10.cell? ⟨T17, 1, none⟩ = some (.int .i64 (s : Int)) := rl_cell h10.rl 1 rfl
              have HTn : Hid (p ≤ 140737488351232 ∧ s ≤ 140737488351232) := Lib.hid ⟨by omega, by omega⟩
              have n2 : w10.cell? ⟨T17, 2, none⟩ = some (.int .i64 (i : Int)) := rl_cell h10.rl 2 rfl
              have n6 : w10.cell? ⟨T15, 6, none⟩ = some (.int .i64 (g : Int)) := (RowAt.cell h10.sh 6).trans rfl
              clear CR h9 hE9 e10 b10 hX10 h10 hE10 hX17 H8
              go_upto_region 26 with fail
              rw [← E10.out]
              clear E10
              generalize w9.heap.size = T23 at *
              go_upto_region 32 with fail
              clear k0 k1 k2 k3 k4 k5 k6 k7 n0 n1 n2 n6
              have HQ32 : Hid (∀ u, Kept (fun j => j = T17) w10 u → RowAt u T23 57 (rlc p s i2 false false false)) := Lib.hid fun u hu => RowAt.kept HX10.out hu HX17.out
              have HQ17 : Hid (∀ u, Below w10.heap.size w10 u → RowAt u T17 57 (rlc p s i true false false)) := Lib.hid fun u hu => RowAt.step H10.out.rl hu
              refine wp_region_stageK (fun j => j = T17) [3] [] [[0], [0], [0], []] [[Is V, Is (rlv p s i2 false false false), Is V, Free], [Is V, RlIs T17 (rlc p s i2 false false false) (rlv p s i2 false false false), Is V, Free]] [Is V, RlIs T17 (rlc p s i2 false false false) (rlv p s i2 false false false), Is V, Free] (by kernel_rfl) (by kernel_rfl) rfl rfl ⟨⟨stable_is _, stable_is _, stable_is _, stable_free, trivial⟩, ⟨stable_is _, stable_rlis _ _ _, stable_is _, stable_free, trivial⟩, trivial⟩ (by intro n hn o ho hd w; simp only [List.mem_cons, List.not_mem_nil, or_false] at hn; subst hn; first | trivial | (cases ho; cases hd)) rfl ⟨?p0, ?p1, ?p2, fun h => absurd (by simp) h, trivial⟩ ⟨?t0, trivial⟩ (by decide) ?fin
              case p0 =>
                intro _ k hk; obtain rfl := List.mem_singleton.1 hk; intro a w C Z
                exact partS_on (wanted_free rfl _) (op_move (.inl rfl) (C.was 22 (by kernel_rfl)))
              case p1 =>
                intro _ k hk; obtain rfl := List.mem_singleton.1 hk; intro a w C Z
                exact partS_on (wanted_free rfl _) (op_value (load_run rfl (C.was 23 (by kernel_rfl)) (rl_load (HQ32.out w Z))) rfl)
              case p2 =>
                intro _ k hk; obtain rfl := List.mem_singleton.1 hk; intro a w C Z
                exact partS_on (wanted_free rfl _) (op_move (.inr rfl) (C.on (j := 0) (by kernel_rfl) rfl rfl))
              case t0 =>
                intro o ho a w C A
                cases ho
                have hr := HQ17.out w C.below
                refine ⟨wanted_free rfl _, stage_storeK rfl (C.was 17 (by kernel_rfl)) (C.on (j := 1) (by kernel_rfl) rfl rfl) (rl_store hr) trivial ((Kept.of_below (M := fun j => j = T17) C.below).trans (kept_row _ _ _) fun _ _ h => h) (Nat.le_of_eq (setRow_size _ _ _).symm) ?_⟩
                · intro i o2 d hi hd hne hnw h
                  have hil := (List.getElem?_eq_some_iff.1 hi).1
                  replace hil : i < 4 := hil
                  obtain rfl | rfl | rfl | rfl : i = 0 ∨ i = 1 ∨ i = 2 ∨ i = 3 := by omega
                  · exact h
                  · exact ⟨h, RowAt.setRow hr _⟩
                  · exact h
                  · exact absurd rfl hne
              case fin =>
                rintro w11 hb11 v0 hv0 _ ⟨rfl, hr11⟩ v2 hv2 _ _
                simp only [Fin, setAt, Exit.then, List.setIfInBounds_toArray, List.set_cons_succ, List.set_cons_zero]
                obtain rfl : V = v0 := Eq.symm hv0
                obtain rfl : V = v2 := Eq.symm hv2
                have H11 := Lib.hid (H10.out.set HF.out hb11 hr11)
                clear hb11 hr11 HQ32 HQ17 H10 HE10 HX10 HX17
                have HQ3 : Hid (∀ u, Below w11.heap.size w11 u → Lw W u q pc h G al t l m b c g z k bl x N T15 T17 V gs (stepL al t l b c g L p s k i) (stepL al t l b c g L p s k i) (.go p s i2 none) (rlc p s i2 false false false)) := Lib.hid fun u hu => H11.out.on hu
                go_upto_region 33 with fail
                refine wp_region_text [Is (.pointer (some ⟨bl, 0, none⟩)), Is (.bool false), Is (.pointer (some ⟨T17, 4, none⟩)), Is (.bool false), Is (.bool false), Is undef, Is undef, Is undef, Is (.bool false), Is (.bool false), Is (.bool false), Is (.pointer (some ⟨bl, 0, none⟩)), Is (.bool false), Is (.pointer (some ⟨T17, 5, none⟩)), Is (.bool false), Is (.bool false), Is (.bool false), Is (.bool false), Is (.pointer (some ⟨bl, 0, none⟩)), Is (.int .i64 (k : Int)), Is (.int .i64 (k : Int)), Is (.bool false), Is (.bool false)] (by kernel_rfl) (by kernel_rfl) rfl ⟨stable_is _, stable_is _, stable_is _, stable_is _, stable_is _, stable_is _, stable_is _, stable_is _, stable_is _, stable_is _, stable_is _, stable_is _, stable_is _, stable_is _, stable_is _, stable_is _, stable_is _, stable_is _, stable_is _, stable_is _, stable_is _, stable_is _, stable_is _, trivial⟩ ⟨?_, ?_, ?_, ?_, ?_, ?_, ?_, ?_, ?_, ?_, ?_, ?_, ?_, ?_, ?_, ?_, ?_, ?_, ?_, ?_, ?_, ?_, ?_, trivial⟩ ?_
                · intro a w C
                  exact part_on (wanted_free rfl _) (op_move (.inl rfl) (C.was 13 (by kernel_rfl)))
                · intro a w C
                  exact part_on (wanted_free rfl _) (op_call1 rfl (reg_enters Tryz.func7 (by kernel_rfl) (by kernel_rfl)) (C.on (j := 0) (by kernel_rfl) rfl rfl) (calls_same (waits_at (HQ3.out w C.below).ln)))
                · intro a w C
                  exact part_on (wanted_free rfl _) (op_value (rlf_run (k := 4) rfl (by decide) (C.was 17 (by kernel_rfl))) rfl)
                · intro a w C
                  exact part_on (wanted_free rfl _) (op_value (bool_run rfl (C.on (j := 2) (by kernel_rfl) rfl rfl) (rl_cell (HQ3.out w C.below).rl 4 rfl)) rfl)
                · intro a w C
                  exact part_on (wanted_free rfl _) (op_move (.inl rfl) (C.on (j := 3) (by kernel_rfl) rfl rfl))
                · intro a w C
                  exact part_off (wanted_off (j := 4) rfl rfl rfl (C.on (j := 4) (by kernel_rfl) rfl rfl)) rfl
                · intro a w C
                  exact part_off (wanted_off (j := 4) rfl rfl rfl (C.on (j := 4) (by kernel_rfl) rfl rfl)) rfl
                · intro a w C
                  exact part_off (wanted_off (j := 4) rfl rfl rfl (C.on (j := 4) (by kernel_rfl) rfl rfl)) rfl
                · intro a w C
                  exact part_on (wanted_free rfl _) (op_pick (k := false) rfl (C.on (j := 4) (by kernel_rfl) rfl rfl) rfl)
                · intro a w C
                  exact part_on (wanted_free rfl _) (op_bin rfl (C.on (j := 1) (by kernel_rfl) rfl rfl) (C.on (j := 8) (by kernel_rfl) rfl rfl) rfl (by simp [go_sem]) rfl)
                · intro a w C
                  exact part_on (wanted_free rfl _) (op_move (.inl rfl) (C.on (j := 9) (by kernel_rfl) rfl rfl))
                · intro a w C
                  exact part_on (wanted_on (j := 10) rfl rfl rfl (C.on (j := 10) (by kernel_rfl) rfl rfl)) (op_move (.inl rfl) (C.was 13 (by kernel_rfl)))
                · intro a w C
                  exact part_on (wanted_on (j := 10) rfl rfl rfl (C.on (j := 10) (by kernel_rfl) rfl rfl)) (op_call1 rfl (reg_enters Tryz.func17 (by kernel_rfl) (by kernel_rfl)) (C.on (j := 11) (by kernel_rfl) rfl rfl) (calls_same (done_at (HQ3.out w C.below).ln)))
                · intro a w C
                  exact part_on (wanted_on (j := 10) rfl rfl rfl (C.on (j := 10) (by kernel_rfl) rfl rfl)) (op_value (rlf_run (k := 5) rfl (by decide) (C.was 17 (by kernel_rfl))) rfl)
                · intro a w C
                  exact part_on (wanted_on (j := 10) rfl rfl rfl (C.on (j := 10) (by kernel_rfl) rfl rfl)) (op_value (bool_run rfl (C.on (j := 13) (by kernel_rfl) rfl rfl) (rl_cell (HQ3.out w C.below).rl 5 rfl)) rfl)
                · intro a w C
                  exact part_on (wanted_on (j := 10) rfl rfl rfl (C.on (j := 10) (by kernel_rfl) rfl rfl)) (op_bin rfl (C.on (j := 12) (by kernel_rfl) rfl rfl) (C.on (j := 14) (by kernel_rfl) rfl rfl) rfl (by simp [go_sem]) rfl)
                · intro a w C
                  exact part_on (wanted_free rfl _) (op_pick (k := false) rfl (C.on (j := 10) (by kernel_rfl) rfl rfl) (C.on (j := 15) (by kernel_rfl) rfl rfl))
                · intro a w C
                  exact part_on (wanted_free rfl _) (op_move (.inl rfl) (C.on (j := 16) (by kernel_rfl) rfl rfl))
                · intro a w C
                  exact part_on (wanted_on (j := 17) rfl rfl rfl (C.on (j := 17) (by kernel_rfl) rfl rfl)) (op_move (.inl rfl) (C.was 13 (by kernel_rfl)))
                · intro a w C
                  exact part_on (wanted_on (j := 17) rfl rfl rfl (C.on (j := 17) (by kernel_rfl) rfl rfl)) (op_call1 rfl (reg_enters Tryz.func8 (by kernel_rfl) (by kernel_rfl)) (C.on (j := 18) (by kernel_rfl) rfl rfl) (calls_same (number_at (HQ3.out w C.below).ln)))
                · intro a w C
                  exact part_on (wanted_on (j := 17) rfl rfl rfl (C.on (j := 17) (by kernel_rfl) rfl rfl)) (op_move (.inl rfl) (C.was 2 (by kernel_rfl)))
                · intro a w C
                  exact part_on (wanted_on (j := 17) rfl rfl rfl (C.on (j := 17) (by kernel_rfl) rfl rfl)) (op_bin rfl (C.on (j := 19) (by kernel_rfl) rfl rfl) (C.on (j := 20) (by kernel_rfl) rfl rfl) rfl (by simp [go_sem]) rfl)
                · intro a w C
                  exact part_on (wanted_free rfl _) (op_pick (k := false) rfl (C.on (j := 17) (by kernel_rfl) rfl rfl) (C.on (j := 21) (by kernel_rfl) rfl rfl))
                rintro w12 hb12 _ rfl _ rfl _ rfl _ rfl _ rfl _ rfl _ rfl _ rfl _ rfl _ rfl _ rfl _ rfl _ rfl _ rfl _ rfl _ rfl _ rfl _ rfl _ rfl _ rfl _ rfl _ rfl _ rfl
                simp only [Fin, setAt, Exit.then, List.setIfInBounds_toArray, List.set_cons_succ, List.set_cons_zero]
                have H12 := Lib.hid (H11.out.on hb12)
                clear hb12 HQ3 H11
                go_wp2
                go_roundw
                case rel => exact ⟨j + 1, (.go p s i2 none), x, (stepL al t l b c g L p s k i), by omega, rfl, by go_num, H12, (Lib.hid ⟨hp, hs, hlo2, hhi2, fun h => by cases h⟩), (Lib.hid fun _ _ _ _ e => by cases e)⟩
                case measure => simp [intOf]; omega
          · obtain rfl : g = i := by have := HO.out.2.2.2.1; omega
            cases h0 with
            | some D => exact absurd (HO.out.2.2.2.2 rfl) hig
            | none =>
              clear hig
              obtain ⟨hp, hs, _, _, _⟩ := HO.out
              have hp4 := HF.out.S.tm
              have CS := Lib.hid (pr_arrive HF.out HL.out)
              clear HL
              go_wp2_with fail
              clear y0
              refine CS.out.mono ?_
              rintro e w7 ⟨rfl, h7⟩
              obtain ⟨w8, e8⟩ : ∃ w8, w8 = w7.alloc (.cells (evc 3 k p s 0 0 0 0) 32) := ⟨_, rfl⟩
              have b8 : Below w7.heap.size w7 w8 := by rw [e8]; exact one_box _ _
              have hE8 : RowAt w8 w7.heap.size 32 (evc 3 k p s 0 0 0 0) := by rw [e8]; exact RowAt.new _ _ _
              have h8 := h7.on b8
              have CR : Hid (Calls Tryz.prog 16 #[spv al t l m b c g z, V, .int .i64 (k : Int), rlv p s g false false false] w8 fun e w' => e = .returned (.tuple #[V, rlv p s g false true false, .int .i64 3, .int .i64 0]) ∧ Lw W w' q pc h G al t l m b c g z k bl x N T15 T17 V gs (L) (L) (.gate p s) (rlc p s g false false false) ∧ RowAt w' w7.heap.size 32 (evc 3 k p s 0 0 0 0)) := Lib.hid ((rstep_arrive (Nat.le_refl g)).mono fun _ _ ⟨e, hb⟩ => ⟨e, h8.on hb, RowAt.step hE8 hb⟩)
              have H8 := Lib.hid h8
              have E8 := Lib.hid e8
              clear CS h7 e8 b8 hE8 h8
              go_upto_region 25 with fail
              rw [← E8.out]
              clear E8
              generalize w7.heap.size = T20 at *
              go_wp2_with (first
                | refine wpList_load_want rfl 48 _ rfl _ _ rfl (rsp_loadN H8.out.sh) ?_
                | refine wpList_load_want rfl 57 _ rfl _ _ rfl (rl_load H8.out.rl) ?_)
              refine CR.out.mono ?_
              rintro e w9 ⟨rfl, h9, hE9⟩
              obtain ⟨w10, e10⟩ : ∃ w10, w10 = w9.alloc (.cells (rlc p s g false true false) 57) := ⟨_, rfl⟩
              have b10 : Below w9.heap.size w9 w10 := by rw [e10]; exact one_box _ _
              have hX10 : RowAt w10 w9.heap.size 57 (rlc p s g false true false) := by rw [e10]; exact RowAt.new _ _ _
              have hX17 : w9.heap.size ≠ T17 := by have := RowAt.lt h9.rl; omega
              have h10 := h9.on b10
              have hE10 := RowAt.step hE9 b10
              have H10 := Lib.hid h10
              have HE10 := Lib.hid hE10
              have HX10 := Lib.hid hX10
              have HX17 := Lib.hid hX17
              have E10 := Lib.hid e10
              have k0 := ev_kind hE10
              have k1 := ev_lane hE10
              have k2 : w10.cell? ⟨T20, 2, none⟩ = some (.int .i64 (p : Int)) := (hE10.cell 2).trans rfl
              have k3 : w10.cell? ⟨T20, 3, none⟩ = some (.int .i64 (s : Int)) := (hE10.cell 3).trans rfl
              have k4 : w10.cell? ⟨T20, 4, none⟩ = some (.int .i64 0) := (hE10.cell 4).trans rfl
              have k5 : w10.cell? ⟨T20, 5, none⟩ = some (.int .i64 0) := (hE10.cell 5).trans rfl
              have k6 : w10.cell? ⟨T20, 6, none⟩ = some (.int .i64 0) := (hE10.cell 6).trans rfl
              have k7 : w10.cell? ⟨T20, 7, none⟩ = some (.int .i64 0) := (hE10.cell 7).trans rfl
              have n0 : w10.cell? ⟨T17, 0, none⟩ = some (.int .i64 (p : Int)) := rl_cell h10.rl 0 rfl
              have n1 : w10.cell? ⟨T17, 1, none⟩ = some (.int .i64 (s : Int)) := rl_cell h10.rl 1 rfl
              have HTn : Hid (p ≤ 140737488351232 ∧ s ≤ 140737488351232) := Lib.hid ⟨by omega, by omega⟩
              have HN0 : Hid ((0 : Nat) ≤ 140737488351232 ∧ (0 : Nat) ≤ 140737488351232) := Lib.hid ⟨by decide, by decide⟩
              clear CR h9 hE9 e10 b10 hX10 h10 hE10 hX17 H8
              go_upto_region 26 with fail
              rw [← E10.out]
              clear E10
              generalize w9.heap.size = T23 at *
              go_upto_region 32 with fail
              clear k0 k1 k2 k3 k4 k5 k6 k7 n0 n1
              have HQ32 : Hid (∀ u, Kept (fun j => j = T17) w10 u → RowAt u T23 57 (rlc p s g false true false)) := Lib.hid fun u hu => RowAt.kept HX10.out hu HX17.out
              have HQ17 : Hid (∀ u, Below w10.heap.size w10 u → RowAt u T17 57 (rlc p s g false false false)) := Lib.hid fun u hu => RowAt.step H10.out.rl hu
              refine wp_region_stageK (fun j => j = T17) [3] [] [[0], [0], [0], []] [[Is V, Is (rlv p s g false true false), Is V, Free], [Is V, RlIs T17 (rlc p s g false true false) (rlv p s g false true false), Is V, Free]] [Is V, RlIs T17 (rlc p s g false true false) (rlv p s g false true false), Is V, Free] (by kernel_rfl) (by kernel_rfl) rfl rfl ⟨⟨stable_is _, stable_is _, stable_is _, stable_free, trivial⟩, ⟨stable_is _, stable_rlis _ _ _, stable_is _, stable_free, trivial⟩, trivial⟩ (by intro n hn o ho hd w; simp only [List.mem_cons, List.not_mem_nil, or_false] at hn; subst hn; first | trivial | (cases ho; cases hd)) rfl ⟨?p0, ?p1, ?p2, fun h => absurd (by simp) h, trivial⟩ ⟨?t0, trivial⟩ (by decide) ?fin
              case p0 =>
                intro _ k hk; obtain rfl := List.mem_singleton.1 hk; intro a w C Z
                exact partS_on (wanted_free rfl _) (op_move (.inl rfl) (C.was 22 (by kernel_rfl)))
              case p1 =>
                intro _ k hk; obtain rfl := List.mem_singleton.1 hk; intro a w C Z
                exact partS_on (wanted_free rfl _) (op_value (load_run rfl (C.was 23 (by kernel_rfl)) (rl_load (HQ32.out w Z))) rfl)
              case p2 =>
                intro _ k hk; obtain rfl := List.mem_singleton.1 hk; intro a w C Z
                exact partS_on (wanted_free rfl _) (op_move (.inr rfl) (C.on (j := 0) (by kernel_rfl) rfl rfl))
              case t0 =>
                intro o ho a w C A
                cases ho
                have hr := HQ17.out w C.below
                refine ⟨wanted_free rfl _, stage_storeK rfl (C.was 17 (by kernel_rfl)) (C.on (j := 1) (by kernel_rfl) rfl rfl) (rl_store hr) trivial ((Kept.of_below (M := fun j => j = T17) C.below).trans (kept_row _ _ _) fun _ _ h => h) (Nat.le_of_eq (setRow_size _ _ _).symm) ?_⟩
                · intro i o2 d hi hd hne hnw h
                  have hil := (List.getElem?_eq_some_iff.1 hi).1
                  replace hil : i < 4 := hil
                  obtain rfl | rfl | rfl | rfl : i = 0 ∨ i = 1 ∨ i = 2 ∨ i = 3 := by omega
                  · exact h
                  · exact ⟨h, RowAt.setRow hr _⟩
                  · exact h
                  · exact absurd rfl hne
              case fin =>
                rintro w11 hb11 v0 hv0 _ ⟨rfl, hr11⟩ v2 hv2 _ _
                simp only [Fin, setAt, Exit.then, List.setIfInBounds_toArray, List.set_cons_succ, List.set_cons_zero]
                obtain rfl : V = v0 := Eq.symm hv0
                obtain rfl : V = v2 := Eq.symm hv2
                have H11 := Lib.hid (H10.out.set HF.out hb11 hr11)
                clear hb11 hr11 HQ32 HQ17 H10 HE10 HX10 HX17
                have HQ3 : Hid (∀ u, Below w11.heap.size w11 u → Lw W u q pc h G al t l m b c g z k bl x N T15 T17 V gs (L) (L) (.gate p s) (rlc p s g false true false)) := Lib.hid fun u hu => H11.out.on hu
                go_upto_region 33 with fail
                refine wp_region_text [Is (.pointer (some ⟨bl, 0, none⟩)), Is (.bool true), Is (.pointer (some ⟨T17, 4, none⟩)), Is (.bool true), Is (.bool true), Is (.pointer (some ⟨T17, 5, none⟩)), Is (.bool false), Is (.bool true), Is (.bool true), Is (.bool false), Is (.bool false), Is (.pointer (some ⟨bl, 0, none⟩)), Is (.bool false), Is (.pointer (some ⟨T17, 5, none⟩)), Is (.bool false), Is (.bool false), Is (.bool false), Is (.bool false), Is (.pointer (some ⟨bl, 0, none⟩)), Is (.int .i64 (k : Int)), Is (.int .i64 (k : Int)), Is (.bool false), Is (.bool false)] (by kernel_rfl) (by kernel_rfl) rfl ⟨stable_is _, stable_is _, stable_is _, stable_is _, stable_is _, stable_is _, stable_is _, stable_is _, stable_is _, stable_is _, stable_is _, stable_is _, stable_is _, stable_is _, stable_is _, stable_is _, stable_is _, stable_is _, stable_is _, stable_is _, stable_is _, stable_is _, stable_is _, trivial⟩ ⟨?_, ?_, ?_, ?_, ?_, ?_, ?_, ?_, ?_, ?_, ?_, ?_, ?_, ?_, ?_, ?_, ?_, ?_, ?_, ?_, ?_, ?_, ?_, trivial⟩ ?_
                · intro a w C
                  exact part_on (wanted_free rfl _) (op_move (.inl rfl) (C.was 13 (by kernel_rfl)))
                · intro a w C
                  exact part_on (wanted_free rfl _) (op_call1 rfl (reg_enters Tryz.func7 (by kernel_rfl) (by kernel_rfl)) (C.on (j := 0) (by kernel_rfl) rfl rfl) (calls_same (waits_at (HQ3.out w C.below).ln)))
                · intro a w C
                  exact part_on (wanted_free rfl _) (op_value (rlf_run (k := 4) rfl (by decide) (C.was 17 (by kernel_rfl))) rfl)
                · intro a w C
                  exact part_on (wanted_free rfl _) (op_value (bool_run rfl (C.on (j := 2) (by kernel_rfl) rfl rfl) (rl_cell (HQ3.out w C.below).rl 4 rfl)) rfl)
                · intro a w C
                  exact part_on (wanted_free rfl _) (op_move (.inl rfl) (C.on (j := 3) (by kernel_rfl) rfl rfl))
                · intro a w C
                  exact part_on (wanted_on (j := 4) rfl rfl rfl (C.on (j := 4) (by kernel_rfl) rfl rfl)) (op_value (rlf_run (k := 5) rfl (by decide) (C.was 17 (by kernel_rfl))) rfl)
                · intro a w C
                  exact part_on (wanted_on (j := 4) rfl rfl rfl (C.on (j := 4) (by kernel_rfl) rfl rfl)) (op_value (bool_run rfl (C.on (j := 5) (by kernel_rfl) rfl rfl) (rl_cell (HQ3.out w C.below).rl 5 rfl)) rfl)
                · intro a w C
                  exact part_on (wanted_on (j := 4) rfl rfl rfl (C.on (j := 4) (by kernel_rfl) rfl rfl)) (op_value (not_run rfl (C.on (j := 6) (by kernel_rfl) rfl rfl)) rfl)
                · intro a w C
                  exact part_on (wanted_free rfl _) (op_pick (k := true) rfl (C.on (j := 4) (by kernel_rfl) rfl rfl) (C.on (j := 7) (by kernel_rfl) rfl rfl))
                · intro a w C
                  exact part_on (wanted_free rfl _) (op_bin rfl (C.on (j := 1) (by kernel_rfl) rfl rfl) (C.on (j := 8) (by kernel_rfl) rfl rfl) rfl (by simp [go_sem]) rfl)
                · intro a w C
                  exact part_on (wanted_free rfl _) (op_move (.inl rfl) (C.on (j := 9) (by kernel_rfl) rfl rfl))
                · intro a w C
                  exact part_on (wanted_on (j := 10) rfl rfl rfl (C.on (j := 10) (by kernel_rfl) rfl rfl)) (op_move (.inl rfl) (C.was 13 (by kernel_rfl)))
                · intro a w C
                  exact part_on (wanted_on (j := 10) rfl rfl rfl (C.on (j := 10) (by kernel_rfl) rfl rfl)) (op_call1 rfl (reg_enters Tryz.func17 (by kernel_rfl) (by kernel_rfl)) (C.on (j := 11) (by kernel_rfl) rfl rfl) (calls_same (done_at (HQ3.out w C.below).ln)))
                · intro a w C
                  exact part_on (wanted_on (j := 10) rfl rfl rfl (C.on (j := 10) (by kernel_rfl) rfl rfl)) (op_value (rlf_run (k := 5) rfl (by decide) (C.was 17 (by kernel_rfl))) rfl)
                · intro a w C
                  exact part_on (wanted_on (j := 10) rfl rfl rfl (C.on (j := 10) (by kernel_rfl) rfl rfl)) (op_value (bool_run rfl (C.on (j := 13) (by kernel_rfl) rfl rfl) (rl_cell (HQ3.out w C.below).rl 5 rfl)) rfl)
                · intro a w C
                  exact part_on (wanted_on (j := 10) rfl rfl rfl (C.on (j := 10) (by kernel_rfl) rfl rfl)) (op_bin rfl (C.on (j := 12) (by kernel_rfl) rfl rfl) (C.on (j := 14) (by kernel_rfl) rfl rfl) rfl (by simp [go_sem]) rfl)
                · intro a w C
                  exact part_on (wanted_free rfl _) (op_pick (k := false) rfl (C.on (j := 10) (by kernel_rfl) rfl rfl) (C.on (j := 15) (by kernel_rfl) rfl rfl))
                · intro a w C
                  exact part_on (wanted_free rfl _) (op_move (.inl rfl) (C.on (j := 16) (by kernel_rfl) rfl rfl))
                · intro a w C
                  exact part_on (wanted_on (j := 17) rfl rfl rfl (C.on (j := 17) (by kernel_rfl) rfl rfl)) (op_move (.inl rfl) (C.was 13 (by kernel_rfl)))
                · intro a w C
                  exact part_on (wanted_on (j := 17) rfl rfl rfl (C.on (j := 17) (by kernel_rfl) rfl rfl)) (op_call1 rfl (reg_enters Tryz.func8 (by kernel_rfl) (by kernel_rfl)) (C.on (j := 18) (by kernel_rfl) rfl rfl) (calls_same (number_at (HQ3.out w C.below).ln)))
                · intro a w C
                  exact part_on (wanted_on (j := 17) rfl rfl rfl (C.on (j := 17) (by kernel_rfl) rfl rfl)) (op_move (.inl rfl) (C.was 2 (by kernel_rfl)))
                · intro a w C
                  exact part_on (wanted_on (j := 17) rfl rfl rfl (C.on (j := 17) (by kernel_rfl) rfl rfl)) (op_bin rfl (C.on (j := 19) (by kernel_rfl) rfl rfl) (C.on (j := 20) (by kernel_rfl) rfl rfl) rfl (by simp [go_sem]) rfl)
                · intro a w C
                  exact part_on (wanted_free rfl _) (op_pick (k := false) rfl (C.on (j := 17) (by kernel_rfl) rfl rfl) (C.on (j := 21) (by kernel_rfl) rfl rfl))
                rintro w12 hb12 _ rfl _ rfl _ rfl _ rfl _ rfl _ rfl _ rfl _ rfl _ rfl _ rfl _ rfl _ rfl _ rfl _ rfl _ rfl _ rfl _ rfl _ rfl _ rfl _ rfl _ rfl _ rfl _ rfl
                simp only [Fin, setAt, Exit.then, List.setIfInBounds_toArray, List.set_cons_succ, List.set_cons_zero]
                have H12 := Lib.hid (H11.out.on hb12)
                clear hb12 HQ3 H11
                go_wp2
                go_roundw
                case rel => exact ⟨j + 1, (.gate p s), x, (L), by omega, rfl, by go_num, H12, (Lib.hid ⟨hp, hs⟩), (Lib.hid fun _ _ _ _ e => by cases e)⟩
                case measure => simp [intOf]; omega
        | gate p s =>
          have CS := Lib.hid (pr_wait HL.out)
          clear HL
          go_wp2_with fail
          clear y0
          refine CS.out.mono ?_
          rintro e w7 ⟨rfl, h7⟩
          obtain ⟨w8, e8⟩ : ∃ w8, w8 = w7.alloc (.cells (evc 0 0 0 0 0 0 0 0) 32) := ⟨_, rfl⟩
          have b8 : Below w7.heap.size w7 w8 := by rw [e8]; exact one_box _ _
          have hE8 : RowAt w8 w7.heap.size 32 (evc 0 0 0 0 0 0 0 0) := by rw [e8]; exact RowAt.new _ _ _
          have h8 := h7.on b8
          have CR : Hid (Calls Tryz.prog 16 #[spv al t l m b c g z, V, .int .i64 (k : Int), rlv p s g false true false] w8 fun e w' => e = .returned (.tuple #[V, rlv p s g false true false, .int .i64 0, .int .i64 16]) ∧ Lw W w' q pc h G al t l m b c g z k bl x N T15 T17 V gs (L) (L) (.gate p s) (rlc p s g false true false) ∧ RowAt w' w7.heap.size 32 (evc 0 0 0 0 0 0 0 0)) := Lib.hid (rstep_wait.mono fun _ _ ⟨e, hb⟩ => ⟨e, h8.on hb, RowAt.step hE8 hb⟩)
          have H8 := Lib.hid h8
          have E8 := Lib.hid e8
          clear CS h7 e8 b8 hE8 h8
          go_upto_region 25 with fail
          rw [← E8.out]
          clear E8
          generalize w7.heap.size = T20 at *
          go_wp2_with (first
            | refine wpList_load_want rfl 48 _ rfl _ _ rfl (rsp_loadN H8.out.sh) ?_
            | refine wpList_load_want rfl 57 _ rfl _ _ rfl (rl_load H8.out.rl) ?_)
          refine CR.out.mono ?_
          rintro e w9 ⟨rfl, h9, hE9⟩
          obtain ⟨w10, e10⟩ : ∃ w10, w10 = w9.alloc (.cells (rlc p s g false true false) 57) := ⟨_, rfl⟩
          have b10 : Below w9.heap.size w9 w10 := by rw [e10]; exact one_box _ _
          have hX10 : RowAt w10 w9.heap.size 57 (rlc p s g false true false) := by rw [e10]; exact RowAt.new _ _ _
          have hX17 : w9.heap.size ≠ T17 := by have := RowAt.lt h9.rl; omega
          have h10 := h9.on b10
          have hE10 := RowAt.step hE9 b10
          have H10 := Lib.hid h10
          have HE10 := Lib.hid hE10
          have HX10 := Lib.hid hX10
          have HX17 := Lib.hid hX17
          have E10 := Lib.hid e10
          have k0 := ev_kind hE10
          have k1 := ev_lane hE10
          clear CR h9 hE9 e10 b10 hX10 h10 hE10 hX17 H8
          go_upto_region 26 with fail
          rw [← E10.out]
          clear E10
          generalize w9.heap.size = T23 at *
          go_upto_region 32 with fail
          clear k0 k1
          have HQ32 : Hid (∀ u, Kept (fun j => j = T17) w10 u → RowAt u T23 57 (rlc p s g false true false)) := Lib.hid fun u hu => RowAt.kept HX10.out hu HX17.out
          have HQ17 : Hid (∀ u, Below w10.heap.size w10 u → RowAt u T17 57 (rlc p s g false true false)) := Lib.hid fun u hu => RowAt.step H10.out.rl hu
          refine wp_region_stageK (fun j => j = T17) [3] [] [[0], [0], [0], []] [[Is V, Is (rlv p s g false true false), Is V, Free], [Is V, RlIs T17 (rlc p s g false true false) (rlv p s g false true false), Is V, Free]] [Is V, RlIs T17 (rlc p s g false true false) (rlv p s g false true false), Is V, Free] (by kernel_rfl) (by kernel_rfl) rfl rfl ⟨⟨stable_is _, stable_is _, stable_is _, stable_free, trivial⟩, ⟨stable_is _, stable_rlis _ _ _, stable_is _, stable_free, trivial⟩, trivial⟩ (by intro n hn o ho hd w; simp only [List.mem_cons, List.not_mem_nil, or_false] at hn; subst hn; first | trivial | (cases ho; cases hd)) rfl ⟨?p0, ?p1, ?p2, fun h => absurd (by simp) h, trivial⟩ ⟨?t0, trivial⟩ (by decide) ?fin
          case p0 =>
            intro _ k hk; obtain rfl := List.mem_singleton.1 hk; intro a w C Z
            exact partS_on (wanted_free rfl _) (op_move (.inl rfl) (C.was 22 (by kernel_rfl)))
          case p1 =>
            intro _ k hk; obtain rfl := List.mem_singleton.1 hk; intro a w C Z
            exact partS_on (wanted_free rfl _) (op_value (load_run rfl (C.was 23 (by kernel_rfl)) (rl_load (HQ32.out w Z))) rfl)
          case p2 =>
            intro _ k hk; obtain rfl := List.mem_singleton.1 hk; intro a w C Z
            exact partS_on (wanted_free rfl _) (op_move (.inr rfl) (C.on (j := 0) (by kernel_rfl) rfl rfl))
          case t0 =>
            intro o ho a w C A
            cases ho
            have hr := HQ17.out w C.below
            refine ⟨wanted_free rfl _, stage_storeK rfl (C.was 17 (by kernel_rfl)) (C.on (j := 1) (by kernel_rfl) rfl rfl) (rl_store hr) trivial ((Kept.of_below (M := fun j => j = T17) C.below).trans (kept_row _ _ _) fun _ _ h => h) (Nat.le_of_eq (setRow_size _ _ _).symm) ?_⟩
            · intro i o2 d hi hd hne hnw h
              have hil := (List.getElem?_eq_some_iff.1 hi).1
              replace hil : i < 4 := hil
              obtain rfl | rfl | rfl | rfl : i = 0 ∨ i = 1 ∨ i = 2 ∨ i = 3 := by omega
              · exact h
              · exact ⟨h, RowAt.setRow hr _⟩
              · exact h
              · exact absurd rfl hne
          case fin =>
            rintro w11 hb11 v0 hv0 _ ⟨rfl, hr11⟩ v2 hv2 _ _
            simp only [Fin, setAt, Exit.then, List.setIfInBounds_toArray, List.set_cons_succ, List.set_cons_zero]
            obtain rfl : V = v0 := Eq.symm hv0
            obtain rfl : V = v2 := Eq.symm hv2
            have H11 := Lib.hid (H10.out.set HF.out hb11 hr11)
            clear hb11 hr11 HQ32 HQ17 H10 HE10 HX10 HX17
            have HQ3 : Hid (∀ u, Below w11.heap.size w11 u → Lw W u q pc h G al t l m b c g z k bl x N T15 T17 V gs (L) (L) (.gate p s) (rlc p s g false true false)) := Lib.hid fun u hu => H11.out.on hu
            go_upto_region 33 with fail
            refine wp_region_text [Is (.pointer (some ⟨bl, 0, none⟩)), Is (.bool true), Is (.pointer (some ⟨T17, 4, none⟩)), Is (.bool true), Is (.bool true), Is (.pointer (some ⟨T17, 5, none⟩)), Is (.bool false), Is (.bool true), Is (.bool true), Is (.bool false), Is (.bool false), Is (.pointer (some ⟨bl, 0, none⟩)), Is (.bool false), Is (.pointer (some ⟨T17, 5, none⟩)), Is (.bool false), Is (.bool false), Is (.bool false), Is (.bool false), Is (.pointer (some ⟨bl, 0, none⟩)), Is (.int .i64 (k : Int)), Is (.int .i64 (k : Int)), Is (.bool false), Is (.bool false)] (by kernel_rfl) (by kernel_rfl) rfl ⟨stable_is _, stable_is _, stable_is _, stable_is _, stable_is _, stable_is _, stable_is _, stable_is _, stable_is _, stable_is _, stable_is _, stable_is _, stable_is _, stable_is _, stable_is _, stable_is _, stable_is _, stable_is _, stable_is _, stable_is _, stable_is _, stable_is _, stable_is _, trivial⟩ ⟨?_, ?_, ?_, ?_, ?_, ?_, ?_, ?_, ?_, ?_, ?_, ?_, ?_, ?_, ?_, ?_, ?_, ?_, ?_, ?_, ?_, ?_, ?_, trivial⟩ ?_
            · intro a w C
              exact part_on (wanted_free rfl _) (op_move (.inl rfl) (C.was 13 (by kernel_rfl)))
            · intro a w C
              exact part_on (wanted_free rfl _) (op_call1 rfl (reg_enters Tryz.func7 (by kernel_rfl) (by kernel_rfl)) (C.on (j := 0) (by kernel_rfl) rfl rfl) (calls_same (waits_at (HQ3.out w C.below).ln)))
            · intro a w C
              exact part_on (wanted_free rfl _) (op_value (rlf_run (k := 4) rfl (by decide) (C.was 17 (by kernel_rfl))) rfl)
            · intro a w C
              exact part_on (wanted_free rfl _) (op_value (bool_run rfl (C.on (j := 2) (by kernel_rfl) rfl rfl) (rl_cell (HQ3.out w C.below).rl 4 rfl)) rfl)
            · intro a w C
              exact part_on (wanted_free rfl _) (op_move (.inl rfl) (C.on (j := 3) (by kernel_rfl) rfl rfl))
            · intro a w C
              exact part_on (wanted_on (j := 4) rfl rfl rfl (C.on (j := 4) (by kernel_rfl) rfl rfl)) (op_value (rlf_run (k := 5) rfl (by decide) (C.was 17 (by kernel_rfl))) rfl)
            · intro a w C
              exact part_on (wanted_on (j := 4) rfl rfl rfl (C.on (j := 4) (by kernel_rfl) rfl rfl)) (op_value (bool_run rfl (C.on (j := 5) (by kernel_rfl) rfl rfl) (rl_cell (HQ3.out w C.below).rl 5 rfl)) rfl)
            · intro a w C
              exact part_on (wanted_on (j := 4) rfl rfl rfl (C.on (j := 4) (by kernel_rfl) rfl rfl)) (op_value (not_run rfl (C.on (j := 6) (by kernel_rfl) rfl rfl)) rfl)
            · intro a w C
              exact part_on (wanted_free rfl _) (op_pick (k := true) rfl (C.on (j := 4) (by kernel_rfl) rfl rfl) (C.on (j := 7) (by kernel_rfl) rfl rfl))
            · intro a w C
              exact part_on (wanted_free rfl _) (op_bin rfl (C.on (j := 1) (by kernel_rfl) rfl rfl) (C.on (j := 8) (by kernel_rfl) rfl rfl) rfl (by simp [go_sem]) rfl)
            · intro a w C
              exact part_on (wanted_free rfl _) (op_move (.inl rfl) (C.on (j := 9) (by kernel_rfl) rfl rfl))
            · intro a w C
              exact part_on (wanted_on (j := 10) rfl rfl rfl (C.on (j := 10) (by kernel_rfl) rfl rfl)) (op_move (.inl rfl) (C.was 13 (by kernel_rfl)))
            · intro a w C
              exact part_on (wanted_on (j := 10) rfl rfl rfl (C.on (j := 10) (by kernel_rfl) rfl rfl)) (op_call1 rfl (reg_enters Tryz.func17 (by kernel_rfl) (by kernel_rfl)) (C.on (j := 11) (by kernel_rfl) rfl rfl) (calls_same (done_at (HQ3.out w C.below).ln)))
            · intro a w C
              exact part_on (wanted_on (j := 10) rfl rfl rfl (C.on (j := 10) (by kernel_rfl) rfl rfl)) (op_value (rlf_run (k := 5) rfl (by decide) (C.was 17 (by kernel_rfl))) rfl)
            · intro a w C
              exact part_on (wanted_on (j := 10) rfl rfl rfl (C.on (j := 10) (by kernel_rfl) rfl rfl)) (op_value (bool_run rfl (C.on (j := 13) (by kernel_rfl) rfl rfl) (rl_cell (HQ3.out w C.below).rl 5 rfl)) rfl)
            · intro a w C
              exact part_on (wanted_on (j := 10) rfl rfl rfl (C.on (j := 10) (by kernel_rfl) rfl rfl)) (op_bin rfl (C.on (j := 12) (by kernel_rfl) rfl rfl) (C.on (j := 14) (by kernel_rfl) rfl rfl) rfl (by simp [go_sem]) rfl)
            · intro a w C
              exact part_on (wanted_free rfl _) (op_pick (k := false) rfl (C.on (j := 10) (by kernel_rfl) rfl rfl) (C.on (j := 15) (by kernel_rfl) rfl rfl))
            · intro a w C
              exact part_on (wanted_free rfl _) (op_move (.inl rfl) (C.on (j := 16) (by kernel_rfl) rfl rfl))
            · intro a w C
              exact part_on (wanted_on (j := 17) rfl rfl rfl (C.on (j := 17) (by kernel_rfl) rfl rfl)) (op_move (.inl rfl) (C.was 13 (by kernel_rfl)))
            · intro a w C
              exact part_on (wanted_on (j := 17) rfl rfl rfl (C.on (j := 17) (by kernel_rfl) rfl rfl)) (op_call1 rfl (reg_enters Tryz.func8 (by kernel_rfl) (by kernel_rfl)) (C.on (j := 18) (by kernel_rfl) rfl rfl) (calls_same (number_at (HQ3.out w C.below).ln)))
            · intro a w C
              exact part_on (wanted_on (j := 17) rfl rfl rfl (C.on (j := 17) (by kernel_rfl) rfl rfl)) (op_move (.inl rfl) (C.was 2 (by kernel_rfl)))
            · intro a w C
              exact part_on (wanted_on (j := 17) rfl rfl rfl (C.on (j := 17) (by kernel_rfl) rfl rfl)) (op_bin rfl (C.on (j := 19) (by kernel_rfl) rfl rfl) (C.on (j := 20) (by kernel_rfl) rfl rfl) rfl (by simp [go_sem]) rfl)
            · intro a w C
              exact part_on (wanted_free rfl _) (op_pick (k := false) rfl (C.on (j := 17) (by kernel_rfl) rfl rfl) (C.on (j := 21) (by kernel_rfl) rfl rfl))
            rintro w12 hb12 _ rfl _ rfl _ rfl _ rfl _ rfl _ rfl _ rfl _ rfl _ rfl _ rfl _ rfl _ rfl _ rfl _ rfl _ rfl _ rfl _ rfl _ rfl _ rfl _ rfl _ rfl _ rfl _ rfl
            simp only [Fin, setAt, Exit.then, List.setIfInBounds_toArray, List.set_cons_succ, List.set_cons_zero]
            have H12 := Lib.hid (H11.out.on hb12)
            clear hb12 HQ3 H11
            go_wp2
            go_roundw
            case rel => exact ⟨j + 1, (.gate p s), x, (L), by omega, rfl, by go_num, H12, HO, HD⟩
            case measure => simp [intOf]; omega
        | done p s =>
          have CS := Lib.hid (pr_late HL.out)
          clear HL
          go_wp2_with fail
          clear y0
          refine CS.out.mono ?_
          rintro e w7 ⟨rfl, h7⟩
          obtain ⟨w8, e8⟩ : ∃ w8, w8 = w7.alloc (.cells (evc 0 0 0 0 0 0 0 0) 32) := ⟨_, rfl⟩
          have b8 : Below w7.heap.size w7 w8 := by rw [e8]; exact one_box _ _
          have hE8 : RowAt w8 w7.heap.size 32 (evc 0 0 0 0 0 0 0 0) := by rw [e8]; exact RowAt.new _ _ _
          have h8 := h7.on b8
          have CR : Hid (Calls Tryz.prog 16 #[spv al t l m b c g z, V, .int .i64 (k : Int), rlv p s g false true true] w8 fun e w' => e = .returned (.tuple #[V, rlv p s g false true true, .int .i64 0, .int .i64 12]) ∧ Lw W w' q pc h G al t l m b c g z k bl x N T15 T17 V gs (L) (L) (.done p s) (rlc p s g false true true) ∧ RowAt w' w7.heap.size 32 (evc 0 0 0 0 0 0 0 0)) := Lib.hid (rstep_late.mono fun _ _ ⟨e, hb⟩ => ⟨e, h8.on hb, RowAt.step hE8 hb⟩)
          have H8 := Lib.hid h8
          have E8 := Lib.hid e8
          clear CS h7 e8 b8 hE8 h8
          go_upto_region 25 with fail
          rw [← E8.out]
          clear E8
          generalize w7.heap.size = T20 at *
          go_wp2_with (first
            | refine wpList_load_want rfl 48 _ rfl _ _ rfl (rsp_loadN H8.out.sh) ?_
            | refine wpList_load_want rfl 57 _ rfl _ _ rfl (rl_load H8.out.rl) ?_)
          refine CR.out.mono ?_
          rintro e w9 ⟨rfl, h9, hE9⟩
          obtain ⟨w10, e10⟩ : ∃ w10, w10 = w9.alloc (.cells (rlc p s g false true true) 57) := ⟨_, rfl⟩
          have b10 : Below w9.heap.size w9 w10 := by rw [e10]; exact one_box _ _
          have hX10 : RowAt w10 w9.heap.size 57 (rlc p s g false true true) := by rw [e10]; exact RowAt.new _ _ _
          have hX17 : w9.heap.size ≠ T17 := by have := RowAt.lt h9.rl; omega
          have h10 := h9.on b10
          have hE10 := RowAt.step hE9 b10
          have H10 := Lib.hid h10
          have HE10 := Lib.hid hE10
          have HX10 := Lib.hid hX10
          have HX17 := Lib.hid hX17
          have E10 := Lib.hid e10
          have k0 := ev_kind hE10
          have k1 := ev_lane hE10
          clear CR h9 hE9 e10 b10 hX10 h10 hE10 hX17 H8
          go_upto_region 26 with fail
          rw [← E10.out]
          clear E10
          generalize w9.heap.size = T23 at *
          go_upto_region 32 with fail
          clear k0 k1
          have HQ32 : Hid (∀ u, Kept (fun j => j = T17) w10 u → RowAt u T23 57 (rlc p s g false true true)) := Lib.hid fun u hu => RowAt.kept HX10.out hu HX17.out
          have HQ17 : Hid (∀ u, Below w10.heap.size w10 u → RowAt u T17 57 (rlc p s g false true true)) := Lib.hid fun u hu => RowAt.step H10.out.rl hu
          refine wp_region_stageK (fun j => j = T17) [3] [] [[0], [0], [0], []] [[Is V, Is (rlv p s g false true true), Is V, Free], [Is V, RlIs T17 (rlc p s g false true true) (rlv p s g false true true), Is V, Free]] [Is V, RlIs T17 (rlc p s g false true true) (rlv p s g false true true), Is V, Free] (by kernel_rfl) (by kernel_rfl) rfl rfl ⟨⟨stable_is _, stable_is _, stable_is _, stable_free, trivial⟩, ⟨stable_is _, stable_rlis _ _ _, stable_is _, stable_free, trivial⟩, trivial⟩ (by intro n hn o ho hd w; simp only [List.mem_cons, List.not_mem_nil, or_false] at hn; subst hn; first | trivial | (cases ho; cases hd)) rfl ⟨?p0, ?p1, ?p2, fun h => absurd (by simp) h, trivial⟩ ⟨?t0, trivial⟩ (by decide) ?fin
          case p0 =>
            intro _ k hk; obtain rfl := List.mem_singleton.1 hk; intro a w C Z
            exact partS_on (wanted_free rfl _) (op_move (.inl rfl) (C.was 22 (by kernel_rfl)))
          case p1 =>
            intro _ k hk; obtain rfl := List.mem_singleton.1 hk; intro a w C Z
            exact partS_on (wanted_free rfl _) (op_value (load_run rfl (C.was 23 (by kernel_rfl)) (rl_load (HQ32.out w Z))) rfl)
          case p2 =>
            intro _ k hk; obtain rfl := List.mem_singleton.1 hk; intro a w C Z
            exact partS_on (wanted_free rfl _) (op_move (.inr rfl) (C.on (j := 0) (by kernel_rfl) rfl rfl))
          case t0 =>
            intro o ho a w C A
            cases ho
            have hr := HQ17.out w C.below
            refine ⟨wanted_free rfl _, stage_storeK rfl (C.was 17 (by kernel_rfl)) (C.on (j := 1) (by kernel_rfl) rfl rfl) (rl_store hr) trivial ((Kept.of_below (M := fun j => j = T17) C.below).trans (kept_row _ _ _) fun _ _ h => h) (Nat.le_of_eq (setRow_size _ _ _).symm) ?_⟩
            · intro i o2 d hi hd hne hnw h
              have hil := (List.getElem?_eq_some_iff.1 hi).1
              replace hil : i < 4 := hil
              obtain rfl | rfl | rfl | rfl : i = 0 ∨ i = 1 ∨ i = 2 ∨ i = 3 := by omega
              · exact h
              · exact ⟨h, RowAt.setRow hr _⟩
              · exact h
              · exact absurd rfl hne
          case fin =>
            rintro w11 hb11 v0 hv0 _ ⟨rfl, hr11⟩ v2 hv2 _ _
            simp only [Fin, setAt, Exit.then, List.setIfInBounds_toArray, List.set_cons_succ, List.set_cons_zero]
            obtain rfl : V = v0 := Eq.symm hv0
            obtain rfl : V = v2 := Eq.symm hv2
            have H11 := Lib.hid (H10.out.set HF.out hb11 hr11)
            clear hb11 hr11 HQ32 HQ17 H10 HE10 HX10 HX17
            have HQ3 : Hid (∀ u, Below w11.heap.size w11 u → Lw W u q pc h G al t l m b c g z k bl x N T15 T17 V gs (L) (L) (.done p s) (rlc p s g false true true)) := Lib.hid fun u hu => H11.out.on hu
            go_upto_region 33 with fail
            refine wp_region_text [Is (.pointer (some ⟨bl, 0, none⟩)), Is (.bool false), Is (.pointer (some ⟨T17, 4, none⟩)), Is (.bool true), Is (.bool true), Is (.pointer (some ⟨T17, 5, none⟩)), Is (.bool true), Is (.bool false), Is (.bool false), Is (.bool false), Is (.bool false), Is (.pointer (some ⟨bl, 0, none⟩)), Is (.bool true), Is (.pointer (some ⟨T17, 5, none⟩)), Is (.bool true), Is (.bool false), Is (.bool false), Is (.bool false), Is (.pointer (some ⟨bl, 0, none⟩)), Is (.int .i64 (k : Int)), Is (.int .i64 (k : Int)), Is (.bool false), Is (.bool false)] (by kernel_rfl) (by kernel_rfl) rfl ⟨stable_is _, stable_is _, stable_is _, stable_is _, stable_is _, stable_is _, stable_is _, stable_is _, stable_is _, stable_is _, stable_is _, stable_is _, stable_is _, stable_is _, stable_is _, stable_is _, stable_is _, stable_is _, stable_is _, stable_is _, stable_is _, stable_is _, stable_is _, trivial⟩ ⟨?_, ?_, ?_, ?_, ?_, ?_, ?_, ?_, ?_, ?_, ?_, ?_, ?_, ?_, ?_, ?_, ?_, ?_, ?_, ?_, ?_, ?_, ?_, trivial⟩ ?_
            · intro a w C
              exact part_on (wanted_free rfl _) (op_move (.inl rfl) (C.was 13 (by kernel_rfl)))
            · intro a w C
              exact part_on (wanted_free rfl _) (op_call1 rfl (reg_enters Tryz.func7 (by kernel_rfl) (by kernel_rfl)) (C.on (j := 0) (by kernel_rfl) rfl rfl) (calls_same (waits_at (HQ3.out w C.below).ln)))
            · intro a w C
              exact part_on (wanted_free rfl _) (op_value (rlf_run (k := 4) rfl (by decide) (C.was 17 (by kernel_rfl))) rfl)
            · intro a w C
              exact part_on (wanted_free rfl _) (op_value (bool_run rfl (C.on (j := 2) (by kernel_rfl) rfl rfl) (rl_cell (HQ3.out w C.below).rl 4 rfl)) rfl)
            · intro a w C
              exact part_on (wanted_free rfl _) (op_move (.inl rfl) (C.on (j := 3) (by kernel_rfl) rfl rfl))
            · intro a w C
              exact part_on (wanted_on (j := 4) rfl rfl rfl (C.on (j := 4) (by kernel_rfl) rfl rfl)) (op_value (rlf_run (k := 5) rfl (by decide) (C.was 17 (by kernel_rfl))) rfl)
            · intro a w C
              exact part_on (wanted_on (j := 4) rfl rfl rfl (C.on (j := 4) (by kernel_rfl) rfl rfl)) (op_value (bool_run rfl (C.on (j := 5) (by kernel_rfl) rfl rfl) (rl_cell (HQ3.out w C.below).rl 5 rfl)) rfl)
            · intro a w C
              exact part_on (wanted_on (j := 4) rfl rfl rfl (C.on (j := 4) (by kernel_rfl) rfl rfl)) (op_value (not_run rfl (C.on (j := 6) (by kernel_rfl) rfl rfl)) rfl)
            · intro a w C
              exact part_on (wanted_free rfl _) (op_pick (k := true) rfl (C.on (j := 4) (by kernel_rfl) rfl rfl) (C.on (j := 7) (by kernel_rfl) rfl rfl))
            · intro a w C
              exact part_on (wanted_free rfl _) (op_bin rfl (C.on (j := 1) (by kernel_rfl) rfl rfl) (C.on (j := 8) (by kernel_rfl) rfl rfl) rfl (by simp [go_sem]) rfl)
            · intro a w C
              exact part_on (wanted_free rfl _) (op_move (.inl rfl) (C.on (j := 9) (by kernel_rfl) rfl rfl))
            · intro a w C
              exact part_on (wanted_on (j := 10) rfl rfl rfl (C.on (j := 10) (by kernel_rfl) rfl rfl)) (op_move (.inl rfl) (C.was 13 (by kernel_rfl)))
            · intro a w C
              exact part_on (wanted_on (j := 10) rfl rfl rfl (C.on (j := 10) (by kernel_rfl) rfl rfl)) (op_call1 rfl (reg_enters Tryz.func17 (by kernel_rfl) (by kernel_rfl)) (C.on (j := 11) (by kernel_rfl) rfl rfl) (calls_same (done_at (HQ3.out w C.below).ln)))
            · intro a w C
              exact part_on (wanted_on (j := 10) rfl rfl rfl (C.on (j := 10) (by kernel_rfl) rfl rfl)) (op_value (rlf_run (k := 5) rfl (by decide) (C.was 17 (by kernel_rfl))) rfl)
            · intro a w C
              exact part_on (wanted_on (j := 10) rfl rfl rfl (C.on (j := 10) (by kernel_rfl) rfl rfl)) (op_value (bool_run rfl (C.on (j := 13) (by kernel_rfl) rfl rfl) (rl_cell (HQ3.out w C.below).rl 5 rfl)) rfl)
            · intro a w C
              exact part_on (wanted_on (j := 10) rfl rfl rfl (C.on (j := 10) (by kernel_rfl) rfl rfl)) (op_bin rfl (C.on (j := 12) (by kernel_rfl) rfl rfl) (C.on (j := 14) (by kernel_rfl) rfl rfl) rfl (by simp [go_sem]) rfl)
            · intro a w C
              exact part_on (wanted_free rfl _) (op_pick (k := false) rfl (C.on (j := 10) (by kernel_rfl) rfl rfl) (C.on (j := 15) (by kernel_rfl) rfl rfl))
            · intro a w C
              exact part_on (wanted_free rfl _) (op_move (.inl rfl) (C.on (j := 16) (by kernel_rfl) rfl rfl))
            · intro a w C
              exact part_on (wanted_on (j := 17) rfl rfl rfl (C.on (j := 17) (by kernel_rfl) rfl rfl)) (op_move (.inl rfl) (C.was 13 (by kernel_rfl)))
            · intro a w C
              exact part_on (wanted_on (j := 17) rfl rfl rfl (C.on (j := 17) (by kernel_rfl) rfl rfl)) (op_call1 rfl (reg_enters Tryz.func8 (by kernel_rfl) (by kernel_rfl)) (C.on (j := 18) (by kernel_rfl) rfl rfl) (calls_same (number_at (HQ3.out w C.below).ln)))
            · intro a w C
              exact part_on (wanted_on (j := 17) rfl rfl rfl (C.on (j := 17) (by kernel_rfl) rfl rfl)) (op_move (.inl rfl) (C.was 2 (by kernel_rfl)))
            · intro a w C
              exact part_on (wanted_on (j := 17) rfl rfl rfl (C.on (j := 17) (by kernel_rfl) rfl rfl)) (op_bin rfl (C.on (j := 19) (by kernel_rfl) rfl rfl) (C.on (j := 20) (by kernel_rfl) rfl rfl) rfl (by simp [go_sem]) rfl)
            · intro a w C
              exact part_on (wanted_free rfl _) (op_pick (k := false) rfl (C.on (j := 17) (by kernel_rfl) rfl rfl) (C.on (j := 21) (by kernel_rfl) rfl rfl))
            rintro w12 hb12 _ rfl _ rfl _ rfl _ rfl _ rfl _ rfl _ rfl _ rfl _ rfl _ rfl _ rfl _ rfl _ rfl _ rfl _ rfl _ rfl _ rfl _ rfl _ rfl _ rfl _ rfl _ rfl _ rfl
            simp only [Fin, setAt, Exit.then, List.setIfInBounds_toArray, List.set_cons_succ, List.set_cons_zero]
            have H12 := Lib.hid (H11.out.on hb12)
            clear hb12 HQ3 H11
            go_wp2
            go_roundw
            case rel => exact ⟨j + 1, (.done p s), x, (L), by omega, rfl, by go_num, H12, HO, HD⟩
            case measure => simp [intOf]; omega
    · obtain rfl : j = bs.length := by omega
      have d8 : decide ((bs.length : Int) < (bs.length : Int)) = false := by simp
      have hcl : l * c ≤ 4000 := Nat.le_trans (Nat.mul_le_mul hl4 hcm) (by decide)
      have HC := Lib.hid (all_any HL.out.gr hl0 (by omega) (by omega) HL.out.len (by rw [HL.out.len]; omega))
      go_wp2_with fail
      refine HC.out.mono ?_
      rintro e w9 ⟨v9, gs9, rfl, hd9, hgl9, hb9⟩
      have HB9 := Lib.hid (below_step HL.out.below hb9)
      have HC2 := Lib.hid (same_any hd9 (HL.out.doc.step hb9) hgl9 HF.out.gl hl0 (by omega) (by omega))
      clear hd9 hb9 HC
      go_wp2_with fail
      refine HC2.out.mono ?_
      rintro e w10 ⟨rfl, hb10⟩
      have HB10 := Lib.hid (below_step HB9.out hb10)
      clear hb10 HB9 HC2
      go_wp2
      go_ret
      exact ⟨rfl, HB10.out⟩
end Go.Proofs.YtfoodaobiknihaaGreatDoor

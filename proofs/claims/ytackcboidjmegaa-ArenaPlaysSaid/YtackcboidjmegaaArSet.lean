/- The law's set, by its contract, where there is no such block. Conditions: those typed. -/
import Derived.Test.YtackcboidjmegaaArSt
import Derived.Test.YtackcboidjmegaaArFew
import Derived.Test.YtackcboidjmegaaArOther
import Derived.Test.YtackcboidjmegaaArRrel
import Derived.Test.YtackcboidjmegaaArOps
import Derived.Deep.Cut
import Derived.Deep.CutRange
namespace Go.Proofs.Ytackcboidjmegaa
set_option maxRecDepth 50000
open Go.RowKit Bb

theorem bload_run {w : World} {b : Nat} {L : List Nat} {ev : Operand → Value} {x : Operand} {o : Oper} (hop : o.op = .load 60 x) (hx : ev x = .pointer (some ⟨b, 0, none⟩)) (hR : RowAt w b 60 (wq L)) (hz : (wq L).size = 128) : (execOp ev o).run Try.prog w = .ok (.value (.agg (wq L))) w := by
  have h := hR.loadAt (P := Try.prog) Try.underlying60 (by rw [hz]; exact b_size)
  simp only [execOp, hop, hx, Sem.run_bind, h, Result.andThen_ok, Sem.run_pure]
/-- the block that begins and ends with x -/
def wB (x : Nat) : List Nat := (zb.set 0 x).set 127 x
theorem wB_ok (x : Nat) (h : x < 18446744073709551616) : okb (wB x) := ok_set (ok_set zb_ok 0 x h) 127 x h
theorem wB_ne (x : Nat) (h : x ≠ 0) : wB x ≠ zb := fun e => by
  have h0 : (wB x).getD 0 0 = x := by simp [wB, zb]
  rw [e] at h0
  exact h (h0.symm.trans (by simp [zb]))
theorem wB_build (x : Nat) (w : World) : (Instr.build 60 #[(0, .int .u64 (x : Int)), (127, .int .u64 (x : Int))]).run Try.prog w = .ok (.agg (wq (wB x))) w := by
  have hu : (sizeOf 43).run Try.prog w = .ok 1 w := by kernel_rfl
  have hc : ∀ n : Int, (Value.int .u64 n).cells = #[.int .u64 n] := fun _ => rfl
  have hq : (Value.agg (wq zb)).cells = wq zb := rfl
  have hzz : (wq zb).size = 128 := by rw [wq_size]; exact zb_ok.1
  have hzz1 : (wq (zb.set 0 x)).size = 128 := by rw [wq_size, List.length_set]; exact zb_ok.1
  have hf : Instr.fill (fun i => some (i * 1, 1)) (wq zb) [(0, .int .u64 (x : Int)), (127, .int .u64 (x : Int))] = some (wq (wB x)) := by
    simp [Instr.fill, hc, hzz, wq_set, hzz1, wB]
  unfold Instr.build
  simp only [Sem.run_bind, zero_b, Result.andThen_ok, run_underlying Try.underlying60, hu, hq, hf, Sem.run_pure]
theorem wbuild_run (u : Nat) (w : World) (ev : Operand → Value) {x y : Operand} {o : Oper} (hop : o.op = .build 60 #[(0, x), (127, y)]) (hx : ev x = .int .u64 (u : Int)) (hy : ev y = .int .u64 (u : Int)) : (execOp ev o).run Try.prog w = .ok (.value (.agg (wq (wB u)))) w := by
  have e : #[((0 : Nat), x), (127, y)].map (fun p => (p.1, ev p.2)) = #[(0, .int .u64 (u : Int)), (127, .int .u64 (u : Int))] := by simp [hx, hy]
  simp only [execOp, hop]
  first
    | rw [e]; simp only [Sem.run_bind, wB_build, Result.andThen_ok, Sem.run_pure]
    | simp [hx, hy, wB_build]

theorem ptr_at {w : World} {N : Nat} {sv : Value} {ps : List Pc} (ho : w.ownsRow N 33 1 sv ps.length (ptrs ps)) (i : Nat) (hi : i < ps.length) :
    ∃ g c, sv = .slice (some ⟨g, 0, none⟩) ps.length c ∧ w.cell? ⟨g, i, none⟩ = some (.pointer (some ⟨ps[i].p, 0, none⟩)) ∧ g < w.heap.size := by
  obtain ⟨A, c, rfl, _⟩ := own_form ho
  obtain ⟨b, off, e, hb, hc⟩ := Reads.of_own ho i (by rw [ptrs_length]; exact hi)
  rcases ho.2 with ⟨_, h0⟩ | ⟨g, cap, cur, e2, _⟩
  · omega
  · injection e2 with e3 e4 e5
    rw [e3] at e
    injection e with e
    injection e with e6 e7
    subst e6
    subst e7
    refine ⟨_, c, by rw [e3], ?_, hb⟩
    rw [Nat.zero_add] at hc
    rw [hc]
    simp [ptrs]

/-- what set lays ahead: the document's arena, the act, the block -/
structure SeAt (w w3 : World) (B h : Nat) (mv : Value) (x : Ac) (L : List Nat) : Prop where
  rm : RowAt w3 w.heap.size 32 (mcells B mv h)
  rx : RowAt w3 (w.heap.size + 1) 45 (acell x).toArray
  rb : RowAt w3 (w.heap.size + 1 + 1) 60 (wq L)
  below : Below w.heap.size w w3
section
variable {w w3 w4 : World} {B h : Nat} {mv : Value} {x : Ac} {L L' : List Nat}
theorem SeAt.step (H : SeAt w w3 B h mv x L) (hb : Below w3.heap.size w3 w4) : SeAt w w4 B h mv x L := ⟨H.rm.step hb, H.rx.step hb, H.rb.step hb, H.below.trans (hb.mono H.below.size)⟩
theorem SeAt.at_ (H : SeAt w w3 B h mv x L) : w3.cell? ⟨w.heap.size + 1, 1, none⟩ = some (.int .i64 x.n) ∧ w3.cell? ⟨w.heap.size + 1, 2, none⟩ = some (.int .i64 x.k) ∧ w3.cell? ⟨w.heap.size + 1, 3, none⟩ = some (.int .u64 (x.w : Int)) ∧ w3.cell? ⟨w.heap.size, 1, none⟩ = some mv ∧ w.heap.size < w3.heap.size :=
  ⟨H.rx.cell 1, H.rx.cell 2, H.rx.cell 3, H.rm.cell 1, H.rm.lt⟩
theorem SeAt.new (w : World) (B h : Nat) (mv : Value) (x : Ac) (L : List Nat) :
    SeAt w ((((w.alloc (.cells (mcells B mv h) 32)).alloc (.cells (acell x).toArray 45)).alloc (.cells (wq zb) 60)).setRow (w.heap.size + 1 + 1) (wq L)) B h mv x L := by
  have hr := three_new w (.cells (mcells B mv h) 32) (.cells (acell x).toArray 45) (wq zb) 60
  refine ⟨?_, ?_, hr.setRow _, below_setRow ((((Below.refl _ w).alloc (Nat.le_refl _) _).alloc (by simp) _).alloc (by simp; omega) _) (by omega) _⟩
  · exact RowAt.setRowOther (((RowAt.new w _ _).alloc _).alloc _) _ (by omega) _
  · exact RowAt.setRowOther ((two_new w _ _ _).alloc _) _ (by omega) _
end

theorem got_row (w : World) (L : List Nat) : RowAt ((w.alloc (.cells (wq zb) 60)).setRow w.heap.size (wq L)) w.heap.size 60 (wq L) ∧ Below w.heap.size w ((w.alloc (.cells (wq zb) 60)).setRow w.heap.size (wq L)) :=
  ⟨(RowAt.new w _ _).setRow _, below_setRow ((Below.refl _ w).alloc (Nat.le_refl _) _) (Nat.le_refl _) _⟩
/-- what set leaves: the pieces' blocks alone may be turned -/
structure SetOf (W w w' : World) (a B h : Nat) (ps : List Pc) : Prop where
  ex : ∃ ps', Ar W w' a B h ps' ∧ ptrs ps' = ptrs ps ∧ pz ps' = pz ps
  size : w.heap.size ≤ w'.heap.size
  leaves : ∀ t, (t == 42) = false ∧ (t == 55) = false ∧ (t == 60) = false → Leaves w w' t
  below : Below W.heap.size w w'
theorem SetOf.same {W w w' : World} {a B h : Nat} {ps : List Pc} (H : Ar W w a B h ps) (hb : Below w.heap.size w w') (hW : W.heap.size ≤ w.heap.size) : SetOf W w w' a B h ps :=
  ⟨⟨ps, H.below hb, rfl, rfl⟩, hb.size, fun t _ => .below hb t, hb.mono hW⟩

set_option maxHeartbeats 3200000 in
theorem set_any {W w : World} {a B h : Nat} {sv mv : Value} {ps : List Pc} (H : Ar W w a B h ps) (hs : w.ownsRow W.heap.size 33 1 sv ps.length (ptrs ps)) (hm : OwnP w W.heap.size mv (pz ps)) (hW : W.heap.size ≤ w.heap.size) (x : Ac) (hw : x.w < 18446744073709551616) :
    Calls Try.prog 22 #[sv, .agg (mcells B mv h), .agg (acell x).toArray] w fun e w' => e = .returned (.bool true) ∧ SetOf W w w' a B h ps := by
  have HS := Lib.hid hs
  have HM := Lib.hid hm
  have HA := Lib.hid H
  obtain ⟨A, c, rfl, e0, _, _⟩ := own_form hs
  clear e0
  obtain ⟨A', c', rfl, _⟩ := hm.form
  have hz := zero_b
  have HOK := Lib.hid (wB_ok x.w hw)
  have HNE := Lib.hid (wB_ne x.w)
  have HSZ : Hid ((wq (wB x.w)).size = 128) := Lib.hid (by rw [wq_size]; exact HOK.out.1)
  obtain ⟨d, n, k, u⟩ := x
  dsimp only at *
  have HWB := Lib.hid (wbuild_run u)
  have H3 : Hid (RowAt (((w.alloc (.cells (mcells B (.slice A' (pz ps).length c') h) 32)).alloc (.cells (acell ⟨d, n, k, u⟩).toArray 45)).alloc (.cells (wq zb) 60)) (w.heap.size + 1 + 1) 60 (wq zb)) := Lib.hid (three_new w _ _ _ _)
  clear hs hm H
  generalize wB u = L at *
  unfold mcells acell at *
  go_enter Try.func22, Try.ntmps22
  go_upto_region 3 with (first
    | refine wpList_value_want rfl _ (HWB.out _ _ rfl rfl rfl) ?_
    | refine wpList_store_row rfl 60 (.tmp 8) (.tmp 17) rfl (w.heap.size + 1 + 1) (wq L) rfl rfl 60 _ H3.out (by rw [HSZ.out]; exact b_size) (by rw [HSZ.out, wq_size]; exact zb_ok.1) (wq_one _) ?_)
  have hS := SeAt.new w B h (.slice A' (pz ps).length c') ⟨d, n, k, u⟩ L
  unfold mcells acell at hS
  dsimp only at hS
  generalize World.setRow _ _ _ = w3 at *
  simp only [Act.put]
  obtain ⟨x1, x2, x3, xm, hlt⟩ := hS.at_
  dsimp only at x1 x2 x3
  have HW := Lib.hid hS
  clear hS HWB
  have hlw : (pz ps).length = ps.length := pz_length ps
  by_cases hx : n < 0 ∨ (ps.length : Int) ≤ n
  · have hh : decide (0 ≤ n) = false ∨ decide (0 ≤ n) = true ∧ decide (n < (ps.length : Int)) = false := by simp; omega
    have CS := Lib.hid (pset_nil k L w3)
    clear hx hlw
    rcases hh with d1 | ⟨d1, d2⟩
    all_goals
      go_wp2_with (refine wpList_value_want rfl _ (bload_run rfl rfl HW.out.rb HSZ.out) ?_)
      refine CS.out.mono ?_
      rintro e w4 ⟨rfl, hb4⟩
      have HW4 := Lib.hid (HW.out.step hb4)
      obtain ⟨y1, y2, y3, ym, hlt4⟩ := HW4.out.at_
      dsimp only at y1 y2 y3
      have CG := Lib.hid (get_nil k w4)
      clear CS hb4 x1 x2 x3 xm hlt
      go_wp2_with fail
      refine CG.out.mono ?_
      rintro e w5 ⟨rfl, hb5⟩
      have HW5 := Lib.hid (HW4.out.step hb5)
      have HN : Hid (RowAt (w5.alloc (.cells (wq zb) 60)) w5.heap.size 60 (wq zb)) := Lib.hid (RowAt.new _ _ _)
      clear CG hb5 y1 y2 y3 ym hlt4 HW4
      go_upto_region 7 with (refine wpList_store_row rfl 60 (.tmp 10) (.tmp 43) rfl w5.heap.size (wq zb) rfl rfl 60 _ HN.out b_size rfl (wq_one _) ?_)
      obtain ⟨hR6, hb6⟩ := got_row w5 zb
      generalize World.setRow _ _ _ = w6 at *
      try simp only [Act.put]
      have HR6 := Lib.hid hR6
      have HW6 := Lib.hid (HW5.out.step hb6)
      obtain ⟨y1, y2, y3, ym, hlt4⟩ := HW6.out.at_
      dsimp only at y1 y2 y3
      have HO := Lib.hid (SetOf.same HA.out HW6.out.below hW)
      have CA := Lib.hid (fun w => at_nil k w)
      clear HN HW5 hR6 hb6
      go_wp2
      go_quiet (fail)
      go_wp2_with (first
        | refine wpList_value_want rfl _ (bload_run rfl rfl (HR6.out.drewN _) (by rw [wq_size]; exact zb_ok.1)) ?_
        | refine wpList_value_want rfl _ (bbuild_run _ _ rfl) ?_
        | refine wpList_value_want rfl _ (beql_run _ zb_ok zb_ok (k := true) (decide_eq_true rfl) _ _ _ rfl rfl rfl) ?_)
      refine (CA.out _).mono ?_
      rintro e w7 ⟨rfl, hw7⟩
      obtain rfl := hw7
      have HO := Lib.hid (SetOf.same HA.out (below_drewN HW6.out.below nq) hW)
      clear CA
      go_wp2
      go_ret
      exact ⟨rfl, HO.out⟩
  have d1 : decide (0 ≤ n) = true := by simp; omega
  have d2 : decide (n < (ps.length : Int)) = true := by simp; omega
  obtain ⟨i, rfl⟩ := Int.eq_ofNat_of_zero_le (show 0 ≤ n by omega)
  have hi : i < ps.length := by omega
  have d2' : decide (i < ps.length) = true := by simp; omega
  have hi0 : (0 : Int) ≤ (i : Int) := by omega
  have hi1 : (i : Int) < (ps.length : Int) := by omega
  obtain ⟨g0, c0, e0, hc0, hg0⟩ := ptr_at HS.out i hi
  injection e0 with e1 e2 e3
  subst e1
  clear e2 e3
  have hcp := (HW.out.below.cell (p := ⟨g0, i, none⟩) hg0).trans hc0
  have A3 := Lib.hid (HA.out.below HW.out.below)
  clear hc0 hx
  by_cases hbad : faN ps[i].n ps[i].live k ≠ 0
  · obtain ⟨v, hv⟩ := A3.out.row i hi
    have HV := Lib.hid hv
    have CS := Lib.hid (pset_bad hv k hbad L)
    have hz12 : (k < 0 ∨ ((ps[i].n : Nat) : Int) ≤ k) ∧ faN ps[i].n ps[i].live k = 11 ∨ 0 ≤ k ∧ k < (ps[i].n : Int) ∧ ps[i].live = false ∧ faN ps[i].n ps[i].live k = 12 := by
      unfold faN at hbad ⊢
      by_cases h : k < 0 ∨ ((ps[i].n : Nat) : Int) ≤ k
      · exact .inl ⟨h, if_pos h⟩
      · rw [if_neg h] at hbad ⊢
        cases hl : ps[i].live with
        | true => rw [hl] at hbad; exact absurd rfl hbad
        | false => exact .inr ⟨by omega, by omega, rfl, rfl⟩
    generalize hP : ps[i].p = P at *
    generalize hN : ps[i].n = m at *
    generalize hLv : ps[i].live = lv at *
    have HP := Lib.hid hP
    have HN' := Lib.hid hN
    have HLv := Lib.hid hLv
    have HBAD := Lib.hid hbad
    clear hv hP hN hLv hbad
    generalize hZ : faN m lv k = z at *
    have HZ := Lib.hid hZ
    clear hZ
    go_wp2_with (refine wpList_value_want rfl _ (bload_run rfl rfl HW.out.rb HSZ.out) ?_)
    refine CS.out.mono ?_
    rintro e w4 ⟨rfl, hb4⟩
    have HW4 := Lib.hid (HW.out.step hb4)
    have HV4 := Lib.hid (HV.out.step hb4)
    obtain ⟨y1, y2, y3, ym, hlt4⟩ := HW4.out.at_
    dsimp only at y1 y2 y3
    have CG := get_bad (show PceAt w4 P a m lv v from HV4.out) k (by rw [HZ.out]; exact HBAD.out)
    rw [HZ.out] at CG
    have CG := Lib.hid CG
    clear CS hb4 x1 x2 x3 xm hlt HV hcp
    go_wp2_with fail
    refine CG.out.mono ?_
    rintro e w5 ⟨rfl, hb5⟩
    have HW5 := Lib.hid (HW4.out.step hb5)
    have HV5 := Lib.hid (HV4.out.step hb5)
    have HN : Hid (RowAt (w5.alloc (.cells (wq zb) 60)) w5.heap.size 60 (wq zb)) := Lib.hid (RowAt.new _ _ _)
    clear CG hb5 y1 y2 y3 ym hlt4 HW4 HV4
    go_upto_region 7 with (refine wpList_store_row rfl 60 (.tmp 10) (.tmp 43) rfl w5.heap.size (wq zb) rfl rfl 60 _ HN.out b_size rfl (wq_one _) ?_)
    obtain ⟨hR6, hb6⟩ := got_row w5 zb
    generalize World.setRow _ _ _ = w6 at *
    try simp only [Act.put]
    have HR6 := Lib.hid hR6
    have HW6 := Lib.hid (HW5.out.step hb6)
    have HV6 := Lib.hid (show PceAt w6 P a m lv v from HV5.out.step hb6)
    obtain ⟨y1, y2, y3, ym, hlt4⟩ := HW6.out.at_
    dsimp only at y1 y2 y3
    have CA := fun q => at_bad (w := w6.drewN q) HV6.out k (by rw [HZ.out]; exact HBAD.out)
    have CA := Lib.hid CA
    have CL := Lib.hid (fun q => len_any (w := w6.drewN q) HV6.out)
    clear HN HW5 HV5 hR6 hb6
    rcases hz12 with ⟨hk, rfl⟩ | ⟨hk0, hk1, rfl, rfl⟩
    · have hh : decide (k < 0) = true ∨ decide (k < 0) = false ∧ decide ((m : Int) ≤ k) = true := by simp; omega
      clear hk
      rcases hh with q1 | ⟨q1, q2⟩
      all_goals
        go_wp2
        go_quiet (refine Calls.quiet_of_same (CL.out _))
        go_wp2_with (first
          | refine wpList_value_want rfl _ (bload_run rfl rfl (HR6.out.drewN _) (by rw [wq_size]; exact zb_ok.1)) ?_
          | refine wpList_value_want rfl _ (bbuild_run _ _ rfl) ?_
          | refine wpList_value_want rfl _ (beql_run _ zb_ok zb_ok (k := true) (decide_eq_true rfl) _ _ _ rfl rfl rfl) ?_)
        refine (CA.out _).mono ?_
        rintro e w7 ⟨rfl, hw7⟩
        obtain rfl := hw7
        have HO := Lib.hid (SetOf.same HA.out (below_drewN HW6.out.below nq) hW)
        clear CA
        go_wp2
        go_ret
        exact ⟨rfl, HO.out⟩
    · have q1 : decide (k < 0) = false := by simp; omega
      have q2 : decide ((m : Int) ≤ k) = false := by simp; omega
      obtain ⟨g9, c9, e9, hg9, _, h9, _, _⟩ := HM.out.set i (by rw [hlw]; exact hi)
      injection e9 with e91 e92 e93
      subst e91
      clear e92 e93
      rw [pz_at, HLv.out] at h9
      have h9 := (HW6.out.below.cell (p := ⟨g9, i * 2 + 1, none⟩) hg9).trans h9
      have HOF : Hid (OffAt w6 P a m) := Lib.hid (by
        have := HA.out.off i hi HLv.out
        rw [HP.out, HN'.out] at this
        exact RowAt.step this HW6.out.below)
      have CC := Lib.hid (fun q => pclean_off (w := w6.drewN q) (p := P) (a := a) (n := m) HOF.out)
      go_wp2
      go_quiet (refine Calls.quiet_of_same (CL.out _))
      go_wp2_with fail
      refine (CA.out _).mono ?_
      rintro e w7 ⟨rfl, hw7⟩
      obtain rfl := hw7
      go_wp2_with fail
      refine (CC.out _).mono ?_
      rintro e w7 ⟨rfl, hw7⟩
      obtain rfl := hw7
      have HO := Lib.hid (SetOf.same HA.out (below_drewN HW6.out.below nq) hW)
      clear CA CC
      go_wp2
      go_ret
      exact ⟨rfl, HO.out⟩
  · have hf : faN ps[i].n ps[i].live k = 0 := by omega
    obtain ⟨hlv, hk0, hk1⟩ : ps[i].live = true ∧ 0 ≤ k ∧ k < (ps[i].n : Int) := by
      unfold faN at hf
      by_cases h : k < 0 ∨ ((ps[i].n : Nat) : Int) ≤ k
      · rw [if_pos h] at hf; cases hf
      · rw [if_neg h] at hf
        cases hl : ps[i].live with
        | true => exact ⟨rfl, by omega, by omega⟩
        | false => rw [hl] at hf; cases hf
    obtain ⟨kk, rfl⟩ := Int.eq_ofNat_of_zero_le hk0
    obtain ⟨hL, hln⟩ := A3.out.live i hi hlv
    have hsm := A3.out.small i hi
    have hgl := (HA.out.lt i hi).2
    have hpl := (HA.out.lt i hi).1
    have hkk : kk < ps[i].l.length := by omega
    have CS := Lib.hid (pset_any hL kk hkk HOK.out)
    have HL3 := Lib.hid hL
    clear hf hbad hL
    go_wp2_with (refine wpList_value_want rfl _ (bload_run rfl rfl HW.out.rb HSZ.out) ?_)
    refine CS.out.mono ?_
    rintro e w4 ⟨rfl, hL4, hK4⟩
    have A4 := Lib.hid (A3.out.set hi hlv hL4 (List.length_set ..) hK4)
    have hln4 : (ps[i].l.set kk L).length = ps[i].n := by rw [List.length_set]; exact hln
    have hgt : (ps[i].l.set kk L).getD kk [] = L := by simp [hkk]
    have hok4 := hL4.ok
    have R0 := RowAt.kept HW.out.rm hK4 (fun e => RowAt.unlike HW.out.rm HL3.out.blk (by rfl) e)
    have R1 := RowAt.kept HW.out.rx hK4 (fun e => RowAt.unlike HW.out.rx HL3.out.blk (by rfl) e)
    have R2 := RowAt.kept HW.out.rb hK4 (fun e => by omega)
    have HLF := Lib.hid (fun t ht => (Leaves.below HW.out.below t).trans (A3.out.leaves_of hi hlv (hK4.mono fun _ _ e => .inr (.inr e)) t ht))
    have HZw4 := Lib.hid (Nat.le_trans HW.out.below.size hK4.size)
    have HBW : Hid (Below W.heap.size w w4) := Lib.hid ((HW.out.below.mono hW).trans ((hK4.under (N := W.heap.size) (fun q e => by rw [e]; exact (HA.out.new i hi).2) (Nat.le_trans hW HW.out.below.size))))
    have hO4 : OwnP w4 W.heap.size (.slice A' (pz ps).length c') (pz ps) := own_leaves HM.out (HLF.out _ ⟨by rfl, by rfl, by rfl⟩)
    obtain ⟨g9, c9, e9, hg9, _, h9, _, _⟩ := hO4.set i (by rw [hlw]; exact hi)
    injection e9 with e91 e92 e93
    subst e91
    clear e92 e93 hO4
    rw [pz_at, hlv] at h9
    have CG := get_any hL4 kk (by rw [hln4]; omega)
    rw [hgt] at CG
    have CG := Lib.hid CG
    have HL4 := Lib.hid hL4
    have HR0 := Lib.hid R0
    have HR1 := Lib.hid R1
    have HR2 := Lib.hid R2
    have HGT := Lib.hid hgt
    have hkm : kk < ps[i].n := by omega
    have h0lt := R0.lt
    have z1 : w4.cell? ⟨w.heap.size + 1, 1, none⟩ = some (.int .i64 (i : Int)) := R1.cell 1
    have z2 : w4.cell? ⟨w.heap.size + 1, 2, none⟩ = some (.int .i64 (kk : Int)) := R1.cell 2
    have HEQ : Hid (ptrs (ps.set i { ps[i] with l := ps[i].l.set kk L }) = ptrs ps ∧ pz (ps.set i { ps[i] with l := ps[i].l.set kk L }) = pz ps) := Lib.hid ⟨ptrs_set ps i hi _ rfl, pz_same ps hi rfl rfl⟩
    clear CS hL4 hK4 R0 R1 R2 x1 x2 x3 xm hlt hcp hgt hok4 HL3 hln hkk hk1 hk0
    generalize hP : ps[i].p = P at *
    generalize hG : ps[i].g = G at *
    generalize hN : ps[i].n = m at *
    generalize hL2 : ps[i].l.set kk L = l2 at *
    have HA4 := Lib.hid A4.out
    clear A4 hP hG hN
    go_wp2_with fail
    refine CG.out.mono ?_
    rintro e w5 ⟨rfl, hb5⟩
    have HB5 := Lib.hid hb5
    have HN : Hid (RowAt (w5.alloc (.cells (wq zb) 60)) w5.heap.size 60 (wq zb)) := Lib.hid (RowAt.new _ _ _)
    clear CG hb5 z1 z2
    go_upto_region 7 with (refine wpList_store_row rfl 60 (.tmp 10) (.tmp 43) rfl w5.heap.size (wq L) rfl rfl 60 _ HN.out (by rw [HSZ.out]; exact b_size) (by rw [HSZ.out, wq_size]; exact zb_ok.1) (wq_one _) ?_)
    obtain ⟨hR6, hb6⟩ := got_row w5 L
    generalize World.setRow _ _ _ = w6 at *
    try simp only [Act.put]
    have hb46 := HB5.out.trans (hb6.mono HB5.out.size)
    have HB6 := Lib.hid hb46
    have HC6 := Lib.hid hR6
    have HR0 := Lib.hid (HR0.out.step hb46)
    have HR1 := Lib.hid (HR1.out.step hb46)
    have HR2 := Lib.hid (HR2.out.step hb46)
    have HL6 := Lib.hid (HL4.out.step hb46)
    have h9 := (hb46.cell (p := ⟨g9, i * 2 + 1, none⟩) hg9).trans h9
    have y1 : w6.cell? ⟨w.heap.size + 1, 1, none⟩ = some (.int .i64 (i : Int)) := HR1.out.cell 1
    have y2 : w6.cell? ⟨w.heap.size + 1, 2, none⟩ = some (.int .i64 (kk : Int)) := HR1.out.cell 2
    have ym : w6.cell? ⟨w.heap.size, 1, none⟩ = some (.slice (some ⟨g9, 0, none⟩) (pz ps).length c') := HR0.out.cell 1
    have CL := fun q => len_any (w := w6.drewN q) HL6.out.row
    rw [hln4] at CL
    have CL := Lib.hid CL
    have CA := Lib.hid (fun q => at_any (HL6.out.drewN q) kk (by rw [hln4]; exact hkm))
    have q1 : decide ((kk : Int) < 0) = false := by simp
    have q2 : decide ((m : Int) ≤ (kk : Int)) = false := by simp; omega
    have q3 : decide (m ≤ kk) = false := by simp; omega
    generalize w5.heap.size = c10 at *
    clear HN hR6 hb6 hb46 HL4 HB5
    go_wp2
    go_quiet (refine Calls.quiet_of_same (CL.out _))
    go_wp2_with fail
    refine (CA.out _).mono ?_
    rintro e w7 ⟨rfl, hw7⟩
    obtain rfl := hw7
    go_wp2_with fail
    have HC8 := Lib.hid (HC6.out.drewN nq)
    have HB8 := Lib.hid (HR2.out.drewN nq)
    have HX8 := Lib.hid (HR1.out.drewN nq)
    have HL8 := HL6.out.drewN nq
    have HB68 := Lib.hid (below_drewN HB6.out nq)
    generalize World.drewN w6 nq = w8 at *
    have HG8 : Hid (∀ w, Below w8.heap.size w8 w → (loadVar 60 ⟨G, kk * 128, none⟩).run Try.prog w = .ok (.agg (wq L)) w) := Lib.hid fun w hb => by
      have hl := HL8.step hb
      have := hl.blk.load hl.ok kk (by rw [hln4]; exact hkm)
      rwa [HGT.out] at this
    have HCC : Hid (∀ w, Below w8.heap.size w8 w → Calls Try.prog 17 #[.pointer (some ⟨P, 0, none⟩)] w fun e w' => ∃ v, e = .returned v ∧ Is (.bool (clB l2)) v w' ∧ Below w.heap.size w w') := Lib.hid fun w hb => by
      refine (pclean_any (HL8.step hb) (by rw [hln4]; omega)).mono ?_
      rintro e w' ⟨rfl, hw⟩
      obtain rfl := hw
      exact ⟨_, rfl, rfl, Below.refl _ _⟩
    by_cases hu0 : u = 0
    · have HU0 := Lib.hid hu0
      clear hu0
      refine wp_region_text [Is (.int .i64 0), Is (.bool true), Is (.bool true), Is (.int .i64 0), Is (.bool true), Is (.bool true), Is (.bool true), Is (.agg (wq L)), Is (.agg (wq L)), Is (.bool true), Is (.bool true), Is (.bool true), Is (.pointer (some ⟨G, kk * 128, none⟩)), Is (.bool true), Is (.bool true), Is (.bool true), Is (.pointer (some ⟨G, kk * 128, none⟩)), Is (.pointer (some ⟨G, kk * 128, none⟩)), Is (.agg (wq L)), Is (.agg (wq L)), Is (.bool true), Is (.bool true), Is (.bool true), Is (.pointer (some ⟨w.heap.size + 1, 3, none⟩)), Is (.int .u64 (u : Int)), Is (.bool true), Is (.bool true), Is undef, Is undef, Is undef, Is (.bool true), Is (.bool true), Is (.bool true)] (by kernel_rfl) (by kernel_rfl) rfl ⟨stable_is _, stable_is _, stable_is _, stable_is _, stable_is _, stable_is _, stable_is _, stable_is _, stable_is _, stable_is _, stable_is _, stable_is _, stable_is _, stable_is _, stable_is _, stable_is _, stable_is _, stable_is _, stable_is _, stable_is _, stable_is _, stable_is _, stable_is _, stable_is _, stable_is _, stable_is _, stable_is _, stable_is _, stable_is _, stable_is _, stable_is _, stable_is _, stable_is _, trivial⟩ ⟨?_, ?_, ?_, ?_, ?_, ?_, ?_, ?_, ?_, ?_, ?_, ?_, ?_, ?_, ?_, ?_, ?_, ?_, ?_, ?_, ?_, ?_, ?_, ?_, ?_, ?_, ?_, ?_, ?_, ?_, ?_, ?_, ?_, trivial⟩ ?_
      · intro a w C
        exact part_on (wanted_free rfl _) (op_move (.inl rfl) (C.was 9 (by kernel_rfl)))
      · intro a w C
        exact part_on (wanted_free rfl _) (op_bin rfl (C.on (j := 0) (by kernel_rfl) rfl rfl) rfl rfl (by simp [go_sem]) rfl)
      · intro a w C
        exact part_on (wanted_free rfl _) (op_move (.inl rfl) (C.on (j := 1) (by kernel_rfl) rfl rfl))
      · intro a w C
        exact part_on (wanted_on (j := 2) rfl rfl rfl (C.on (j := 2) (by kernel_rfl) rfl rfl)) (op_move (.inl rfl) (C.was 11 (by kernel_rfl)))
      · intro a w C
        exact part_on (wanted_on (j := 2) rfl rfl rfl (C.on (j := 2) (by kernel_rfl) rfl rfl)) (op_bin rfl (C.on (j := 3) (by kernel_rfl) rfl rfl) rfl rfl (by simp [go_sem]) rfl)
      · intro a w C
        exact part_on (wanted_free rfl _) (op_pick (k := true) rfl (C.on (j := 2) (by kernel_rfl) rfl rfl) (C.on (j := 4) (by kernel_rfl) rfl rfl))
      · intro a w C
        exact part_on (wanted_free rfl _) (op_move (.inl rfl) (C.on (j := 5) (by kernel_rfl) rfl rfl))
      · intro a w C
        exact part_on (wanted_on (j := 6) rfl rfl rfl (C.on (j := 6) (by kernel_rfl) rfl rfl)) (op_value (blk_run rfl (C.was 10 (by kernel_rfl)) (row_load (HC8.out.step C.below) HOK.out.1)) rfl)
      · intro a w C
        exact part_on (wanted_on (j := 6) rfl rfl rfl (C.on (j := 6) (by kernel_rfl) rfl rfl)) (op_value (blk_run rfl (C.was 8 (by kernel_rfl)) (row_load (HB8.out.step C.below) HOK.out.1)) rfl)
      · intro a w C
        exact part_on (wanted_on (j := 6) rfl rfl rfl (C.on (j := 6) (by kernel_rfl) rfl rfl)) (op_value (beql_run w HOK.out HOK.out (k := true) (decide_eq_true rfl) _ _ _ rfl (C.on (j := 7) (by kernel_rfl) rfl rfl) (C.on (j := 8) (by kernel_rfl) rfl rfl)) rfl)
      · intro a w C
        exact part_on (wanted_free rfl _) (op_pick (k := true) rfl (C.on (j := 6) (by kernel_rfl) rfl rfl) (C.on (j := 9) (by kernel_rfl) rfl rfl))
      · intro a w C
        exact part_on (wanted_free rfl _) (op_move (.inl rfl) (C.on (j := 10) (by kernel_rfl) rfl rfl))
      · intro a w C
        exact part_on (wanted_on (j := 11) rfl rfl rfl (C.on (j := 11) (by kernel_rfl) rfl rfl)) (op_move (.inl rfl) (C.was 12 (by kernel_rfl)))
      · intro a w C
        exact part_on (wanted_on (j := 11) rfl rfl rfl (C.on (j := 11) (by kernel_rfl) rfl rfl)) (op_bin rfl (C.on (j := 12) (by kernel_rfl) rfl rfl) rfl rfl (by simp [go_sem]) rfl)
      · intro a w C
        exact part_on (wanted_free rfl _) (op_pick (k := true) rfl (C.on (j := 11) (by kernel_rfl) rfl rfl) (C.on (j := 13) (by kernel_rfl) rfl rfl))
      · intro a w C
        exact part_on (wanted_free rfl _) (op_move (.inl rfl) (C.on (j := 14) (by kernel_rfl) rfl rfl))
      · intro a w C
        exact part_on (wanted_on (j := 15) rfl rfl rfl (C.on (j := 15) (by kernel_rfl) rfl rfl)) (op_move (.inl rfl) (C.was 12 (by kernel_rfl)))
      · intro a w C
        exact part_on (wanted_on (j := 15) rfl rfl rfl (C.on (j := 15) (by kernel_rfl) rfl rfl)) (op_value (nil_run rfl (C.on (j := 16) (by kernel_rfl) rfl rfl)) rfl)
      · intro a w C
        exact part_on (wanted_on (j := 15) rfl rfl rfl (C.on (j := 15) (by kernel_rfl) rfl rfl)) (op_value (blk_run rfl (C.on (j := 17) (by kernel_rfl) rfl rfl) (HG8.out w C.below)) rfl)
      · intro a w C
        exact part_on (wanted_on (j := 15) rfl rfl rfl (C.on (j := 15) (by kernel_rfl) rfl rfl)) (op_value (blk_run rfl (C.was 8 (by kernel_rfl)) (row_load (HB8.out.step C.below) HOK.out.1)) rfl)
      · intro a w C
        exact part_on (wanted_on (j := 15) rfl rfl rfl (C.on (j := 15) (by kernel_rfl) rfl rfl)) (op_value (beql_run w HOK.out HOK.out (k := true) (decide_eq_true rfl) _ _ _ rfl (C.on (j := 18) (by kernel_rfl) rfl rfl) (C.on (j := 19) (by kernel_rfl) rfl rfl)) rfl)
      · intro a w C
        exact part_on (wanted_free rfl _) (op_pick (k := true) rfl (C.on (j := 15) (by kernel_rfl) rfl rfl) (C.on (j := 20) (by kernel_rfl) rfl rfl))
      · intro a w C
        exact part_on (wanted_free rfl _) (op_move (.inl rfl) (C.on (j := 21) (by kernel_rfl) rfl rfl))
      · intro a w C
        exact part_on (wanted_on (j := 22) rfl rfl rfl (C.on (j := 22) (by kernel_rfl) rfl rfl)) (op_value (actw_run rfl (C.was 5 (by kernel_rfl))) rfl)
      · intro a w C
        exact part_on (wanted_on (j := 22) rfl rfl rfl (C.on (j := 22) (by kernel_rfl) rfl rfl)) (op_value (lu64_run rfl (C.on (j := 23) (by kernel_rfl) rfl rfl) ((HX8.out.step C.below).cell 3)) rfl)
      · intro a w C
        exact part_on (wanted_on (j := 22) rfl rfl rfl (C.on (j := 22) (by kernel_rfl) rfl rfl)) (op_bin rfl (C.on (j := 24) (by kernel_rfl) rfl rfl) rfl rfl (by simp [go_sem]; exact HU0.out) rfl)
      · intro a w C
        exact part_on (wanted_on (j := 22) rfl rfl rfl (C.on (j := 22) (by kernel_rfl) rfl rfl)) (op_move (.inl rfl) (C.on (j := 25) (by kernel_rfl) rfl rfl))
      · intro a w C
        exact part_off (wanted_off (j := 26) rfl rfl rfl (C.on (j := 26) (by kernel_rfl) rfl rfl)) rfl
      · intro a w C
        exact part_off (wanted_off (j := 26) rfl rfl rfl (C.on (j := 26) (by kernel_rfl) rfl rfl)) rfl
      · intro a w C
        exact part_off (wanted_off (j := 26) rfl rfl rfl (C.on (j := 26) (by kernel_rfl) rfl rfl)) rfl
      · intro a w C
        exact part_on (wanted_on (j := 22) rfl rfl rfl (C.on (j := 22) (by kernel_rfl) rfl rfl)) (op_pick (k := true) rfl (C.on (j := 26) (by kernel_rfl) rfl rfl) rfl)
      · intro a w C
        exact part_on (wanted_free rfl _) (op_pick (k := true) rfl (C.on (j := 22) (by kernel_rfl) rfl rfl) (C.on (j := 30) (by kernel_rfl) rfl rfl))
      · intro a w C
        exact part_on (wanted_free rfl _) (op_move (.inr rfl) (C.on (j := 31) (by kernel_rfl) rfl rfl))
      rintro wF hbF _ rfl _ rfl _ rfl _ rfl _ rfl _ rfl _ rfl _ rfl _ rfl _ rfl _ rfl _ rfl _ rfl _ rfl _ rfl _ rfl _ rfl _ rfl _ rfl _ rfl _ rfl _ rfl _ rfl _ rfl _ rfl _ rfl _ rfl _ rfl _ rfl _ rfl _ rfl _ rfl _ rfl
      simp only [Fin, setAt, Exit.then, List.setIfInBounds_toArray, List.set_cons_succ, List.set_cons_zero]
      go_wp2
      go_ret
      have hbb := HB68.out.trans (hbF.mono HB68.out.size)
      exact ⟨rfl, ⟨⟨_, HA4.out.below hbb, HEQ.out.1, HEQ.out.2⟩, Nat.le_trans HZw4.out hbb.size, fun t ht => (HLF.out t ht).trans (.below hbb t), HBW.out.trans (hbb.mono (Nat.le_trans hW HBW.out.size))⟩⟩
    · have HU0 := Lib.hid hu0
      have hcl : clB l2 = false := clB_no l2 kk (by rw [hln4]; exact hkm) (by rw [HGT.out]; exact HNE.out hu0)
      rw [hcl] at HCC
      clear hu0
      refine wp_region_text [Is (.int .i64 0), Is (.bool true), Is (.bool true), Is (.int .i64 0), Is (.bool true), Is (.bool true), Is (.bool true), Is (.agg (wq L)), Is (.agg (wq L)), Is (.bool true), Is (.bool true), Is (.bool true), Is (.pointer (some ⟨G, kk * 128, none⟩)), Is (.bool true), Is (.bool true), Is (.bool true), Is (.pointer (some ⟨G, kk * 128, none⟩)), Is (.pointer (some ⟨G, kk * 128, none⟩)), Is (.agg (wq L)), Is (.agg (wq L)), Is (.bool true), Is (.bool true), Is (.bool true), Is (.pointer (some ⟨w.heap.size + 1, 3, none⟩)), Is (.int .u64 (u : Int)), Is (.bool false), Is (.bool false), Is (.pointer (some ⟨P, 0, none⟩)), Is (.bool false), Is (.bool true), Is (.bool true), Is (.bool true), Is (.bool true)] (by kernel_rfl) (by kernel_rfl) rfl ⟨stable_is _, stable_is _, stable_is _, stable_is _, stable_is _, stable_is _, stable_is _, stable_is _, stable_is _, stable_is _, stable_is _, stable_is _, stable_is _, stable_is _, stable_is _, stable_is _, stable_is _, stable_is _, stable_is _, stable_is _, stable_is _, stable_is _, stable_is _, stable_is _, stable_is _, stable_is _, stable_is _, stable_is _, stable_is _, stable_is _, stable_is _, stable_is _, stable_is _, trivial⟩ ⟨?_, ?_, ?_, ?_, ?_, ?_, ?_, ?_, ?_, ?_, ?_, ?_, ?_, ?_, ?_, ?_, ?_, ?_, ?_, ?_, ?_, ?_, ?_, ?_, ?_, ?_, ?_, ?_, ?_, ?_, ?_, ?_, ?_, trivial⟩ ?_
      · intro a w C
        exact part_on (wanted_free rfl _) (op_move (.inl rfl) (C.was 9 (by kernel_rfl)))
      · intro a w C
        exact part_on (wanted_free rfl _) (op_bin rfl (C.on (j := 0) (by kernel_rfl) rfl rfl) rfl rfl (by simp [go_sem]) rfl)
      · intro a w C
        exact part_on (wanted_free rfl _) (op_move (.inl rfl) (C.on (j := 1) (by kernel_rfl) rfl rfl))
      · intro a w C
        exact part_on (wanted_on (j := 2) rfl rfl rfl (C.on (j := 2) (by kernel_rfl) rfl rfl)) (op_move (.inl rfl) (C.was 11 (by kernel_rfl)))
      · intro a w C
        exact part_on (wanted_on (j := 2) rfl rfl rfl (C.on (j := 2) (by kernel_rfl) rfl rfl)) (op_bin rfl (C.on (j := 3) (by kernel_rfl) rfl rfl) rfl rfl (by simp [go_sem]) rfl)
      · intro a w C
        exact part_on (wanted_free rfl _) (op_pick (k := true) rfl (C.on (j := 2) (by kernel_rfl) rfl rfl) (C.on (j := 4) (by kernel_rfl) rfl rfl))
      · intro a w C
        exact part_on (wanted_free rfl _) (op_move (.inl rfl) (C.on (j := 5) (by kernel_rfl) rfl rfl))
      · intro a w C
        exact part_on (wanted_on (j := 6) rfl rfl rfl (C.on (j := 6) (by kernel_rfl) rfl rfl)) (op_value (blk_run rfl (C.was 10 (by kernel_rfl)) (row_load (HC8.out.step C.below) HOK.out.1)) rfl)
      · intro a w C
        exact part_on (wanted_on (j := 6) rfl rfl rfl (C.on (j := 6) (by kernel_rfl) rfl rfl)) (op_value (blk_run rfl (C.was 8 (by kernel_rfl)) (row_load (HB8.out.step C.below) HOK.out.1)) rfl)
      · intro a w C
        exact part_on (wanted_on (j := 6) rfl rfl rfl (C.on (j := 6) (by kernel_rfl) rfl rfl)) (op_value (beql_run w HOK.out HOK.out (k := true) (decide_eq_true rfl) _ _ _ rfl (C.on (j := 7) (by kernel_rfl) rfl rfl) (C.on (j := 8) (by kernel_rfl) rfl rfl)) rfl)
      · intro a w C
        exact part_on (wanted_free rfl _) (op_pick (k := true) rfl (C.on (j := 6) (by kernel_rfl) rfl rfl) (C.on (j := 9) (by kernel_rfl) rfl rfl))
      · intro a w C
        exact part_on (wanted_free rfl _) (op_move (.inl rfl) (C.on (j := 10) (by kernel_rfl) rfl rfl))
      · intro a w C
        exact part_on (wanted_on (j := 11) rfl rfl rfl (C.on (j := 11) (by kernel_rfl) rfl rfl)) (op_move (.inl rfl) (C.was 12 (by kernel_rfl)))
      · intro a w C
        exact part_on (wanted_on (j := 11) rfl rfl rfl (C.on (j := 11) (by kernel_rfl) rfl rfl)) (op_bin rfl (C.on (j := 12) (by kernel_rfl) rfl rfl) rfl rfl (by simp [go_sem]) rfl)
      · intro a w C
        exact part_on (wanted_free rfl _) (op_pick (k := true) rfl (C.on (j := 11) (by kernel_rfl) rfl rfl) (C.on (j := 13) (by kernel_rfl) rfl rfl))
      · intro a w C
        exact part_on (wanted_free rfl _) (op_move (.inl rfl) (C.on (j := 14) (by kernel_rfl) rfl rfl))
      · intro a w C
        exact part_on (wanted_on (j := 15) rfl rfl rfl (C.on (j := 15) (by kernel_rfl) rfl rfl)) (op_move (.inl rfl) (C.was 12 (by kernel_rfl)))
      · intro a w C
        exact part_on (wanted_on (j := 15) rfl rfl rfl (C.on (j := 15) (by kernel_rfl) rfl rfl)) (op_value (nil_run rfl (C.on (j := 16) (by kernel_rfl) rfl rfl)) rfl)
      · intro a w C
        exact part_on (wanted_on (j := 15) rfl rfl rfl (C.on (j := 15) (by kernel_rfl) rfl rfl)) (op_value (blk_run rfl (C.on (j := 17) (by kernel_rfl) rfl rfl) (HG8.out w C.below)) rfl)
      · intro a w C
        exact part_on (wanted_on (j := 15) rfl rfl rfl (C.on (j := 15) (by kernel_rfl) rfl rfl)) (op_value (blk_run rfl (C.was 8 (by kernel_rfl)) (row_load (HB8.out.step C.below) HOK.out.1)) rfl)
      · intro a w C
        exact part_on (wanted_on (j := 15) rfl rfl rfl (C.on (j := 15) (by kernel_rfl) rfl rfl)) (op_value (beql_run w HOK.out HOK.out (k := true) (decide_eq_true rfl) _ _ _ rfl (C.on (j := 18) (by kernel_rfl) rfl rfl) (C.on (j := 19) (by kernel_rfl) rfl rfl)) rfl)
      · intro a w C
        exact part_on (wanted_free rfl _) (op_pick (k := true) rfl (C.on (j := 15) (by kernel_rfl) rfl rfl) (C.on (j := 20) (by kernel_rfl) rfl rfl))
      · intro a w C
        exact part_on (wanted_free rfl _) (op_move (.inl rfl) (C.on (j := 21) (by kernel_rfl) rfl rfl))
      · intro a w C
        exact part_on (wanted_on (j := 22) rfl rfl rfl (C.on (j := 22) (by kernel_rfl) rfl rfl)) (op_value (actw_run rfl (C.was 5 (by kernel_rfl))) rfl)
      · intro a w C
        exact part_on (wanted_on (j := 22) rfl rfl rfl (C.on (j := 22) (by kernel_rfl) rfl rfl)) (op_value (lu64_run rfl (C.on (j := 23) (by kernel_rfl) rfl rfl) ((HX8.out.step C.below).cell 3)) rfl)
      · intro a w C
        exact part_on (wanted_on (j := 22) rfl rfl rfl (C.on (j := 22) (by kernel_rfl) rfl rfl)) (op_bin rfl (C.on (j := 24) (by kernel_rfl) rfl rfl) rfl rfl (by simp [go_sem]; exact HU0.out) rfl)
      · intro a w C
        exact part_on (wanted_on (j := 22) rfl rfl rfl (C.on (j := 22) (by kernel_rfl) rfl rfl)) (op_move (.inl rfl) (C.on (j := 25) (by kernel_rfl) rfl rfl))
      · intro a w C
        exact part_on (wanted_on (j := 26) rfl rfl rfl (C.on (j := 26) (by kernel_rfl) rfl rfl)) (op_move (.inl rfl) (C.was 7 (by kernel_rfl)))
      · intro a w C
        exact part_on (wanted_on (j := 26) rfl rfl rfl (C.on (j := 26) (by kernel_rfl) rfl rfl)) (op_call1 rfl (reg_enters Try.func17 (by kernel_rfl) (by kernel_rfl)) (C.on (j := 27) (by kernel_rfl) rfl rfl) (HCC.out w C.below))
      · intro a w C
        exact part_on (wanted_on (j := 26) rfl rfl rfl (C.on (j := 26) (by kernel_rfl) rfl rfl)) (op_value (not_run rfl (C.on (j := 28) (by kernel_rfl) rfl rfl)) rfl)
      · intro a w C
        exact part_on (wanted_on (j := 22) rfl rfl rfl (C.on (j := 22) (by kernel_rfl) rfl rfl)) (op_pick (k := false) rfl (C.on (j := 26) (by kernel_rfl) rfl rfl) (C.on (j := 29) (by kernel_rfl) rfl rfl))
      · intro a w C
        exact part_on (wanted_free rfl _) (op_pick (k := true) rfl (C.on (j := 22) (by kernel_rfl) rfl rfl) (C.on (j := 30) (by kernel_rfl) rfl rfl))
      · intro a w C
        exact part_on (wanted_free rfl _) (op_move (.inr rfl) (C.on (j := 31) (by kernel_rfl) rfl rfl))
      rintro wF hbF _ rfl _ rfl _ rfl _ rfl _ rfl _ rfl _ rfl _ rfl _ rfl _ rfl _ rfl _ rfl _ rfl _ rfl _ rfl _ rfl _ rfl _ rfl _ rfl _ rfl _ rfl _ rfl _ rfl _ rfl _ rfl _ rfl _ rfl _ rfl _ rfl _ rfl _ rfl _ rfl _ rfl
      simp only [Fin, setAt, Exit.then, List.setIfInBounds_toArray, List.set_cons_succ, List.set_cons_zero]
      go_wp2
      go_ret
      have hbb := HB68.out.trans (hbF.mono HB68.out.size)
      exact ⟨rfl, ⟨⟨_, HA4.out.below hbb, HEQ.out.1, HEQ.out.2⟩, Nat.le_trans HZw4.out hbb.size, fun t ht => (HLF.out t ht).trans (.below hbb t), HBW.out.trans (hbb.mono (Nat.le_trans hW HBW.out.size))⟩⟩
end Go.Proofs.Ytackcboidjmegaa

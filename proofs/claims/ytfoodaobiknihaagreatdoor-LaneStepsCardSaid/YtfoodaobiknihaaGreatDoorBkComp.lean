/- blake.Compress by its contract: the state behind a block; a block that has not 128 bytes. Condition: the package's table reads as it was laid. -/
import Derived.Test.YtfoodaobiknihaaGreatDoorBx
import Derived.Deep.QuietTactic
namespace Go.Proofs.YtfoodaobiknihaaGreatDoor
set_option maxRecDepth 50000
open Go.RowKit Rot Bl
section
variable {P : Program} {o : Oper} {a : Act} {w : World} {Q : Exit → Act → World → Prop}
theorem op_call6 {p : Value → World → Prop} {f : FuncId} {x1 x2 x3 x4 x5 x6 : Operand} {ts : Array TypeId} {v1 v2 v3 v4 v5 v6 : Value} (ho : o.op = .call { callee := .value (.func f), args := #[x1, x2, x3, x4, x5, x6], argTypes := ts }) (he : ∀ (args : Array Value) (w : World), (callFunc f args).run P w = .ok (.enter f args) w)
    (h1 : a.eval x1 = v1) (h2 : a.eval x2 = v2) (h3 : a.eval x3 = v3) (h4 : a.eval x4 = v4) (h5 : a.eval x5 = v5) (h6 : a.eval x6 = v6) (hc : Calls P f #[v1, v2, v3, v4, v5, v6] w fun e w' => ∃ v, e = .returned v ∧ p v w' ∧ Below w.heap.size w w') : Does P p o a w Q := by
  subst h1; subst h2; subst h3; subst h4; subst h5; subst h6
  exact op_call ho he hc
theorem st_does {W' : World → Prop} {x y : Operand} {B i : Nat} {v : Value} {z : Int} (hop : o.op = .store 52 x y) (hx : a.eval x = .pointer (some ⟨B, i, none⟩)) (hy : a.eval y = .int .u64 z) (hc : w.cell? ⟨B, i, none⟩ = some v) (hf : w.frozen? ⟨B, i, none⟩ = false)
    (h : W' (w.setCell ⟨B, i, none⟩ (.int .u64 z))) : o.wp Tryz.prog a w (fun a' w' => a' = a.put o.dst undef ∧ W' w') Q := by
  unfold Oper.wp
  rw [st_run hop hx hy hc hf]
  exact ⟨rfl, h⟩
end
def blockW (bs : List Nat) : List Nat := wordsAt ups 8 16 bs (8 * 16)
theorem blockW_length (bs : List Nat) : (blockW bs).length = 16 := by simp [blockW, wordsAt]
theorem blockW_ok (bs : List Nat) (hx : ∀ x ∈ bs, x < 256) : okw (blockW bs) := by
  intro x h
  simp only [blockW, wordsAt, List.mem_map, List.mem_range] at h
  obtain ⟨j, _, rfl⟩ := h
  exact wordAt_lt ups 8 (fun i h => h) bs hx _ _
structure CkX (w wr : World) (V g : Nat) (st mw v : List Nat) : Prop where
  rs : RowAt wr w.heap.size 53 (wq st)
  rz : RowAt wr (w.heap.size + 1) 53 (wq (List.replicate 8 0))
  rv : RowAt wr V 185 (wq v)
  rm : ∀ k, k < 16 → wr.cell? ⟨g, k, none⟩ = some (.int .u64 (mw.getD k 0 : Nat))
  rq : QAt wr
  below : Below w.heap.size w wr
  lt : w.heap.size + 1 < V ∧ g < wr.heap.size ∧ g ≠ V ∧ 1 < w.heap.size ∧ w.heap.size + 1 < g
section
variable {w wr wr' : World} {V g : Nat} {st mw v : List Nat}
theorem CkX.step (h : CkX w wr V g st mw v) (hb : Below wr.heap.size wr wr') : CkX w wr' V g st mw v :=
  ⟨h.rs.below hb h.rs.lt, h.rz.below hb h.rz.lt, h.rv.below hb h.rv.lt, fun k hk => (hb.cell (p := ⟨g, k, none⟩) h.lt.2.1).trans (h.rm k hk), h.rq.next hb, h.below.trans (hb.mono h.below.size),
    ⟨h.lt.1, Nat.lt_of_lt_of_le h.lt.2.1 hb.size, h.lt.2.2⟩⟩
theorem CkX.drew (h : CkX w wr V g st mw v) : CkX w wr.drew V g st mw v := h.step (Below.refl _ _).drew
theorem CkX.set (h : CkX w wr V g st mw v) (i x : Nat) : CkX w (wr.setCell ⟨V, i, none⟩ (.int .u64 (x : Int))) V g st mw (v.set i x) := by
  obtain ⟨l1, l2, l3, l4, l5⟩ := h.lt
  refine ⟨h.rs.setOther _ (by simp; omega) _, h.rz.setOther _ (by simp; omega) _, ?_, fun k hk => ?_, ⟨?_, fun k hk => ?_⟩, h.below.setCell (by simp; omega) _, ⟨l1, by simp [World.setCell]; omega, l3, l4, l5⟩⟩
  · rw [← wq_set]; exact h.rv.setCell i _
  · rw [World.cell?_of_block (w := wr) (Below.heap_setCell _ _ _ _ l3)]; exact h.rm k hk
  · simp [World.setCell]; exact h.rq.1
  · rw [World.cell?_of_block (w := wr) (Below.heap_setCell _ _ _ _ (by simp; omega))]; exact h.rq.2 k hk
end
theorem CkX.setRow {w wr : World} {V g : Nat} {st mw v : List Nat} (h : CkX w wr V g st mw v) (v' : List Nat) : CkX w (wr.setRow V (wq v')) V g st mw v' := by
  obtain ⟨l1, l2, l3, l4, l5⟩ := h.lt
  refine ⟨h.rs.setRowOther _ (by omega) _, h.rz.setRowOther _ (by omega) _, h.rv.setRow _, fun k hk => ?_, ⟨?_, fun k hk => ?_⟩, below_setRow h.below (by omega) _, ⟨l1, by rw [setRow_size]; exact l2, l3, l4, l5⟩⟩
  · rw [World.cell?_of_block (w := wr) (setRow_other _ _ _ _ l3)]; exact h.rm k hk
  · rw [setRow_size]; exact h.rq.1
  · rw [World.cell?_of_block (w := wr) (setRow_other _ _ _ _ (by simp; omega))]; exact h.rq.2 k hk
theorem half_cat (st : List Nat) (hs : st.length = 8) : List.take 8 (st ++ List.replicate 8 0) ++ iv ++ List.drop (8 + 8) (st ++ List.replicate 8 0) = st ++ iv := by
  match st, hs with
  | [_, _, _, _, _, _, _, _], _ => rfl
theorem half_12 (st : List Nat) (hs : st.length = 8) : (st ++ iv).getD 12 0 = iv.getD 4 0 := by
  match st, hs with
  | [_, _, _, _, _, _, _, _], _ => rfl
theorem half_14 (st : List Nat) (hs : st.length = 8) (x : Nat) : ((st ++ iv).set 12 x).getD 14 0 = iv.getD 6 0 := by
  match st, hs with
  | [_, _, _, _, _, _, _, _], _ => rfl
theorem start_of (st : List Nat) (hs : st.length = 8) (t : Nat) (last : Bool) : (let v := (st ++ iv).set 12 (iv.getD 4 0 ^^^ t); if last then v.set 14 (18446744073709551615 - iv.getD 6 0) else v) = Bl.start st t last := by
  match st, hs with
  | [_, _, _, _, _, _, _, _], _ => cases last <;> rfl
set_option maxHeartbeats 3200000 in
theorem comp_any (st : List Nat) (hs : st.length = 8) (hst : okw st) (A : Option Addr) (c : Nat) (bs : List Nat) (hbs : bs.length = 128) (hx : ∀ x ∈ bs, x < 256) (t : Nat) (ht : t < 18446744073709551616) (last : Bool) (w : World) (hk : QAt w) (hr : Reads w w.heap.size A (u8s bs)) :
    Calls Tryz.prog 124 #[.agg (wq st), .slice A 128 c, .int .u64 (t : Int), .bool last] w fun e w' => e = .returned (.tuple #[.agg (wq (comp st (blockW bs) t last)), .int .i64 0]) ∧ Below w.heap.size w w' := by
  have C := fun (w : World) (hr : Reads w w.heap.size A (u8s bs)) => take64_any A c bs 16 hbs w hr (by omega) hx
  rw [hbs] at C
  have HC := Lib.hid C
  have HX := Lib.hid (blockW_ok bs hx)
  have HR := Lib.hid hr
  have HK := Lib.hid hk
  have HS := Lib.hid hs
  have HST := Lib.hid hst
  have HBW : Hid (wordsAt ups 8 16 bs (8 * 16) = blockW bs) := Lib.hid rfl
  clear C hr hk hs hst hbs hx
  go_enter Tryz.func124, Tryz.ntmps124
  go_wp2_with fail
  refine (HC.out _ (HR.out.below ?_ |>.more ?_)).mono ?_
  case refine_1 => exact ((Below.refl _ w).alloc (Nat.le_refl _) _).alloc (by simp) _
  case refine_2 => simp; omega
  rintro e w1 ⟨v, rfl, hown, hb⟩
  rw [HBW.out] at hown
  have R0 : RowAt w1 w.heap.size 53 (wq st) := ((RowAt.new w 53 (wq st)).alloc _).below hb (by simp; omega)
  have R1 : RowAt w1 (w.heap.size + 1) 53 (wq (List.replicate 8 0)) := by
    have h := RowAt.new (w.alloc (.cells (wq st) 53)) 53 (wq (List.replicate 8 0))
    rw [World.size_alloc] at h
    exact h.below hb (by simp)
  have hB : Below w.heap.size w w1 := (((Below.refl _ w).alloc (Nat.le_refl _) _).alloc (by simp) _).trans (hb.mono (by simp; omega))
  have hsz : w.heap.size + 2 ≤ w1.heap.size := by have := hb.size; simpa using this
  have H0 := Lib.hid R0
  have H1 := Lib.hid R1
  have HB := Lib.hid hB
  obtain ⟨A', c', rfl, hl1, hl2, hl3⟩ := own_form hown
  obtain ⟨g, rfl, hg⟩ := hl2 (by omega)
  have hrd := Reads.of_own hown
  have hrm : ∀ k, k < 16 → w1.cell? ⟨g, k, none⟩ = some (.int .u64 ((blockW bs).getD k 0 : Nat)) := fun k hk => by
    obtain ⟨b', off', e', _, hc'⟩ := hrd k (by rw [u64s_length, blockW_length]; exact hk)
    cases e'
    rw [Nat.zero_add] at hc'
    rw [hc', u64_at, List.getD_eq_getElem?_getD, List.getElem?_eq_getElem (by rw [blockW_length]; exact hk)]
    rfl
  have hgl : g < w1.heap.size := by
    obtain ⟨b', off', e', h', _⟩ := hrd 0 (by rw [u64s_length, blockW_length]; decide)
    cases e'; exact h'
  have hg2 : w.heap.size + 1 < g := by simp at hg; omega
  have HM := Lib.hid hrm
  clear R0 R1 hb hl1 hl2 hl3 hB hown hrd hrm hg
  go_wp2_with fail
  refine (init_any w1).mono ?_
  rintro e w2 ⟨rfl, hb2⟩
  have HB2 := Lib.hid hb2
  have hsz2 := hb2.size
  clear hb2
  go_wp2_with (refine wpList_store_row rfl 53 (.tmp 12) (.tmp 32) rfl w2.heap.size (wq iv) rfl rfl 53 _ (RowAt.new _ _ _) (by rw [wq_size]; exact q_size8) rfl (wq_one _) ?_)
  generalize hW : World.alloc _ _ = w3
  obtain ⟨I, hI⟩ : ∃ I, I = w2.heap.size := ⟨_, rfl⟩
  rw [← hI] at hW hsz2 ⊢
  have hBB : Below w2.heap.size w2 w3 := by
    subst hW
    exact (below_setRow ((Below.refl _ w2).alloc (Nat.le_refl _) _) (by omega) _).alloc (by simp) _
  have hsz3 : I + 2 ≤ w3.heap.size := by subst hW; simp; omega
  have RI : RowAt w3 I 53 (wq iv) := by
    subst hW; subst hI
    exact ((RowAt.new w2 _ _).setRow _).alloc _
  have hb3 : Below w1.heap.size w1 w3 := below_step HB2.out hBB
  have X0 : CkX w w3 (I + 1) g st (blockW bs) (List.replicate 16 0) := by
    refine ⟨H0.out.below hb3 (by omega), H1.out.below hb3 (by omega), ?_, fun k hk => (hb3.cell (p := ⟨g, k, none⟩) hgl).trans (HM.out k hk), (HK.out.next HB.out).below hb3 (HK.out.next HB.out).1, HB.out.trans (hb3.mono (by omega)), by omega, by omega, by omega, HK.out.1, hg2⟩
    subst hW; subst hI
    have h := RowAt.new ((w2.alloc (.cells (wq (List.replicate 8 0)) 53)).setRow w2.heap.size (wq iv)) 185 (wq (List.replicate 16 0))
    rw [setRow_size, World.size_alloc] at h
    exact h
  have HX0 := Lib.hid X0
  have HI := Lib.hid RI
  have hgV : g < I := by omega
  clear hW hBB hb3 X0 RI H0 H1 HM HB2 HB hI
  refine wp_region_still_tail 2 (by kernel_rfl) (by kernel_rfl) ?_
  simp only [List.take_succ_cons, List.take_zero, List.drop_succ_cons, List.drop_zero]
  repeat still_step
  refine wpStill_nil ?_
  change wpList _ _ _ _ _ w3.drew
  have X1 := HX0.out.drew
  have RI := HI.out.drew
  generalize w3.drew = w4 at *
  go_wp2
  rw [copied8 (hC := X1.rv) (hv := by simp) (hr := X1.rs) (ho := HS.out) (p := 0) (n := 8) (c := 16) (hp := by decide) (hn := by decide)]
  rw [show (List.replicate 16 0).take 0 ++ st ++ (List.replicate 16 0).drop (0 + 8) = st ++ List.replicate 8 0 by simp]
  have X2 := X1.setRow (st ++ List.replicate 8 0)
  have RI2 := RI.setRowOther (I + 1) (by omega) (wq (st ++ List.replicate 8 0))
  generalize w4.setRow (I + 1) (wq (st ++ List.replicate 8 0)) = w5 at *
  clear X1 RI HX0 HI
  go_wp2
  refine wp_region_still_tail 2 (by kernel_rfl) (by kernel_rfl) ?_
  simp only [List.take_succ_cons, List.take_zero, List.drop_succ_cons, List.drop_zero]
  repeat still_step
  refine wpStill_nil ?_
  change wpList _ _ _ _ _ w5.drew
  have X1 := X2.drew
  have RI := RI2.drew
  clear X2 RI2
  generalize w5.drew = w6 at *
  go_wp2
  rw [copied8 (hC := X1.rv) (hv := by rw [List.length_append, HS.out]; rfl) (hr := RI) (ho := by rfl) (p := 8) (n := 8) (c := 8) (hp := by decide) (hn := by decide)]
  rw [half_cat st HS.out]
  have X2 := X1.setRow (st ++ iv)
  generalize w6.setRow (I + 1) (wq (st ++ iv)) = w7 at *
  clear X1 RI
  have hV1 : w.heap.size + 1 < I + 1 := X2.lt.1
  generalize hVI : I + 1 = V at *
  have c12 := (X2.rv.cell 12).trans (wq_at _ 12 (by rw [List.length_append, HS.out]; decide))
  rw [half_12 st HS.out] at c12
  have f12 := X2.rv.frozen 12
  have hx12 := xor64 (iv.getD 4 0) t (by decide) ht
  have hl16 : (st ++ iv).length = 16 := by rw [List.length_append, HS.out]; rfl
  have X3 := X2.set 12 (iv.getD 4 0 ^^^ t)
  have c14 := (X3.rv.cell 14).trans (wq_at _ 14 (by rw [List.length_set, hl16]; decide))
  rw [half_14 st HS.out] at c14
  have f14 := X3.rv.frozen 14
  have hn14 := not64 (iv.getD 6 0) (by decide)
  have X4 := X3.set 14 (18446744073709551615 - iv.getD 6 0)
  have HSO := start_of st HS.out t last
  have hvl := start_length st HS.out t last
  have hvo := start_ok HST.out ht last
  have HE : Hid (comp st (blockW bs) t last = fold8 st (roundsTo (Bl.start st t last) (blockW bs) 12) 8) := Lib.hid rfl
  generalize Bl.start st t last = v0 at *
  have HXF : Hid (last = false → CkX w _ V g st (blockW bs) v0) := Lib.hid fun e => by rw [← HSO, e]; exact X3
  have HXT : Hid (last = true → CkX w _ V g st (blockW bs) v0) := Lib.hid fun e => by rw [← HSO, e]; exact X4
  have HVL := Lib.hid hvl
  have HVO := Lib.hid hvo
  clear hvl hvo
  clear hl16 X2 HSO
  generalize hz : iv.getD 4 0 ^^^ t = z12 at *
  generalize iv.getD 4 0 = i4 at *
  generalize hn : 18446744073709551615 - iv.getD 6 0 = n14 at *
  generalize iv.getD 6 0 = i6 at *
  clear hz hn X3 X4
  have hgV2 : g ≠ V := by omega
  cases last
  all_goals
    go_wp2
    first | (have X0 := HXF.out (by trivial)) | (have X0 := HXT.out (by trivial))
    generalize World.setCell _ _ _ = w8 at X0 ⊢
    clear HXF HXT
    have HX0 := Lib.hid X0
    clear X0 c12 c14 f12 f14 hx12 hn14
    go_loopw [49] (fun v49 wr => ∃ r : Nat, r ≤ 12 ∧ v49 = .int .i64 (r : Int) ∧ CkX w wr V g st (blockW bs) (roundsTo v0 (blockW bs) r)) (fun v49 _ => 12 - (intOf v49).toNat)
    case atStart => exact ⟨0, by omega, rfl, HX0.out⟩
    case round =>
      clear HX0
      obtain ⟨r, hr, rfl, X⟩ := hrel
      have HX := Lib.hid X
      clear X
      by_cases h : r < 12
      · have hdt : decide ((r : Int) < 12) = true := by simp; omega
        go_wp2_with fail
        refine (order_any r _).mono ?_
        rintro e wa ⟨rfl, hba⟩
        have hol := order_length r
        have hos := fun i => order_lt r i
        have HR : Hid (roundsTo v0 (blockW bs) (r + 1) = mixTo (roundsTo v0 (blockW bs) r) (blockW bs) (order r) 8) := Lib.hid rfl
        have XA := HX.out.step hba
        clear hba
        generalize order r = s at *
        have hvrl : (roundsTo v0 (blockW bs) r).length = 16 := by rw [roundsTo_length]; exact HVL.out
        have hvro := roundsTo_ok HVO.out (blockW bs) r
        generalize hvr : roundsTo v0 (blockW bs) r = vr at *
        have HVRL := Lib.hid hvrl
        have HVRO := Lib.hid hvro
        clear hvrl hvro
        have HXA := Lib.hid XA
        have HOL := Lib.hid hol
        have HOS := Lib.hid hos
        have hO := XA.rv.lt
        have hO2 := XA.lt.2.1
        have hO3 := XA.rs.lt
        clear XA hol hos
        have HQ := Lib.hid fun (C : Array Value) => show QAt ((wa.alloc (.cells C 186)).setRow wa.heap.size (iq s)) from
          HXA.out.rq.next (below_setRow ((Below.refl _ wa).alloc (Nat.le_refl _) _) (Nat.le_refl _) _)
        go_wp2_with (first
          | refine wpList_store_row rfl 186 (.tmp 15) (.tmp 53) rfl wa.heap.size (iq s) rfl rfl 186 _ (RowAt.new _ _ _) (by rw [iq_size, HOL.out]; exact q_int16) (by rw [iq_size, HOL.out]; rfl) (iq_one _) ?_
          | refine wpList_load_of rfl 227 (.global 1) rfl ⟨1, 0, none⟩ _ rfl (tab_load (HQ.out _)) ?_)
        obtain ⟨O, hOe⟩ : ∃ O, O = wa.heap.size := ⟨_, rfl⟩
        rw [← hOe] at hO hO2 hO3 ⊢
        generalize hW : World.setRow _ _ _ = wb
        have XB : CkX w wb V g st (blockW bs) vr := by
          subst hW
          exact HXA.out.step (below_setRow ((Below.refl _ wa).alloc (Nat.le_refl _) _) (by omega) _)
        have RO : RowAt wb O 186 (iq s) := by
          subst hW; subst hOe
          exact (RowAt.new wa _ _).setRow _
        have HXB := Lib.hid XB
        have HRO := Lib.hid RO
        clear hW XB RO HXA HQ hOe
        go_loopw [55] (fun v55 wr => ∃ i : Nat, i ≤ 8 ∧ v55 = .int .i64 (i : Int) ∧ CkX w wr V g st (blockW bs) (mixTo vr (blockW bs) s i) ∧ RowAt wr O 186 (iq s)) (fun v55 _ => 8 - (intOf v55).toNat)
        case atStart => exact ⟨0, by omega, rfl, HXB.out, HRO.out⟩
        case round =>
          clear HXB HRO
          obtain ⟨i, hi, rfl, X, RO⟩ := hrel
          have HX := Lib.hid X
          have HRO := Lib.hid RO
          have hsz5 := RO.lt
          have hsz6 := X.rv.lt
          have hsz7 := X.lt.2.1
          clear X RO
          by_cases h8 : i < 8
          · have hdt2 : decide ((i : Int) < 8) = true := by simp; omega
            have hix := tab_index wr i h8
            have hp0 := pt_lt i 0 h8 (by decide)
            have hp1 := pt_lt i 1 h8 (by decide)
            have hp2 := pt_lt i 2 h8 (by decide)
            have hp3 := pt_lt i 3 h8 (by decide)
            have hvi : (mixTo vr (blockW bs) s i).length = 16 := by rw [mixTo_length]; exact HVRL.out
            have hok := take4_ok (mixTo_ok HVRO.out (blockW bs) s i) i
            have hs2 := HOS.out (2 * i)
            have hs3 := HOS.out (2 * i + 1)
            have HN : Hid (mixTo vr (blockW bs) s (i + 1) = put4 (mixTo vr (blockW bs) s i) i (quarter (take4 (mixTo vr (blockW bs) s i) i) ((blockW bs).getD (s.getD (2 * i) 0) 0) ((blockW bs).getD (s.getD (2 * i + 1) 0) 0))) := Lib.hid rfl
            have HPT : Hid (∀ q : Q, put4 (mixTo vr (blockW bs) s i) i q = ((((mixTo vr (blockW bs) s i).set (pt i 0) q.a).set (pt i 1) q.b).set (pt i 2) q.c).set (pt i 3) q.d) := Lib.hid fun _ => rfl
            have HTK : Hid (take4 (mixTo vr (blockW bs) s i) i = ⟨(mixTo vr (blockW bs) s i).getD (pt i 0) 0, (mixTo vr (blockW bs) s i).getD (pt i 1) 0, (mixTo vr (blockW bs) s i).getD (pt i 2) 0, (mixTo vr (blockW bs) s i).getD (pt i 3) 0⟩) := Lib.hid rfl
            generalize mixTo vr (blockW bs) s i = vi at *
            generalize hqd : quarter (take4 vi i) ((blockW bs).getD (s.getD (2 * i) 0) 0) ((blockW bs).getD (s.getD (2 * i + 1) 0) 0) = q at *
            have CQ := Lib.hid fun w => quarter_any (take4 vi i) hok ((blockW bs).getD (s.getD (2 * i) 0) 0) ((blockW bs).getD (s.getD (2 * i + 1) 0) 0) w
            rw [hqd, HTK.out] at CQ
            rw [HPT.out] at HN
            clear hqd HPT HTK hok
            obtain ⟨qa, qb, qc, qd⟩ := q
            simp only at CQ HN
            have hw0 := wq_at vi (pt i 0) (by omega)
            have hw1 := wq_at vi (pt i 1) (by omega)
            have hw2 := wq_at vi (pt i 2) (by omega)
            have hw3 := wq_at vi (pt i 3) (by omega)
            have ho2 := iq_at s (2 * i) (by have := HOL.out; omega)
            have ho3 := iq_at s (2 * i + 1) (by have := HOL.out; omega)
            obtain ⟨i2, hi2⟩ : ∃ k, k = 2 * i := ⟨_, rfl⟩
            obtain ⟨i3, hi3⟩ : ∃ k, k = 2 * i + 1 := ⟨_, rfl⟩
            rw [← hi2] at ho2 hs2
            rw [← hi3] at ho3 hs3
            rw [← hi3, ← hi2] at CQ
            have hi2b : i2 < 16 := by omega
            have hi3b : i3 < 16 := by omega
            have hmul : (2 : Int) * (i : Int) = (i2 : Int) := by omega
            have hadd1 : (i2 : Int) + 1 = (i3 : Int) := by omega
            generalize s.getD i2 0 = s2 at *
            generalize s.getD i3 0 = s3 at *
            generalize pt i 0 = pa at *
            generalize pt i 1 = pb at *
            generalize pt i 2 = pc at *
            generalize pt i 3 = pd at *
            generalize vi.getD pa 0 = va at *
            generalize vi.getD pb 0 = vb at *
            generalize vi.getD pc 0 = vc at *
            generalize vi.getD pd 0 = vd at *
            obtain ⟨W, hWd⟩ : ∃ W : Nat → World → Prop, W = fun k w' => CkX w w' V g st (blockW bs) ([vi, vi.set pa qa, (vi.set pa qa).set pb qb, ((vi.set pa qa).set pb qb).set pc qc, (((vi.set pa qa).set pb qb).set pc qc).set pd qd].getD k []) ∧ RowAt w' O 186 (iq s) := ⟨_, rfl⟩
            have HWS : Hid (∀ k w w', W k w → Below w.heap.size w w' → W k w') := Lib.hid fun k w w' h hb => by subst hWd; exact ⟨h.1.step hb, h.2.below hb h.2.lt⟩
            have HF0 : Hid (∀ w', W 0 w' → (w'.cell? ⟨V, pa, none⟩ = some (.int .u64 (va : Int)) ∧ w'.cell? ⟨V, pb, none⟩ = some (.int .u64 (vb : Int)) ∧ w'.cell? ⟨V, pc, none⟩ = some (.int .u64 (vc : Int)) ∧ w'.cell? ⟨V, pd, none⟩ = some (.int .u64 (vd : Int))) ∧
                (w'.cell? ⟨O, i2, none⟩ = some (.int .i64 (s2 : Int)) ∧ w'.cell? ⟨O, i3, none⟩ = some (.int .i64 (s3 : Int))) ∧ w'.cell? ⟨g, s2, none⟩ = some (.int .u64 ((blockW bs).getD s2 0 : Nat)) ∧ w'.cell? ⟨g, s3, none⟩ = some (.int .u64 ((blockW bs).getD s3 0 : Nat))) := Lib.hid fun w' h => by
              subst hWd
              exact ⟨⟨(h.1.rv.cell pa).trans hw0, (h.1.rv.cell pb).trans hw1, (h.1.rv.cell pc).trans hw2, (h.1.rv.cell pd).trans hw3⟩, ⟨(h.2.cell i2).trans ho2, (h.2.cell i3).trans ho3⟩, h.1.rm s2 hs2, h.1.rm s3 hs3⟩
            have hOV : V ≠ O := by omega
            have turn : ∀ (k p x : Nat) (u u' : List Nat), u.length = 16 → p < 16 → u' = u.set p x → [vi, vi.set pa qa, (vi.set pa qa).set pb qb, ((vi.set pa qa).set pb qb).set pc qc, (((vi.set pa qa).set pb qb).set pc qc).set pd qd].getD k [] = u →
                [vi, vi.set pa qa, (vi.set pa qa).set pb qb, ((vi.set pa qa).set pb qb).set pc qc, (((vi.set pa qa).set pb qb).set pc qc).set pd qd].getD (k + 1) [] = u' → ∀ w', W k w' → (∃ v, w'.cell? ⟨V, p, none⟩ = some v) ∧ w'.frozen? ⟨V, p, none⟩ = false ∧ W (k + 1) (w'.setCell ⟨V, p, none⟩ (.int .u64 (x : Int))) := fun k p x u u' hu hp e0 e1 e2 w' h => by
              subst hWd
              obtain ⟨h1, h2⟩ := h
              rw [e1] at h1
              refine ⟨⟨_, (h1.rv.cell p).trans (wq_at u p (by omega))⟩, h1.rv.frozen p, ?_, h2.setOther _ hOV _⟩
              rw [e2, e0]
              exact h1.set p x
            have HT0 := Lib.hid (turn 0 pa qa _ _ hvi hp0 rfl rfl rfl)
            have HT1 := Lib.hid (turn 1 pb qb _ _ (by simpa using hvi) hp1 rfl rfl rfl)
            have HT2 := Lib.hid (turn 2 pc qc _ _ (by simpa using hvi) hp2 rfl rfl rfl)
            have HT3 := Lib.hid (turn 3 pd qd _ _ (by simpa using hvi) hp3 rfl rfl rfl)
            have HZ0 : Hid (∀ w', CkX w w' V g st (blockW bs) vi → RowAt w' O 186 (iq s) → W 0 w') := Lib.hid fun w' h1 h2 => by subst hWd; exact ⟨h1, h2⟩
            have HZ4 : Hid (∀ w', W 4 w' → CkX w w' V g st (blockW bs) ((((vi.set pa qa).set pb qb).set pc qc).set pd qd) ∧ RowAt w' O 186 (iq s)) := Lib.hid fun w' h => by subst hWd; exact h
            clear turn hWd hw0 hw1 hw2 hw3 ho2 ho3 hvi hi2 hi3
            generalize (blockW bs).getD s2 0 = mx at *
            generalize (blockW bs).getD s3 0 = my at *
            go_wp2_with (refine wpList_store_row rfl 188 (.tmp 17) (.tmp 58) rfl wr.heap.size (iq [pa, pb, pc, pd]) rfl rfl 188 _ (RowAt.new _ _ _) (by rw [iq_size]; exact q_int4) rfl (iq_one _) ?_)
            obtain ⟨B17, hB17⟩ : ∃ k, k = wr.heap.size := ⟨_, rfl⟩
            rw [← hB17]
            generalize hWc : World.setRow _ _ _ = wc
            have hbc : Below wr.heap.size wr wc := by
              subst hWc
              exact below_setRow ((Below.refl _ wr).alloc (Nat.le_refl _) _) (by omega) _
            have RQ : RowAt wc B17 188 (iq [pa, pb, pc, pd]) := by
              subst hWc; subst hB17
              exact (RowAt.new wr _ _).setRow _
            have hWc0 := HZ0.out wc (HX.out.step hbc) (HRO.out.below hbc HRO.out.lt)
            have k0 : wc.cell? ⟨B17, 0, none⟩ = some (.int .i64 (pa : Int)) := (RQ.cell 0).trans rfl
            have k1 : wc.cell? ⟨B17, 1, none⟩ = some (.int .i64 (pb : Int)) := (RQ.cell 1).trans rfl
            have k2 : wc.cell? ⟨B17, 2, none⟩ = some (.int .i64 (pc : Int)) := (RQ.cell 2).trans rfl
            have k3 : wc.cell? ⟨B17, 3, none⟩ = some (.int .i64 (pd : Int)) := (RQ.cell 3).trans rfl
            have HW0 := Lib.hid hWc0
            clear hWc hbc RQ hWc0 HX HRO HZ0 hB17
            simp only [Act.put]
            go_quiet (fail)
            have HW1 := Lib.hid (HWS.out 0 wc (wc.drewN nq) HW0.out (below_drewN (Below.refl _ _) nq))
            clear k0 k1 k2 k3 HW0
            go_wp2
            refine wp_region_seq [38, 40, 42, 44] [.int .i64 (pa : Int), .int .i64 (pb : Int), .int .i64 (pc : Int), .int .i64 (pd : Int), .int .i64 (pa : Int), .pointer (some ⟨V, pa, none⟩), .int .u64 (va : Int), .int .i64 (pb : Int), .pointer (some ⟨V, pb, none⟩), .int .u64 (vb : Int), .int .i64 (pc : Int), .pointer (some ⟨V, pc, none⟩), .int .u64 (vc : Int), .int .i64 (pd : Int), .pointer (some ⟨V, pd, none⟩), .int .u64 (vd : Int), .slice (some ⟨g, 0, none⟩) 16 c', .int .i64 (i : Int), .int .i64 (i2 : Int), .pointer (some ⟨O, i2, none⟩), .int .i64 (s2 : Int), .pointer (some ⟨g, s2, none⟩), .int .u64 (mx : Int), .slice (some ⟨g, 0, none⟩) 16 c', .int .i64 (i : Int), .int .i64 (i2 : Int), .int .i64 (i3 : Int), .pointer (some ⟨O, i3, none⟩), .int .i64 (s3 : Int), .pointer (some ⟨g, s3, none⟩), .int .u64 (my : Int), .tuple #[.int .u64 (qa : Int), .int .u64 (qb : Int), .int .u64 (qc : Int), .int .u64 (qd : Int)], .tuple #[.int .u64 (qa : Int), .int .u64 (qb : Int), .int .u64 (qc : Int), .int .u64 (qd : Int)], .int .u64 (qa : Int), .int .u64 (qb : Int), .int .u64 (qc : Int), .int .u64 (qd : Int), .pointer (some ⟨V, pa, none⟩), undef, .pointer (some ⟨V, pb, none⟩), undef, .pointer (some ⟨V, pc, none⟩), undef, .pointer (some ⟨V, pd, none⟩), undef] W (by kernel_rfl) (by kernel_rfl) rfl (HWS.out 0 _ _ HW1.out (Below.refl _ _).drew) ⟨?_, ?_, ?_, ?_, ?_, ?_, ?_, ?_, ?_, ?_, ?_, ?_, ?_, ?_, ?_, ?_, ?_, ?_, ?_, ?_, ?_, ?_, ?_, ?_, ?_, ?_, ?_, ?_, ?_, ?_, ?_, ?_, ?_, ?_, ?_, ?_, ?_, ?_, ?_, ?_, ?_, ?_, ?_, ?_, ?_, trivial⟩ ?_
            · exact seq_head (by kernel_rfl) (HWS.out 0) fun a w C hW => op_move (.inl rfl) (C.was 18 (by kernel_rfl))
            · exact seq_float (by kernel_rfl) HWS.out fun a w C => op_move (.inl rfl) (C.was 19 (by kernel_rfl))
            · exact seq_float (by kernel_rfl) HWS.out fun a w C => op_move (.inl rfl) (C.was 20 (by kernel_rfl))
            · exact seq_float (by kernel_rfl) HWS.out fun a w C => op_move (.inl rfl) (C.was 21 (by kernel_rfl))
            · exact seq_head (by kernel_rfl) (HWS.out 0) fun a w C hW => op_move (.inl rfl) (C.was 18 (by kernel_rfl))
            · exact seq_head (by kernel_rfl) (HWS.out 0) fun a w C hW => op_value (ix16_run rfl (C.was 13 (by kernel_rfl)) (C.on (j := 4) (by kernel_rfl) rfl rfl) hp0) rfl
            · exact seq_head (by kernel_rfl) (HWS.out 0) fun a w C hW => op_value (ld_run rfl (C.on (j := 5) (by kernel_rfl) rfl rfl) (HF0.out _ hW).1.1) rfl
            · exact seq_head (by kernel_rfl) (HWS.out 0) fun a w C hW => op_move (.inl rfl) (C.was 19 (by kernel_rfl))
            · exact seq_head (by kernel_rfl) (HWS.out 0) fun a w C hW => op_value (ix16_run rfl (C.was 13 (by kernel_rfl)) (C.on (j := 7) (by kernel_rfl) rfl rfl) hp1) rfl
            · exact seq_head (by kernel_rfl) (HWS.out 0) fun a w C hW => op_value (ld_run rfl (C.on (j := 8) (by kernel_rfl) rfl rfl) (HF0.out _ hW).1.2.1) rfl
            · exact seq_head (by kernel_rfl) (HWS.out 0) fun a w C hW => op_move (.inl rfl) (C.was 20 (by kernel_rfl))
            · exact seq_head (by kernel_rfl) (HWS.out 0) fun a w C hW => op_value (ix16_run rfl (C.was 13 (by kernel_rfl)) (C.on (j := 10) (by kernel_rfl) rfl rfl) hp2) rfl
            · exact seq_head (by kernel_rfl) (HWS.out 0) fun a w C hW => op_value (ld_run rfl (C.on (j := 11) (by kernel_rfl) rfl rfl) (HF0.out _ hW).1.2.2.1) rfl
            · exact seq_head (by kernel_rfl) (HWS.out 0) fun a w C hW => op_move (.inl rfl) (C.was 21 (by kernel_rfl))
            · exact seq_head (by kernel_rfl) (HWS.out 0) fun a w C hW => op_value (ix16_run rfl (C.was 13 (by kernel_rfl)) (C.on (j := 13) (by kernel_rfl) rfl rfl) hp3) rfl
            · exact seq_head (by kernel_rfl) (HWS.out 0) fun a w C hW => op_value (ld_run rfl (C.on (j := 14) (by kernel_rfl) rfl rfl) (HF0.out _ hW).1.2.2.2) rfl
            · exact seq_head (by kernel_rfl) (HWS.out 0) fun a w C hW => op_move (.inl rfl) (C.was 10 (by kernel_rfl))
            · exact seq_head (by kernel_rfl) (HWS.out 0) fun a w C hW => op_move (.inl rfl) (C.was 16 (by kernel_rfl))
            · exact seq_head (by kernel_rfl) (HWS.out 0) fun a w C hW => op_bin rfl rfl (C.on (j := 17) (by kernel_rfl) rfl rfl) rfl (by simp [go_sem, hmul]; exact IntWalk.i64_in _ (by omega)) rfl
            · exact seq_head (by kernel_rfl) (HWS.out 0) fun a w C hW => op_value (ixi_run rfl (C.was 15 (by kernel_rfl)) (C.on (j := 18) (by kernel_rfl) rfl rfl) hi2b) rfl
            · exact seq_head (by kernel_rfl) (HWS.out 0) fun a w C hW => op_value (ldi_run rfl (C.on (j := 19) (by kernel_rfl) rfl rfl) (HF0.out _ hW).2.1.1) rfl
            · exact seq_head (by kernel_rfl) (HWS.out 0) fun a w C hW => op_value (ixs_run rfl (C.on (j := 16) (by kernel_rfl) rfl rfl) (C.on (j := 20) (by kernel_rfl) rfl rfl) hs2) rfl
            · exact seq_head (by kernel_rfl) (HWS.out 0) fun a w C hW => op_value (ld_run rfl (C.on (j := 21) (by kernel_rfl) rfl rfl) (HF0.out _ hW).2.2.1) rfl
            · exact seq_head (by kernel_rfl) (HWS.out 0) fun a w C hW => op_move (.inl rfl) (C.was 10 (by kernel_rfl))
            · exact seq_head (by kernel_rfl) (HWS.out 0) fun a w C hW => op_move (.inl rfl) (C.was 16 (by kernel_rfl))
            · exact seq_head (by kernel_rfl) (HWS.out 0) fun a w C hW => op_bin rfl rfl (C.on (j := 24) (by kernel_rfl) rfl rfl) rfl (by simp [go_sem, hmul]; exact IntWalk.i64_in _ (by omega)) rfl
            · exact seq_head (by kernel_rfl) (HWS.out 0) fun a w C hW => op_bin rfl (C.on (j := 25) (by kernel_rfl) rfl rfl) rfl rfl (by simp [go_sem, hadd1]; exact IntWalk.i64_in _ (by omega)) rfl
            · exact seq_head (by kernel_rfl) (HWS.out 0) fun a w C hW => op_value (ixi_run rfl (C.was 15 (by kernel_rfl)) (C.on (j := 26) (by kernel_rfl) rfl rfl) hi3b) rfl
            · exact seq_head (by kernel_rfl) (HWS.out 0) fun a w C hW => op_value (ldi_run rfl (C.on (j := 27) (by kernel_rfl) rfl rfl) (HF0.out _ hW).2.1.2) rfl
            · exact seq_head (by kernel_rfl) (HWS.out 0) fun a w C hW => op_value (ixs_run rfl (C.on (j := 23) (by kernel_rfl) rfl rfl) (C.on (j := 28) (by kernel_rfl) rfl rfl) hs3) rfl
            · exact seq_head (by kernel_rfl) (HWS.out 0) fun a w C hW => op_value (ld_run rfl (C.on (j := 29) (by kernel_rfl) rfl rfl) (HF0.out _ hW).2.2.2) rfl
            · exact seq_head (by kernel_rfl) (HWS.out 0) fun a w C hW => op_call6 rfl (reg_enters Tryz.func135 (by kernel_rfl) (by kernel_rfl)) (C.on (j := 6) (by kernel_rfl) rfl rfl) (C.on (j := 9) (by kernel_rfl) rfl rfl) (C.on (j := 12) (by kernel_rfl) rfl rfl) (C.on (j := 15) (by kernel_rfl) rfl rfl) (C.on (j := 22) (by kernel_rfl) rfl rfl) (C.on (j := 30) (by kernel_rfl) rfl rfl) ((CQ.out w).mono fun e w2 h => by obtain ⟨rfl, rfl⟩ := h; exact ⟨_, rfl, rfl, Below.refl _ _⟩)
            · exact seq_head (by kernel_rfl) (HWS.out 0) fun a w C hW => op_move (.inl rfl) (C.on (j := 31) (by kernel_rfl) rfl rfl)
            · exact seq_head (by kernel_rfl) (HWS.out 0) fun a w C hW => op_value (ex_run rfl (C.on (j := 32) (by kernel_rfl) rfl rfl) rfl) rfl
            · exact seq_float (by kernel_rfl) HWS.out fun a w C => op_value (ex_run rfl (C.on (j := 32) (by kernel_rfl) rfl rfl) rfl) rfl
            · exact seq_float (by kernel_rfl) HWS.out fun a w C => op_value (ex_run rfl (C.on (j := 32) (by kernel_rfl) rfl rfl) rfl) rfl
            · exact seq_float (by kernel_rfl) HWS.out fun a w C => op_value (ex_run rfl (C.on (j := 32) (by kernel_rfl) rfl rfl) rfl) rfl
            · exact seq_head (by kernel_rfl) (HWS.out 0) fun a w C hW => op_value (ix16_run rfl (C.was 13 (by kernel_rfl)) (C.on (j := 0) (by kernel_rfl) rfl rfl) hp0) rfl
            · exact seq_turn 0 (by kernel_rfl) fun a w C hW => by
                obtain ⟨⟨u, hu⟩, hf, hn⟩ := HT0.out w hW
                exact st_does rfl (C.on (j := 37) (by kernel_rfl) rfl rfl) (C.on (j := 33) (by kernel_rfl) rfl rfl) hu hf hn
            · exact seq_float (by kernel_rfl) HWS.out fun a w C => op_value (ix16_run rfl (C.was 13 (by kernel_rfl)) (C.on (j := 1) (by kernel_rfl) rfl rfl) hp1) rfl
            · exact seq_turn 1 (by kernel_rfl) fun a w C hW => by
                obtain ⟨⟨u, hu⟩, hf, hn⟩ := HT1.out w hW
                exact st_does rfl (C.on (j := 39) (by kernel_rfl) rfl rfl) (C.on (j := 34) (by kernel_rfl) rfl rfl) hu hf hn
            · exact seq_float (by kernel_rfl) HWS.out fun a w C => op_value (ix16_run rfl (C.was 13 (by kernel_rfl)) (C.on (j := 2) (by kernel_rfl) rfl rfl) hp2) rfl
            · exact seq_turn 2 (by kernel_rfl) fun a w C hW => by
                obtain ⟨⟨u, hu⟩, hf, hn⟩ := HT2.out w hW
                exact st_does rfl (C.on (j := 41) (by kernel_rfl) rfl rfl) (C.on (j := 35) (by kernel_rfl) rfl rfl) hu hf hn
            · exact seq_float (by kernel_rfl) HWS.out fun a w C => op_value (ix16_run rfl (C.was 13 (by kernel_rfl)) (C.on (j := 3) (by kernel_rfl) rfl rfl) hp3) rfl
            · exact seq_turn 3 (by kernel_rfl) fun a w C hW => by
                obtain ⟨⟨u, hu⟩, hf, hn⟩ := HT3.out w hW
                exact st_does rfl (C.on (j := 43) (by kernel_rfl) rfl rfl) (C.on (j := 36) (by kernel_rfl) rfl rfl) hu hf hn
            intro wz hz
            obtain ⟨z1, z2⟩ := HZ4.out wz hz
            have HZ1 := Lib.hid z1
            have HZ2 := Lib.hid z2
            clear z1 z2 hz HF0 HT0 HT1 HT2 HT3 HWS HW1 HZ4 CQ
            simp only [setAll, setAt, List.setIfInBounds_toArray, List.set_cons_succ, List.set_cons_zero]
            go_wp2
            go_roundw
            case rel => exact ⟨i + 1, by omega, by go_num, by rw [HN.out]; exact HZ1.out, HZ2.out⟩
            case measure => simp [intOf]; omega
          · obtain rfl : i = 8 := by omega
            have hdt2 : decide (((8 : Nat) : Int) < 8) = false := by simp
            go_wp2
            go_roundw
            case rel => exact ⟨r + 1, by omega, by go_num, by rw [HR.out]; exact HX.out⟩
            case measure => simp [intOf]; omega
      · obtain rfl : r = 12 := by omega
        rw [show ((12 : Nat) : Int) = 12 from rfl]
        have hdt : decide ((12 : Int) < 12) = false := by simp
        have hvrl : (roundsTo v0 (blockW bs) 12).length = 16 := by rw [roundsTo_length]; exact HVL.out
        have hvro := roundsTo_ok HVO.out (blockW bs) 12
        generalize roundsTo v0 (blockW bs) 12 = vz at *
        have HVRL := Lib.hid hvrl
        have HVRO := Lib.hid hvro
        clear hvrl hvro
        go_wp2
        go_loopw [110] (fun v110 wr => ∃ j : Nat, j ≤ 8 ∧ v110 = .int .i64 (j : Int) ∧ RowAt wr w.heap.size 53 (wq (fold8 st vz j)) ∧ RowAt wr (w.heap.size + 1) 53 (wq (List.replicate 8 0)) ∧ RowAt wr V 185 (wq vz) ∧ Below w.heap.size w wr) (fun v110 _ => 8 - (intOf v110).toNat)
        case atStart => exact ⟨0, by omega, rfl, HX.out.rs, HX.out.rz, HX.out.rv, HX.out.below⟩
        case round =>
          clear HX
          obtain ⟨j, hj, rfl, Rs, Rz, Rv, hB⟩ := hrel
          have hml := fold8_length st vz j
          rw [HS.out] at hml
          have H0 := Lib.hid Rs
          have H1 := Lib.hid Rz
          have H2 := Lib.hid Rv
          have HB := Lib.hid hB
          by_cases h : j < 8
          · have cj := (Rs.cell j).trans (wq_at _ j (by omega))
            rw [fold8_at st vz j j (Nat.le_refl _)] at cj
            have fj := Rs.frozen j
            have dj := (Rv.cell j).trans (wq_at _ j (by rw [HVRL.out]; omega))
            have ej := (Rv.cell (j + 8)).trans (wq_at _ (j + 8) (by rw [HVRL.out]; omega))
            have HF : Hid (fold8 st vz (j + 1) = (fold8 st vz j).set j (st.getD j 0 ^^^ (vz.getD j 0 ^^^ vz.getD (j + 8) 0))) := Lib.hid rfl
            have x1 := xor64 _ _ (HVRO.out.at_ j) (HVRO.out.at_ (j + 8))
            have x2 := xor64 _ _ (HST.out.at_ j) (xor_lt64 _ _ (HVRO.out.at_ j) (HVRO.out.at_ (j + 8)))
            obtain ⟨j8, hj8⟩ : ∃ k, k = j + 8 := ⟨_, rfl⟩
            rw [← hj8] at ej HF x1 x2
            have q8 : (j : Int) + 8 = (j8 : Int) := by omega
            have v8 : IntKind.i64.wrap (j8 : Int) = (j8 : Int) := IntWalk.i64_in _ (by omega)
            have n8 : (j8 : Int) < 16 := by omega
            have z8 : (0 : Int) ≤ (j8 : Int) := by omega
            have nj : (j : Int) < 8 := by omega
            have nj2 : (j : Int) < 16 := by omega
            have zj : (0 : Int) ≤ (j : Int) := by omega
            have l8 : j8 < 16 := by omega
            have lj2 : j < 16 := by omega
            clear Rs Rz Rv hB hml hj8
            generalize st.getD j 0 = x at *
            generalize vz.getD j 0 = y at *
            generalize vz.getD j8 0 = z at *
            generalize hyz : y ^^^ z = yz at *
            generalize hxyz : x ^^^ yz = xyz at *
            clear hyz hxyz
            have hd : decide ((j : Int) < 8) = true := by simp; omega
            go_wp2
            have kc : ∀ tp d os out, (World.mk wr.heap tp d os out).cell? ⟨w.heap.size, j, none⟩ = some (.int .u64 (x : Int)) := fun _ _ _ _ => cj
            have kd : ∀ tp d os out, (World.mk wr.heap tp d os out).cell? ⟨V, j, none⟩ = some (.int .u64 (y : Int)) := fun _ _ _ _ => dj
            have ke : ∀ tp d os out, (World.mk wr.heap tp d os out).cell? ⟨V, j8, none⟩ = some (.int .u64 (z : Int)) := fun _ _ _ _ => ej
            refine wp_region_still_tail 12 (by kernel_rfl) (by kernel_rfl) ?_
            simp only [List.take_succ_cons, List.take_zero, List.drop_succ_cons, List.drop_zero]
            repeat still_step
            refine wpStill_nil ?_
            change wpList _ _ _ _ _ wr.drew
            have K0 := Lib.hid H0.out.drew
            have K1 := Lib.hid H1.out.drew
            have K2 := Lib.hid H2.out.drew
            have KB := Lib.hid HB.out.drew
            have ck : wr.drew.cell? ⟨w.heap.size, j, none⟩ = some (.int .u64 (x : Int)) := cj
            have fk : wr.drew.frozen? ⟨w.heap.size, j, none⟩ = false := fj
            generalize wr.drew = wd at *
            clear kc kd ke H0 H1 H2 HB cj fj dj ej
            go_wp2
            go_roundw
            case rel =>
              refine ⟨j + 1, by omega, by go_num, ?_, K1.out.setOther _ (by simp) _, K2.out.setOther _ (by simp; omega) _, KB.out.setCell (by simp) _⟩
              rw [HF.out, ← wq_set]
              exact K0.out.setCell j _
            case measure => simp [intOf]; omega
          · obtain rfl : j = 8 := by omega
            have hd : decide (((8 : Nat) : Int) < 8) = false := by simp
            have hsz8 : (wq (fold8 st vz 8)).size = 8 := by rw [wq_size]; exact hml
            have HS8 := Lib.hid hsz8
            have HZ8 := Lib.hid (show (wq (List.replicate 8 0)).size = 8 from rfl)
            clear Rs Rz Rv hB hml hsz8
            go_wp2_with (first
              | refine wpList_load_row rfl 53 (.tmp 4) rfl w.heap.size rfl 53 (wq (fold8 st vz 8)) (0, 0) _ H0.out Tryz.underlying53 rfl (by rw [HS8.out]; exact q_size8) ?_
              | refine wpList_store_row rfl 53 (.tmp 8) (.tmp 127) rfl (w.heap.size + 1) (wq (fold8 st vz 8)) rfl rfl 53 _ H1.out (by rw [HS8.out]; exact q_size8) (by rw [HS8.out, HZ8.out]) (wq_one _) ?_)
            have hR := H1.out.setRow (wq (fold8 st vz 8))
            rw [← HE.out] at hR
            refine bodyPost_ret (results_row_tmp (fn := Tryz.f124) (p := 8) (u := 9) (b := w.heap.size + 1) (t := 53) (C := wq (comp st (blockW bs) t _)) rfl _ rfl ?_ Tryz.underlying53 rfl (by rw [wq_size, comp_length, HS.out]; exact q_size8)) rfl ⟨rfl, ?_⟩
            · rw [HE.out]; rw [HE.out] at hR; exact hR
            · exact below_setRow HB.out (by omega) _
end Go.Proofs.YtfoodaobiknihaaGreatDoor

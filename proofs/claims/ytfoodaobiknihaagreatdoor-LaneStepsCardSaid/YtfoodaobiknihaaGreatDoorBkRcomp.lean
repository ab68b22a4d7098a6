/- The document's state behind a block, by its contract. Conditions: the first state is the known one, the block has 128 bytes. -/
import Derived.Test.YtfoodaobiknihaaGreatDoorBx
import Derived.Test.YtfoodaobiknihaaGreatDoorBkComp
import Derived.Test.YtfoodaobiknihaaGreatDoorGen
import Derived.Test.YtfoodaobiknihaaGreatDoorWy
import Derived.Deep.QuietTactic
namespace Go.Proofs.YtfoodaobiknihaaGreatDoor
set_option maxRecDepth 50000
open Go.RowKit Rot Bl
structure Rx (w wr : World) (V g : Nat) (st mw v : List Nat) : Prop where
  rf : RowAt wr w.heap.size 54 (wq iv)
  rs : RowAt wr (w.heap.size + 1) 53 (wq st)
  rz : RowAt wr (w.heap.size + 1 + 1) 53 (wq (List.replicate 8 0))
  rv : RowAt wr V 185 (wq v)
  rm : ∀ k, k < 16 → wr.cell? ⟨g, k, none⟩ = some (.int .u64 (mw.getD k 0 : Nat))
  below : Below w.heap.size w wr
  lt : w.heap.size + 2 < V ∧ g < wr.heap.size ∧ g ≠ V ∧ w.heap.size + 2 < g
section
variable {w wr wr' : World} {V g : Nat} {st mw v : List Nat}
theorem Rx.step (h : Rx w wr V g st mw v) (hb : Below wr.heap.size wr wr') : Rx w wr' V g st mw v :=
  ⟨h.rf.below hb h.rf.lt, h.rs.below hb h.rs.lt, h.rz.below hb h.rz.lt, h.rv.below hb h.rv.lt, fun k hk => (hb.cell (p := ⟨g, k, none⟩) h.lt.2.1).trans (h.rm k hk), h.below.trans (hb.mono h.below.size),
    ⟨h.lt.1, Nat.lt_of_lt_of_le h.lt.2.1 hb.size, h.lt.2.2⟩⟩
theorem Rx.drew (h : Rx w wr V g st mw v) : Rx w wr.drew V g st mw v := h.step (Below.refl _ _).drew
theorem Rx.set (h : Rx w wr V g st mw v) (i x : Nat) : Rx w (wr.setCell ⟨V, i, none⟩ (.int .u64 (x : Int))) V g st mw (v.set i x) := by
  obtain ⟨l1, l2, l3, l4⟩ := h.lt
  refine ⟨h.rf.setOther _ (by simp; omega) _, h.rs.setOther _ (by simp; omega) _, h.rz.setOther _ (by simp; omega) _, ?_, fun k hk => ?_, h.below.setCell (by simp; omega) _, ⟨l1, by simp [World.setCell]; omega, l3, l4⟩⟩
  · rw [← wq_set]; exact h.rv.setCell i _
  · rw [World.cell?_of_block (w := wr) (Below.heap_setCell _ _ _ _ l3)]; exact h.rm k hk
end
def fv (st : List Nat) : Nat → List Nat
  | 0 => List.replicate 16 0
  | i + 1 => ((fv st i).set i (st.getD i 0)).set (i + 8) (iv.getD i 0)
theorem fv_length (st : List Nat) : ∀ i, (fv st i).length = 16
  | 0 => by simp [fv]
  | i + 1 => by simp [fv, fv_length st i]
theorem fv_all (st : List Nat) (hs : st.length = 8) : fv st 8 = st ++ iv := by
  match st, hs with
  | [_, _, _, _, _, _, _, _], _ => rfl
theorem sub_all (z : Nat) (hz : z ≤ 18446744073709551615) : IntKind.u64.wrap (18446744073709551615 - (z : Int)) = ((18446744073709551615 - z : Nat) : Int) := by
  rw [← u64_in (18446744073709551615 - z) (by omega)]
  have h : (18446744073709551615 : Int) - (z : Int) = ((18446744073709551615 - z : Nat) : Int) := by omega
  rw [h]
def putTo (v : List Nat) (i : Nat) (q : List Nat) : Nat → List Nat
  | 0 => v
  | k + 1 => (putTo v i q k).set (pt i k) (q.getD k 0)
theorem putTo_length (v : List Nat) (i : Nat) (q : List Nat) : ∀ k, (putTo v i q k).length = v.length
  | 0 => rfl
  | k + 1 => by simp [putTo, putTo_length v i q k]
theorem putTo_all (v : List Nat) (i : Nat) (q : Q) : putTo v i [q.a, q.b, q.c, q.d] 4 = put4 v i q := rfl
def NewFour (N : Nat) : Value → World → Prop := fun x w => ∃ B, x = .pointer (some ⟨B, 0, none⟩) ∧ N ≤ B ∧ RowAt w B 190 (wq [0, 0, 0, 0])
theorem stable_new (N : Nat) : Stable (NewFour N) := fun _ _ _ ⟨B, e, h, h2⟩ hb => ⟨B, e, h, h2.below hb h2.lt⟩
section
variable {w : World} {ev : Operand → Value} {x y : Operand} {o : Oper} {B i : Nat}
theorem ix4i_run (hop : o.op = .indexAddr 188 x y) (hx : ev x = .pointer (some ⟨B, 0, none⟩)) (hy : ev y = .int .i64 (i : Int)) (hi : i < 4) : (execOp ev o).run Tryz.prog w = .ok (.value (.pointer (some ⟨B, i, none⟩))) w := by
  have h1 : (i : Int) < 4 := by omega
  simp [execOp, hop, hx, hy, go_sem, h1]
theorem bd4_run {a b c d : Nat} {x1 x2 x3 x4 : Operand} (hop : o.op = .build 190 #[(0, x1), (1, x2), (2, x3), (3, x4)]) (h1 : ev x1 = .int .u64 (a : Int)) (h2 : ev x2 = .int .u64 (b : Int)) (h3 : ev x3 = .int .u64 (c : Int)) (h4 : ev x4 = .int .u64 (d : Int)) :
    (execOp ev o).run Tryz.prog w = .ok (.value (.agg (wq [a, b, c, d]))) w := by
  simp [execOp, hop, h1, h2, h3, h4, go_sem, wq, u64s]
theorem al4_run (hop : o.op = .alloc 190) : (execOp ev o).run Tryz.prog w = .ok (.value (.pointer (some ⟨w.heap.size, 0, none⟩))) (w.alloc (.cells (wq [0, 0, 0, 0]) 190)) := by
  simp [execOp, hop, go_sem, wq, u64s]
end
theorem op_new {N : Nat} {o : Oper} {a : Act} {w : World} {Q : Exit → Act → World → Prop} (hop : o.op = .alloc 190) (hN : N ≤ w.heap.size) : Does Tryz.prog (NewFour N) o a w Q := by
  unfold Does Oper.wp
  rw [al4_run hop]
  exact ⟨_, rfl, ⟨w.heap.size, rfl, hN, RowAt.new _ _ _⟩, (Below.refl _ _).alloc (Nat.le_refl _) _⟩
theorem op_call3k {P : Program} {o : Oper} {a : Act} {w : World} {Q : Exit → Act → World → Prop} {p : Value → World → Prop} {f : FuncId} {x1 x2 x3 : Operand} {ts : Array TypeId} {v1 v2 v3 : Value} (ho : o.op = .call { callee := .value (.func f), args := #[x1, x2, x3], argTypes := ts }) (he : ∀ (args : Array Value) (w : World), (callFunc f args).run P w = .ok (.enter f args) w)
    (h1 : a.eval x1 = v1) (h2 : a.eval x2 = v2) (h3 : a.eval x3 = v3) (hc : Calls P f #[v1, v2, v3] w fun e w' => ∃ v, e = .returned v ∧ p v w' ∧ Below w.heap.size w w') : Does P p o a w Q := by
  subst h1; subst h2; subst h3
  exact op_call ho he hc
set_option maxHeartbeats 6400000 in
theorem rcomp_any (st : List Nat) (hs : st.length = 8) (hst : okw st) (s : ByteArray) (hbs : s.size = 128) (t : Nat) (ht : t < 18446744073709551616) (last : Bool) (w : World) :
    Calls Tryz.prog 78 #[.agg (wq iv), .agg (wq st), .string s, .int .u64 (t : Int), .bool last] w fun e w' => e = .returned (.agg (wq (comp st (blockW (nb s)) t last))) ∧ Below w.heap.size w w' := by
  have hnl : (nb s).length = 128 := by rw [nb_length, hbs]
  obtain ⟨W, cap, hcv, hbW, hBuf, hWs⟩ := bytes_of_text (((w.alloc (.cells (wq iv) 54)).alloc (.cells (wq st) 53)).alloc (.cells #[.int .u64 0, .int .u64 0, .int .u64 0, .int .u64 0, .int .u64 0, .int .u64 0, .int .u64 0, .int .u64 0] 53)) s
  rw [hbs] at hcv
  have C := fun (w : World) (A : Option Addr) (hr : Reads w w.heap.size A (u8s (nb s))) => words8_any A cap (nb s) 16 (by rw [hnl]) w hr (by omega) (nb_lt s)
  rw [hnl] at C
  have HBW : Hid (hornsAt 8 (nb s) 16 = blockW (nb s)) := Lib.hid (link8 16 (nb s) (nb_lt s)).symm
  have HC := Lib.hid C
  have HS := Lib.hid hs
  have HST := Lib.hid hst
  have HBF := Lib.hid hBuf
  have HX := Lib.hid (blockW_ok (nb s) (nb_lt s))
  have HBL : Hid (Below w.heap.size w W) := Lib.hid (((((Below.refl _ w).alloc (Nat.le_refl _) _).alloc (by simp) _).alloc (by simp; omega) _).trans (hbW.mono (by simp; omega)))
  have hWs2 : W.heap.size = w.heap.size + 4 := by rw [hWs]; simp
  have RF : Hid (RowAt W w.heap.size 54 (wq iv)) := Lib.hid ((((RowAt.new w 54 (wq iv)).alloc _).alloc _).below hbW (by simp; omega))
  have RS : Hid (RowAt W (w.heap.size + 1) 53 (wq st)) := Lib.hid (by
    have h := RowAt.new (w.alloc (.cells (wq iv) 54)) 53 (wq st)
    rw [World.size_alloc] at h
    exact (h.alloc _).below hbW (by simp))
  have RZ : Hid (RowAt W (w.heap.size + 1 + 1) 53 (wq (List.replicate 8 0))) := Lib.hid (by
    have h := RowAt.new ((w.alloc (.cells (wq iv) 54)).alloc (.cells (wq st) 53)) 53 (wq (List.replicate 8 0))
    rw [World.size_alloc, World.size_alloc] at h
    exact h.below hbW (by simp))
  have hRd : Hid (Reads W W.heap.size (some ⟨w.heap.size + 1 + 1 + 1, 0, none⟩) (u8s (nb s))) := Lib.hid (by
    have e : (((w.alloc (.cells (wq iv) 54)).alloc (.cells (wq st) 53)).alloc (.cells #[.int .u64 0, .int .u64 0, .int .u64 0, .int .u64 0, .int .u64 0, .int .u64 0, .int .u64 0, .int .u64 0] 53)).heap.size = w.heap.size + 3 := by simp
    rw [e] at hBuf
    exact hBuf.reads (by omega))
  clear C hs hst hBuf hWs hbW hnl
  go_enter Tryz.func78, Tryz.ntmps78
  go_wp2_with fail
  refine (HC.out _ _ hRd.out).mono ?_
  rintro e w1 ⟨v, rfl, hown, hb⟩
  rw [HBW.out] at hown
  have hsz : w.heap.size + 4 ≤ w1.heap.size := by have := hb.size; omega
  obtain ⟨A', c', rfl, hl1, hl2, hl3⟩ := own_form hown
  obtain ⟨g, rfl, hg⟩ := hl2 (by omega)
  have hrd := Reads.of_own hown
  have hrm : ∀ k, k < 16 → w1.cell? ⟨g, k, none⟩ = some (.int .u64 ((blockW (nb s)).getD k 0 : Nat)) := fun k hk => by
    obtain ⟨b', off', e', _, hc'⟩ := hrd k (by rw [u64s_length, blockW_length]; exact hk)
    cases e'
    rw [Nat.zero_add] at hc'
    rw [hc', u64_at, List.getD_eq_getElem?_getD, List.getElem?_eq_getElem (by rw [blockW_length]; exact hk)]
    rfl
  have hgl : g < w1.heap.size := by
    obtain ⟨b', off', e', h', _⟩ := hrd 0 (by rw [u64s_length, blockW_length]; decide)
    cases e'; exact h'
  have X0 : ∀ C : Array Value, RowAt (w1.alloc (.cells C 185)) w1.heap.size 185 (wq (List.replicate 16 0)) → Rx w (w1.alloc (.cells C 185)) w1.heap.size g st (blockW (nb s)) (fv st 0) := fun C h => by
    have hba : Below W.heap.size W (w1.alloc (.cells C 185)) := hb.alloc (by omega) _
    refine ⟨RF.out.below hba (by omega), RS.out.below hba (by omega), RZ.out.below hba (by omega), h, fun k hk => ?_, HBL.out.trans (hba.mono (by omega)), by omega, by simp; omega, by omega, by omega⟩
    rw [World.cell?_of_block (w := w1) (Below.heap_alloc w1 _ _ hgl)]; exact hrm k hk
  have HX0 := Lib.hid (X0 _ (RowAt.new w1 185 (wq (List.replicate 16 0))))
  clear hl1 hl2 hl3 hown hrd hrm hb X0 RF RS RZ hRd HBL HBF HC
  obtain ⟨V, hV⟩ : ∃ V, V = w1.heap.size := ⟨_, rfl⟩
  go_wp2
  rw [← hV] at HX0 ⊢
  generalize hW2 : w1.alloc _ = w2
  have X0 : Rx w w2 V g st (blockW (nb s)) (fv st 0) := by rw [← hW2]; exact HX0.out
  have hVw : w.heap.size + 2 < V := X0.lt.1
  have hgV : g ≠ V := X0.lt.2.2.1
  have HX1 := Lib.hid X0
  clear hW2 X0 HX0 hV hgl hg
  go_loopw [14] (fun v14 wr => ∃ i : Nat, i ≤ 8 ∧ v14 = .int .i64 (i : Int) ∧ Rx w wr V g st (blockW (nb s)) (fv st i)) (fun v14 _ => 8 - (intOf v14).toNat)
  case atStart => exact ⟨0, by omega, rfl, HX1.out⟩
  case round =>
    clear HX1
    obtain ⟨i, hi, rfl, X⟩ := hrel
    have HX1 := Lib.hid X
    by_cases h : i < 8
    · have hl := fv_length st i
      have ch := (X.rs.cell i).trans (wq_at st i (by rw [HS.out]; exact h))
      have cf := (X.rf.cell i).trans (wq_at iv i h)
      have cv := (X.rv.cell i).trans (wq_at _ i (by omega))
      have fvi := X.rv.frozen i
      have X2 := X.set i (st.getD i 0)
      have cv2 := (X2.rv.cell (i + 8)).trans (wq_at _ (i + 8) (by simp; omega))
      have fvi2 := X2.rv.frozen (i + 8)
      have HF : Hid (fv st (i + 1) = ((fv st i).set i (st.getD i 0)).set (i + 8) (iv.getD i 0)) := Lib.hid rfl
      have HX2 := Lib.hid (X2.set (i + 8) (iv.getD i 0))
      have cf2 : (wr.setCell ⟨V, i, none⟩ (.int .u64 (st.getD i 0 : Nat))).cell? ⟨w.heap.size, i, none⟩ = some (.int .u64 (iv.getD i 0 : Nat)) := (X2.rf.cell i).trans (wq_at iv i h)
      obtain ⟨i8, hi8⟩ : ∃ k, k = i + 8 := ⟨_, rfl⟩
      rw [← hi8] at cv2 fvi2 HF HX2
      have q8 : (i : Int) + 8 = (i8 : Int) := by omega
      have l8 : i8 < 16 := by omega
      have n8 : (i8 : Int) < 16 := by omega
      have l16 : i < 16 := by omega
      have hdt : decide ((i : Int) < 8) = true := by simp; omega
      have hne : i8 ≠ i := by omega
      clear X X2 hi8 hl
      generalize st.getD i 0 = x at *
      generalize iv.getD i 0 = y at *
      go_wp2
      go_roundw
      case rel => exact ⟨i + 1, by omega, by go_num, by rw [HF.out]; exact HX2.out⟩
      case measure => simp [intOf]; omega
    · obtain rfl : i = 8 := by omega
      rw [show ((8 : Nat) : Int) = 8 from rfl]
      have hdt : decide ((8 : Int) < 8) = false := by simp
      rw [fv_all st HS.out] at X
      clear HX1
      have hl16 : (st ++ iv).length = 16 := by rw [List.length_append, HS.out]; rfl
      have c12 := (X.rv.cell 12).trans (wq_at _ 12 (by omega))
      rw [half_12 st HS.out] at c12
      have f12 := X.rv.frozen 12
      have hx12 := xor64 (iv.getD 4 0) t (by decide) ht
      have X3 := X.set 12 (iv.getD 4 0 ^^^ t)
      have c14 := (X3.rv.cell 14).trans (wq_at _ 14 (by rw [List.length_set]; omega))
      rw [half_14 st HS.out] at c14
      have f14 := X3.rv.frozen 14
      have hn14 : IntKind.u64.wrap (18446744073709551615 - ((iv.getD 6 0 : Nat) : Int)) = ((18446744073709551615 - iv.getD 6 0 : Nat) : Int) := sub_all _ (by decide)
      have X4 := X3.set 14 (18446744073709551615 - iv.getD 6 0)
      have HSO := start_of st HS.out t last
      have hvl := start_length st HS.out t last
      have hvo := start_ok HST.out ht last
      have HE : Hid (comp st (blockW (nb s)) t last = fold8 st (roundsTo (Bl.start st t last) (blockW (nb s)) 12) 8) := Lib.hid rfl
      generalize Bl.start st t last = v0 at *
      have HXF : Hid (last = false → Rx w _ V g st (blockW (nb s)) v0) := Lib.hid fun e => by rw [← HSO, e]; exact X3
      have HXT : Hid (last = true → Rx w _ V g st (blockW (nb s)) v0) := Lib.hid fun e => by rw [← HSO, e]; exact X4
      have HVL := Lib.hid hvl
      have HVO := Lib.hid hvo
      clear hvl hvo hl16 X X3 X4 HSO
      generalize hz : iv.getD 4 0 ^^^ t = z12 at *
      generalize iv.getD 4 0 = i4 at *
      generalize hn : 18446744073709551615 - iv.getD 6 0 = n14 at *
      generalize iv.getD 6 0 = i6 at *
      clear hz hn
      cases last
      all_goals
        go_wp2
        first | (have X0 := HXF.out (by trivial)) | (have X0 := HXT.out (by trivial))
        generalize World.setCell _ _ _ = w8 at X0 ⊢
        clear HXF HXT
        have HX0 := Lib.hid X0
        clear X0 c12 c14 f12 f14 hx12 hn14
        go_loopw [15] (fun v15 wr => ∃ r : Nat, r ≤ 12 ∧ v15 = .int .i64 (r : Int) ∧ Rx w wr V g st (blockW (nb s)) (roundsTo v0 (blockW (nb s)) r)) (fun v15 _ => 12 - (intOf v15).toNat)
        case atStart => exact ⟨0, by omega, rfl, HX0.out⟩
        case round =>
          clear HX0
          obtain ⟨r, hr, rfl, X⟩ := hrel
          have HX := Lib.hid X
          clear X
          by_cases h12 : r < 12
          · have hdt2 : decide ((r : Int) < 12) = true := by simp; omega
            go_wp2_with fail
            refine (rorder_any r _).mono ?_
            rintro e wa ⟨rfl, hba⟩
            have hol := order_length r
            have hos := fun i => order_lt r i
            have HR : Hid (roundsTo v0 (blockW (nb s)) (r + 1) = mixTo (roundsTo v0 (blockW (nb s)) r) (blockW (nb s)) (order r) 8) := Lib.hid rfl
            have XA := HX.out.step hba
            clear hba
            generalize order r = so at *
            have hvrl : (roundsTo v0 (blockW (nb s)) r).length = 16 := by rw [roundsTo_length]; exact HVL.out
            have hvro := roundsTo_ok HVO.out (blockW (nb s)) r
            generalize roundsTo v0 (blockW (nb s)) r = vr at *
            have HVRL := Lib.hid hvrl
            have HVRO := Lib.hid hvro
            clear hvrl hvro
            have HXA := Lib.hid XA
            have HOL := Lib.hid hol
            have HOS := Lib.hid hos
            have hO := XA.rv.lt
            have hO2 := XA.lt.2.1
            clear XA hol hos
            go_wp2_with (refine wpList_store_row rfl 186 (.tmp 16) (.tmp 58) rfl wa.heap.size (iq so) rfl rfl 186 _ (RowAt.new _ _ _) (by rw [iq_size, HOL.out]; exact q_int16) (by rw [iq_size, HOL.out]; rfl) (iq_one _) ?_)
            obtain ⟨O, hOe⟩ : ∃ O, O = wa.heap.size := ⟨_, rfl⟩
            rw [← hOe] at hO hO2 ⊢
            generalize hW : World.setRow _ _ _ = wb
            have XB : Rx w wb V g st (blockW (nb s)) vr := by
              subst hW
              exact HXA.out.step (below_setRow ((Below.refl _ wa).alloc (Nat.le_refl _) _) (by omega) _)
            have RO : RowAt wb O 186 (iq so) := by
              subst hW; subst hOe
              exact (RowAt.new wa _ _).setRow _
            have HXB := Lib.hid XB
            have HRO := Lib.hid RO
            clear hW XB RO HXA hOe
            go_wp2
            go_loopw [17] (fun v17 wr => ∃ i : Nat, i ≤ 8 ∧ v17 = .int .i64 (i : Int) ∧ Rx w wr V g st (blockW (nb s)) (mixTo vr (blockW (nb s)) so i) ∧ RowAt wr O 186 (iq so)) (fun v17 _ => 8 - (intOf v17).toNat)
            case atStart => exact ⟨0, by omega, rfl, HXB.out, HRO.out⟩
            case round =>
              clear HXB HRO
              obtain ⟨i, hi, rfl, X, RO⟩ := hrel
              have HX := Lib.hid X
              have HRO := Lib.hid RO
              have hsz5 := RO.lt
              have hsz6 := X.rv.lt
              have hsz7 := X.lt.2.1
              clear X RO
              by_cases h8 : i < 8
              · have hdt3 : decide ((i : Int) < 8) = true := by simp; omega
                go_wp2_with fail
                refine (at_any i h8 _).mono ?_
                rintro e wp ⟨rfl, hbp⟩
                have HXP := Lib.hid (HX.out.step hbp)
                have HROP := Lib.hid (HRO.out.below hbp HRO.out.lt)
                have hszp : wr.heap.size ≤ wp.heap.size := hbp.size
                clear hbp HX HRO
                have hp0 := pt_lt i 0 h8 (by decide)
                have hp1 := pt_lt i 1 h8 (by decide)
                have hp2 := pt_lt i 2 h8 (by decide)
                have hp3 := pt_lt i 3 h8 (by decide)
                have hvi : (mixTo vr (blockW (nb s)) so i).length = 16 := by rw [mixTo_length]; exact HVRL.out
                have hok := take4_ok (mixTo_ok HVRO.out (blockW (nb s)) so i) i
                have hs2 := HOS.out (2 * i)
                have hs3 := HOS.out (2 * i + 1)
                have HN : Hid (mixTo vr (blockW (nb s)) so (i + 1) = put4 (mixTo vr (blockW (nb s)) so i) i (quarter (take4 (mixTo vr (blockW (nb s)) so i) i) ((blockW (nb s)).getD (so.getD (2 * i) 0) 0) ((blockW (nb s)).getD (so.getD (2 * i + 1) 0) 0))) := Lib.hid rfl
                have HTK : Hid (take4 (mixTo vr (blockW (nb s)) so i) i = ⟨(mixTo vr (blockW (nb s)) so i).getD (pt i 0) 0, (mixTo vr (blockW (nb s)) so i).getD (pt i 1) 0, (mixTo vr (blockW (nb s)) so i).getD (pt i 2) 0, (mixTo vr (blockW (nb s)) so i).getD (pt i 3) 0⟩) := Lib.hid rfl
                generalize mixTo vr (blockW (nb s)) so i = vi at *
                generalize hqd : quarter (take4 vi i) ((blockW (nb s)).getD (so.getD (2 * i) 0) 0) ((blockW (nb s)).getD (so.getD (2 * i + 1) 0) 0) = q at *
                have CQ := Lib.hid fun w => rquarter_any (take4 vi i) hok ((blockW (nb s)).getD (so.getD (2 * i) 0) 0) ((blockW (nb s)).getD (so.getD (2 * i + 1) 0) 0) w
                rw [hqd, HTK.out] at CQ
                have HPT : Hid (put4 vi i q = putTo vi i [q.a, q.b, q.c, q.d] 4) := Lib.hid (putTo_all vi i q).symm
                rw [HPT.out] at HN
                clear hqd HPT HTK hok
                obtain ⟨qa, qb, qc, qd⟩ := q
                simp only at CQ HN
                have hw0 := wq_at vi (pt i 0) (by omega)
                have hw1 := wq_at vi (pt i 1) (by omega)
                have hw2 := wq_at vi (pt i 2) (by omega)
                have hw3 := wq_at vi (pt i 3) (by omega)
                have ho2 := iq_at so (2 * i) (by have := HOL.out; omega)
                have ho3 := iq_at so (2 * i + 1) (by have := HOL.out; omega)
                obtain ⟨i2, hi2⟩ : ∃ k, k = 2 * i := ⟨_, rfl⟩
                obtain ⟨i3, hi3⟩ : ∃ k, k = 2 * i + 1 := ⟨_, rfl⟩
                rw [← hi2] at ho2 hs2
                rw [← hi3] at ho3 hs3
                rw [← hi3, ← hi2] at CQ
                have hi2b : i2 < 16 := by omega
                have hi3b : i3 < 16 := by omega
                have hmul : (2 : Int) * (i : Int) = (i2 : Int) := by omega
                have hadd1 : (i2 : Int) + 1 = (i3 : Int) := by omega
                generalize so.getD i2 0 = s2 at *
                generalize so.getD i3 0 = s3 at *
                have HPL : Hid (∀ k, k < 4 → [pt i 0, pt i 1, pt i 2, pt i 3].getD k 0 = pt i k ∧ pt i k < 16) := Lib.hid fun k hk => ⟨by
                  have h : k = 0 ∨ k = 1 ∨ k = 2 ∨ k = 3 := by omega
                  rcases h with rfl | rfl | rfl | rfl <;> rfl, pt_lt i k h8 hk⟩
                generalize hL : [pt i 0, pt i 1, pt i 2, pt i 3] = L at *
                have hLl : L.length = 4 := by rw [← hL]; rfl
                have hk0 : (iq L)[0]? = some (.int .i64 (pt i 0 : Nat)) := by rw [← hL]; rfl
                have hk1 : (iq L)[1]? = some (.int .i64 (pt i 1 : Nat)) := by rw [← hL]; rfl
                have hk2 : (iq L)[2]? = some (.int .i64 (pt i 2 : Nat)) := by rw [← hL]; rfl
                have hk3 : (iq L)[3]? = some (.int .i64 (pt i 3 : Nat)) := by rw [← hL]; rfl
                clear hL
                generalize pt i 0 = pa at *
                generalize pt i 1 = pb at *
                generalize pt i 2 = pc at *
                generalize pt i 3 = pd at *
                generalize vi.getD pa 0 = va at *
                generalize vi.getD pb 0 = vb at *
                generalize vi.getD pc 0 = vc at *
                generalize vi.getD pd 0 = vd at *
                have HMX : Hid ((∀ k, k < 16 → True) ∧ True) := Lib.hid ⟨fun _ _ => trivial, trivial⟩
                clear HMX
                have HLS : Hid ((iq L).size = 4) := Lib.hid (by rw [iq_size]; exact hLl)
                go_wp2_with (refine wpList_store_row rfl 188 (.tmp 18) (.tmp 64) rfl wp.heap.size (iq L) rfl rfl 188 _ (RowAt.new _ _ _) (by rw [HLS.out]; exact q_int4) (by rw [HLS.out]; rfl) (iq_one _) ?_)
                obtain ⟨P4, hP4⟩ : ∃ k, k = wp.heap.size := ⟨_, rfl⟩
                rw [← hP4]
                generalize hWc : World.setRow _ _ _ = wc
                have hbc : Below wp.heap.size wp wc := by
                  subst hWc
                  exact below_setRow ((Below.refl _ wp).alloc (Nat.le_refl _) _) (by omega) _
                have RQ : RowAt wc P4 188 (iq L) := by
                  subst hWc; subst hP4
                  exact (RowAt.new wp _ _).setRow _
                have hPV : P4 ≠ V := by omega
                have hPO : P4 ≠ O := by omega
                have hPc := RQ.lt
                have XC := HXP.out.step hbc
                have ROC := HROP.out.below hbc HROP.out.lt
                have HF0 : Hid (∀ w', Below wc.heap.size wc w' → (w'.cell? ⟨P4, 0, none⟩ = some (.int .i64 (pa : Int)) ∧ w'.cell? ⟨P4, 1, none⟩ = some (.int .i64 (pb : Int)) ∧ w'.cell? ⟨P4, 2, none⟩ = some (.int .i64 (pc : Int)) ∧ w'.cell? ⟨P4, 3, none⟩ = some (.int .i64 (pd : Int))) ∧
                    (w'.cell? ⟨V, pa, none⟩ = some (.int .u64 (va : Int)) ∧ w'.cell? ⟨V, pb, none⟩ = some (.int .u64 (vb : Int)) ∧ w'.cell? ⟨V, pc, none⟩ = some (.int .u64 (vc : Int)) ∧ w'.cell? ⟨V, pd, none⟩ = some (.int .u64 (vd : Int))) ∧
                    (w'.cell? ⟨O, i2, none⟩ = some (.int .i64 (s2 : Int)) ∧ w'.cell? ⟨O, i3, none⟩ = some (.int .i64 (s3 : Int))) ∧ w'.cell? ⟨g, s2, none⟩ = some (.int .u64 ((blockW (nb s)).getD s2 0 : Nat)) ∧ w'.cell? ⟨g, s3, none⟩ = some (.int .u64 ((blockW (nb s)).getD s3 0 : Nat))) := Lib.hid fun w' hb => by
                  have RQ' := RQ.below hb RQ.lt
                  have X' := XC.step hb
                  have RO' := ROC.below hb ROC.lt
                  exact ⟨⟨(RQ'.cell 0).trans hk0, (RQ'.cell 1).trans hk1, (RQ'.cell 2).trans hk2, (RQ'.cell 3).trans hk3⟩, ⟨(X'.rv.cell pa).trans hw0, (X'.rv.cell pb).trans hw1, (X'.rv.cell pc).trans hw2, (X'.rv.cell pd).trans hw3⟩, ⟨(RO'.cell i2).trans ho2, (RO'.cell i3).trans ho3⟩, X'.rm s2 hs2, X'.rm s3 hs3⟩
                have HXC := Lib.hid XC
                have HROC := Lib.hid ROC
                have HRQ := Lib.hid RQ
                have HVI := Lib.hid hvi
                have HLL := Lib.hid hLl
                have hOc := ROC.lt
                have hVc := XC.rv.lt
                clear hWc hbc RQ XC ROC HXP HROP hP4 hw0 hw1 hw2 hw3 ho2 ho3 hvi hi2 hi3 hk0 hk1 hk2 hk3 hLl HLS
                generalize (blockW (nb s)).getD s2 0 = mx at *
                generalize (blockW (nb s)).getD s3 0 = my at *
                simp only [Act.put]
                refine wp_region_last 34 _ [Is (.pointer (some ⟨P4, 0, none⟩)), Is (.int .i64 (pa : Int)), Is (.pointer (some ⟨V, pa, none⟩)), Is (.int .u64 (va : Int)), Is (.pointer (some ⟨P4, 1, none⟩)), Is (.int .i64 (pb : Int)), Is (.pointer (some ⟨V, pb, none⟩)), Is (.int .u64 (vb : Int)), Is (.pointer (some ⟨P4, 2, none⟩)), Is (.int .i64 (pc : Int)), Is (.pointer (some ⟨V, pc, none⟩)), Is (.int .u64 (vc : Int)), Is (.pointer (some ⟨P4, 3, none⟩)), Is (.int .i64 (pd : Int)), Is (.pointer (some ⟨V, pd, none⟩)), Is (.int .u64 (vd : Int)), Is (.agg (wq [va, vb, vc, vd])), Is (.slice (some ⟨g, 0, none⟩) 16 c'), Is (.int .i64 (i : Int)), Is (.int .i64 (i2 : Int)), Is (.pointer (some ⟨O, i2, none⟩)), Is (.int .i64 (s2 : Int)), Is (.pointer (some ⟨g, s2, none⟩)), Is (.int .u64 (mx : Int)), Is (.slice (some ⟨g, 0, none⟩) 16 c'), Is (.int .i64 (i : Int)), Is (.int .i64 (i2 : Int)), Is (.int .i64 (i3 : Int)), Is (.pointer (some ⟨O, i3, none⟩)), Is (.int .i64 (s3 : Int)), Is (.pointer (some ⟨g, s3, none⟩)), Is (.int .u64 (my : Int)), Is (.agg (wq [qa, qb, qc, qd])), NewFour wc.heap.size] rfl (by kernel_rfl) (by kernel_rfl) (by kernel_rfl) (by kernel_rfl) rfl ⟨stable_is _, stable_is _, stable_is _, stable_is _, stable_is _, stable_is _, stable_is _, stable_is _, stable_is _, stable_is _, stable_is _, stable_is _, stable_is _, stable_is _, stable_is _, stable_is _, stable_is _, stable_is _, stable_is _, stable_is _, stable_is _, stable_is _, stable_is _, stable_is _, stable_is _, stable_is _, stable_is _, stable_is _, stable_is _, stable_is _, stable_is _, stable_is _, stable_is _, stable_new _, trivial⟩ ?_ ?_
                · simp only [List.take_succ_cons, List.take_zero]
                  refine ⟨?_, ?_, ?_, ?_, ?_, ?_, ?_, ?_, ?_, ?_, ?_, ?_, ?_, ?_, ?_, ?_, ?_, ?_, ?_, ?_, ?_, ?_, ?_, ?_, ?_, ?_, ?_, ?_, ?_, ?_, ?_, ?_, ?_, ?_, trivial⟩
                  · intro a w C
                    exact ⟨rfl, op_value (ix4i_run (i := 0) rfl (C.was 18 (by kernel_rfl)) rfl (by decide)) rfl⟩
                  · intro a w C
                    exact ⟨rfl, op_value (ldi_run rfl (C.on (j := 0) (by kernel_rfl) rfl rfl) (HF0.out _ C.below).1.1) rfl⟩
                  · intro a w C
                    exact ⟨rfl, op_value (ix16_run rfl (C.was 13 (by kernel_rfl)) (C.on (j := 1) (by kernel_rfl) rfl rfl) hp0) rfl⟩
                  · intro a w C
                    exact ⟨rfl, op_value (ld_run rfl (C.on (j := 2) (by kernel_rfl) rfl rfl) (HF0.out _ C.below).2.1.1) rfl⟩
                  · intro a w C
                    exact ⟨rfl, op_value (ix4i_run (i := 1) rfl (C.was 18 (by kernel_rfl)) rfl (by decide)) rfl⟩
                  · intro a w C
                    exact ⟨rfl, op_value (ldi_run rfl (C.on (j := 4) (by kernel_rfl) rfl rfl) (HF0.out _ C.below).1.2.1) rfl⟩
                  · intro a w C
                    exact ⟨rfl, op_value (ix16_run rfl (C.was 13 (by kernel_rfl)) (C.on (j := 5) (by kernel_rfl) rfl rfl) hp1) rfl⟩
                  · intro a w C
                    exact ⟨rfl, op_value (ld_run rfl (C.on (j := 6) (by kernel_rfl) rfl rfl) (HF0.out _ C.below).2.1.2.1) rfl⟩
                  · intro a w C
                    exact ⟨rfl, op_value (ix4i_run (i := 2) rfl (C.was 18 (by kernel_rfl)) rfl (by decide)) rfl⟩
                  · intro a w C
                    exact ⟨rfl, op_value (ldi_run rfl (C.on (j := 8) (by kernel_rfl) rfl rfl) (HF0.out _ C.below).1.2.2.1) rfl⟩
                  · intro a w C
                    exact ⟨rfl, op_value (ix16_run rfl (C.was 13 (by kernel_rfl)) (C.on (j := 9) (by kernel_rfl) rfl rfl) hp2) rfl⟩
                  · intro a w C
                    exact ⟨rfl, op_value (ld_run rfl (C.on (j := 10) (by kernel_rfl) rfl rfl) (HF0.out _ C.below).2.1.2.2.1) rfl⟩
                  · intro a w C
                    exact ⟨rfl, op_value (ix4i_run (i := 3) rfl (C.was 18 (by kernel_rfl)) rfl (by decide)) rfl⟩
                  · intro a w C
                    exact ⟨rfl, op_value (ldi_run rfl (C.on (j := 12) (by kernel_rfl) rfl rfl) (HF0.out _ C.below).1.2.2.2) rfl⟩
                  · intro a w C
                    exact ⟨rfl, op_value (ix16_run rfl (C.was 13 (by kernel_rfl)) (C.on (j := 13) (by kernel_rfl) rfl rfl) hp3) rfl⟩
                  · intro a w C
                    exact ⟨rfl, op_value (ld_run rfl (C.on (j := 14) (by kernel_rfl) rfl rfl) (HF0.out _ C.below).2.1.2.2.2) rfl⟩
                  · intro a w C
                    exact ⟨rfl, op_value (bd4_run rfl (C.on (j := 3) (by kernel_rfl) rfl rfl) (C.on (j := 7) (by kernel_rfl) rfl rfl) (C.on (j := 11) (by kernel_rfl) rfl rfl) (C.on (j := 15) (by kernel_rfl) rfl rfl)) rfl⟩
                  · intro a w C
                    exact ⟨rfl, op_move (.inl rfl) (C.was 11 (by kernel_rfl))⟩
                  · intro a w C
                    exact ⟨rfl, op_move (.inl rfl) (C.was 17 (by kernel_rfl))⟩
                  · intro a w C
                    exact ⟨rfl, op_bin rfl rfl (C.on (j := 18) (by kernel_rfl) rfl rfl) rfl (by simp [go_sem, hmul]; exact IntWalk.i64_in _ (by omega)) rfl⟩
                  · intro a w C
                    exact ⟨rfl, op_value (ixi_run rfl (C.was 16 (by kernel_rfl)) (C.on (j := 19) (by kernel_rfl) rfl rfl) hi2b) rfl⟩
                  · intro a w C
                    exact ⟨rfl, op_value (ldi_run rfl (C.on (j := 20) (by kernel_rfl) rfl rfl) (HF0.out _ C.below).2.2.1.1) rfl⟩
                  · intro a w C
                    exact ⟨rfl, op_value (ixs_run rfl (C.on (j := 17) (by kernel_rfl) rfl rfl) (C.on (j := 21) (by kernel_rfl) rfl rfl) hs2) rfl⟩
                  · intro a w C
                    exact ⟨rfl, op_value (ld_run rfl (C.on (j := 22) (by kernel_rfl) rfl rfl) (HF0.out _ C.below).2.2.2.1) rfl⟩
                  · intro a w C
                    exact ⟨rfl, op_move (.inl rfl) (C.was 11 (by kernel_rfl))⟩
                  · intro a w C
                    exact ⟨rfl, op_move (.inl rfl) (C.was 17 (by kernel_rfl))⟩
                  · intro a w C
                    exact ⟨rfl, op_bin rfl rfl (C.on (j := 25) (by kernel_rfl) rfl rfl) rfl (by simp [go_sem, hmul]; exact IntWalk.i64_in _ (by omega)) rfl⟩
                  · intro a w C
                    exact ⟨rfl, op_bin rfl (C.on (j := 26) (by kernel_rfl) rfl rfl) rfl rfl (by simp [go_sem, hadd1]; exact IntWalk.i64_in _ (by omega)) rfl⟩
                  · intro a w C
                    exact ⟨rfl, op_value (ixi_run rfl (C.was 16 (by kernel_rfl)) (C.on (j := 27) (by kernel_rfl) rfl rfl) hi3b) rfl⟩
                  · intro a w C
                    exact ⟨rfl, op_value (ldi_run rfl (C.on (j := 28) (by kernel_rfl) rfl rfl) (HF0.out _ C.below).2.2.1.2) rfl⟩
                  · intro a w C
                    exact ⟨rfl, op_value (ixs_run rfl (C.on (j := 24) (by kernel_rfl) rfl rfl) (C.on (j := 29) (by kernel_rfl) rfl rfl) hs3) rfl⟩
                  · intro a w C
                    exact ⟨rfl, op_value (ld_run rfl (C.on (j := 30) (by kernel_rfl) rfl rfl) (HF0.out _ C.below).2.2.2.2) rfl⟩
                  · intro a w C
                    exact ⟨rfl, op_call3k rfl (reg_enters Tryz.func105 (by kernel_rfl) (by kernel_rfl)) (C.on (j := 16) (by kernel_rfl) rfl rfl) (C.on (j := 23) (by kernel_rfl) rfl rfl) (C.on (j := 31) (by kernel_rfl) rfl rfl) ((CQ.out w).mono fun e w2 h => by obtain ⟨rfl, hb⟩ := h; exact ⟨_, rfl, rfl, hb⟩)⟩
                  · intro a w C
                    exact ⟨rfl, op_new rfl (C.below.size)⟩
                simp only [List.take_succ_cons, List.take_zero]
                rintro wF hbF _ rfl _ rfl _ rfl _ rfl _ rfl _ rfl _ rfl _ rfl _ rfl _ rfl _ rfl _ rfl _ rfl _ rfl _ rfl _ rfl _ rfl _ rfl _ rfl _ rfl _ rfl _ rfl _ rfl _ rfl _ rfl _ rfl _ rfl _ rfl _ rfl _ rfl _ rfl _ rfl _ rfl x19 x33
                simp only [setAt, Fin, List.setIfInBounds_toArray, List.set_cons_succ, List.set_cons_zero]
                obtain ⟨Q4, rfl, hQ4, RN⟩ := x33
                have hQb : Q4 < wF.heap.size := RN.lt
                have hZ4 : (wq [0, 0, 0, 0]).size = 4 := wq4 _ _ _ _
                have HZ4 := Lib.hid hZ4
                have HQQ := Lib.hid (wq4 qa qb qc qd)
                have HRN := Lib.hid RN
                have HBF := Lib.hid hbF
                clear RN hZ4 hbF HF0 CQ
                refine wpList_store_row rfl 190 (.tmp 19) (.tmp 97) rfl Q4 (wq [qa, qb, qc, qd]) rfl rfl 190 _ HRN.out (by rw [HQQ.out]; exact q_size4) (by rw [HZ4.out, HQQ.out]) (wq_one _) ?_
                simp only [Act.put]
                generalize hWS : World.setRow _ _ _ = wS
                have hbS : Below wc.heap.size wc wS := by subst hWS; exact below_setRow HBF.out hQ4 _
                have XS := HXC.out.step hbS
                have ROS := HROC.out.below hbS HROC.out.lt
                have RPS := HRQ.out.below hbS HRQ.out.lt
                have RQS : RowAt wS Q4 190 (wq [qa, qb, qc, qd]) := by subst hWS; exact HRN.out.setRow _
                have HXS := Lib.hid XS
                have HROS := Lib.hid ROS
                have HRPS := Lib.hid RPS
                have HRQS := Lib.hid RQS
                have hQV : Q4 ≠ V := by omega
                clear hWS hbS XS ROS RPS RQS HXC HROC HRQ HRN HBF hQb hQ4
                go_wp2
                go_loopw [20] (fun v20 wr => ∃ k : Nat, k ≤ 4 ∧ v20 = .int .i64 (k : Int) ∧ Rx w wr V g st (blockW (nb s)) (putTo vi i [qa, qb, qc, qd] k) ∧ RowAt wr O 186 (iq so) ∧ RowAt wr P4 188 (iq L) ∧ RowAt wr Q4 190 (wq [qa, qb, qc, qd])) (fun v20 _ => 4 - (intOf v20).toNat)
                case atStart => exact ⟨0, by omega, rfl, HXS.out, HROS.out, HRPS.out, HRQS.out⟩
                case round =>
                  clear HXS HROS HRPS HRQS
                  obtain ⟨k, hk, rfl, X, RO, RP, RQ⟩ := hrel
                  have HX := Lib.hid X
                  have HRO := Lib.hid RO
                  have HRP := Lib.hid RP
                  have HRQ := Lib.hid RQ
                  by_cases hk4 : k < 4
                  · have hdt4 : decide ((k : Int) < 4) = true := by simp; omega
                    obtain ⟨e1, e2⟩ := HPL.out k hk4
                    have cp := (RP.cell k).trans (iq_at L k (by rw [HLL.out]; exact hk4))
                    rw [e1] at cp
                    have cq := (RQ.cell k).trans (wq_at [qa, qb, qc, qd] k hk4)
                    have cv := (X.rv.cell (pt i k)).trans (wq_at _ (pt i k) (by rw [putTo_length, HVI.out]; exact e2))
                    have fv1 := X.rv.frozen (pt i k)
                    have HP : Hid (putTo vi i [qa, qb, qc, qd] (k + 1) = (putTo vi i [qa, qb, qc, qd] k).set (pt i k) ([qa, qb, qc, qd].getD k 0)) := Lib.hid rfl
                    have HXN := Lib.hid (X.drew.set (pt i k) ([qa, qb, qc, qd].getD k 0))
                    clear X RO RP RQ e1
                    generalize (putTo vi i [qa, qb, qc, qd] k).getD (pt i k) 0 = ov at *
                    generalize pt i k = pk at *
                    generalize [qa, qb, qc, qd].getD k 0 = qk at *
                    have zk : (0 : Int) ≤ (k : Int) := by omega
                    have nk : (k : Int) < 4 := by omega
                    go_wp2
                    have kp : ∀ tp d os out, (World.mk wr.heap tp d os out).cell? ⟨P4, k, none⟩ = some (.int .i64 (pk : Int)) := fun _ _ _ _ => cp
                    have kq : ∀ tp d os out, (World.mk wr.heap tp d os out).cell? ⟨Q4, k, none⟩ = some (.int .u64 (qk : Int)) := fun _ _ _ _ => cq
                    refine wp_region_still_tail 6 (by kernel_rfl) (by kernel_rfl) ?_
                    simp only [List.take_succ_cons, List.take_zero, List.drop_succ_cons, List.drop_zero]
                    repeat still_step
                    refine wpStill_nil ?_
                    change wpList _ _ _ _ _ wr.drew
                    have cv2 : wr.drew.cell? ⟨V, pk, none⟩ = some (.int .u64 (ov : Int)) := cv
                    have fv2 : wr.drew.frozen? ⟨V, pk, none⟩ = false := fv1
                    have HRO2 := Lib.hid (HRO.out.drew.setOther ⟨V, pk, none⟩ (by simp; omega) (.int .u64 (qk : Int)))
                    have HRP2 := Lib.hid (HRP.out.drew.setOther ⟨V, pk, none⟩ (by simp; omega) (.int .u64 (qk : Int)))
                    have HRQ2 := Lib.hid (HRQ.out.drew.setOther ⟨V, pk, none⟩ (by simp; omega) (.int .u64 (qk : Int)))
                    generalize wr.drew = wd at *
                    clear kp kq cp cq cv fv1 HX HRO HRP HRQ
                    have npk : (pk : Int) < 16 := by omega
                    have zpk : (0 : Int) ≤ (pk : Int) := by omega
                    go_wp2
                    go_roundw
                    case rel => exact ⟨k + 1, by omega, by go_num, by rw [HP.out]; exact HXN.out, HRO2.out, HRP2.out, HRQ2.out⟩
                    case measure => simp [intOf]; omega
                  · obtain rfl : k = 4 := by omega
                    have hdt4 : decide (((4 : Nat) : Int) < 4) = false := by simp
                    clear X RO RP RQ
                    go_wp2
                    go_roundw
                    case rel => exact ⟨i + 1, by omega, by go_num, by rw [HN.out]; exact HX.out, HRO.out⟩
                    case measure => simp [intOf]; omega
              · obtain rfl : i = 8 := by omega
                have hdt3 : decide (((8 : Nat) : Int) < 8) = false := by simp
                go_wp2
                go_roundw
                case rel => exact ⟨r + 1, by omega, by go_num, by rw [HR.out]; exact HX.out⟩
                case measure => simp [intOf]; omega
          · obtain rfl : r = 12 := by omega
            rw [show ((12 : Nat) : Int) = 12 from rfl]
            have hdt2 : decide ((12 : Int) < 12) = false := by simp
            have hvrl : (roundsTo v0 (blockW (nb s)) 12).length = 16 := by rw [roundsTo_length]; exact HVL.out
            have hvro := roundsTo_ok HVO.out (blockW (nb s)) 12
            generalize roundsTo v0 (blockW (nb s)) 12 = vz at *
            have HVRL := Lib.hid hvrl
            have HVRO := Lib.hid hvro
            clear hvrl hvro
            go_wp2
            go_loopw [21] (fun v21 wr => ∃ j : Nat, j ≤ 8 ∧ v21 = .int .i64 (j : Int) ∧ RowAt wr (w.heap.size + 1) 53 (wq (fold8 st vz j)) ∧ RowAt wr (w.heap.size + 1 + 1) 53 (wq (List.replicate 8 0)) ∧ RowAt wr V 185 (wq vz) ∧ Below w.heap.size w wr) (fun v21 _ => 8 - (intOf v21).toNat)
            case atStart => exact ⟨0, by omega, rfl, HX.out.rs, HX.out.rz, HX.out.rv, HX.out.below⟩
            case round =>
              clear HX
              obtain ⟨j, hj, rfl, Rs, Rz, Rv, hB⟩ := hrel
              have hml := fold8_length st vz j
              rw [HS.out] at hml
              have H0 := Lib.hid Rs
              have H1 := Lib.hid Rz
              have H2 := Lib.hid Rv
              have HB := Lib.hid hB
              by_cases h : j < 8
              · have cj := (Rs.cell j).trans (wq_at _ j (by omega))
                rw [fold8_at st vz j j (Nat.le_refl _)] at cj
                have fj := Rs.frozen j
                have dj := (Rv.cell j).trans (wq_at _ j (by rw [HVRL.out]; omega))
                have ej := (Rv.cell (j + 8)).trans (wq_at _ (j + 8) (by rw [HVRL.out]; omega))
                have HF : Hid (fold8 st vz (j + 1) = (fold8 st vz j).set j (st.getD j 0 ^^^ (vz.getD j 0 ^^^ vz.getD (j + 8) 0))) := Lib.hid rfl
                rw [← Nat.xor_assoc] at HF
                have x1 := xor64 _ _ (HST.out.at_ j) (HVRO.out.at_ j)
                have x2 := xor64 _ _ (xor_lt64 _ _ (HST.out.at_ j) (HVRO.out.at_ j)) (HVRO.out.at_ (j + 8))
                obtain ⟨j8, hj8⟩ : ∃ k, k = j + 8 := ⟨_, rfl⟩
                rw [← hj8] at ej HF x2
                have q8 : (j : Int) + 8 = (j8 : Int) := by omega
                have v8 : IntKind.i64.wrap (j8 : Int) = (j8 : Int) := IntWalk.i64_in _ (by omega)
                have n8 : (j8 : Int) < 16 := by omega
                have z8 : (0 : Int) ≤ (j8 : Int) := by omega
                have nj : (j : Int) < 8 := by omega
                have nj2 : (j : Int) < 16 := by omega
                have zj : (0 : Int) ≤ (j : Int) := by omega
                have l8 : j8 < 16 := by omega
                have lj2 : j < 16 := by omega
                clear Rs Rz Rv hB hml hj8
                generalize st.getD j 0 = x at *
                generalize vz.getD j 0 = y at *
                generalize vz.getD j8 0 = z at *
                generalize hxy : x ^^^ y = xy at *
                generalize hxyz : xy ^^^ z = xyz at *
                clear hxy hxyz
                have hd : decide ((j : Int) < 8) = true := by simp; omega
                go_wp2
                have kc : ∀ tp d os out, (World.mk wr.heap tp d os out).cell? ⟨w.heap.size + 1, j, none⟩ = some (.int .u64 (x : Int)) := fun _ _ _ _ => cj
                have kd : ∀ tp d os out, (World.mk wr.heap tp d os out).cell? ⟨V, j, none⟩ = some (.int .u64 (y : Int)) := fun _ _ _ _ => dj
                have ke : ∀ tp d os out, (World.mk wr.heap tp d os out).cell? ⟨V, j8, none⟩ = some (.int .u64 (z : Int)) := fun _ _ _ _ => ej
                refine wp_region_still_tail 13 (by kernel_rfl) (by kernel_rfl) ?_
                simp only [List.take_succ_cons, List.take_zero, List.drop_succ_cons, List.drop_zero]
                repeat still_step
                refine wpStill_nil ?_
                change wpList _ _ _ _ _ wr.drew
                have K0 := Lib.hid H0.out.drew
                have K1 := Lib.hid H1.out.drew
                have K2 := Lib.hid H2.out.drew
                have KB := Lib.hid HB.out.drew
                have ck : wr.drew.cell? ⟨w.heap.size + 1, j, none⟩ = some (.int .u64 (x : Int)) := cj
                have fk : wr.drew.frozen? ⟨w.heap.size + 1, j, none⟩ = false := fj
                generalize wr.drew = wd at *
                clear kc kd ke H0 H1 H2 HB cj fj dj ej
                go_wp2
                go_roundw
                case rel =>
                  refine ⟨j + 1, by omega, by go_num, ?_, K1.out.setOther _ (by simp) _, K2.out.setOther _ (by simp; omega) _, KB.out.setCell (by simp) _⟩
                  rw [HF.out, ← wq_set]
                  exact K0.out.setCell j _
                case measure => simp [intOf]; omega
              · obtain rfl : j = 8 := by omega
                have hd : decide (((8 : Nat) : Int) < 8) = false := by simp
                have hsz8 : (wq (fold8 st vz 8)).size = 8 := by rw [wq_size]; exact hml
                have HS8 := Lib.hid hsz8
                have HZ8 := Lib.hid (show (wq (List.replicate 8 0)).size = 8 from rfl)
                clear Rs Rz Rv hB hml hsz8
                go_wp2_with (first
                  | refine wpList_load_row rfl 53 (.tmp 6) rfl (w.heap.size + 1) rfl 53 (wq (fold8 st vz 8)) (0, 0) _ H0.out Tryz.underlying53 rfl (by rw [HS8.out]; exact q_size8) ?_
                  | refine wpList_store_row rfl 53 (.tmp 10) (.tmp 127) rfl (w.heap.size + 1 + 1) (wq (fold8 st vz 8)) rfl rfl 53 _ H1.out (by rw [HS8.out]; exact q_size8) (by rw [HS8.out, HZ8.out]) (wq_one _) ?_)
                have hR := H1.out.setRow (wq (fold8 st vz 8))
                refine bodyPost_ret (v := .agg (wq (fold8 st vz 8))) (results_cell_row rfl _ _ (w.heap.size + 1 + 1) 53 (wq (fold8 st vz 8)) (0, 0) _ rfl hR Tryz.underlying53 rfl (by rw [HS8.out]; exact q_size8)) rfl ⟨by rw [HE.out], ?_⟩
                exact below_setRow HB.out (by omega) _
end Go.Proofs.YtfoodaobiknihaaGreatDoor

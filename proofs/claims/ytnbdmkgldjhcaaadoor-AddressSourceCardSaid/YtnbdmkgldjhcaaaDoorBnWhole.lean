/- Whole of package blend by its contract. Condition: the package's tables read as they were laid. -/
import Derived.Test.YtnbdmkgldjhcaaaDoorBnLay
namespace Go.Proofs.YtnbdmkgldjhcaaaDoor
set_option maxRecDepth 50000
open Go.RowKit Rot Bb Bn

def lq : List Nat := [16, 2, 2, 16]
/-- the table of layouts lies at its place -/
def LAt (w : World) : Prop := 0 < w.heap.size ∧ ∀ i, i < 4 → w.cell? ⟨0, i, none⟩ = some (.int .i64 (lq.getD i 0 : Nat))
theorem LAt.below {w w' : World} {B : Nat} (h : LAt w) (hb : Below B w w') (hB : 0 < B) : LAt w' :=
  ⟨Nat.lt_of_lt_of_le h.1 hb.size, fun i hi => (hb.cell (p := ⟨0, i, none⟩) hB).trans (h.2 i hi)⟩
/-- both tables -/
def TAt (w : World) : Prop := QAt w ∧ LAt w
theorem TAt.below {w w' : World} {B : Nat} (h : TAt w) (hb : Below B w w') (h1 : 1 < B) (h2 : 0 < B) : TAt w' := ⟨h.1.below hb h1, h.2.below hb h2⟩
theorem TAt.next {w w' : World} (h : TAt w) (hb : Below w.heap.size w w') : TAt w' := h.below hb h.1.1 h.2.1
theorem lq_size : (Tryd.prog.info? 73).map (·.size) = some 4 := by kernel_rfl
theorem lq_load {w : World} (h : LAt w) : (loadVar 73 ⟨0, 0, none⟩).run Tryd.prog w = .ok (.agg (iq lq)) w := by
  have hl : (loadCells ⟨0, 0, none⟩ (lq.map fun x : Nat => Value.int .i64 (x : Int)).length).run Tryd.prog w = .ok (lq.map fun x : Nat => Value.int .i64 (x : Int)).toArray w :=
    run_loadCells_list (P := Tryd.prog) w ⟨0, 0, none⟩ _ (fun j v hv => by
      have hadd : (⟨0, 0, none⟩ : Addr).add j = ⟨0, j, none⟩ := by unfold Addr.add; split <;> simp_all
      have hj : j < 4 := by
        have := (List.getElem?_eq_some_iff.1 hv).1
        rw [List.length_map] at this
        exact this
      rw [hadd, h.2 j hj]
      rw [List.getElem?_map, List.getElem?_eq_getElem (show j < lq.length from hj)] at hv
      rw [List.getD_eq_getElem?_getD, List.getElem?_eq_getElem (show j < lq.length from hj)]
      exact hv)
  rw [List.length_map, show lq.length = 4 from rfl] at hl
  have hz := lq_size
  cases hq : Tryd.prog.info? 73 with
  | none => rw [hq] at hz; simp at hz
  | some i =>
    have hsz : i.size = 4 := by rw [hq] at hz; simpa using hz
    simp [loadVar, Sem.run_bind, sizeOf, typeInfo, hq, hsz, hl, iq]
theorem lq_part (t : Nat) (ht : t < 2) : (iq lq).extract (t * 2) (t * 2 + 2) = iq (lay t) := by
  have h : ∀ t, t < 2 → (lq.drop (t * 2)).take 2 = lay t := by decide
  rw [← h t ht]
  simp [iq, List.map_take, List.map_drop]
theorem lq_index (w : World) (t : Nat) (ht : t < 2) : (Instr.index 73 (.agg (iq lq)) (.int .i64 (t : Int))).run Tryd.prog w = .ok (.agg (iq (lay t))) w := by
  have hz := lay_size
  cases hq : Tryd.prog.info? 72 with
  | none => rw [hq] at hz; simp at hz
  | some q =>
    have hsz : q.size = 2 := by rw [hq] at hz; simpa using hz
    simp [Instr.index, run_underlying Tryd.underlying73, asIntOf, ht, go_sem, sizeOf, typeInfo, hq, hsz, lq_part t ht]
theorem lay_store {w : World} {k : Nat} {C : Array Value} (hC : C.size = 2) (t : Nat) (h : RowAt w k 72 C) : (storeVar 72 ⟨k, 0, none⟩ (.agg (iq (lay t)))).run Tryd.prog w = .ok () (w.setRow k (iq (lay t))) := by
  obtain ⟨L, P, e, _, _, _⟩ := lay_is t
  rw [e]
  exact h.store lay_size (by rw [hC]; rfl) (iq_one _)

/-- a block that is turned, and a row for the answer -/
structure Wx (w wr : World) (X : List Nat) : Prop where
  rv : RowAt wr w.heap.size 36 (wq X)
  rz : RowAt wr (w.heap.size + 1) 36 (wq zb)
  below : Below w.heap.size w wr
section
variable {w wr wr' : World} {X X' : List Nat}
theorem Wx.new (w : World) (X : List Nat) : Wx w ((w.alloc (.cells (wq X) 36)).alloc (.cells (wq zb) 36)) X := by
  refine ⟨(RowAt.new w _ _).alloc _, ?_, ((Below.refl _ w).alloc (Nat.le_refl _) _).alloc (by simp) _⟩
  have h := RowAt.new (w.alloc (.cells (wq X) 36)) 36 (wq zb)
  rw [World.size_alloc] at h; exact h
theorem Wx.lt (h : Wx w wr X) : w.heap.size + 2 ≤ wr.heap.size := h.rz.lt
theorem Wx.step (h : Wx w wr X) (hb : Below wr.heap.size wr wr') : Wx w wr' X :=
  ⟨h.rv.below hb h.rv.lt, h.rz.below hb h.rz.lt, h.below.trans (hb.mono h.below.size)⟩
theorem Wx.turn (h : Wx w wr X) (hr : RowAt wr' w.heap.size 36 (wq X')) (hk : Kept (fun x => x = w.heap.size) wr wr') : Wx w wr' X' :=
  ⟨hr, (hk.block _ h.rz.lt (by simp)).trans h.rz, h.below.trans (hk.below h.below.size fun x hx => by rw [hx]; exact Nat.le_refl _)⟩
end

set_option maxHeartbeats 3200000 in
theorem whole_any {B : List Nat} (hB : okb B) (w : World) (ht : TAt w) :
    Calls Tryd.prog 29 #[.agg (wq B)] w fun e w' => e = .returned (.agg (wq (whole B))) ∧ Below w.heap.size w w' := by
  have HB := Lib.hid hB
  have HD := Lib.hid (Wx.new w B)
  have HT := Lib.hid ht
  have HG := Lib.hid (show w.heap.size ≠ 1 from fun e => by have := ht.1.1; omega)
  have HTL := Lib.hid (lq_load (ht.2.below (Wx.new w B).below ht.2.1))
  have hz := zero_b
  clear hB ht
  go_enter Tryd.func29, Tryd.ntmps29
  go_wp2_with (refine wpList_load_of rfl 73 (.global 0) rfl ⟨0, 0, none⟩ _ rfl HTL.out ?_)
  generalize hW0 : World.alloc _ _ = w0
  have HX0 : Hid (Wx w w0 B) := Lib.hid (by subst hW0; exact HD.out)
  clear hW0 HD HTL
  go_loopw [7] (fun v7 wr => ∃ t : Nat, t ≤ 2 ∧ v7 = .int .i64 (t : Int) ∧ Wx w wr (sides B t)) (fun v7 _ => 2 - (intOf v7).toNat)
  case atStart => exact ⟨0, by omega, rfl, HX0.out⟩
  case round =>
    clear HX0
    obtain ⟨t, ht, rfl, X⟩ := hrel
    have HX := Lib.hid X
    clear X
    by_cases h2 : t < 2
    · have hdt : decide ((t : Int) < 2) = true := by simp; omega
      have hix := lq_index wr t h2
      have HN : Hid (sides B (t + 1) = linTo (sides B t) t 8) := Lib.hid rfl
      have HXO := Lib.hid (sides_okb HB.out t)
      generalize sides B t = X at *
      obtain ⟨b4, hb4⟩ : ∃ b, b = wr.heap.size := ⟨_, rfl⟩
      have HR4 := Lib.hid (RowAt.new wr 72 (iq [0, 0]))
      have HX4 : Hid (Wx w ((wr.alloc (.cells (iq [0, 0]) 72)).setRow wr.heap.size (iq (lay t))) X) := Lib.hid (HX.out.step (below_setRow ((Below.refl _ wr).alloc (Nat.le_refl _) _) (Nat.le_refl _) _))
      have HR5 := Lib.hid (HR4.out.setRow (iq (lay t)))
      go_wp2_with (refine wpList_store_of rfl _ _ _ rfl ⟨wr.heap.size, 0, none⟩ _ rfl rfl (lay_store rfl t HR4.out) ?_)
      rw [← hb4] at HX4 HR5 ⊢
      have HR6 : Hid (RowAt (World.setRow (wr.alloc (.cells (iq [0, 0]) 72)) b4 (iq (lay t))) b4 72 (iq (lay t))) := HR5
      have HB4 : Hid (w.heap.size + 2 ≤ b4) := Lib.hid (by rw [hb4]; exact HX.out.lt)
      generalize hW1 : World.setRow _ _ _ = w1
      have HX5 : Hid (Wx w w1 (linTo X t 0) ∧ RowAt w1 b4 72 (iq (lay t))) := Lib.hid (by subst hW1; exact ⟨HX4.out, HR6.out⟩)
      clear hW1 HX4 HR5 HR6 HR4 HX hb4
      go_wp2
      obtain ⟨wo, rfl⟩ : ∃ wo : World, wo = wr := ⟨_, rfl⟩
      go_loopw [10] (fun v10 wr => ∃ i : Nat, i ≤ 8 ∧ v10 = .int .i64 (i : Int) ∧ Wx w wr (linTo X t i) ∧ RowAt wr b4 72 (iq (lay t))) (fun v10 _ => 8 - (intOf v10).toNat)
      case atStart => exact ⟨0, by omega, rfl, HX5.out⟩
      case round =>
        clear HX5
        obtain ⟨i, hi, rfl, X1, X2⟩ := hrel
        have HX := Lib.hid X1
        have HR := Lib.hid X2
        clear X1 X2
        by_cases h8 : i < 8
        · have hdk : decide ((i : Int) < 8) = true := by simp; omega
          have HM : Hid (linTo X t (i + 1) = line (linTo X t i) t i) := Lib.hid rfl
          have CL := Lib.hid (line_any t i h8 w.heap.size (linTo_okb HXO.out t i) wr HX.out.rv (HT.out.1.below HX.out.below HT.out.1.1) HG.out)
          generalize linTo X t i = Y at *
          obtain ⟨L, P, hLP, _, _, _⟩ := lay_is t
          rw [hLP] at CL HR
          have HLP := Lib.hid hLP
          clear hLP
          go_wp2_with (refine wpList_load_of rfl 72 _ rfl ⟨b4, 0, none⟩ _ rfl (lay_load HR.out) ?_)
          refine CL.out.mono ?_
          rintro e w2 ⟨rfl, hr2, hk2⟩
          have HX2 := Lib.hid (HX.out.turn hr2 hk2)
          have HR2 : Hid (RowAt w2 b4 72 (iq [L, P])) := Lib.hid ((hk2.block _ HR.out.lt (by have := HB4.out; omega)).trans HR.out)
          clear hr2 hk2 HX HR CL
          go_wp2
          go_roundw
          case rel => exact ⟨i + 1, by omega, by go_num, by rw [HM.out]; exact HX2.out, by rw [HLP.out]; exact HR2.out⟩
          case measure => simp [intOf]; omega
        · obtain rfl : i = 8 := by omega
          have hdk : decide (((8 : Nat) : Int) < 8) = false := by simp
          go_wp2
          go_roundw
          case rel => exact ⟨t + 1, by omega, by go_num, by rw [HN.out]; exact HX.out⟩
          case measure => simp [intOf]; omega
    · obtain rfl : t = 2 := by omega
      have hdt : decide (((2 : Nat) : Int) < 2) = false := by simp
      have hX8 : Wx w wr (whole B) := HX.out
      have HLL : Hid ((wq (whole B)).size = 128) := Lib.hid (by rw [wq_size]; exact (whole_ok HB.out).1)
      have RV := Lib.hid hX8.rv
      have RZ := Lib.hid hX8.rz
      have HBB := Lib.hid hX8.below
      clear hX8 HX
      obtain ⟨z, hzz⟩ : ∃ z, z = whole B := ⟨_, rfl⟩
      rw [← hzz] at RV HLL
      have HZZ := Lib.hid hzz
      clear hzz
      go_wp2_with (first
        | refine wpList_load_row rfl 36 (.tmp 1) rfl w.heap.size rfl 36 (wq z) (0, 0) _ RV.out Tryd.underlying36 rfl (by rw [HLL.out]; exact b_size) ?_
        | refine wpList_store_row rfl 36 (.tmp 2) (.tmp 18) rfl (w.heap.size + 1) (wq z) rfl rfl 36 _ RZ.out (by rw [HLL.out]; exact b_size) (by rw [HLL.out]; rfl) (wq_one _) ?_)
      have hR := RowAt.setRow RZ.out (wq z)
      refine bodyPost_ret (v := .agg (wq z)) (results_cell_row rfl _ _ (w.heap.size + 1) 36 (wq z) (0, 0) _ rfl hR Tryd.underlying36 rfl (by rw [HLL.out]; exact b_size)) rfl ⟨by rw [HZZ.out], ?_⟩
      exact below_setRow HBB.out (by omega) _
end Go.Proofs.YtnbdmkgldjhcaaaDoor

/- spots of package fill: a segment's block and the one ahead of it, by its contract. Rows that are made in a statement whose order is open. Conditions: those typed. -/
import Derived.Test.YthbeoobfhfpelaaGreatDoorFlPure
import Derived.Test.YthbeoobfhfpelaaGreatDoorStage
import Derived.Test.YthbeoobfhfpelaaGreatDoorGf
namespace Go.Proofs.YthbeoobfhfpelaaGreatDoor
set_option maxRecDepth 50000
open Go.RowKit Bb Bn

/-- two results that are rows -/
theorem results_two_rows {P : Program} {fn : Func} {p u : Tmp} {ty : TypeId} {w : World} {b b' : Nat} {C C' : Array Value} (hr : fn.results = #[.cell p ty, .cell u ty]) (tmps : Array Value) {d : TypeDesc}
    (hp : tmps.getD p undef = .pointer (some ⟨b, 0, none⟩)) (hu : tmps.getD u undef = .pointer (some ⟨b', 0, none⟩)) (h : RowAt w b ty C) (h' : RowAt w b' ty C') (hd0 : P.underlying ty = some d) (hd : (match d with | .struct _ | .array _ _ => true | _ => false) = true) (hi : (P.info? ty).map (·.size) = some C.size) (hi' : (P.info? ty).map (·.size) = some C'.size) :
    (results fn tmps).run P w = .ok (.tuple #[.agg C, .agg C']) w := by
  have hp' : tmps[p]?.getD undef = .pointer (some ⟨b, 0, none⟩) := by simpa using hp
  have hu' : tmps[u]?.getD undef = .pointer (some ⟨b', 0, none⟩) := by simpa using hu
  simp [results, hr, hp', hu', asAddr, run_loadVar_row w b ty ty C (0, 0) d h hd0 hd hi, run_loadVar_row w b' ty ty C' (0, 0) d h' hd0 hd hi']

/-- a row that a statement made -/
def NewAt (N : Nat) (ty : TypeId) (C : Array Value) : Value → World → Prop := fun v w => ∃ b, v = .pointer (some ⟨b, 0, none⟩) ∧ N ≤ b ∧ RowAt w b ty C
theorem stable_newat (N : Nat) (ty : TypeId) (C : Array Value) : Stable (NewAt N ty C) := fun _ _ _ ⟨b, e, h, h2⟩ hb => ⟨b, e, h, h2.step hb⟩
theorem kept_row (w : World) (b : Nat) (C : Array Value) : Kept (fun j => j = b) w (w.setRow b C) := ⟨rfl, rfl, rfl, Nat.le_of_eq (setRow_size _ _ _).symm, fun _ _ hj => setRow_other _ _ _ _ fun e => hj e⟩
theorem NewAt.other {N : Nat} {ty : TypeId} {C : Array Value} {v : Value} {w : World} (h : NewAt N ty C v w) {b : Nat} (hne : v ≠ .pointer (some ⟨b, 0, none⟩)) (C' : Array Value) : NewAt N ty C v (w.setRow b C') := by
  obtain ⟨g, e, h1, h2⟩ := h
  exact ⟨g, e, h1, h2.kept (kept_row w b C') fun e2 => hne (by rw [e, e2])⟩
theorem NewAt.unlike {N : Nat} {ty ty' : TypeId} {C C2 : Array Value} {v : Value} {w : World} (h : NewAt N ty C v w) {b : Nat} (h2 : RowAt w b ty' C2) (ht : (ty == ty') = false) (C' : Array Value) : NewAt N ty C v (w.setRow b C') :=
  h.other (by
    obtain ⟨g, rfl, _, h3⟩ := h
    intro e
    injection e with e
    injection e with e
    injection e with e
    exact h3.unlike h2 ht e) C'
/-- memory is made -/
theorem op_fresh {P : Program} {o : Oper} {a : Act} {w : World} {Q : Exit → Act → World → Prop} {p : Value → World → Prop} {C : Array Value} {ty : TypeId} (hr : (execOp a.eval o).run P w = .ok (.value (.pointer (some ⟨w.heap.size, 0, none⟩))) (w.alloc (.cells C ty))) (h : p (.pointer (some ⟨w.heap.size, 0, none⟩)) (w.alloc (.cells C ty))) :
    o.wp P a w (fun a' w' => ∃ v, a' = a.put o.dst v ∧ p v w' ∧ Below w.heap.size w w' ∧ FreshP w w' v) Q := by
  unfold Oper.wp
  rw [hr]
  exact ⟨_, rfl, h, one_box _ _, w.heap.size, rfl, Nat.le_refl _, by rw [World.size_alloc]; omega⟩
/-- a store of a row -/
theorem stage_store {P : Program} {B : Nat} {ops : List Oper} {D : Nat → Nat → Value → World → Prop} {k n : Nat} {o : Oper} {a : Act} {w0 w w' : World} {Q : Exit → Act → World → Prop} {t : TypeId} {x y : Operand} {ad : Addr} {v : Value} (ho : o.op = .store t x y) (hx : a.eval x = .pointer (some ad)) (hy : a.eval y = v) (hs : (storeVar t ad v).run P w = .ok () w') (hn : D (k + 1) n undef w') (hb : Below B w0 w') (hz : w.heap.size ≤ w'.heap.size)
    (hc : ∀ i o' d, ops[i]? = some o' → o'.dst = some d → i ≠ n → waits ops i n = false → D k i (a.tmps.getD d undef) w → D (k + 1) i (a.tmps.getD d undef) w') : TurnsS P B ops D k n o a w0 w Q := by
  unfold TurnsS Oper.wp execOp
  simp only [ho, hx, hy, Instr.storeAt, Instr.sureAddr, Sem.run_bind, Sem.run_pure, Result.andThen_ok, hs]
  exact ⟨undef, rfl, hn, hb, hz, hc⟩
section
variable {w : World} {ev : Operand → Value} {x : Operand} {o : Oper}
theorem spot_new (hop : o.op = .alloc 58) : (execOp ev o).run Tryz.prog w = .ok (.value (.pointer (some ⟨w.heap.size, 0, none⟩))) (w.alloc (.cells (soc 0 0) 58)) := by
  simp [execOp, hop, go_sem]
theorem spot_one (x y : Int) : (soc x y).all (·.oneCell') = true := by simp [Value.oneCell']
end
theorem soc_store {w : World} {b : Nat} {x y x' y' : Int} (h : RowAt w b 58 (soc x y)) : (storeVar 58 ⟨b, 0, none⟩ (sov x' y')).run Tryz.prog w = .ok () (w.setRow b (soc x' y')) :=
  h.store (C' := soc x' y') spot_size rfl (spot_one _ _)

set_option maxHeartbeats 1600000 in
theorem spots_any (a t l m b c g z : Nat) (p s : Nat) (k i x y : Nat) (hx : s * g + i = x) (hy : bfN c x = y) (hxm : x ≤ 4294967295) (hc1 : 1 ≤ c) (hc : c ≤ 4294967295) (w : World) :
    Calls Tryz.prog 44 #[spv a t l m b c g z, tuv p s, .int .i64 (k : Int), .int .i64 (i : Int)] w fun e w' => e = .returned (.tuple #[sov k x, sov k y]) ∧ Below w.heap.size w w' := by
  have CC := Lib.hid fun w => column_is a t l m b c g z s i x hx (by omega) w
  have CB : Hid (∀ w, Calls Tryz.prog 23 #[spv a t l m b c g z, .int .i64 (x : Int)] w fun e w' => e = .returned (.int .i64 (y : Int)) ∧ Below w.heap.size w w') := Lib.hid fun w => by
    have h := spbefore_any a t l m b c g z x (by omega) (by omega) w
    rwa [bfN_is hc1, hy] at h
  obtain ⟨w1, e1⟩ : ∃ w1, w1 = (((w.alloc (.cells (spc a t l m b c g z) 32)).alloc (.cells (tuc p s) 48)).alloc (.cells (soc 0 0) 58)).alloc (.cells (soc 0 0) 58) := ⟨_, rfl⟩
  have B1 : Below w.heap.size w w1 := by
    rw [e1]; exact ((two_box _ _ _).alloc (by simp only [World.size_alloc]; omega) _).alloc (by simp only [World.size_alloc]; omega) _
  have HS : RowAt w1 w.heap.size 32 (spc a t l m b c g z) := by rw [e1]; exact (((RowAt.new w _ _).alloc _).alloc _).alloc _
  have HT : RowAt w1 (w.heap.size + 1) 48 (tuc p s) := by
    rw [e1]
    have h := RowAt.new (w.alloc (.cells (spc a t l m b c g z) 32)) 48 (tuc p s)
    rw [World.size_alloc] at h
    exact (h.alloc _).alloc _
  have H1 : RowAt w1 (w.heap.size + 1 + 1) 58 (soc 0 0) := by
    rw [e1]
    have h := RowAt.new ((w.alloc (.cells (spc a t l m b c g z) 32)).alloc (.cells (tuc p s) 48)) 58 (soc 0 0)
    rw [World.size_alloc, World.size_alloc] at h
    exact h.alloc _
  have H2 : RowAt w1 (w.heap.size + 1 + 1 + 1) 58 (soc 0 0) := by
    rw [e1]
    have h := RowAt.new (((w.alloc (.cells (spc a t l m b c g z) 32)).alloc (.cells (tuc p s) 48)).alloc (.cells (soc 0 0) 58)) 58 (soc 0 0)
    rwa [World.size_alloc, World.size_alloc, World.size_alloc] at h
  have k1 : w1.cell? ⟨w.heap.size + 1, 1, none⟩ = some (.int .i64 (s : Int)) := (HT.cell 1).trans rfl
  have HS := Lib.hid HS
  have H1 := Lib.hid H1
  have H2 := Lib.hid H2
  have HB := Lib.hid B1
  have E1 := Lib.hid e1
  clear hx hy hxm hc1 hc B1 e1 HT
  go_enter Tryz.func44, Tryz.ntmps44
  go_upto_region 1 with fail
  rw [← E1.out]
  clear E1
  go_wp2_with (refine wpList_load_want rfl 32 _ rfl _ _ rfl (sp_load HS.out) ?_)
  refine (CC.out _).mono ?_
  rintro e w2 ⟨rfl, hb⟩
  have HS2 := Lib.hid (RowAt.step HS.out hb)
  have H12 := Lib.hid (RowAt.step H1.out hb)
  have H22 := Lib.hid (RowAt.step H2.out hb)
  have HB2 := Lib.hid (below_step HB.out hb)
  clear CC HS H1 H2 HB hb k1
  go_wp2_with (first
    | refine wpList_load_want rfl 32 _ rfl _ _ rfl (sp_load HS2.out) ?_
    | refine wpList_value_want rfl _ (so_run rfl rfl rfl) ?_)
  refine (CB.out _).mono ?_
  rintro e w3 ⟨rfl, hb⟩
  have H13 := Lib.hid (RowAt.step H12.out hb)
  have H23 := Lib.hid (RowAt.step H22.out hb)
  have HB3 := Lib.hid (below_step HB2.out hb)
  have HS1 := Lib.hid (soc_store (x' := k) (y' := x) H13.out)
  have H24 := Lib.hid (RowAt.setRowOther H23.out (w.heap.size + 1 + 1) (by omega) (soc k x))
  have HS2b := Lib.hid (soc_store (x' := k) (y' := y) H24.out)
  clear CB HS2 H12 H22 HB2 hb
  go_wp2_with (first
    | refine wpList_value_want rfl _ (so_run rfl rfl rfl) ?_
    | refine wpList_store_of rfl _ _ _ rfl ⟨w.heap.size + 1 + 1, 0, none⟩ _ rfl rfl HS1.out ?_
    | refine wpList_store_of rfl _ _ _ rfl ⟨w.heap.size + 1 + 1 + 1, 0, none⟩ _ rfl rfl HS2b.out ?_)
  have R1 := RowAt.setRowOther (RowAt.setRow H13.out (soc k x)) (w.heap.size + 1 + 1 + 1) (by omega) (soc k y)
  have R2 := RowAt.setRow H24.out (soc k y)
  refine bodyPost_ret (results_two_rows rfl _ rfl rfl R1 R2 Tryz.underlying58 rfl spot_size spot_size) rfl ⟨rfl, ?_⟩
  exact below_setRow (below_setRow HB3.out (by omega) _) (by omega) _
end Go.Proofs.YthbeoobfhfpelaaGreatDoor

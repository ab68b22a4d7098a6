/- Argon2's memory filled, as plain mathematics: what a block hangs on, one block, a segment, a turn, all turns; lanes of one turn change places. Conditions: those typed. spots of package fill: a segment's block and the one ahead of it, by its contract. Rows that are made in a statement whose order is open. Conditions: those typed. -/
import Derived.Test.YtfoodaobiknihaaGreatDoorAds
import Derived.Test.YtfoodaobiknihaaGreatDoorStage
import Derived.Test.YtfoodaobiknihaaGreatDoorGf
namespace Go.Proofs.YtfoodaobiknihaaGreatDoor
set_option maxRecDepth 50000
open Go.RowKit Bb Bn
structure Sh (a t l b c g : Nat) : Prop where
  ha : a = 1 ∨ a = 2 ∨ a = 3
  t1 : 1 ≤ t
  tm : t ≤ 4294967295
  l1 : 1 ≤ l
  lm : l ≤ 1000
  g2 : 2 ≤ g
  cg : c = 4 * g
  cm : c ≤ 400
  bl : b = l * c
def bfN (c x : Nat) : Nat := if x = 0 then c - 1 else x - 1
theorem bfN_is {c : Nat} (hc : 1 ≤ c) (x : Nat) : befN c x = ((bfN c x : Nat) : Int) := by
  unfold befN bfN
  split <;> omega
theorem bfN_mod {c x : Nat} (hx : x < c) : (x + c - 1) % c = bfN c x := by
  unfold bfN
  by_cases h : x = 0
  · rw [if_pos h, h, Nat.zero_add, Nat.mod_eq_of_lt (by omega)]
  · rw [if_neg h, show x + c - 1 = x - 1 + c by omega, Nat.add_mod_right, Nat.mod_eq_of_lt (by omega)]
theorem bfN_lt {c x : Nat} (hx : x < c) : bfN c x < c := by
  unfold bfN
  split <;> omega
def fiN (p s : Nat) : Nat := if p = 0 ∧ s = 0 then 2 else 0
theorem fiN_is (p s : Nat) : firN (p : Int) (s : Int) = ((fiN p s : Nat) : Int) := by
  unfold firN fiN
  by_cases h : p = 0 ∧ s = 0
  · rw [if_pos h, if_pos (by omega)]; rfl
  · rw [if_neg h, if_neg (by omega)]; rfl
def ofL (l p s k W : Nat) : Nat := lnN l p s k (W / 4294967296)
def ofA (l c g p s k i W : Nat) : Nat := (arI (bsN c g p s) i (decide (ofL l p s k W = k))).toNat
def ofC (l c g p s k i W : Nat) : Nat := colN c g p s (piN (ofA l c g p s k i W) (W % 4294967296))
def numW (a t b c g : Nat) (L : List (List Nat)) (p s k i : Nat) : Nat :=
  if freeB a p s = true then (addL p k s b t ((a : Int) - 1) ((i / 128 + 1 : Nat) : Int)).getD (i % 128) 0 else (L.getD (k * c + bfN c (s * g + i)) []).getD 0 0
def newW (l c g : Nat) (L : List (List Nat)) (p s k i W : Nat) : List Nat :=
  xB (mix (L.getD (k * c + bfN c (s * g + i)) []) (L.getD (ofL l p s k W * c + ofC l c g p s k i W) []) :: if p = 0 then [] else [L.getD (k * c + (s * g + i)) []])
def newB (a t l b c g : Nat) (L : List (List Nat)) (p s k i : Nat) : List Nat := newW l c g L p s k i (numW a t b c g L p s k i)
def stepL (a t l b c g : Nat) (L : List (List Nat)) (p s k i : Nat) : List (List Nat) := L.set (k * c + (s * g + i)) (newB a t l b c g L p s k i)
structure Fl (t l c g p s k i : Nat) : Prop where
  pt : p < t
  s3 : s ≤ 3
  kl : k < l
  lo : fiN p s ≤ i
  hi : i < g
section
variable {a t l b c g p s k i : Nat} {L : List (List Nat)}
theorem Fl.ref (S : Sh a t l b c g) (R : Fl t l c g p s k i) : Ref t l c g p s k i := ⟨S.g2, S.cg, R.pt, R.s3, R.kl, R.hi, fun hp hs => by have := R.lo; rw [fiN, if_pos ⟨hp, hs⟩] at this; exact this⟩
theorem Fl.re (R : Fl t l c g p s k i) : reB t l g p s k i = true := by
  have h1 := R.pt
  have h2 := R.s3
  have h3 := R.kl
  have h4 := R.lo
  have h5 := R.hi
  have h6 := fiN_is p s
  simp only [reB, hasB, inB, h6, Bool.and_eq_true, decide_eq_true_eq]
  omega
theorem Fl.col (S : Sh a t l b c g) (R : Fl t l c g p s k i) : s * g + i < c := by
  have h1 := R.hi
  have h2 : s * g ≤ 3 * g := Nat.mul_le_mul_right _ R.s3
  have h3 := S.cg
  omega
theorem place_lt {x : Nat} (S : Sh a t l b c g) (hk : k < l) (hx : x < c) : k * c + x < l * c := by
  have h : (k + 1) * c ≤ l * c := Nat.mul_le_mul_right _ hk
  rw [Nat.succ_mul] at h
  have := S.cg
  omega
structure Chosen (l c g p s k i W : Nat) : Prop where
  lane : ofL l p s k W < l
  is : arI (bsN c g p s) i (decide (ofL l p s k W = k)) = ((ofA l c g p s k i W : Nat) : Int)
  a1 : 1 ≤ ofA l c g p s k i W
  ac : ofA l c g p s k i W ≤ c
  count : ofA l c g p s k i W + (if decide (ofL l p s k W = k) = true then 1 else if i = 0 then 1 else 0) = bsN c g p s + (if decide (ofL l p s k W = k) = true then i else 0)
  col : ofC l c g p s k i W < c
  apart : ofL l p s k W ≠ k → ofC l c g p s k i W < s * g ∨ s * g + g ≤ ofC l c g p s k i W
theorem chosen_of (S : Sh a t l b c g) (R : Fl t l c g p s k i) (W : Nat) : Chosen l c g p s k i W := by
  have R' := R.ref S
  obtain ⟨A, h1, h2, h3, h4⟩ := R'.area (decide (ofL l p s k W = k)) (fun hp hs => by unfold ofL lnN; rw [if_pos ⟨hp, hs⟩]; simp)
  have hA : ofA l c g p s k i W = A := by unfold ofA; rw [h1]; rfl
  have hy : piN A (W % 4294967296) < A := pi_lt h2
  obtain ⟨s1, s2, s3, s4⟩ := R'.spot (decide (ofL l p s k W = k)) A _ hy h4
  exact ⟨ln_lt R.kl, by rw [hA]; exact h1, by omega, by omega, by rw [hA]; exact h4, by unfold ofC; rw [hA]; exact s1, fun h => by unfold ofC; rw [hA]; exact s3 (by simpa using h)⟩
theorem numW_lt (S : Sh a t l b c g) (R : Fl t l c g p s k i) (hL : L.length = l * c) (h : ∀ x ∈ L, okb x) : numW a t b c g L p s k i < 18446744073709551616 := by
  unfold numW
  split
  · exact ok_at (add_ok _ _ _ _ _ _ _) _
  · exact ok_at (block_ok h _ (by rw [hL]; exact place_lt S R.kl (bfN_lt (R.col S)))) _
theorem newW_ok (S : Sh a t l b c g) (R : Fl t l c g p s k i) (hL : L.length = l * c) (h : ∀ x ∈ L, okb x) (W : Nat) : okb (newW l c g L p s k i W) := by
  have C := chosen_of S R W
  have h1 := block_ok h _ (by rw [hL]; exact place_lt S R.kl (bfN_lt (R.col S)))
  have h2 := block_ok h _ (by rw [hL]; exact place_lt S C.lane C.col)
  have h3 := block_ok h _ (by rw [hL]; exact place_lt S R.kl (R.col S))
  unfold newW
  refine xB_ok _ fun x hx => ?_
  rcases List.mem_cons.1 hx with rfl | hx
  · exact mix_ok h1 h2
  · split at hx
    · cases hx
    · rw [List.mem_singleton.1 hx]; exact h3
theorem newB_ok (S : Sh a t l b c g) (R : Fl t l c g p s k i) (hL : L.length = l * c) (h : ∀ x ∈ L, okb x) : okb (newB a t l b c g L p s k i) := newW_ok S R hL h _
theorem stepL_len : (stepL a t l b c g L p s k i).length = L.length := List.length_set
end
open Go.RowKit Bb Bn
theorem results_two_rows {P : Program} {fn : Func} {p u : Tmp} {ty : TypeId} {w : World} {b b' : Nat} {C C' : Array Value} (hr : fn.results = #[.cell p ty, .cell u ty]) (tmps : Array Value) {d : TypeDesc}
    (hp : tmps.getD p undef = .pointer (some ⟨b, 0, none⟩)) (hu : tmps.getD u undef = .pointer (some ⟨b', 0, none⟩)) (h : RowAt w b ty C) (h' : RowAt w b' ty C') (hd0 : P.underlying ty = some d) (hd : (match d with | .struct _ | .array _ _ => true | _ => false) = true) (hi : (P.info? ty).map (·.size) = some C.size) (hi' : (P.info? ty).map (·.size) = some C'.size) :
    (results fn tmps).run P w = .ok (.tuple #[.agg C, .agg C']) w := by
  have hp' : tmps[p]?.getD undef = .pointer (some ⟨b, 0, none⟩) := by simpa using hp
  have hu' : tmps[u]?.getD undef = .pointer (some ⟨b', 0, none⟩) := by simpa using hu
  simp [results, hr, hp', hu', asAddr, run_loadVar_row w b ty ty C (0, 0) d h hd0 hd hi, run_loadVar_row w b' ty ty C' (0, 0) d h' hd0 hd hi']
def NewAt (N : Nat) (ty : TypeId) (C : Array Value) : Value → World → Prop := fun v w => ∃ b, v = .pointer (some ⟨b, 0, none⟩) ∧ N ≤ b ∧ RowAt w b ty C
theorem stable_newat (N : Nat) (ty : TypeId) (C : Array Value) : Stable (NewAt N ty C) := fun _ _ _ ⟨b, e, h, h2⟩ hb => ⟨b, e, h, h2.step hb⟩
theorem kept_row (w : World) (b : Nat) (C : Array Value) : Kept (fun j => j = b) w (w.setRow b C) := ⟨rfl, rfl, rfl, Nat.le_of_eq (setRow_size _ _ _).symm, fun _ _ hj => setRow_other _ _ _ _ fun e => hj e⟩
theorem NewAt.other {N : Nat} {ty : TypeId} {C : Array Value} {v : Value} {w : World} (h : NewAt N ty C v w) {b : Nat} (hne : v ≠ .pointer (some ⟨b, 0, none⟩)) (C' : Array Value) : NewAt N ty C v (w.setRow b C') := by
  obtain ⟨g, e, h1, h2⟩ := h
  exact ⟨g, e, h1, h2.kept (kept_row w b C') fun e2 => hne (by rw [e, e2])⟩
theorem op_fresh {P : Program} {o : Oper} {a : Act} {w : World} {Q : Exit → Act → World → Prop} {p : Value → World → Prop} {C : Array Value} {ty : TypeId} (hr : (execOp a.eval o).run P w = .ok (.value (.pointer (some ⟨w.heap.size, 0, none⟩))) (w.alloc (.cells C ty))) (h : p (.pointer (some ⟨w.heap.size, 0, none⟩)) (w.alloc (.cells C ty))) :
    o.wp P a w (fun a' w' => ∃ v, a' = a.put o.dst v ∧ p v w' ∧ Below w.heap.size w w' ∧ FreshP w w' v) Q := by
  unfold Oper.wp
  rw [hr]
  exact ⟨_, rfl, h, one_box _ _, w.heap.size, rfl, Nat.le_refl _, by rw [World.size_alloc]; omega⟩
theorem stage_store {P : Program} {B : Nat} {ops : List Oper} {D : Nat → Nat → Value → World → Prop} {k n : Nat} {o : Oper} {a : Act} {w0 w w' : World} {Q : Exit → Act → World → Prop} {t : TypeId} {x y : Operand} {ad : Addr} {v : Value} (ho : o.op = .store t x y) (hx : a.eval x = .pointer (some ad)) (hy : a.eval y = v) (hs : (storeVar t ad v).run P w = .ok () w') (hn : D (k + 1) n undef w') (hb : Below B w0 w') (hz : w.heap.size ≤ w'.heap.size)
    (hc : ∀ i o' d, ops[i]? = some o' → o'.dst = some d → i ≠ n → waits ops i n = false → D k i (a.tmps.getD d undef) w → D (k + 1) i (a.tmps.getD d undef) w') : TurnsS P B ops D k n o a w0 w Q := by
  unfold TurnsS Oper.wp execOp
  simp only [ho, hx, hy, Instr.storeAt, Instr.sureAddr, Sem.run_bind, Sem.run_pure, Result.andThen_ok, hs]
  exact ⟨undef, rfl, hn, hb, hz, hc⟩
section
variable {w : World} {ev : Operand → Value} {x : Operand} {o : Oper}
theorem spot_new (hop : o.op = .alloc 30) : (execOp ev o).run Tryz.prog w = .ok (.value (.pointer (some ⟨w.heap.size, 0, none⟩))) (w.alloc (.cells (soc 0 0) 30)) := by
  simp [execOp, hop, go_sem]
theorem spot_one (x y : Int) : (soc x y).all (·.oneCell') = true := by simp [Value.oneCell']
end
theorem soc_store {w : World} {b : Nat} {x y x' y' : Int} (h : RowAt w b 30 (soc x y)) : (storeVar 30 ⟨b, 0, none⟩ (sov x' y')).run Tryz.prog w = .ok () (w.setRow b (soc x' y')) :=
  h.store (C' := soc x' y') spot_size rfl (spot_one _ _)
set_option maxHeartbeats 1600000 in
theorem spots_any (a t l m b c g z : Nat) (p s : Nat) (k i x y : Nat) (hx : s * g + i = x) (hy : bfN c x = y) (hxm : x ≤ 4294967295) (hc1 : 1 ≤ c) (hc : c ≤ 4294967295) (w : World) :
    Calls Tryz.prog 65 #[spv a t l m b c g z, tuv p s, .int .i64 (k : Int), .int .i64 (i : Int)] w fun e w' => e = .returned (.tuple #[sov k x, sov k y]) ∧ Below w.heap.size w w' := by
  have CC := Lib.hid fun w => column_is a t l m b c g z s i x hx (by omega) w
  have CB : Hid (∀ w, Calls Tryz.prog 93 #[spv a t l m b c g z, .int .i64 (x : Int)] w fun e w' => e = .returned (.int .i64 (y : Int)) ∧ Below w.heap.size w w') := Lib.hid fun w => by
    have h := spbefore_any a t l m b c g z x (by omega) (by omega) w
    rwa [bfN_is hc1, hy] at h
  obtain ⟨w1, e1⟩ : ∃ w1, w1 = (((w.alloc (.cells (spc a t l m b c g z) 44)).alloc (.cells (tuc p s) 28)).alloc (.cells (soc 0 0) 30)).alloc (.cells (soc 0 0) 30) := ⟨_, rfl⟩
  have B1 : Below w.heap.size w w1 := by
    rw [e1]; exact ((two_box _ _ _).alloc (by simp only [World.size_alloc]; omega) _).alloc (by simp only [World.size_alloc]; omega) _
  have HS : RowAt w1 w.heap.size 44 (spc a t l m b c g z) := by rw [e1]; exact (((RowAt.new w _ _).alloc _).alloc _).alloc _
  have HT : RowAt w1 (w.heap.size + 1) 28 (tuc p s) := by
    rw [e1]
    have h := RowAt.new (w.alloc (.cells (spc a t l m b c g z) 44)) 28 (tuc p s)
    rw [World.size_alloc] at h
    exact (h.alloc _).alloc _
  have H1 : RowAt w1 (w.heap.size + 1 + 1) 30 (soc 0 0) := by
    rw [e1]
    have h := RowAt.new ((w.alloc (.cells (spc a t l m b c g z) 44)).alloc (.cells (tuc p s) 28)) 30 (soc 0 0)
    rw [World.size_alloc, World.size_alloc] at h
    exact h.alloc _
  have H2 : RowAt w1 (w.heap.size + 1 + 1 + 1) 30 (soc 0 0) := by
    rw [e1]
    have h := RowAt.new (((w.alloc (.cells (spc a t l m b c g z) 44)).alloc (.cells (tuc p s) 28)).alloc (.cells (soc 0 0) 30)) 30 (soc 0 0)
    rwa [World.size_alloc, World.size_alloc, World.size_alloc] at h
  have k1 : w1.cell? ⟨w.heap.size + 1, 1, none⟩ = some (.int .i64 (s : Int)) := (HT.cell 1).trans rfl
  have HS := Lib.hid HS
  have H1 := Lib.hid H1
  have H2 := Lib.hid H2
  have HB := Lib.hid B1
  have E1 := Lib.hid e1
  clear hx hy hxm hc1 hc B1 e1 HT
  go_enter Tryz.func65, Tryz.ntmps65
  go_upto_region 1 with fail
  rw [← E1.out]
  clear E1
  go_wp2_with (refine wpList_load_want rfl 44 _ rfl _ _ rfl (sp_load HS.out) ?_)
  refine (CC.out _).mono ?_
  rintro e w2 ⟨rfl, hb⟩
  have HS2 := Lib.hid (RowAt.step HS.out hb)
  have H12 := Lib.hid (RowAt.step H1.out hb)
  have H22 := Lib.hid (RowAt.step H2.out hb)
  have HB2 := Lib.hid (below_step HB.out hb)
  clear CC HS H1 H2 HB hb k1
  go_wp2_with (first
    | refine wpList_load_want rfl 44 _ rfl _ _ rfl (sp_load HS2.out) ?_
    | refine wpList_value_want rfl _ (so_run rfl rfl rfl) ?_)
  refine (CB.out _).mono ?_
  rintro e w3 ⟨rfl, hb⟩
  have H13 := Lib.hid (RowAt.step H12.out hb)
  have H23 := Lib.hid (RowAt.step H22.out hb)
  have HB3 := Lib.hid (below_step HB2.out hb)
  have HS1 := Lib.hid (soc_store (x' := k) (y' := x) H13.out)
  have H24 := Lib.hid (RowAt.setRowOther H23.out (w.heap.size + 1 + 1) (by omega) (soc k x))
  have HS2b := Lib.hid (soc_store (x' := k) (y' := y) H24.out)
  clear CB HS2 H12 H22 HB2 hb
  go_wp2_with (first
    | refine wpList_value_want rfl _ (so_run rfl rfl rfl) ?_
    | refine wpList_store_of rfl _ _ _ rfl ⟨w.heap.size + 1 + 1, 0, none⟩ _ rfl rfl HS1.out ?_
    | refine wpList_store_of rfl _ _ _ rfl ⟨w.heap.size + 1 + 1 + 1, 0, none⟩ _ rfl rfl HS2b.out ?_)
  have R1 := RowAt.setRowOther (RowAt.setRow H13.out (soc k x)) (w.heap.size + 1 + 1 + 1) (by omega) (soc k y)
  have R2 := RowAt.setRow H24.out (soc k y)
  refine bodyPost_ret (results_two_rows rfl _ rfl rfl R1 R2 Tryz.underlying30 rfl spot_size spot_size) rfl ⟨rfl, ?_⟩
  exact below_setRow (below_setRow HB3.out (by omega) _) (by omega) _
end Go.Proofs.YtfoodaobiknihaaGreatDoor

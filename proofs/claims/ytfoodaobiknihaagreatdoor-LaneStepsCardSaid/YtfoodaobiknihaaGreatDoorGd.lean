/- Operations of package grid: fields of a grid and of its shape, spots; a grid that stands in memory. No condition but those typed. holds, Load and Store of package grid by their contracts. Conditions: those typed. Load and Store of package grid by their contracts. Conditions: those typed. Store of package grid where there is such a place, by its contract. Conditions: those typed. -/
import Derived.Test.YtfoodaobiknihaaGreatDoorBm
import Derived.Test.YtfoodaobiknihaaGreatDoorSp
namespace Go.Proofs.YtfoodaobiknihaaGreatDoor
set_option maxRecDepth 50000
open Go.RowKit Bb
section
variable {w : World} {b : Nat} {v : Value} {ev : Operand → Value} {x y : Operand} {o : Oper}
theorem nil_run {ad : Addr} (hop : o.op = .nilCheck x) (hx : ev x = .pointer (some ad)) : (execOp ev o).run Tryz.prog w = .ok (.value (.pointer (some ad))) w := by
  simp [execOp, hop, hx, go_sem]
theorem load_run {ad : Addr} {ty : TypeId} (hop : o.op = .load ty x) (hx : ev x = .pointer (some ad)) (hl : (loadVar ty ad).run Tryz.prog w = .ok v w) : (execOp ev o).run Tryz.prog w = .ok (.value v) w := by
  simp only [execOp, hop, hx, Instr.loadAt, Instr.sureAddr, Sem.run_bind, Sem.run_pure, Result.andThen_ok, hl]
theorem int_run {ad : Addr} {k : Int} (hop : o.op = .load 3 x) (hx : ev x = .pointer (some ad)) (hc : w.cell? ad = some (.int .i64 k)) : (execOp ev o).run Tryz.prog w = .ok (.value (.int .i64 k)) w := by
  simp [execOp, hop, hx, hc, go_sem]
theorem spf_all {off : Nat} {k : Nat} (hop : o.op = .fieldAddr 44 x k) (hk : k < 8) (hx : ev x = .pointer (some ⟨b, off, none⟩)) : (execOp ev o).run Tryz.prog w = .ok (.value (.pointer (some ⟨b, off + k, none⟩))) w := by
  rcases (show k = 0 ∨ k = 1 ∨ k = 2 ∨ k = 3 ∨ k = 4 ∨ k = 5 ∨ k = 6 ∨ k = 7 by omega) with rfl | rfl | rfl | rfl | rfl | rfl | rfl | rfl
  all_goals
    simp [execOp, hop, hx, go_sem]
theorem grf_run {off : Nat} {k : Nat} (hop : o.op = .fieldAddr 46 x k) (hk : k = 0 ∨ k = 1) (hx : ev x = .pointer (some ⟨b, off, none⟩)) : (execOp ev o).run Tryz.prog w = .ok (.value (.pointer (some ⟨b, off + k, none⟩))) w := by
  rcases hk with rfl | rfl
  all_goals
    simp [execOp, hop, hx, go_sem]
theorem sof_run {off : Nat} {k : Nat} (hop : o.op = .fieldAddr 30 x k) (hk : k = 0 ∨ k = 1) (hx : ev x = .pointer (some ⟨b, off, none⟩)) : (execOp ev o).run Tryz.prog w = .ok (.value (.pointer (some ⟨b, off + k, none⟩))) w := by
  rcases hk with rfl | rfl
  all_goals
    simp [execOp, hop, hx, go_sem]
theorem not_run {t : TypeId} {c : Bool} (hop : o.op = .unOp .not t x) (hx : ev x = .bool c) : (execOp ev o).run Tryz.prog w = .ok (.value (.bool (!c))) w := by
  simp [execOp, hop, hx, go_sem]
end
theorem sub_run (x y z : Int) (h : x - y = z) (h1 : -4611686018427387904 ≤ z) (h2 : z ≤ 4611686018427387904) (w : World) : (binOp .sub 3 (.int .i64 x) (.int .i64 y)).run Tryz.prog w = .ok (.int .i64 z) w := by
  have e : IntKind.i64.wrap (x - y) = z := by rw [h, IntKind.wrap_i64]; omega
  simp [go_sem, e]
theorem sto_does {P : Program} {o : Oper} {a : Act} {w w2 : World} {Q : Exit → Act → World → Prop} {W' : World → Prop} {ty : TypeId} {x y : Operand} {ad : Addr} {v : Value} (hop : o.op = .store ty x y) (hx : a.eval x = .pointer (some ad)) (hy : a.eval y = v) (hs : (storeVar ty ad v).run P w = .ok () w2) (h : W' w2) : o.wp P a w (fun a' w' => a' = a.put o.dst undef ∧ W' w') Q := by
  unfold Oper.wp
  have hr : (execOp a.eval o).run P w = .ok .skip w2 := by
    simp only [execOp, hop, hx, hy, Instr.storeAt, Instr.sureAddr, Sem.run_bind, Sem.run_pure, Result.andThen_ok, hs]
  rw [hr]
  exact ⟨rfl, h⟩
theorem calls_is {P : Program} {f : FuncId} {args : Array Value} {w : World} {v : Value} (h : Calls P f args w fun e w' => e = .returned v ∧ Below w.heap.size w w') : Calls P f args w fun e w' => ∃ u, e = .returned u ∧ Is v u w' ∧ Below w.heap.size w w' := by
  refine h.mono ?_
  rintro e w' ⟨rfl, hb⟩
  exact ⟨_, rfl, rfl, hb⟩
theorem calls_same {P : Program} {f : FuncId} {args : Array Value} {w : World} {v : Value} (h : Calls P f args w fun e w' => e = .returned v ∧ w = w') : Calls P f args w fun e w' => ∃ u, e = .returned u ∧ Is v u w' ∧ Below w.heap.size w w' := by
  refine h.mono ?_
  rintro e w' ⟨rfl, rfl⟩
  exact ⟨_, rfl, rfl, Below.refl _ _⟩
abbrev sov (x y : Int) : Value := .agg #[.int .i64 x, .int .i64 y]
abbrev soc (x y : Int) : Array Value := #[.int .i64 x, .int .i64 y]
theorem so_agg (w : World) : (isAgg 30).run Tryz.prog w = .ok true w := by
  unfold isAgg
  rw [Sem.run_bind, run_underlying Tryz.underlying30 w]
  rfl
theorem spot_size : (Tryz.prog.info? 30).map (·.size) = some 2 := by kernel_rfl
theorem so_load {w : World} {k : Nat} {x y : Int} (h : RowAt w k 30 (soc x y)) : (loadVar 30 ⟨k, 0, none⟩).run Tryz.prog w = .ok (sov x y) w :=
  sub_load h so_agg spot_size 0 [.int .i64 x, .int .i64 y] rfl fun j v h => by simpa using h
theorem so_cells {w : World} {k : Nat} {x y : Int} (h : RowAt w k 30 (soc x y)) : w.cell? ⟨k, 0, none⟩ = some (.int .i64 x) ∧ w.cell? ⟨k, 1, none⟩ = some (.int .i64 y) := ⟨(h.cell 0).trans rfl, (h.cell 1).trans rfl⟩
def inG (l c : Nat) (x y : Int) : Bool := inB x 0 ((l : Int) - 1) && inB y 0 ((c : Int) - 1)
theorem inG_at {l c i k : Nat} (hi : i < l) (hk : k < c) : inG l c (i : Int) (k : Int) = true := by
  simp only [inG, inB, Bool.and_eq_true, decide_eq_true_eq]; omega
abbrev grc (p a t l m b c g z : Nat) : Array Value := #[.pointer (some ⟨p, 0, none⟩), .int .i64 (a : Int), .int .i64 (t : Int), .int .i64 (l : Int), .int .i64 (m : Int), .int .i64 (b : Int), .int .i64 (c : Int), .int .i64 (g : Int), .int .i64 (z : Int)]
def GrRow (w : World) (q p a t l m b c g z : Nat) : Prop := RowAt w q 46 (grc p a t l m b c g z)
structure GrAt (w : World) (q p h G a t l m b c g z : Nat) (L : List (List Nat)) : Prop where
  row : GrRow w q p a t l m b c g z
  live : LiveAt w p h G L
section
variable {w w' : World} {q p h G a t l m b c g z : Nat} {L : List (List Nat)}
theorem GrRow.piece (H : GrRow w q p a t l m b c g z) : w.cell? ⟨q, 0, none⟩ = some (.pointer (some ⟨p, 0, none⟩)) := (RowAt.cell H 0).trans rfl
theorem GrRow.lanes (H : GrRow w q p a t l m b c g z) : w.cell? ⟨q, 3, none⟩ = some (.int .i64 (l : Int)) := (RowAt.cell H 3).trans rfl
theorem GrRow.columns (H : GrRow w q p a t l m b c g z) : w.cell? ⟨q, 6, none⟩ = some (.int .i64 (c : Int)) := (RowAt.cell H 6).trans rfl
theorem GrRow.shape (H : GrRow w q p a t l m b c g z) : (loadVar 44 ⟨q, 1, none⟩).run Tryz.prog w = .ok (spv a t l m b c g z) w :=
  sub_load H sp_agg sp_size 1 (spc a t l m b c g z).toList rfl fun j u hj => by
    have hj8 : j < 8 := by
      have := (List.getElem?_eq_some_iff.1 hj).1
      simpa using this
    rcases (show j = 0 ∨ j = 1 ∨ j = 2 ∨ j = 3 ∨ j = 4 ∨ j = 5 ∨ j = 6 ∨ j = 7 by omega) with rfl | rfl | rfl | rfl | rfl | rfl | rfl | rfl
    all_goals exact hj
theorem GrRow.kind (H : GrRow w q p a t l m b c g z) : (loadVar 42 ⟨q, 0, none⟩).run Tryz.prog w = .ok (.pointer (some ⟨p, 0, none⟩)) w := by
  simp [H.piece, go_sem]
theorem GrRow.step (H : GrRow w q p a t l m b c g z) (hb : Below w.heap.size w w') : GrRow w' q p a t l m b c g z := RowAt.step H hb
theorem LiveAt.step (H : LiveAt w p h G L) (hb : Below w.heap.size w w') : LiveAt w' p h G L := ⟨RowAt.step H.row hb, RowAt.step H.blk hb, H.ok⟩
theorem GrAt.step (H : GrAt w q p h G a t l m b c g z L) (hb : Below w.heap.size w w') : GrAt w' q p h G a t l m b c g z L := ⟨H.row.step hb, H.live.step hb⟩
theorem GrAt.set {L' : List (List Nat)} (H : GrAt w q p h G a t l m b c g z L) (hL : LiveAt w' p h G L') (hk : Kept (fun j => j = G) w w') : GrAt w' q p h G a t l m b c g z L' :=
  ⟨RowAt.kept H.row hk (RowAt.unlike H.row H.live.blk (by rfl)), hL⟩
end
open Go.RowKit Bb
set_option maxHeartbeats 1600000 in
theorem holds_no {w : World} {q p a t l m b c g z : Nat} (hG : GrRow w q p a t l m b c g z) (hl : l ≤ 16777215) (x y : Int) (h : inB x 0 ((l : Int) - 1) = false) : Calls Tryz.prog 49 #[.pointer (some ⟨q, 0, none⟩), sov x y] w fun e w' => e = .returned (.bool false) ∧ Below w.heap.size w w' := by
  have HB := Lib.hid (one_box w (.cells (soc x y) 30))
  have HS := Lib.hid (RowAt.new w 30 (soc x y))
  have HG := Lib.hid (hG.step (one_box w (.cells (soc x y) 30)))
  have C1 := Lib.hid (within_at h)
  clear hG h
  go_enter Tryz.func49, Tryz.ntmps49
  go_wp2
  refine wp_region_text [Is (.pointer (some ⟨q, 0, none⟩)), Is (.bool true), Is (.bool true), Is (.pointer (some ⟨w.heap.size, 0 + 0, none⟩)), Is (.int .i64 x), Is (.pointer (some ⟨q, 0, none⟩)), Is (.pointer (some ⟨q, 0, none⟩)), Is (.pointer (some ⟨q, 0 + 1, none⟩)), Is (.pointer (some ⟨q, 0 + 1 + 2, none⟩)), Is (.int .i64 (l : Int)), Is (.int .i64 ((l : Int) - 1)), Is (.bool false), Is (.bool false), Is (.bool false), Is undef, Is undef, Is undef, Is undef, Is undef, Is undef, Is undef, Is undef, Is undef, Is (.bool false), Is (.bool false)] (by kernel_rfl) (by kernel_rfl) rfl ⟨stable_is _, stable_is _, stable_is _, stable_is _, stable_is _, stable_is _, stable_is _, stable_is _, stable_is _, stable_is _, stable_is _, stable_is _, stable_is _, stable_is _, stable_is _, stable_is _, stable_is _, stable_is _, stable_is _, stable_is _, stable_is _, stable_is _, stable_is _, stable_is _, stable_is _, trivial⟩ ⟨?_, ?_, ?_, ?_, ?_, ?_, ?_, ?_, ?_, ?_, ?_, ?_, ?_, ?_, ?_, ?_, ?_, ?_, ?_, ?_, ?_, ?_, ?_, ?_, ?_, trivial⟩ ?_
  · intro a w C
    exact part_on (wanted_free rfl _) (op_move (.inl rfl) (C.was 0 (by kernel_rfl)))
  · intro a w C
    exact part_on (wanted_free rfl _) (op_bin rfl (C.on (j := 0) (by kernel_rfl) rfl rfl) rfl rfl (by simp [go_sem]) rfl)
  · intro a w C
    exact part_on (wanted_free rfl _) (op_move (.inl rfl) (C.on (j := 1) (by kernel_rfl) rfl rfl))
  · intro a w C
    exact part_on (wanted_on (j := 2) rfl rfl rfl (C.on (j := 2) (by kernel_rfl) rfl rfl)) (op_value (sof_run (k := 0) rfl (by decide) (C.was 3 (by kernel_rfl))) rfl)
  · intro a w C
    exact part_on (wanted_on (j := 2) rfl rfl rfl (C.on (j := 2) (by kernel_rfl) rfl rfl)) (op_value (int_run rfl (C.on (j := 3) (by kernel_rfl) rfl rfl) (HS.out.step C.below |> so_cells).1) rfl)
  · intro a w C
    exact part_on (wanted_on (j := 2) rfl rfl rfl (C.on (j := 2) (by kernel_rfl) rfl rfl)) (op_move (.inl rfl) (C.was 0 (by kernel_rfl)))
  · intro a w C
    exact part_on (wanted_on (j := 2) rfl rfl rfl (C.on (j := 2) (by kernel_rfl) rfl rfl)) (op_value (nil_run rfl (C.on (j := 5) (by kernel_rfl) rfl rfl)) rfl)
  · intro a w C
    exact part_on (wanted_on (j := 2) rfl rfl rfl (C.on (j := 2) (by kernel_rfl) rfl rfl)) (op_value (grf_run (k := 1) rfl (by decide) (C.on (j := 6) (by kernel_rfl) rfl rfl)) rfl)
  · intro a w C
    exact part_on (wanted_on (j := 2) rfl rfl rfl (C.on (j := 2) (by kernel_rfl) rfl rfl)) (op_value (spf_all (k := 2) rfl (by decide) (C.on (j := 7) (by kernel_rfl) rfl rfl)) rfl)
  · intro a w C
    exact part_on (wanted_on (j := 2) rfl rfl rfl (C.on (j := 2) (by kernel_rfl) rfl rfl)) (op_value (int_run rfl (C.on (j := 8) (by kernel_rfl) rfl rfl) (HG.out.step C.below).lanes) rfl)
  · intro a w C
    exact part_on (wanted_on (j := 2) rfl rfl rfl (C.on (j := 2) (by kernel_rfl) rfl rfl)) (op_bin rfl (C.on (j := 9) (by kernel_rfl) rfl rfl) rfl rfl (sub_run _ _ _ rfl (by omega) (by omega) _) rfl)
  · intro a w C
    exact part_on (wanted_on (j := 2) rfl rfl rfl (C.on (j := 2) (by kernel_rfl) rfl rfl)) (op_call3 rfl (reg_enters Tryz.func68 (by kernel_rfl) (by kernel_rfl)) (C.on (j := 4) (by kernel_rfl) rfl rfl) rfl (C.on (j := 10) (by kernel_rfl) rfl rfl) (calls_same (C1.out _)))
  · intro a w C
    exact part_on (wanted_free rfl _) (op_pick (k := true) rfl (C.on (j := 2) (by kernel_rfl) rfl rfl) (C.on (j := 11) (by kernel_rfl) rfl rfl))
  · intro a w C
    exact part_on (wanted_free rfl _) (op_move (.inl rfl) (C.on (j := 12) (by kernel_rfl) rfl rfl))
  · intro a w C
    exact part_off (wanted_off (j := 13) rfl rfl rfl (C.on (j := 13) (by kernel_rfl) rfl rfl)) rfl
  · intro a w C
    exact part_off (wanted_off (j := 13) rfl rfl rfl (C.on (j := 13) (by kernel_rfl) rfl rfl)) rfl
  · intro a w C
    exact part_off (wanted_off (j := 13) rfl rfl rfl (C.on (j := 13) (by kernel_rfl) rfl rfl)) rfl
  · intro a w C
    exact part_off (wanted_off (j := 13) rfl rfl rfl (C.on (j := 13) (by kernel_rfl) rfl rfl)) rfl
  · intro a w C
    exact part_off (wanted_off (j := 13) rfl rfl rfl (C.on (j := 13) (by kernel_rfl) rfl rfl)) rfl
  · intro a w C
    exact part_off (wanted_off (j := 13) rfl rfl rfl (C.on (j := 13) (by kernel_rfl) rfl rfl)) rfl
  · intro a w C
    exact part_off (wanted_off (j := 13) rfl rfl rfl (C.on (j := 13) (by kernel_rfl) rfl rfl)) rfl
  · intro a w C
    exact part_off (wanted_off (j := 13) rfl rfl rfl (C.on (j := 13) (by kernel_rfl) rfl rfl)) rfl
  · intro a w C
    exact part_off (wanted_off (j := 13) rfl rfl rfl (C.on (j := 13) (by kernel_rfl) rfl rfl)) rfl
  · intro a w C
    exact part_on (wanted_free rfl _) (op_pick (k := false) rfl (C.on (j := 13) (by kernel_rfl) rfl rfl) rfl)
  · intro a w C
    exact part_on (wanted_free rfl _) (op_move (.inr rfl) (C.on (j := 23) (by kernel_rfl) rfl rfl))
  rintro wF hbF _ rfl _ rfl _ rfl _ rfl _ rfl _ rfl _ rfl _ rfl _ rfl _ rfl _ rfl _ rfl _ rfl _ rfl _ rfl _ rfl _ rfl _ rfl _ rfl _ rfl _ rfl _ rfl _ rfl _ rfl _ rfl
  simp only [Fin, setAt, Exit.then, List.setIfInBounds_toArray, List.set_cons_succ, List.set_cons_zero]
  have HBF := Lib.hid (below_step HB.out hbF)
  clear hbF HB
  go_wp2
  go_ret
  exact ⟨rfl, HBF.out⟩
set_option maxHeartbeats 1600000 in
theorem holds_yes {w : World} {q p a t l m b c g z : Nat} (hG : GrRow w q p a t l m b c g z) (hl : l ≤ 16777215) (hc : c ≤ 4294967295) (x y : Int) (h : inB x 0 ((l : Int) - 1) = true) {k2 : Bool} (h2 : inB y 0 ((c : Int) - 1) = k2) : Calls Tryz.prog 49 #[.pointer (some ⟨q, 0, none⟩), sov x y] w fun e w' => e = .returned (.bool k2) ∧ Below w.heap.size w w' := by
  have HB := Lib.hid (one_box w (.cells (soc x y) 30))
  have HS := Lib.hid (RowAt.new w 30 (soc x y))
  have HG := Lib.hid (hG.step (one_box w (.cells (soc x y) 30)))
  have C1 := Lib.hid (within_at h)
  have C2 := Lib.hid (within_at h2)
  clear hG h h2
  go_enter Tryz.func49, Tryz.ntmps49
  go_wp2
  refine wp_region_text [Is (.pointer (some ⟨q, 0, none⟩)), Is (.bool true), Is (.bool true), Is (.pointer (some ⟨w.heap.size, 0 + 0, none⟩)), Is (.int .i64 x), Is (.pointer (some ⟨q, 0, none⟩)), Is (.pointer (some ⟨q, 0, none⟩)), Is (.pointer (some ⟨q, 0 + 1, none⟩)), Is (.pointer (some ⟨q, 0 + 1 + 2, none⟩)), Is (.int .i64 (l : Int)), Is (.int .i64 ((l : Int) - 1)), Is (.bool true), Is (.bool true), Is (.bool true), Is (.pointer (some ⟨w.heap.size, 0 + 1, none⟩)), Is (.int .i64 y), Is (.pointer (some ⟨q, 0, none⟩)), Is (.pointer (some ⟨q, 0, none⟩)), Is (.pointer (some ⟨q, 0 + 1, none⟩)), Is (.pointer (some ⟨q, 0 + 1 + 5, none⟩)), Is (.int .i64 (c : Int)), Is (.int .i64 ((c : Int) - 1)), Is (.bool k2), Is (.bool k2), Is (.bool k2)] (by kernel_rfl) (by kernel_rfl) rfl ⟨stable_is _, stable_is _, stable_is _, stable_is _, stable_is _, stable_is _, stable_is _, stable_is _, stable_is _, stable_is _, stable_is _, stable_is _, stable_is _, stable_is _, stable_is _, stable_is _, stable_is _, stable_is _, stable_is _, stable_is _, stable_is _, stable_is _, stable_is _, stable_is _, stable_is _, trivial⟩ ⟨?_, ?_, ?_, ?_, ?_, ?_, ?_, ?_, ?_, ?_, ?_, ?_, ?_, ?_, ?_, ?_, ?_, ?_, ?_, ?_, ?_, ?_, ?_, ?_, ?_, trivial⟩ ?_
  · intro a w C
    exact part_on (wanted_free rfl _) (op_move (.inl rfl) (C.was 0 (by kernel_rfl)))
  · intro a w C
    exact part_on (wanted_free rfl _) (op_bin rfl (C.on (j := 0) (by kernel_rfl) rfl rfl) rfl rfl (by simp [go_sem]) rfl)
  · intro a w C
    exact part_on (wanted_free rfl _) (op_move (.inl rfl) (C.on (j := 1) (by kernel_rfl) rfl rfl))
  · intro a w C
    exact part_on (wanted_on (j := 2) rfl rfl rfl (C.on (j := 2) (by kernel_rfl) rfl rfl)) (op_value (sof_run (k := 0) rfl (by decide) (C.was 3 (by kernel_rfl))) rfl)
  · intro a w C
    exact part_on (wanted_on (j := 2) rfl rfl rfl (C.on (j := 2) (by kernel_rfl) rfl rfl)) (op_value (int_run rfl (C.on (j := 3) (by kernel_rfl) rfl rfl) (HS.out.step C.below |> so_cells).1) rfl)
  · intro a w C
    exact part_on (wanted_on (j := 2) rfl rfl rfl (C.on (j := 2) (by kernel_rfl) rfl rfl)) (op_move (.inl rfl) (C.was 0 (by kernel_rfl)))
  · intro a w C
    exact part_on (wanted_on (j := 2) rfl rfl rfl (C.on (j := 2) (by kernel_rfl) rfl rfl)) (op_value (nil_run rfl (C.on (j := 5) (by kernel_rfl) rfl rfl)) rfl)
  · intro a w C
    exact part_on (wanted_on (j := 2) rfl rfl rfl (C.on (j := 2) (by kernel_rfl) rfl rfl)) (op_value (grf_run (k := 1) rfl (by decide) (C.on (j := 6) (by kernel_rfl) rfl rfl)) rfl)
  · intro a w C
    exact part_on (wanted_on (j := 2) rfl rfl rfl (C.on (j := 2) (by kernel_rfl) rfl rfl)) (op_value (spf_all (k := 2) rfl (by decide) (C.on (j := 7) (by kernel_rfl) rfl rfl)) rfl)
  · intro a w C
    exact part_on (wanted_on (j := 2) rfl rfl rfl (C.on (j := 2) (by kernel_rfl) rfl rfl)) (op_value (int_run rfl (C.on (j := 8) (by kernel_rfl) rfl rfl) (HG.out.step C.below).lanes) rfl)
  · intro a w C
    exact part_on (wanted_on (j := 2) rfl rfl rfl (C.on (j := 2) (by kernel_rfl) rfl rfl)) (op_bin rfl (C.on (j := 9) (by kernel_rfl) rfl rfl) rfl rfl (sub_run _ _ _ rfl (by omega) (by omega) _) rfl)
  · intro a w C
    exact part_on (wanted_on (j := 2) rfl rfl rfl (C.on (j := 2) (by kernel_rfl) rfl rfl)) (op_call3 rfl (reg_enters Tryz.func68 (by kernel_rfl) (by kernel_rfl)) (C.on (j := 4) (by kernel_rfl) rfl rfl) rfl (C.on (j := 10) (by kernel_rfl) rfl rfl) (calls_same (C1.out _)))
  · intro a w C
    exact part_on (wanted_free rfl _) (op_pick (k := true) rfl (C.on (j := 2) (by kernel_rfl) rfl rfl) (C.on (j := 11) (by kernel_rfl) rfl rfl))
  · intro a w C
    exact part_on (wanted_free rfl _) (op_move (.inl rfl) (C.on (j := 12) (by kernel_rfl) rfl rfl))
  · intro a w C
    exact part_on (wanted_on (j := 13) rfl rfl rfl (C.on (j := 13) (by kernel_rfl) rfl rfl)) (op_value (sof_run (k := 1) rfl (by decide) (C.was 3 (by kernel_rfl))) rfl)
  · intro a w C
    exact part_on (wanted_on (j := 13) rfl rfl rfl (C.on (j := 13) (by kernel_rfl) rfl rfl)) (op_value (int_run rfl (C.on (j := 14) (by kernel_rfl) rfl rfl) (HS.out.step C.below |> so_cells).2) rfl)
  · intro a w C
    exact part_on (wanted_on (j := 13) rfl rfl rfl (C.on (j := 13) (by kernel_rfl) rfl rfl)) (op_move (.inl rfl) (C.was 0 (by kernel_rfl)))
  · intro a w C
    exact part_on (wanted_on (j := 13) rfl rfl rfl (C.on (j := 13) (by kernel_rfl) rfl rfl)) (op_value (nil_run rfl (C.on (j := 16) (by kernel_rfl) rfl rfl)) rfl)
  · intro a w C
    exact part_on (wanted_on (j := 13) rfl rfl rfl (C.on (j := 13) (by kernel_rfl) rfl rfl)) (op_value (grf_run (k := 1) rfl (by decide) (C.on (j := 17) (by kernel_rfl) rfl rfl)) rfl)
  · intro a w C
    exact part_on (wanted_on (j := 13) rfl rfl rfl (C.on (j := 13) (by kernel_rfl) rfl rfl)) (op_value (spf_all (k := 5) rfl (by decide) (C.on (j := 18) (by kernel_rfl) rfl rfl)) rfl)
  · intro a w C
    exact part_on (wanted_on (j := 13) rfl rfl rfl (C.on (j := 13) (by kernel_rfl) rfl rfl)) (op_value (int_run rfl (C.on (j := 19) (by kernel_rfl) rfl rfl) (HG.out.step C.below).columns) rfl)
  · intro a w C
    exact part_on (wanted_on (j := 13) rfl rfl rfl (C.on (j := 13) (by kernel_rfl) rfl rfl)) (op_bin rfl (C.on (j := 20) (by kernel_rfl) rfl rfl) rfl rfl (sub_run _ _ _ rfl (by omega) (by omega) _) rfl)
  · intro a w C
    exact part_on (wanted_on (j := 13) rfl rfl rfl (C.on (j := 13) (by kernel_rfl) rfl rfl)) (op_call3 rfl (reg_enters Tryz.func68 (by kernel_rfl) (by kernel_rfl)) (C.on (j := 15) (by kernel_rfl) rfl rfl) rfl (C.on (j := 21) (by kernel_rfl) rfl rfl) (calls_same (C2.out _)))
  · intro a w C
    exact part_on (wanted_free rfl _) (op_pick (k := true) rfl (C.on (j := 13) (by kernel_rfl) rfl rfl) (C.on (j := 22) (by kernel_rfl) rfl rfl))
  · intro a w C
    exact part_on (wanted_free rfl _) (op_move (.inr rfl) (C.on (j := 23) (by kernel_rfl) rfl rfl))
  rintro wF hbF _ rfl _ rfl _ rfl _ rfl _ rfl _ rfl _ rfl _ rfl _ rfl _ rfl _ rfl _ rfl _ rfl _ rfl _ rfl _ rfl _ rfl _ rfl _ rfl _ rfl _ rfl _ rfl _ rfl _ rfl _ rfl
  simp only [Fin, setAt, Exit.then, List.setIfInBounds_toArray, List.set_cons_succ, List.set_cons_zero]
  have HBF := Lib.hid (below_step HB.out hbF)
  clear hbF HB
  go_wp2
  go_ret
  exact ⟨rfl, HBF.out⟩
theorem holds_any {w : World} {q p a t l m b c g z : Nat} (hG : GrRow w q p a t l m b c g z) (hl : l ≤ 16777215) (hc : c ≤ 4294967295) (x y : Int) {k : Bool} (h : inG l c x y = k) : Calls Tryz.prog 49 #[.pointer (some ⟨q, 0, none⟩), sov x y] w fun e w' => e = .returned (.bool k) ∧ Below w.heap.size w w' := by
  subst h
  unfold inG
  cases h : inB x 0 ((l : Int) - 1)
  · exact holds_no hG hl x y h
  · exact holds_yes hG hl hc x y h rfl
open Go.RowKit Bb
theorem ext_run {w : World} {ev : Operand → Value} {y : Operand} {o : Oper} {k : Nat} {vs : Array Value} {v : Value} (hop : o.op = .extract y k) (hy : ev y = .tuple vs) (hv : vs[k]? = some v) : (execOp ev o).run Tryz.prog w = .ok (.value v) w := by
  simp [execOp, hop, hy, hv, go_sem]
theorem reg_call3 {P : Program} {o : Oper} {a : Act} {w : World} {f : FuncId} {x y z : Operand} {ts : Array TypeId} {v1 v2 v3 : Value} (ho : o.op = .call { callee := .value (.func f), args := #[x, y, z], argTypes := ts }) (he : ∀ (args : Array Value) (w : World), (callFunc f args).run P w = .ok (.enter f args) w)
    (hx : a.eval x = v1) (hy : a.eval y = v2) (hz : a.eval z = v3) : (execOp a.eval o).run P w = .ok (.enter f #[v1, v2, v3]) w := by
  subst hx; subst hy; subst hz
  simp [execOp, ho, resolve, invoke, he, go_sem]
section
variable {w : World} {q p h G a t l m b c g z : Nat} {L : List (List Nat)}
set_option maxHeartbeats 3200000 in
theorem gload_any (hG : GrAt w q p h G a t l m b c g z L) (hl : l ≤ 16777215) (hc : c ≤ 4294967295) (i k n : Nat) (hi : i < l) (hk : k < c) (hn : i * c + k = n) (hnL : n < L.length) (hL : L.length ≤ 4194304) : Calls Tryz.prog 38 #[.pointer (some ⟨q, 0, none⟩), sov (i : Int) (k : Int)] w fun e w' => e = .returned (.tuple #[.agg (wq (L.getD n [])), .int .i64 0]) ∧ Below w.heap.size w w' := by
  obtain ⟨w1, e1⟩ : ∃ w1, w1 = (w.alloc (.cells (soc i k) 30)).alloc (.cells (wq zb) 83) := ⟨_, rfl⟩
  have B1 : Below w.heap.size w w1 := by rw [e1]; exact two_box _ _ _
  have S1 : RowAt w1 w.heap.size 30 (soc i k) := by rw [e1]; exact (RowAt.new w _ _).alloc _
  have R1 : RowAt w1 (w.heap.size + 1) 83 (wq zb) := by
    rw [e1]
    have := RowAt.new (w.alloc (.cells (soc i k) 30)) 83 (wq zb)
    rwa [World.size_alloc] at this
  have CH := Lib.hid (holds_any (hG.step B1).row hl hc i k (inG_at hi hk))
  have HX := Lib.hid (block_ok hG.live.ok n hnL)
  have CP := Lib.hid fun w => spplace_any a t l m b c g z i k (by omega) w
  rw [hn] at CP
  have CG : Hid (∀ w', Below w.heap.size w w' → Calls Tryz.prog 62 #[.pointer (some ⟨p, 0, none⟩), .int .i64 (n : Int)] w' fun e w2 => e = .returned (.tuple #[.agg (wq (L.getD n [])), .int .i64 0]) ∧ Below w'.heap.size w' w2) := Lib.hid fun w' hb => get_any (hG.step hb).live n hnL
  generalize L.getD n [] = x at *
  have HB := Lib.hid B1
  have HS := Lib.hid S1
  have HR := Lib.hid R1
  have HG := Lib.hid hG
  have hz := zero_b
  have E1 := Lib.hid e1
  clear B1 e1 S1 R1 hG hi hk hnL hn hL
  go_enter Tryz.func38, Tryz.ntmps38
  go_wp2_with fail
  rw [← E1.out]
  refine CH.out.mono ?_
  rintro e w2 ⟨rfl, b2⟩
  have S2 := RowAt.step HS.out b2
  have R2 := RowAt.step HR.out b2
  have B2 := below_step HB.out b2
  have G2 := HG.out.step B2
  obtain ⟨W, hWd⟩ : ∃ W : Nat → World → Prop, W = fun j w' => if j = 0 then Below w2.heap.size w2 w' else (RowAt w' (w.heap.size + 1) 83 (wq x) ∧ Below w.heap.size w w') := ⟨_, rfl⟩
  have HWS : Hid (∀ k w w', W k w → Below w.heap.size w w' → W k w') := Lib.hid fun j u u' h hb => by
    subst hWd
    by_cases hj : j = 0
    · simp only [if_pos hj] at h ⊢; exact below_step h hb
    · simp only [if_neg hj] at h ⊢; exact ⟨RowAt.step h.1 hb, below_step h.2 hb⟩
  have HW0 : Hid (W 0 w2) := Lib.hid (by subst hWd; exact Below.refl _ _)
  have HF : Hid (∀ w', W 0 w' → (loadVar 42 ⟨q, 0 + 0, none⟩).run Tryz.prog w' = .ok (.pointer (some ⟨p, 0, none⟩)) w' ∧ (loadVar 44 ⟨q, 0 + 1, none⟩).run Tryz.prog w' = .ok (spv a t l m b c g z) w' ∧ w'.cell? ⟨w.heap.size, 0 + 0, none⟩ = some (.int .i64 (i : Int)) ∧ w'.cell? ⟨w.heap.size, 0 + 1, none⟩ = some (.int .i64 (k : Int)) ∧ Calls Tryz.prog 62 #[.pointer (some ⟨p, 0, none⟩), .int .i64 (n : Int)] w' fun e w2 => e = .returned (.tuple #[.agg (wq x), .int .i64 0]) ∧ Below w'.heap.size w' w2) := Lib.hid fun w' h => by
    subst hWd
    exact ⟨(G2.step h).row.kind, (G2.step h).row.shape, (so_cells (RowAt.step S2 h)).1, (so_cells (RowAt.step S2 h)).2, CG.out w' (below_step B2 h)⟩
  have HT : Hid (∀ w', W 0 w' → ∃ w3, (storeVar 83 ⟨w.heap.size + 1, 0, none⟩ (.agg (wq x))).run Tryz.prog w' = .ok () w3 ∧ W 1 w3) := Lib.hid fun w' h => by
    subst hWd
    have hr := RowAt.step R2 h
    exact ⟨_, hr.store (C' := wq x) (by rw [wq_size, HX.out.1]; exact b_size) (by rw [wq_size, wq_size, HX.out.1]; exact zb_ok.1) (wq_one _), hr.setRow _, below_setRow (below_step B2 h) (by omega) _⟩
  have HW1 : Hid (∀ w', W 1 w' → RowAt w' (w.heap.size + 1) 83 (wq x) ∧ Below w.heap.size w w') := Lib.hid fun w' h => by subst hWd; exact h
  have HXX := Lib.hid HX.out.1
  clear hWd CG S2 R2 B2 G2 b2 HB HS HR HG CH HX
  go_wp2
  refine wp_region_seq [16] [.pointer (some ⟨q, 0, none⟩), .pointer (some ⟨q, 0, none⟩), .pointer (some ⟨q, 0 + 0, none⟩), .pointer (some ⟨p, 0, none⟩), .pointer (some ⟨q, 0, none⟩), .pointer (some ⟨q, 0, none⟩), .pointer (some ⟨q, 0 + 1, none⟩), spv a t l m b c g z, .pointer (some ⟨w.heap.size, 0 + 0, none⟩), .int .i64 (i : Int), .pointer (some ⟨w.heap.size, 0 + 1, none⟩), .int .i64 (k : Int), .int .i64 ((n : Nat) : Int), .tuple #[.agg (wq x), .int .i64 0], .agg (wq x), .int .i64 0, undef, .int .i64 0] W (by kernel_rfl) (by kernel_rfl) rfl (HWS.out 0 _ _ HW0.out (Below.refl _ _).drew) ⟨?_, ?_, ?_, ?_, ?_, ?_, ?_, ?_, ?_, ?_, ?_, ?_, ?_, ?_, ?_, ?_, ?_, ?_, trivial⟩ ?_
  · exact seq_head (by kernel_rfl) (HWS.out 0) fun a w C hW => op_move (.inl rfl) (C.was 0 (by kernel_rfl))
  · exact seq_head (by kernel_rfl) (HWS.out 0) fun a w C hW => op_value (nil_run rfl (C.on (j := 0) (by kernel_rfl) rfl rfl)) rfl
  · exact seq_head (by kernel_rfl) (HWS.out 0) fun a w C hW => op_value (grf_run (k := 0) rfl (by decide) (C.on (j := 1) (by kernel_rfl) rfl rfl)) rfl
  · exact seq_head (by kernel_rfl) (HWS.out 0) fun a w C hW => op_value (load_run rfl (C.on (j := 2) (by kernel_rfl) rfl rfl) (HF.out w hW).1) rfl
  · exact seq_head (by kernel_rfl) (HWS.out 0) fun a w C hW => op_move (.inl rfl) (C.was 0 (by kernel_rfl))
  · exact seq_head (by kernel_rfl) (HWS.out 0) fun a w C hW => op_value (nil_run rfl (C.on (j := 4) (by kernel_rfl) rfl rfl)) rfl
  · exact seq_head (by kernel_rfl) (HWS.out 0) fun a w C hW => op_value (grf_run (k := 1) rfl (by decide) (C.on (j := 5) (by kernel_rfl) rfl rfl)) rfl
  · exact seq_head (by kernel_rfl) (HWS.out 0) fun a w C hW => op_value (load_run rfl (C.on (j := 6) (by kernel_rfl) rfl rfl) (HF.out w hW).2.1) rfl
  · exact seq_head (by kernel_rfl) (HWS.out 0) fun a w C hW => op_value (sof_run (k := 0) rfl (by decide) (C.was 3 (by kernel_rfl))) rfl
  · exact seq_head (by kernel_rfl) (HWS.out 0) fun a w C hW => op_value (int_run rfl (C.on (j := 8) (by kernel_rfl) rfl rfl) (HF.out w hW).2.2.1) rfl
  · exact seq_head (by kernel_rfl) (HWS.out 0) fun a w C hW => op_value (sof_run (k := 1) rfl (by decide) (C.was 3 (by kernel_rfl))) rfl
  · exact seq_head (by kernel_rfl) (HWS.out 0) fun a w C hW => op_value (int_run rfl (C.on (j := 10) (by kernel_rfl) rfl rfl) (HF.out w hW).2.2.2.1) rfl
  · exact seq_head (by kernel_rfl) (HWS.out 0) fun a w C hW => op_call3 rfl (reg_enters Tryz.func51 (by kernel_rfl) (by kernel_rfl)) (C.on (j := 7) (by kernel_rfl) rfl rfl) (C.on (j := 9) (by kernel_rfl) rfl rfl) (C.on (j := 11) (by kernel_rfl) rfl rfl) (calls_is (CP.out w))
  · exact seq_head (by kernel_rfl) (HWS.out 0) fun a w C hW => op_call2 rfl (reg_enters Tryz.func62 (by kernel_rfl) (by kernel_rfl)) (C.on (j := 3) (by kernel_rfl) rfl rfl) (C.on (j := 12) (by kernel_rfl) rfl rfl) (calls_is ((HF.out w hW).2.2.2.2))
  · exact seq_head (by kernel_rfl) (HWS.out 0) fun a w C hW => op_value (ext_run (v := .agg (wq x)) rfl (C.on (j := 13) (by kernel_rfl) rfl rfl) rfl) rfl
  · exact seq_head (by kernel_rfl) (HWS.out 0) fun a w C hW => op_value (ext_run (v := .int .i64 0) rfl (C.on (j := 13) (by kernel_rfl) rfl rfl) rfl) rfl
  · exact seq_turn 0 (by kernel_rfl) fun a w C hW => by
        obtain ⟨w2, hs, hn⟩ := HT.out w hW
        exact sto_does rfl (C.was 4 (by kernel_rfl)) (C.on (j := 14) (by kernel_rfl) rfl rfl) hs hn
  · exact seq_float (by kernel_rfl) HWS.out fun a w C => op_move (.inr rfl) (C.on (j := 15) (by kernel_rfl) rfl rfl)
  intro w3 hw
  obtain ⟨R3, B3⟩ := HW1.out w3 hw
  have HB3 := Lib.hid B3
  clear hw HWS HW0 HF HT HW1 B3 CP
  simp only [setAll, setAt, List.setIfInBounds_toArray, List.set_cons_succ, List.set_cons_zero]
  go_wp2
  refine bodyPost_ret (results_row_tmp rfl _ (p := 4) rfl R3 Tryz.underlying83 rfl (by rw [wq_size, HXX.out]; exact b_size)) rfl ⟨rfl, HB3.out⟩
end
open Go.RowKit Bb
section
variable {w : World} {q p h G a t l m b c g z : Nat} {L : List (List Nat)}
set_option maxHeartbeats 3200000 in
theorem gstore_any (hG : GrAt w q p h G a t l m b c g z L) (hl : l ≤ 16777215) (hc : c ≤ 4294967295) (i k n : Nat) (hi : i < l) (hk : k < c) (hn : i * c + k = n) (hnL : n < L.length) (hL : L.length ≤ 4194304) {x : List Nat} (hx : okb x) : Calls Tryz.prog 30 #[.pointer (some ⟨q, 0, none⟩), sov (i : Int) (k : Int), .agg (wq x)] w fun e w' => e = .returned (.int .i64 0) ∧ GrAt w' q p h G a t l m b c g z (L.set n x) ∧ Kept (fun j => j = G) w w' := by
  obtain ⟨w1, e1⟩ : ∃ w1, w1 = (w.alloc (.cells (soc i k) 30)).alloc (.cells (wq x) 83) := ⟨_, rfl⟩
  have B1 : Below w.heap.size w w1 := by rw [e1]; exact two_box _ _ _
  have S1 : RowAt w1 w.heap.size 30 (soc i k) := by rw [e1]; exact (RowAt.new w _ _).alloc _
  have R1 : RowAt w1 (w.heap.size + 1) 83 (wq x) := by
    rw [e1]
    have := RowAt.new (w.alloc (.cells (soc i k) 30)) 83 (wq x)
    rwa [World.size_alloc] at this
  have CH := Lib.hid (holds_any (hG.step B1).row hl hc i k (inG_at hi hk))
  have CP := Lib.hid fun w => spplace_any a t l m b c g z i k (by omega) w
  rw [hn] at CP
  have HB := Lib.hid B1
  have HS := Lib.hid S1
  have HR := Lib.hid R1
  have HG := Lib.hid hG
  have HN := Lib.hid hnL
  have HX := Lib.hid hx
  have E1 := Lib.hid e1
  clear B1 e1 S1 R1 hG hi hk hnL hn hL hx
  go_enter Tryz.func30, Tryz.ntmps30
  go_wp2_with fail
  rw [← E1.out]
  refine CH.out.mono ?_
  rintro e w2 ⟨rfl, b2⟩
  have S2 := RowAt.step HS.out b2
  have R2 := RowAt.step HR.out b2
  have B2 := below_step HB.out b2
  have G2 := HG.out.step B2
  obtain ⟨W, hWd⟩ : ∃ W : Nat → World → Prop, W = fun j w' => if j = 0 then Below w2.heap.size w2 w' else (GrAt w' q p h G a t l m b c g z (L.set n x) ∧ Kept (fun j => j = G) w w') := ⟨_, rfl⟩
  have HWS : Hid (∀ k w w', W k w → Below w.heap.size w w' → W k w') := Lib.hid fun j u u' h hb => by
    subst hWd
    by_cases hj : j = 0
    · simp only [if_pos hj] at h ⊢; exact below_step h hb
    · simp only [if_neg hj] at h ⊢; exact ⟨h.1.step hb, h.2.trans (Kept.of_below (M := fun _ => False) hb) fun _ _ h => h.elim⟩
  have HW0 : Hid (W 0 w2) := Lib.hid (by subst hWd; exact Below.refl _ _)
  have HF : Hid (∀ w', W 0 w' → (loadVar 42 ⟨q, 0 + 0, none⟩).run Tryz.prog w' = .ok (.pointer (some ⟨p, 0, none⟩)) w' ∧ (loadVar 44 ⟨q, 0 + 1, none⟩).run Tryz.prog w' = .ok (spv a t l m b c g z) w' ∧ w'.cell? ⟨w.heap.size, 0 + 0, none⟩ = some (.int .i64 (i : Int)) ∧ w'.cell? ⟨w.heap.size, 0 + 1, none⟩ = some (.int .i64 (k : Int)) ∧ (loadVar 83 ⟨w.heap.size + 1, 0, none⟩).run Tryz.prog w' = .ok (.agg (wq x)) w' ∧ Calls Tryz.prog 50 #[.pointer (some ⟨p, 0, none⟩), .int .i64 (n : Int), .agg (wq x)] w' fun e w2 => e = .returned (.int .i64 0) ∧ W 1 w2) := Lib.hid fun w' h => by
    subst hWd
    refine ⟨(G2.step h).row.kind, (G2.step h).row.shape, (so_cells (RowAt.step S2 h)).1, (so_cells (RowAt.step S2 h)).2, RowAt.load (RowAt.step R2 h) Tryz.underlying83 (by rw [wq_size, HX.out.1]; exact b_size), ?_⟩
    refine (pset_any (G2.step h).live n HN.out HX.out).mono ?_
    rintro e w4 ⟨rfl, h4, k4⟩
    exact ⟨rfl, (G2.step h).set h4 k4, (Kept.of_below (M := fun j => j = G) (below_step B2 h)).trans k4 fun _ _ h => h⟩
  have HW1 : Hid (∀ w', W 1 w' → GrAt w' q p h G a t l m b c g z (L.set n x) ∧ Kept (fun j => j = G) w w') := Lib.hid fun w' h => by subst hWd; exact h
  clear hWd S2 R2 B2 G2 b2 HB HS HR HG CH HX HN
  go_wp2
  refine wp_region_seq [14] [.pointer (some ⟨q, 0, none⟩), .pointer (some ⟨q, 0, none⟩), .pointer (some ⟨q, 0 + 0, none⟩), .pointer (some ⟨p, 0, none⟩), .pointer (some ⟨q, 0, none⟩), .pointer (some ⟨q, 0, none⟩), .pointer (some ⟨q, 0 + 1, none⟩), spv a t l m b c g z, .pointer (some ⟨w.heap.size, 0 + 0, none⟩), .int .i64 (i : Int), .pointer (some ⟨w.heap.size, 0 + 1, none⟩), .int .i64 (k : Int), .int .i64 ((n : Nat) : Int), .agg (wq x), .int .i64 0, .int .i64 0] W (by kernel_rfl) (by kernel_rfl) rfl (HWS.out 0 _ _ HW0.out (Below.refl _ _).drew) ⟨?_, ?_, ?_, ?_, ?_, ?_, ?_, ?_, ?_, ?_, ?_, ?_, ?_, ?_, ?_, ?_, trivial⟩ ?_
  · exact seq_head (by kernel_rfl) (HWS.out 0) fun a w C hW => op_move (.inl rfl) (C.was 0 (by kernel_rfl))
  · exact seq_head (by kernel_rfl) (HWS.out 0) fun a w C hW => op_value (nil_run rfl (C.on (j := 0) (by kernel_rfl) rfl rfl)) rfl
  · exact seq_head (by kernel_rfl) (HWS.out 0) fun a w C hW => op_value (grf_run (k := 0) rfl (by decide) (C.on (j := 1) (by kernel_rfl) rfl rfl)) rfl
  · exact seq_head (by kernel_rfl) (HWS.out 0) fun a w C hW => op_value (load_run rfl (C.on (j := 2) (by kernel_rfl) rfl rfl) (HF.out w hW).1) rfl
  · exact seq_head (by kernel_rfl) (HWS.out 0) fun a w C hW => op_move (.inl rfl) (C.was 0 (by kernel_rfl))
  · exact seq_head (by kernel_rfl) (HWS.out 0) fun a w C hW => op_value (nil_run rfl (C.on (j := 4) (by kernel_rfl) rfl rfl)) rfl
  · exact seq_head (by kernel_rfl) (HWS.out 0) fun a w C hW => op_value (grf_run (k := 1) rfl (by decide) (C.on (j := 5) (by kernel_rfl) rfl rfl)) rfl
  · exact seq_head (by kernel_rfl) (HWS.out 0) fun a w C hW => op_value (load_run rfl (C.on (j := 6) (by kernel_rfl) rfl rfl) (HF.out w hW).2.1) rfl
  · exact seq_head (by kernel_rfl) (HWS.out 0) fun a w C hW => op_value (sof_run (k := 0) rfl (by decide) (C.was 4 (by kernel_rfl))) rfl
  · exact seq_head (by kernel_rfl) (HWS.out 0) fun a w C hW => op_value (int_run rfl (C.on (j := 8) (by kernel_rfl) rfl rfl) (HF.out w hW).2.2.1) rfl
  · exact seq_head (by kernel_rfl) (HWS.out 0) fun a w C hW => op_value (sof_run (k := 1) rfl (by decide) (C.was 4 (by kernel_rfl))) rfl
  · exact seq_head (by kernel_rfl) (HWS.out 0) fun a w C hW => op_value (int_run rfl (C.on (j := 10) (by kernel_rfl) rfl rfl) (HF.out w hW).2.2.2.1) rfl
  · exact seq_head (by kernel_rfl) (HWS.out 0) fun a w C hW => op_call3 rfl (reg_enters Tryz.func51 (by kernel_rfl) (by kernel_rfl)) (C.on (j := 7) (by kernel_rfl) rfl rfl) (C.on (j := 9) (by kernel_rfl) rfl rfl) (C.on (j := 11) (by kernel_rfl) rfl rfl) (calls_is (CP.out w))
  · exact seq_head (by kernel_rfl) (HWS.out 0) fun a w C hW => op_value (load_run rfl (C.was 5 (by kernel_rfl)) (HF.out w hW).2.2.2.2.1) rfl
  · exact seq_turn 0 (by kernel_rfl) fun a w C hW => by
        exact turn_enter (reg_call3 rfl (reg_enters Tryz.func50 (by kernel_rfl) (by kernel_rfl)) (C.on (j := 3) (by kernel_rfl) rfl rfl) (C.on (j := 12) (by kernel_rfl) rfl rfl) (C.on (j := 13) (by kernel_rfl) rfl rfl)) ((HF.out w hW).2.2.2.2.2)
  · exact seq_float (by kernel_rfl) HWS.out fun a w C => op_move (.inr rfl) (C.on (j := 14) (by kernel_rfl) rfl rfl)
  intro w3 hw
  obtain ⟨R3, B3⟩ := HW1.out w3 hw
  have HR3 := Lib.hid R3
  have HB3 := Lib.hid B3
  clear hw HWS HW0 HF HW1 B3 R3 CP
  simp only [setAll, setAt, List.setIfInBounds_toArray, List.set_cons_succ, List.set_cons_zero]
  go_wp2
  go_ret
  exact ⟨rfl, HR3.out, HB3.out⟩
end
end Go.Proofs.YtfoodaobiknihaaGreatDoor

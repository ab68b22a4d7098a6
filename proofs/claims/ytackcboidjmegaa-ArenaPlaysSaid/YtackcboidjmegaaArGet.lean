/- Get and Set of a piece by their contracts. Conditions: those typed. -/
import Derived.Test.YtackcboidjmegaaArPce
import Derived.StillTailTactics
namespace Go.Proofs.Ytackcboidjmegaa
set_option maxRecDepth 50000
open Go.RowKit Bb

theorem wpStill_load {P : Program} {ops : Array Oper} {w : World} {Q : Act → Prop} {a : Act} {o : Oper} {rest : List Oper} (hg : o.guard = none) (ty : TypeId) (x : Operand) (ho : o.op = .load ty x) (ad : Addr) (v : Value) (hx : a.eval x = .pointer (some ad))
    (hl : (loadVar ty ad).run P w = .ok v w) (h : wpStill P ops w Q rest (a.put o.dst v)) : wpStill P ops w Q (o :: rest) a := by
  refine wpStill_step fun K hK => ?_
  rw [if_pos (by simp [Region.wanted, hg])]
  unfold Oper.still execOp
  simp only [ho, hx, Instr.loadAt, Instr.sureAddr, Sem.run_bind, Sem.run_pure, Result.andThen_ok, hl]
  exact ⟨rfl, hK _ h⟩

theorem okl_take {l : List (List Nat)} (h : ∀ b ∈ l, okb b) (i : Nat) : ∀ b ∈ l.take i, okb b := fun b hb => h b (List.mem_of_mem_take hb)
theorem okl_set {l : List (List Nat)} (h : ∀ b ∈ l, okb b) (i : Nat) {x : List Nat} (hx : okb x) : ∀ b ∈ l.set i x, okb b := fun b hb => by
  rcases List.mem_or_eq_of_mem_set hb with hb | rfl
  · exact h b hb
  · exact hx
theorem bcs_set {l : List (List Nat)} (h : ∀ b ∈ l, okb b) (i : Nat) (hi : i < l.length) (x : List Nat) : (bcs l).take (i * 128) ++ u64s x ++ (bcs l).drop (i * 128 + 128) = bcs (l.set i x) := by
  have h1 : (bcs (l.take i)).length = i * 128 := by rw [bcs_length (okl_take h i), List.length_take]; congr 1; omega
  have h2 : (bcs (l.take (i + 1))).length = i * 128 + 128 := by rw [bcs_length (okl_take h (i + 1)), List.length_take]; rw [show min (i + 1) l.length = i + 1 by omega]; omega
  have e1 : bcs l = bcs (l.take i) ++ bcs (l.drop i) := by rw [← bcs_append, List.take_append_drop]
  have e2 : bcs l = bcs (l.take (i + 1)) ++ bcs (l.drop (i + 1)) := by rw [← bcs_append, List.take_append_drop]
  have t1 : (bcs l).take (i * 128) = bcs (l.take i) := by rw [e1, ← h1]; exact List.take_left
  have t2 : (bcs l).drop (i * 128 + 128) = bcs (l.drop (i + 1)) := by rw [e2, ← h2]; exact List.drop_left
  rw [t1, t2, List.set_eq_take_append_cons_drop, if_pos hi, bcs_append, show bcs (x :: l.drop (i + 1)) = u64s x ++ bcs (l.drop (i + 1)) by simp [bcs], List.append_assoc]

section
variable {w w' : World} {p a g n : Nat} {live : Bool} {v : Value} {l : List (List Nat)}
theorem BlkAt.at_ (h : BlkAt w g l) (ho : ∀ b ∈ l, okb b) (i : Nat) (hi : i < l.length) : ∀ k, k < 128 → w.cell? ⟨g, i * 128 + k, none⟩ = some (.int .u64 (((l.getD i []).getD k 0 : Nat) : Int)) := fun k hk => by
  rw [RowAt.cell h, List.getElem?_toArray, bcs_at ho i k hi hk]
theorem BlkAt.load (h : BlkAt w g l) (ho : ∀ b ∈ l, okb b) (i : Nat) (hi : i < l.length) : (loadVar 60 ⟨g, i * 128, none⟩).run Try.prog w = .ok (.agg (wq (l.getD i []))) w :=
  load_b (block_ok ho i hi).1 (h.at_ ho i hi)
theorem BlkAt.store (h : BlkAt w g l) (ho : ∀ b ∈ l, okb b) (i : Nat) (hi : i < l.length) {x : List Nat} (hx : okb x) : (storeVar 60 ⟨g, i * 128, none⟩ (.agg (wq x))).run Try.prog w = .ok () (w.setRow g (bcs (l.set i x)).toArray) := by
  have hst := run_storeCells_at Try.prog g (i * 128) 60 (u64s x) 0 (bcs l).toArray w h (by
    rw [List.size_toArray, bcs_length ho, u64s_length, hx.1]
    have : i * 128 + 128 ≤ l.length * 128 := by omega
    omega) (fun v hv => by
    obtain ⟨y, _, rfl⟩ := List.mem_map.1 hv
    rfl)
  rw [u64s_length, hx.1, Nat.add_zero] at hst
  rw [bcs_set ho i hi x] at hst
  have hz := b_size
  cases hq : Try.prog.info? 60 with
  | none => rw [hq] at hz; simp at hz
  | some j =>
    have hsz : j.size = 128 := by rw [hq] at hz; simpa using hz
    have hc : (Value.agg (wq x)).cells = wq x := rfl
    have hl : (wq x).toList = u64s x := rfl
    simp [storeVar, sizeOf, typeInfo, hq, hsz, hc, wq_size, hx.1, hl, hst]
theorem LiveAt.alloc (h : LiveAt w p a g l) (o : Obj) : LiveAt (w.alloc o) p a g l := ⟨RowAt.alloc h.row o, RowAt.alloc h.blk o, h.ok⟩
theorem LiveAt.drew (h : LiveAt w p a g l) : LiveAt w.drew p a g l := ⟨h.row, h.blk, h.ok⟩
theorem LiveAt.drewN (h : LiveAt w p a g l) (q : Nat) : LiveAt (w.drewN q) p a g l := ⟨h.row, h.blk, h.ok⟩
theorem LiveAt.set (h : LiveAt w p a g l) (i : Nat) {x : List Nat} (hx : okb x) : LiveAt (w.setRow g (bcs (l.set i x)).toArray) p a g (l.set i x) :=
  ⟨by rw [List.length_set]; exact RowAt.setRowOther h.row g (RowAt.unlike h.row h.blk (by rfl)).symm _, RowAt.setRow h.blk _, okl_set h.ok i hx⟩

set_option maxHeartbeats 1600000 in
theorem get_bad_way (z : Int) (hz0 : z ≠ 0) (P : Option Addr) (i : Int) (w : World) (C : Calls Try.prog 26 #[.pointer P, .int .i64 i] (w.alloc (.cells (wq zb) 60)) fun e w' => e = .returned (.int .i64 z) ∧ w' = w.alloc (.cells (wq zb) 60)) :
    Calls Try.prog 28 #[.pointer P, .int .i64 i] w fun e w' => e = .returned (.tuple #[.agg (wq zb), .int .i64 z]) ∧ Below w.heap.size w w' := by
  have hz := zero_b
  have C := Lib.hid C
  have d1 : (z != 0) = true := by simpa using hz0
  have d2 : (z == 0) = false := by simpa using hz0
  have HR := Lib.hid (RowAt.new w 60 (wq zb))
  clear hz0
  go_enter Try.func28, Try.ntmps28
  go_wp2_with fail
  refine C.out.mono ?_; rintro e w' ⟨rfl, rfl⟩
  go_wp2_with (first
    | refine wpList_value_want rfl _ (bbuild_run _ _ rfl) ?_
    | refine wpList_store_row rfl 60 (.tmp 4) (.tmp 12) rfl w.heap.size (wq zb) rfl rfl 60 _ HR.out b_size rfl (wq_one _) ?_)
  have hR := RowAt.setRow HR.out (wq zb)
  refine bodyPost_ret (results_row_tmp rfl _ (p := 4) rfl hR Try.underlying60 rfl b_size) rfl ⟨rfl, ?_⟩
  exact below_setRow ((Below.refl _ _).alloc (Nat.le_refl _) _) (Nat.le_refl _) _
theorem get_nil (i : Int) (w : World) : Calls Try.prog 28 #[.pointer none, .int .i64 i] w fun e w' => e = .returned (.tuple #[.agg (wq zb), .int .i64 11]) ∧ Below w.heap.size w w' :=
  get_bad_way 11 (by decide) none i w (fault_nil i _)
theorem get_bad (hP : PceAt w p a n live v) (i : Int) (hi : faN n live i ≠ 0) : Calls Try.prog 28 #[.pointer (some ⟨p, 0, none⟩), .int .i64 i] w fun e w' => e = .returned (.tuple #[.agg (wq zb), .int .i64 (faN n live i)]) ∧ Below w.heap.size w w' :=
  get_bad_way _ hi _ i w (fault_any (RowAt.alloc hP _) i)
set_option maxHeartbeats 1600000 in
theorem get_any (hP : LiveAt w p a g l) (i : Nat) (hi : i < l.length) : Calls Try.prog 28 #[.pointer (some ⟨p, 0, none⟩), .int .i64 (i : Int)] w fun e w' => e = .returned (.tuple #[.agg (wq (l.getD i [])), .int .i64 0]) ∧ Below w.heap.size w w' := by
  have hz := zero_b
  have hP1 := hP.alloc (.cells (wq zb) 60)
  have C := Lib.hid (fault_any hP1.row i)
  rw [fa_ok hi] at C
  have HR := Lib.hid (RowAt.new w 60 (wq zb))
  have HL := Lib.hid (hP1.blk.load hP1.ok i hi)
  have hx : okb (l.getD i []) := block_ok hP.ok i hi
  have HS : Hid ((wq (l.getD i [])).size = 128) := Lib.hid (by rw [wq_size]; exact hx.1)
  generalize l.getD i [] = x at *
  obtain ⟨x0, x1, x2, x3, f0, f1, f2, f3⟩ := hP1.row.at_
  have hi0 : (0 : Int) ≤ (i : Int) := by omega
  have hi1 : (i : Int) < (l.length : Int) := by omega
  clear hP hP1 hx
  go_enter Try.func28, Try.ntmps28
  go_wp2_with fail
  refine C.out.mono ?_; rintro e w' ⟨rfl, rfl⟩
  go_wp2_with (first
    | refine wpList_load_of rfl 60 (.tmp 19) rfl ⟨g, i * 128, none⟩ _ (by first | rfl | simp [Act.eval]) HL.out ?_
    | refine wpList_store_row rfl 60 (.tmp 4) (.tmp 20) rfl w.heap.size (wq x) rfl rfl 60 _ HR.out (by rw [HS.out]; exact b_size) (by rw [HS.out]; rfl) (wq_one _) ?_)
  have hR := RowAt.setRow HR.out (wq x)
  refine bodyPost_ret (results_row_tmp rfl _ (p := 4) rfl hR Try.underlying60 rfl (by rw [HS.out]; exact b_size)) rfl ⟨rfl, ?_⟩
  exact below_setRow ((Below.refl _ _).alloc (Nat.le_refl _) _) (Nat.le_refl _) _

set_option maxHeartbeats 1600000 in
theorem set_bad_way (z : Int) (hz0 : z ≠ 0) (P : Option Addr) (i : Int) (x : List Nat) (w : World) (C : Calls Try.prog 26 #[.pointer P, .int .i64 i] (w.alloc (.cells (wq x) 60)) fun e w' => e = .returned (.int .i64 z) ∧ w' = w.alloc (.cells (wq x) 60)) :
    Calls Try.prog 27 #[.pointer P, .int .i64 i, .agg (wq x)] w fun e w' => e = .returned (.int .i64 z) ∧ Below w.heap.size w w' := by
  have C := Lib.hid C
  have d1 : (z != 0) = true := by simpa using hz0
  have d2 : (z == 0) = false := by simpa using hz0
  clear hz0
  go_enter Try.func27, Try.ntmps27
  go_wp2_with fail
  refine C.out.mono ?_; rintro e w' ⟨rfl, rfl⟩
  go_wp2
  go_ret
  exact ⟨rfl, (Below.refl _ _).alloc (Nat.le_refl _) _⟩
theorem pset_nil (i : Int) (x : List Nat) (w : World) : Calls Try.prog 27 #[.pointer none, .int .i64 i, .agg (wq x)] w fun e w' => e = .returned (.int .i64 11) ∧ Below w.heap.size w w' :=
  set_bad_way 11 (by decide) none i x w (fault_nil i _)
theorem pset_bad (hP : PceAt w p a n live v) (i : Int) (hi : faN n live i ≠ 0) (x : List Nat) : Calls Try.prog 27 #[.pointer (some ⟨p, 0, none⟩), .int .i64 i, .agg (wq x)] w fun e w' => e = .returned (.int .i64 (faN n live i)) ∧ Below w.heap.size w w' :=
  set_bad_way _ hi _ i x w (fault_any (RowAt.alloc hP _) i)
set_option maxHeartbeats 1600000 in
theorem pset_any (hP : LiveAt w p a g l) (i : Nat) (hi : i < l.length) {x : List Nat} (hx : okb x) : Calls Try.prog 27 #[.pointer (some ⟨p, 0, none⟩), .int .i64 (i : Int), .agg (wq x)] w fun e w' => e = .returned (.int .i64 0) ∧ LiveAt w' p a g (l.set i x) ∧ Kept (fun k => k = g) w w' := by
  have hP1 := hP.alloc (.cells (wq x) 60)
  have C := Lib.hid (fault_any hP1.row i)
  rw [fa_ok hi] at C
  obtain ⟨w1, e1⟩ : ∃ w1, w1 = w.alloc (.cells (wq x) 60) := ⟨_, rfl⟩
  rw [← e1] at hP1
  have HR : Hid (RowAt w1 w.heap.size 60 (wq x)) := Lib.hid (by rw [e1]; exact RowAt.new w _ _)
  have HK : Hid (Kept (fun k => k = g) w w1) := Lib.hid (by rw [e1]; exact (Kept.refl _ w).alloc _)
  have HS : Hid ((wq x).size = 128) := Lib.hid (by rw [wq_size]; exact hx.1)
  have HST := Lib.hid (BlkAt.store hP1.drew.blk hP1.ok i hi hx)
  have HP := Lib.hid (hP1.drew.set i hx)
  have HLX2 := Lib.hid (show (loadVar 60 ⟨w.heap.size, 0, none⟩).run Try.prog w1.drew = .ok (.agg (wq x)) w1.drew from RowAt.load (RowAt.drew HR.out) Try.underlying60 (by rw [HS.out]; exact b_size))
  obtain ⟨x0, x1, x2, x3, f0, f1, f2, f3⟩ := hP1.row.at_
  have hi0 : (0 : Int) ≤ (i : Int) := by omega
  have hi1 : (i : Int) < (l.length : Int) := by omega
  have E1 := Lib.hid e1
  clear hP hP1 hx e1
  go_enter Try.func27, Try.ntmps27
  go_wp2_with fail
  refine C.out.mono ?_; rintro e w' ⟨rfl, rfl⟩
  rw [← E1.out]
  clear C
  go_wp2
  refine wp_region_still_tail 7 (by kernel_rfl) (by kernel_rfl) ?_
  simp only [List.take_succ_cons, List.take_zero, List.drop_succ_cons, List.drop_zero]
  repeat still_step
  refine wpStill_load rfl 60 (.tmp 5) rfl ⟨w.heap.size, 0, none⟩ _ rfl HLX2.out ?_
  simp only [Act.put, List.setIfInBounds_toArray, List.set_cons_succ, List.set_cons_zero]
  repeat still_step
  refine wpStill_nil ?_
  change wpList _ _ _ _ _ w1.drew
  go_wp2_with (refine wpList_store_of rfl 60 (.tmp 20) (.tmp 19) rfl ⟨g, i * 128, none⟩ (.agg (wq x)) (by first | rfl | simp [Act.eval]) rfl HST.out ?_)
  go_ret
  exact ⟨rfl, HP.out, HK.out.drew.trans ⟨rfl, rfl, rfl, Nat.le_of_eq (setRow_size _ _ _).symm, fun k _ hne => setRow_other _ _ _ _ hne⟩ (fun _ _ e => e)⟩
end
end Go.Proofs.Ytackcboidjmegaa

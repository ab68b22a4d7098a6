/- Blocks as they lie in memory, and whether two are the same. Condition: words are below 2^64. Half and SetHalf of package block, of a block amid others, by their contracts. Conditions: those typed. Xor and Clean of package block, and the document's Xor, by their contracts. Conditions: those typed. -/
import Derived.Test.YtlifpplhinmajaaGreatDoorArr
import Derived.Test.YtlifpplhinmajaaGreatDoorLaid
import Derived.Test.YtlifpplhinmajaaGreatDoorPu
import Derived.DeepKeys
import Derived.Test.YtlifpplhinmajaaGreatDoorFh
import Derived.IntWalk
import Derived.Lib.Hide
import Derived.Deep.QuietTactic
import Derived.BigQuiet
import Derived.BigRegion
import Derived.StillTailTactics
import Derived.LoopTactic
import Derived.RegionTactic
namespace Go.Proofs.YtlifpplhinmajaaGreatDoor
set_option maxRecDepth 50000
open Go.RowKit Bb

def wq (l : List Nat) : Array Value := (u64s l).toArray
theorem wq_size (l : List Nat) : (wq l).size = l.length := by simp [wq, u64s]
theorem wq_at (l : List Nat) (i : Nat) (h : i < l.length) : (wq l)[i]? = some (.int .u64 (l.getD i 0 : Nat)) := by
  simp [wq, u64s, List.getD_eq_getElem?_getD, List.getElem?_eq_getElem h]
theorem wq_set (l : List Nat) (i x : Nat) : (wq l).setIfInBounds i (.int .u64 (x : Int)) = wq (l.set i x) := by
  simp [wq, u64s, List.map_set]
theorem wq_one (l : List Nat) : (wq l).all (·.oneCell') = true := by
  simp [wq, u64s, Value.oneCell']
theorem b_size : (Tryz.prog.info? 169).map (·.size) = some 128 := by kernel_rfl
theorem b_cells : Tryz.prog.cellsOf 169 = 128 := by kernel_rfl
theorem b_u64 : Tryz.prog.cellsOf 96 = 1 := by kernel_rfl
theorem wfb_u64 (a : Nat) (h : a < 18446744073709551616) : (Lit.int .u64 (a : Int)).wf = true := by
  have e1 : IntKind.u64.min = 0 := rfl
  have e2 : IntKind.u64.max = 18446744073709551615 := rfl
  simp [Lit.wf, e1, e2]
  omega
theorem kb_u64 (d a : Nat) (h : a < 18446744073709551616) : Tryz.prog.keyLits (d + 1) 96 [.int .u64 (a : Int)] = some [.int .u64 (a : Int)] := by
  unfold Program.keyLits
  simp only [Tryz.underlying96]
  simp [wfb_u64 a h]
theorem mapM_some {α β : Type} (f : α → Option β) (g : α → β) : ∀ l : List α, (∀ x ∈ l, f x = some (g x)) → l.mapM f = some (l.map g)
  | [], _ => rfl
  | x :: l, h => by
    rw [List.mapM_cons, h x (by simp), mapM_some f g l fun y hy => h y (by simp [hy])]; rfl
def litsB (L : List Nat) : List Lit := L.map fun x : Nat => Lit.int .u64 (x : Int)
theorem litsB_inj : ∀ {a b : List Nat}, litsB a = litsB b → a = b
  | [], [], _ => rfl
  | [], _ :: _, h => by simp [litsB] at h
  | _ :: _, [], h => by simp [litsB] at h
  | x :: a, y :: b, h => by
    simp only [litsB, List.map_cons, List.cons.injEq, Lit.int.injEq, true_and] at h
    rw [litsB_inj (a := a) (b := b) h.2]
    have := h.1
    congr 1
    omega
theorem flat_one {α β : Type} (f : α → β) : ∀ l : List α, (l.map fun x => [f x]).flatten = l.map f
  | [] => rfl
  | x :: l => by rw [List.map_cons, List.flatten_cons, flat_one f l]; rfl
theorem key_b (d : Nat) {L : List Nat} (h : okb L) : Tryz.prog.keyLits (d + 2) 169 (wq L).toList = some (litsB L) := by
  have hl : (wq L).toList.length = 128 := by rw [Array.length_toList, wq_size]; exact h.1
  have E : (List.range 128).mapM (fun i => Tryz.prog.keyLits (d + 1) 96 (((wq L).toList.drop (i * 1)).take 1)) = some ((List.range 128).map fun i => [Lit.int .u64 (L.getD i 0 : Nat)]) := by
    refine mapM_some _ _ _ fun i hi => ?_
    have hi := List.mem_range.1 hi
    have e : ((wq L).toList.drop (i * 1)).take 1 = [.int .u64 ((L.getD i 0 : Nat) : Int)] := by
      rw [Nat.mul_one, List.drop_eq_getElem_cons (by omega), List.take_succ_cons, List.take_zero]
      congr 1
      have := wq_at L i (by rw [h.1]; exact hi)
      rw [← Array.getElem?_toList, List.getElem?_eq_getElem (by omega)] at this
      exact Option.some.inj this
    rw [e, kb_u64 d _ (ok_at h i)]
  unfold Program.keyLits
  simp only [Tryz.underlying169, b_cells, b_u64, hl, if_true, E, Option.map_some]
  congr 1
  have e2 : (List.range 128).map (fun i => [Lit.int .u64 (L.getD i 0 : Nat)]) = (tb fun k => L.getD k 0).map fun x : Nat => [Lit.int .u64 (x : Int)] := by
    simp [tb, Function.comp_def]
  rw [e2, tb_self L h.1]
  exact flat_one _ L
theorem in_b {a b : List Nat} (ha : okb a) (hb : okb b) (w : World) : (Op.equalIn 10000 169 (.agg (wq a)) (.agg (wq b))).run Tryz.prog w = .ok (decide (a = b)) w := by
  obtain ⟨r, q1, q2⟩ := run_equalIn_deep (P := Tryz.prog) 9990 10 169 (by kernel_rfl) w 10 10 (.agg (wq a)) (.agg (wq b)) _ _ (by simp [Value.formed, Tryz.underlying169, wq_size, ha.1, b_cells]) (by simp [Value.formed, Tryz.underlying169, wq_size, hb.1, b_cells]) (key_b 8 ha) (key_b 8 hb)
  have hr : r = decide (a = b) := by
    cases r with
    | true => exact (decide_eq_true (litsB_inj (q2.1 rfl))).symm
    | false => exact (decide_eq_false fun e => by subst e; cases q2.2 rfl).symm
  subst hr
  rw [show (10000 : Nat) = 9990 + 10 from rfl, q1]
theorem eql_b {a b : List Nat} (ha : okb a) (hb : okb b) (w : World) : (binOp .eql 169 (.agg (wq a)) (.agg (wq b))).run Tryz.prog w = .ok (.bool (decide (a = b))) w := by
  rw [run_eql_struct, in_b ha hb w]; rfl
theorem neq_b {a b : List Nat} (ha : okb a) (hb : okb b) (w : World) : (binOp .neq 169 (.agg (wq a)) (.agg (wq b))).run Tryz.prog w = .ok (.bool (!decide (a = b))) w := by
  rw [run_neq_struct, in_b ha hb w]; rfl
theorem g_b : Tryz.prog.eqGuardType Tryz.prog.depth 169 = false := by kernel_rfl
theorem bneq_run (w : World) {xs ys : List Nat} (hxs : okb xs) (hys : okb ys) {k : Bool} (hk : decide (xs = ys) = !k) (ev : Operand → Value) (x y : Operand) {ty : TypeId} {o : Oper} (hop : o.op = .binOp .neq 169 x y ty) (hx : ev x = .agg (wq xs)) (hy : ev y = .agg (wq ys)) : (execOp ev o).run Tryz.prog w = .ok (.value (.bool k)) w := by
  have hg := run_eqGuard_agg (P := Tryz.prog) w .neq 169 x y (wq xs) (wq ys) g_b
  simp only [execOp, hop, hx, hy, Sem.run_bind, hg, Result.andThen_ok, neq_b hxs hys, Sem.run_pure, hk, Bool.not_not]
theorem beql_run (w : World) {xs ys : List Nat} (hxs : okb xs) (hys : okb ys) {k : Bool} (hk : decide (xs = ys) = k) (ev : Operand → Value) (x y : Operand) {ty : TypeId} {o : Oper} (hop : o.op = .binOp .eql 169 x y ty) (hx : ev x = .agg (wq xs)) (hy : ev y = .agg (wq ys)) : (execOp ev o).run Tryz.prog w = .ok (.value (.bool k)) w := by
  have hg := run_eqGuard_agg (P := Tryz.prog) w .eql 169 x y (wq xs) (wq ys) g_b
  simp only [execOp, hop, hx, hy, Sem.run_bind, hg, Result.andThen_ok, eql_b hxs hys, Sem.run_pure, hk]
theorem wpList_value_want {P : Program} {ops : Array Oper} {rest : List Oper} {o : Oper} {a : Act} {w w' : World} {Q : Exit → Act → World → Prop} (hw : Region.wanted o (yielded ops a.tmps) = true) (v : Value) (hr : (execOp a.eval o).run P w = .ok (.value v) w') (h : wpList P ops Q rest (a.put o.dst v) w') : wpList P ops Q (o :: rest) a w := wpList_step fun K hK => by
  rw [if_pos hw]
  unfold Oper.wp
  rw [hr]
  exact hK _ _ h
/-- a block 0 that is built, and one that is new -/
theorem build_b (w : World) : (Instr.build 169 #[]).run Tryz.prog w = .ok (.agg (wq zb)) w := run_build w _ _ _ (by kernel_rfl)
theorem zero_b (w : World) : (zeroValue 169).run Tryz.prog w = .ok (.agg (wq zb)) w := by kernel_rfl
theorem bbuild_run (w : World) (ev : Operand → Value) {o : Oper} (hop : o.op = .build 169 #[]) : (execOp ev o).run Tryz.prog w = .ok (.value (.agg (wq zb))) w := by
  simp only [execOp, hop, Array.map_empty, Sem.run_bind, build_b, Result.andThen_ok, Sem.run_pure]
end Go.Proofs.YtlifpplhinmajaaGreatDoor

namespace Go.Proofs.YtlifpplhinmajaaGreatDoor
set_option maxRecDepth 50000
open Go.RowKit Bb

theorem below_any (i j r : Nat) (hi : i = 2 * j + r) (hr : r < 2) (hb : i < 256) (w : World) : Calls Tryz.prog 95 #[.int .i64 (i : Int)] w fun e w' => e = .returned (.int .i64 (if r = 0 then 0 else 32)) ∧ w = w' := by
  have e2 : (i : Int).tmod 2 = (r : Int) := by rw [Int.tmod_eq_emod_of_nonneg (by omega)]; omega
  have e3 : (i : Int) % 2 = (r : Int) := by omega
  clear hi
  rcases (show r = 0 ∨ r = 1 by omega) with rfl | rfl
  all_goals
    go_enter Tryz.func95, Tryz.ntmps95
    go_wp2
    go_ret
    exact ⟨rfl, rfl⟩

theorem has_way (a : Addr) (i : Int) (x y : Bool) (h1 : decide (0 ≤ i) = x) (h2 : decide (i < 256) = y) (w : World) : Calls Tryz.prog 94 #[.pointer (some a), .int .i64 i] w fun e w' => e = .returned (.bool (x && y)) ∧ w = w' := by
  cases x <;> cases y
  all_goals
    go_enter Tryz.func94, Tryz.ntmps94
    go_wp2
    go_ret
    exact ⟨rfl, rfl⟩
theorem has_any (a : Addr) (i : Int) (w : World) : Calls Tryz.prog 94 #[.pointer (some a), .int .i64 i] w fun e w' => e = .returned (.bool (decide (0 ≤ i ∧ i < 256))) ∧ w = w' := by
  have := has_way a i _ _ rfl rfl w
  rwa [show (decide (0 ≤ i) && decide (i < 256)) = decide (0 ≤ i ∧ i < 256) by simp] at this

set_option maxHeartbeats 1600000 in
theorem halfo_any {w : World} {b o : Nat} {L : List Nat} (hR : RowAt w b 169 (wq L)) (hL : ∀ k, L.getD k 0 < 18446744073709551616) (i : Nat) (hi : i < 256) (ho : o + 128 ≤ L.length) : Calls Tryz.prog 72 #[.pointer (some ⟨b, o, none⟩), .int .i64 (i : Int)] w fun e w' => e = .returned (.int .u32 (hf (L.getD (o + i / 2) 0) (i % 2) : Nat)) ∧ ∃ q, w' = w.drewN q := by
  have C := has_any ⟨b, o, none⟩ i w
  rw [show decide (0 ≤ (i : Int) ∧ (i : Int) < 256) = true by simp; omega] at C
  have C := Lib.hid C
  obtain ⟨j, r, e, hr⟩ : ∃ j r, i = 2 * j + r ∧ r < 2 := ⟨i / 2, i % 2, by omega, by omega⟩
  have hj : j < 128 := by omega
  obtain ⟨z, hz⟩ : ∃ z : Int, z = if r = 0 then 0 else 32 := ⟨_, rfl⟩
  have C2 := fun w => below_any i j r e hr hi w
  rw [← hz] at C2
  have C2 := Lib.hid C2
  have e1 : (i : Int).tdiv 2 = (j : Int) := by rw [Int.tdiv_eq_ediv_of_nonneg (by omega)]; omega
  have e1' : (i : Int) / 2 = (j : Int) := by omega
  have hc : ∀ q, (w.drewN q).cell? ⟨b, o + j, none⟩ = some (.int .u64 (L.getD (o + j) 0 : Nat)) := fun q => (hR.cell (o + j)).trans (wq_at L (o + j) (by omega))
  have hx := hL (o + j)
  have hj0 : (0 : Int) ≤ (j : Int) := by omega
  have hj1 : (j : Int) < 128 := by omega
  have hwj : IntKind.i64.wrap (j : Int) = (j : Int) := by rw [IntKind.wrap_i64]; omega
  rw [show i / 2 = j by omega, show i % 2 = r by omega]
  clear e hR hL ho
  generalize L.getD (o + j) 0 = x at *
  rcases (show r = 0 ∨ r = 1 by omega) with rfl | rfl
  · obtain rfl : z = 0 := hz
    have E : Hid (hf x 0 = x % 4294967296) := Lib.hid (by simp [hf])
    rw [E.out]
    clear E
    go_enter Tryz.func72, Tryz.ntmps72
    go_wp2_with fail
    refine C.out.mono ?_; rintro e w' ⟨rfl, rfl⟩
    clear C
    go_wp2
    go_quiet (refine Calls.quiet_of_same ((C2.out _).mono fun _ _ h => ⟨h.1, h.2.symm⟩))
    go_wp2
    go_ret
    exact ⟨rfl, _, rfl⟩
  · obtain rfl : z = 32 := hz
    have E : Hid (hf x 1 = x / 4294967296) := Lib.hid (by simp [hf]; omega)
    rw [E.out]
    clear E
    have q1 : (x : Int) / 4294967296 = ((x / 4294967296 : Nat) : Int) := by omega
    have q2 : x / 4294967296 < 4294967296 := by omega
    generalize x / 4294967296 = u at *
    go_enter Tryz.func72, Tryz.ntmps72
    go_wp2_with fail
    refine C.out.mono ?_; rintro e w' ⟨rfl, rfl⟩
    clear C
    go_wp2
    go_quiet (refine Calls.quiet_of_same ((C2.out _).mono fun _ _ h => ⟨h.1, h.2.symm⟩))
    go_wp2
    go_ret
    exact ⟨rfl, _, rfl⟩

theorem frozen_drew (w : World) (p : Addr) : w.drew.frozen? p = w.frozen? p := rfl

set_option maxHeartbeats 1600000 in
theorem seto_any {w : World} {b o : Nat} {L : List Nat} (hR : RowAt w b 169 (wq L)) (hL : ∀ k, L.getD k 0 < 18446744073709551616) (i : Nat) (hi : i < 256) (ho : o + 128 ≤ L.length) (x : Nat) (hx : x < 4294967296) :
    Calls Tryz.prog 74 #[.pointer (some ⟨b, o, none⟩), .int .i64 (i : Int), .int .u32 (x : Int)] w fun e w' => e = .returned (.bool true) ∧ RowAt w' b 169 (wq (L.set (o + i / 2) (wf (L.getD (o + i / 2) 0) (i % 2) x))) ∧ Kept (fun k => k = b) w w' := by
  have C := has_any ⟨b, o, none⟩ i w
  rw [show decide (0 ≤ (i : Int) ∧ (i : Int) < 256) = true by simp; omega] at C
  have C := Lib.hid C
  obtain ⟨j, r, e, hr⟩ : ∃ j r, i = 2 * j + r ∧ r < 2 := ⟨i / 2, i % 2, by omega, by omega⟩
  have hj : j < 128 := by omega
  obtain ⟨z, hz⟩ : ∃ z : Int, z = if r = 0 then 0 else 32 := ⟨_, rfl⟩
  have C2 := fun w => below_any i j r e hr hi w
  rw [← hz] at C2
  have C2 := Lib.hid C2
  have e1 : (i : Int).tdiv 2 = (j : Int) := by rw [Int.tdiv_eq_ediv_of_nonneg (by omega)]; omega
  have e1' : (i : Int) / 2 = (j : Int) := by omega
  have hc : ∀ tp d os out, (World.mk w.heap tp d os out).cell? ⟨b, o + j, none⟩ = some (.int .u64 (L.getD (o + j) 0 : Nat)) := fun _ _ _ _ => (hR.cell (o + j)).trans (wq_at L (o + j) (by omega))
  have hf0 := hR.frozen (o + j)
  have hw := hL (o + j)
  have hj0 : (0 : Int) ≤ (j : Int) := by omega
  have hj1 : (j : Int) < 128 := by omega
  have hwj : IntKind.i64.wrap (j : Int) = (j : Int) := by rw [IntKind.wrap_i64]; omega
  rw [show i / 2 = j by omega, show i % 2 = r by omega]
  have HS : Hid (∀ y, RowAt (w.drew.setCell ⟨b, o + j, none⟩ (.int .u64 ((y : Nat) : Int))) b 169 (wq (L.set (o + j) y)) ∧ Kept (fun k => k = b) w (w.drew.setCell ⟨b, o + j, none⟩ (.int .u64 ((y : Nat) : Int)))) := Lib.hid fun y => ⟨by rw [← wq_set]; exact hR.drew.setCell (o + j) _, (Kept.refl (fun k => k = b) w).drew.set (p := ⟨b, o + j, none⟩) (.inl rfl) _⟩
  clear e hR hL ho
  generalize L.getD (o + j) 0 = v at *
  rcases (show r = 0 ∨ r = 1 by omega) with rfl | rfl
  · obtain rfl : z = 0 := hz
    obtain ⟨a1, a2⟩ := low0 v x hw hx
    have hn := wf_lt v 0 x hw hx
    generalize wf v 0 x = n at *
    have hm : v / 4294967296 * 4294967296 < 18446744073709551616 := by omega
    generalize v / 4294967296 * 4294967296 = m at *
    have hxw : IntKind.u64.wrap (x : Int) = (x : Int) := by rw [IntKind.wrap_u64]; omega
    go_enter Tryz.func74, Tryz.ntmps74
    go_wp2_with fail
    refine C.out.mono ?_; rintro e w' ⟨rfl, rfl⟩
    clear C
    go_wp2_with fail
    refine (C2.out _).mono ?_; rintro e w' ⟨rfl, rfl⟩
    clear C2
    go_wp2
    refine wp_region_still_tail 19 (by kernel_rfl) (by kernel_rfl) ?_
    simp only [List.take_succ_cons, List.take_zero, List.drop_succ_cons, List.drop_zero]
    repeat still_step
    refine wpStill_nil ?_
    change wpList _ _ _ _ _ w.drew
    have fk : w.drew.frozen? ⟨b, o + j, none⟩ = false := hf0
    have ck : w.drew.cell? ⟨b, o + j, none⟩ = some (.int .u64 (v : Int)) := hc _ _ _ _
    clear hc hf0
    generalize w.drew = w2 at *
    go_wp2
    go_ret
    refine ⟨rfl, ?_⟩
    rw [a1, a2]
    exact HS.out n
  · obtain rfl : z = 32 := hz
    obtain ⟨a1, a2⟩ := low1 v x hw hx
    have hn := wf_lt v 1 x hw hx
    generalize wf v 1 x = n at *
    have hm : v % 4294967296 < 18446744073709551616 := by omega
    generalize v % 4294967296 = m at *
    have hy : x * 4294967296 < 18446744073709551616 := by omega
    have y1 : (x : Int) * 4294967296 = ((x * 4294967296 : Nat) : Int) := by omega
    generalize x * 4294967296 = y at *
    have hyw : IntKind.u64.wrap (y : Int) = (y : Int) := by rw [IntKind.wrap_u64]; omega
    have hxw : IntKind.u64.wrap (x : Int) = (x : Int) := by rw [IntKind.wrap_u64]; omega
    go_enter Tryz.func74, Tryz.ntmps74
    go_wp2_with fail
    refine C.out.mono ?_; rintro e w' ⟨rfl, rfl⟩
    clear C
    go_wp2_with fail
    refine (C2.out _).mono ?_; rintro e w' ⟨rfl, rfl⟩
    clear C2
    go_wp2
    refine wp_region_still_tail 19 (by kernel_rfl) (by kernel_rfl) ?_
    simp only [List.take_succ_cons, List.take_zero, List.drop_succ_cons, List.drop_zero]
    repeat still_step
    refine wpStill_nil ?_
    change wpList _ _ _ _ _ w.drew
    have fk : w.drew.frozen? ⟨b, o + j, none⟩ = false := hf0
    have ck : w.drew.cell? ⟨b, o + j, none⟩ = some (.int .u64 (v : Int)) := hc _ _ _ _
    clear hc hf0
    generalize w.drew = w2 at *
    go_wp2
    go_ret
    refine ⟨rfl, ?_⟩
    rw [a1, a2]
    exact HS.out n

end Go.Proofs.YtlifpplhinmajaaGreatDoor

namespace Go.Proofs.YtlifpplhinmajaaGreatDoor
set_option maxRecDepth 50000
open Go.RowKit Bb

/-- blocks one behind the other, as cells -/
def bcs (l : List (List Nat)) : List Value := l.flatMap u64s
theorem bcs_append (a b : List (List Nat)) : bcs (a ++ b) = bcs a ++ bcs b := by simp [bcs]
theorem bcs_length : ∀ {l : List (List Nat)}, (∀ b ∈ l, okb b) → (bcs l).length = l.length * 128
  | [], _ => rfl
  | b :: l, h => by
    have := bcs_length (l := l) fun x hx => h x (by simp [hx])
    have h1 := (h b (by simp)).1
    unfold bcs at *
    rw [List.flatMap_cons, List.length_append, this, u64s_length, h1, List.length_cons]
    omega
theorem bcs_at : ∀ {l : List (List Nat)}, (∀ b ∈ l, okb b) → ∀ i k, i < l.length → k < 128 → (bcs l)[i * 128 + k]? = some (.int .u64 (((l.getD i []).getD k 0 : Nat) : Int))
  | [], _, _, _, hi, _ => by simp at hi
  | b :: l, h, i, k, hi, hk => by
    have h1 := (h b (by simp)).1
    have e : bcs (b :: l) = u64s b ++ bcs l := by simp [bcs]
    rw [e]
    cases i with
    | zero =>
      rw [Nat.zero_mul, Nat.zero_add, List.getElem?_append_left (by rw [u64s_length, h1]; exact hk)]
      simp [u64s, List.getD_eq_getElem?_getD, List.getElem?_eq_getElem (show k < b.length by omega)]
    | succ i =>
      rw [List.getElem?_append_right (by rw [u64s_length, h1]; omega), u64s_length, h1, show (i + 1) * 128 + k - 128 = i * 128 + k by omega,
        bcs_at (fun x hx => h x (by simp [hx])) i k (by simpa using hi) hk]
      simp
theorem reads_b {w : World} {B : Nat} {A : Option Addr} {l : List (List Nat)} (hr : Reads w B A (bcs l)) (ho : ∀ b ∈ l, okb b) (i : Nat) (hi : i < l.length) :
    ∃ b off, A = some ⟨b, off, none⟩ ∧ b < B ∧ ∀ k, k < 128 → w.cell? ⟨b, off + i * 128 + k, none⟩ = some (.int .u64 (((l.getD i []).getD k 0 : Nat) : Int)) := by
  have hl := bcs_length ho
  obtain ⟨b, off, e, hb, _⟩ := hr 0 (by omega)
  refine ⟨b, off, e, hb, fun k hk => ?_⟩
  obtain ⟨b', off', e', _, hc⟩ := hr (i * 128 + k) (by omega)
  rw [e] at e'
  cases e'
  rw [Nat.add_assoc, hc, ← List.getElem?_eq_getElem, bcs_at ho i k hi hk]

/-- a row for the answer, and one that is worked on -/
structure Xx (w wr : World) (x : List Nat) : Prop where
  rz : RowAt wr w.heap.size 169 (wq zb)
  rx : RowAt wr (w.heap.size + 1) 169 (wq x)
  below : Below w.heap.size w wr
section
variable {w wr wr' : World} {x : List Nat}
theorem Xx.new (w : World) : Xx w ((w.alloc (.cells (wq zb) 169)).alloc (.cells (wq zb) 169)) zb := by
  refine ⟨(RowAt.new w _ _).alloc _, ?_, ((Below.refl _ w).alloc (Nat.le_refl _) _).alloc (by simp) _⟩
  have h := RowAt.new (w.alloc (.cells (wq zb) 169)) 169 (wq zb)
  rw [World.size_alloc] at h; exact h
theorem Xx.drewN (h : Xx w wr x) (k : Nat) : Xx w (wr.drewN k) x := ⟨h.rz, h.rx, below_drewN h.below k⟩
theorem Xx.drew (h : Xx w wr x) : Xx w wr.drew x := h.drewN 1
theorem Xx.set (h : Xx w wr x) (i v : Nat) : Xx w (wr.setCell ⟨w.heap.size + 1, i, none⟩ (.int .u64 (v : Int))) (x.set i v) :=
  ⟨h.rz.setOther _ (by simp) _, by rw [← wq_set]; exact h.rx.setCell i _, h.below.setCell (by simp) _⟩
end

/-- a block loaded out of a row -/
theorem load_b {w : World} {b o : Nat} {L : List Nat} (hL : L.length = 128) (h : ∀ k, k < 128 → w.cell? ⟨b, o + k, none⟩ = some (.int .u64 (L.getD k 0 : Nat))) : (loadVar 169 ⟨b, o, none⟩).run Tryz.prog w = .ok (.agg (wq L)) w := by
  have hl : (loadCells ⟨b, o, none⟩ (u64s L).length).run Tryz.prog w = .ok (u64s L).toArray w :=
    run_loadCells_list (P := Tryz.prog) w ⟨b, o, none⟩ _ (fun j v hv => by
      have hj : j < 128 := by
        have := (List.getElem?_eq_some_iff.1 hv).1
        rwa [u64s_length, hL] at this
      rw [Go.WideShapes.add_plain, h j hj, ← hv]
      unfold u64s
      rw [List.getElem?_map, List.getElem?_eq_getElem (by omega), List.getD_eq_getElem?_getD, List.getElem?_eq_getElem (by omega)]
      rfl)
  rw [u64s_length, hL] at hl
  have hz := b_size
  cases hq : Tryz.prog.info? 169 with
  | none => rw [hq] at hz; simp at hz
  | some i =>
    have hsz : i.size = 128 := by rw [hq] at hz; simpa using hz
    simp [loadVar, Sem.run_bind, sizeOf, typeInfo, hq, hsz, hl, wq]

end Go.Proofs.YtlifpplhinmajaaGreatDoor

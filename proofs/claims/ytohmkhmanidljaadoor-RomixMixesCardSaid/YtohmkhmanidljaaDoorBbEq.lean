/- Blocks as they lie in memory, and whether two are the same. Condition: words are below 2^64. -/
import Derived.Test.YtohmkhmanidljaaDoorArr
import Derived.Test.YtohmkhmanidljaaDoorLaid
import Derived.Test.YtohmkhmanidljaaDoorBbPure
import Derived.DeepKeys
namespace Go.Proofs.YtohmkhmanidljaaDoor
set_option maxRecDepth 50000
open Go.RowKit Bb

def wq (l : List Nat) : Array Value := (u64s l).toArray
theorem wq_size (l : List Nat) : (wq l).size = l.length := by simp [wq, u64s]
theorem wq_at (l : List Nat) (i : Nat) (h : i < l.length) : (wq l)[i]? = some (.int .u64 (l.getD i 0 : Nat)) := by
  simp [wq, u64s, List.getD_eq_getElem?_getD, List.getElem?_eq_getElem h]
theorem wq_set (l : List Nat) (i x : Nat) : (wq l).setIfInBounds i (.int .u64 (x : Int)) = wq (l.set i x) := by
  simp [wq, u64s, List.map_set]
theorem wq_one (l : List Nat) : (wq l).all (·.oneCell') = true := by
  simp [wq, u64s, Value.oneCell']
theorem b_size : (Tryd.prog.info? 95).map (·.size) = some 128 := by kernel_rfl
theorem b_cells : Tryd.prog.cellsOf 95 = 128 := by kernel_rfl
theorem b_u64 : Tryd.prog.cellsOf 61 = 1 := by kernel_rfl
theorem wfb_u64 (a : Nat) (h : a < 18446744073709551616) : (Lit.int .u64 (a : Int)).wf = true := by
  have e1 : IntKind.u64.min = 0 := rfl
  have e2 : IntKind.u64.max = 18446744073709551615 := rfl
  simp [Lit.wf, e1, e2]
  omega
theorem kb_u64 (d a : Nat) (h : a < 18446744073709551616) : Tryd.prog.keyLits (d + 1) 61 [.int .u64 (a : Int)] = some [.int .u64 (a : Int)] := by
  unfold Program.keyLits
  simp only [Tryd.underlying61]
  simp [wfb_u64 a h]
theorem mapM_some {α β : Type} (f : α → Option β) (g : α → β) : ∀ l : List α, (∀ x ∈ l, f x = some (g x)) → l.mapM f = some (l.map g)
  | [], _ => rfl
  | x :: l, h => by
    rw [List.mapM_cons, h x (by simp), mapM_some f g l fun y hy => h y (by simp [hy])]; rfl
def litsB (L : List Nat) : List Lit := L.map fun x : Nat => Lit.int .u64 (x : Int)
theorem litsB_inj : ∀ {a b : List Nat}, litsB a = litsB b → a = b
  | [], [], _ => rfl
  | [], _ :: _, h => by simp [litsB] at h
  | _ :: _, [], h => by simp [litsB] at h
  | x :: a, y :: b, h => by
    simp only [litsB, List.map_cons, List.cons.injEq, Lit.int.injEq, true_and] at h
    rw [litsB_inj (a := a) (b := b) h.2]
    have := h.1
    congr 1
    omega
theorem flat_one {α β : Type} (f : α → β) : ∀ l : List α, (l.map fun x => [f x]).flatten = l.map f
  | [] => rfl
  | x :: l => by rw [List.map_cons, List.flatten_cons, flat_one f l]; rfl
theorem key_b (d : Nat) {L : List Nat} (h : okb L) : Tryd.prog.keyLits (d + 2) 95 (wq L).toList = some (litsB L) := by
  have hl : (wq L).toList.length = 128 := by rw [Array.length_toList, wq_size]; exact h.1
  have E : (List.range 128).mapM (fun i => Tryd.prog.keyLits (d + 1) 61 (((wq L).toList.drop (i * 1)).take 1)) = some ((List.range 128).map fun i => [Lit.int .u64 (L.getD i 0 : Nat)]) := by
    refine mapM_some _ _ _ fun i hi => ?_
    have hi := List.mem_range.1 hi
    have e : ((wq L).toList.drop (i * 1)).take 1 = [.int .u64 ((L.getD i 0 : Nat) : Int)] := by
      rw [Nat.mul_one, List.drop_eq_getElem_cons (by omega), List.take_succ_cons, List.take_zero]
      congr 1
      have := wq_at L i (by rw [h.1]; exact hi)
      rw [← Array.getElem?_toList, List.getElem?_eq_getElem (by omega)] at this
      exact Option.some.inj this
    rw [e, kb_u64 d _ (ok_at h i)]
  unfold Program.keyLits
  simp only [Tryd.underlying95, b_cells, b_u64, hl, if_true, E, Option.map_some]
  congr 1
  have e2 : (List.range 128).map (fun i => [Lit.int .u64 (L.getD i 0 : Nat)]) = (tb fun k => L.getD k 0).map fun x : Nat => [Lit.int .u64 (x : Int)] := by
    simp [tb, Function.comp_def]
  rw [e2, tb_self L h.1]
  exact flat_one _ L
theorem in_b {a b : List Nat} (ha : okb a) (hb : okb b) (w : World) : (Op.equalIn 10000 95 (.agg (wq a)) (.agg (wq b))).run Tryd.prog w = .ok (decide (a = b)) w := by
  obtain ⟨r, q1, q2⟩ := run_equalIn_deep (P := Tryd.prog) 9990 10 95 (by kernel_rfl) w 10 10 (.agg (wq a)) (.agg (wq b)) _ _ (by simp [Value.formed, Tryd.underlying95, wq_size, ha.1, b_cells]) (by simp [Value.formed, Tryd.underlying95, wq_size, hb.1, b_cells]) (key_b 8 ha) (key_b 8 hb)
  have hr : r = decide (a = b) := by
    cases r with
    | true => exact (decide_eq_true (litsB_inj (q2.1 rfl))).symm
    | false => exact (decide_eq_false fun e => by subst e; cases q2.2 rfl).symm
  subst hr
  rw [show (10000 : Nat) = 9990 + 10 from rfl, q1]
theorem eql_b {a b : List Nat} (ha : okb a) (hb : okb b) (w : World) : (binOp .eql 95 (.agg (wq a)) (.agg (wq b))).run Tryd.prog w = .ok (.bool (decide (a = b))) w := by
  rw [run_eql_struct, in_b ha hb w]; rfl
theorem neq_b {a b : List Nat} (ha : okb a) (hb : okb b) (w : World) : (binOp .neq 95 (.agg (wq a)) (.agg (wq b))).run Tryd.prog w = .ok (.bool (!decide (a = b))) w := by
  rw [run_neq_struct, in_b ha hb w]; rfl
theorem g_b : Tryd.prog.eqGuardType Tryd.prog.depth 95 = false := by kernel_rfl
theorem bneq_run (w : World) {xs ys : List Nat} (hxs : okb xs) (hys : okb ys) {k : Bool} (hk : decide (xs = ys) = !k) (ev : Operand → Value) (x y : Operand) {ty : TypeId} {o : Oper} (hop : o.op = .binOp .neq 95 x y ty) (hx : ev x = .agg (wq xs)) (hy : ev y = .agg (wq ys)) : (execOp ev o).run Tryd.prog w = .ok (.value (.bool k)) w := by
  have hg := run_eqGuard_agg (P := Tryd.prog) w .neq 95 x y (wq xs) (wq ys) g_b
  simp only [execOp, hop, hx, hy, Sem.run_bind, hg, Result.andThen_ok, neq_b hxs hys, Sem.run_pure, hk, Bool.not_not]
theorem beql_run (w : World) {xs ys : List Nat} (hxs : okb xs) (hys : okb ys) {k : Bool} (hk : decide (xs = ys) = k) (ev : Operand → Value) (x y : Operand) {ty : TypeId} {o : Oper} (hop : o.op = .binOp .eql 95 x y ty) (hx : ev x = .agg (wq xs)) (hy : ev y = .agg (wq ys)) : (execOp ev o).run Tryd.prog w = .ok (.value (.bool k)) w := by
  have hg := run_eqGuard_agg (P := Tryd.prog) w .eql 95 x y (wq xs) (wq ys) g_b
  simp only [execOp, hop, hx, hy, Sem.run_bind, hg, Result.andThen_ok, eql_b hxs hys, Sem.run_pure, hk]
theorem wpList_value_want {P : Program} {ops : Array Oper} {rest : List Oper} {o : Oper} {a : Act} {w w' : World} {Q : Exit → Act → World → Prop} (hw : Region.wanted o (yielded ops a.tmps) = true) (v : Value) (hr : (execOp a.eval o).run P w = .ok (.value v) w') (h : wpList P ops Q rest (a.put o.dst v) w') : wpList P ops Q (o :: rest) a w := wpList_step fun K hK => by
  rw [if_pos hw]
  unfold Oper.wp
  rw [hr]
  exact hK _ _ h
/-- a block 0 that is built, and one that is new -/
theorem build_b (w : World) : (Instr.build 95 #[]).run Tryd.prog w = .ok (.agg (wq zb)) w := run_build w _ _ _ (by kernel_rfl)
theorem zero_b (w : World) : (zeroValue 95).run Tryd.prog w = .ok (.agg (wq zb)) w := by kernel_rfl
theorem bbuild_run (w : World) (ev : Operand → Value) {o : Oper} (hop : o.op = .build 95 #[]) : (execOp ev o).run Tryd.prog w = .ok (.value (.agg (wq zb))) w := by
  simp only [execOp, hop, Array.map_empty, Sem.run_bind, build_b, Result.andThen_ok, Sem.run_pure]
end Go.Proofs.YtohmkhmanidljaaDoor

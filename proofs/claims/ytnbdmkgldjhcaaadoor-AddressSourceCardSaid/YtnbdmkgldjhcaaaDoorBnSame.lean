/- Rows of words that are the same are told to be the same: four words, sixteen words. Conditions: those typed. -/
import Derived.Test.YtnbdmkgldjhcaaaDoorBnPerm
namespace Go.Proofs.YtnbdmkgldjhcaaaDoor
set_option maxRecDepth 50000
open Go.RowKit Rot Bn

theorem key_n {t : TypeId} {n : Nat} (hu : Tryd.prog.underlying t = some (.array n 34)) (hc : Tryd.prog.cellsOf t = n) (d : Nat) {L : List Nat} (hL : L.length = n) (ho : okw L) : Tryd.prog.keyLits (d + 2) t (wq L).toList = some (litsB L) := by
  have hl : (wq L).toList.length = n := by rw [Array.length_toList, wq_size]; exact hL
  have E : (List.range n).mapM (fun i => Tryd.prog.keyLits (d + 1) 34 (((wq L).toList.drop (i * 1)).take 1)) = some ((List.range n).map fun i => [Lit.int .u64 (L.getD i 0 : Nat)]) := by
    refine mapM_some _ _ _ fun i hi => ?_
    have hi := List.mem_range.1 hi
    have e : ((wq L).toList.drop (i * 1)).take 1 = [.int .u64 ((L.getD i 0 : Nat) : Int)] := by
      rw [Nat.mul_one, List.drop_eq_getElem_cons (by omega), List.take_succ_cons, List.take_zero]
      congr 1
      have := wq_at L i (by omega)
      rw [← Array.getElem?_toList, List.getElem?_eq_getElem (by omega)] at this
      exact Option.some.inj this
    rw [e, kb_u64 d _ (ho.at_ i)]
  unfold Program.keyLits
  simp only [hu, hc, b_u64, hl, if_true, E, Option.map_some]
  congr 1
  have e2 : (List.range n).map (fun i => [Lit.int .u64 (L.getD i 0 : Nat)]) = L.map fun x : Nat => [Lit.int .u64 (x : Int)] := by
    refine List.ext_getElem (by simp [hL]) fun i h1 h2 => ?_
    have hi : i < L.length := by simpa using h2
    simp [List.getD_eq_getElem?_getD, List.getElem?_eq_getElem hi]
  rw [e2]
  exact flat_one _ L
section
variable {L : List Nat} (ho : okw L) (w : World)
include ho
theorem same_four (hL : L.length = 4) : (binOp .eql 80 (.agg (wq L)) (.agg (wq L))).run Tryd.prog w = .ok (.bool true) w := by
  have hc : Tryd.prog.cellsOf 80 = 4 := by kernel_rfl
  obtain ⟨r, q1, q2⟩ := run_equalIn_deep (P := Tryd.prog) 9990 10 80 (by kernel_rfl) w 10 10 (.agg (wq L)) (.agg (wq L)) _ _ (by simp [Value.formed, Tryd.underlying80, wq_size, hL, hc]) (by simp [Value.formed, Tryd.underlying80, wq_size, hL, hc]) (key_n Tryd.underlying80 hc 8 hL ho) (key_n Tryd.underlying80 hc 8 hL ho)
  have hr : r = true := q2.2 rfl
  subst hr
  rw [run_eql_struct, show (10000 : Nat) = 9990 + 10 from rfl, q1]
  rfl
theorem same_sixteen (hL : L.length = 16) : (binOp .eql 76 (.agg (wq L)) (.agg (wq L))).run Tryd.prog w = .ok (.bool true) w := by
  have hc : Tryd.prog.cellsOf 76 = 16 := by kernel_rfl
  obtain ⟨r, q1, q2⟩ := run_equalIn_deep (P := Tryd.prog) 9990 10 76 (by kernel_rfl) w 10 10 (.agg (wq L)) (.agg (wq L)) _ _ (by simp [Value.formed, Tryd.underlying76, wq_size, hL, hc]) (by simp [Value.formed, Tryd.underlying76, wq_size, hL, hc]) (key_n Tryd.underlying76 hc 8 hL ho) (key_n Tryd.underlying76 hc 8 hL ho)
  have hr : r = true := q2.2 rfl
  subst hr
  rw [run_eql_struct, show (10000 : Nat) = 9990 + 10 from rfl, q1]
  rfl
theorem four_run (hL : L.length = 4) (ev : Operand → Value) (x y : Operand) {ty : TypeId} {o : Oper} (hop : o.op = .binOp .eql 80 x y ty) (hx : ev x = .agg (wq L)) (hy : ev y = .agg (wq L)) : (execOp ev o).run Tryd.prog w = .ok (.value (.bool true)) w := by
  have hg := run_eqGuard_agg (P := Tryd.prog) w .eql 80 x y (wq L) (wq L) (by kernel_rfl)
  simp only [execOp, hop, hx, hy, Sem.run_bind, hg, Result.andThen_ok, same_four ho w hL, Sem.run_pure]
theorem sixteen_run (hL : L.length = 16) (ev : Operand → Value) (x y : Operand) {ty : TypeId} {o : Oper} (hop : o.op = .binOp .eql 76 x y ty) (hx : ev x = .agg (wq L)) (hy : ev y = .agg (wq L)) : (execOp ev o).run Tryd.prog w = .ok (.value (.bool true)) w := by
  have hg := run_eqGuard_agg (P := Tryd.prog) w .eql 76 x y (wq L) (wq L) (by kernel_rfl)
  simp only [execOp, hop, hx, hy, Sem.run_bind, hg, Result.andThen_ok, same_sixteen ho w hL, Sem.run_pure]
end
/-- four words, built -/
theorem bd4_run {w : World} {ev : Operand → Value} {o : Oper} {a b c d : Nat} {x1 x2 x3 x4 : Operand} (hop : o.op = .build 80 #[(0, x1), (1, x2), (2, x3), (3, x4)]) (h1 : ev x1 = .int .u64 (a : Int)) (h2 : ev x2 = .int .u64 (b : Int)) (h3 : ev x3 = .int .u64 (c : Int)) (h4 : ev x4 = .int .u64 (d : Int)) :
    (execOp ev o).run Tryd.prog w = .ok (.value (.agg (wq [a, b, c, d]))) w := by
  simp [execOp, hop, h1, h2, h3, h4, go_sem, wq, u64s]
theorem load16_run {w : World} {b : Nat} {L : List Nat} {ev : Operand → Value} {x : Operand} {o : Oper} (hop : o.op = .load 76 x) (hx : ev x = .pointer (some ⟨b, 0, none⟩)) (hR : RowAt w b 76 (wq L)) (hz : (wq L).size = 16) : (execOp ev o).run Tryd.prog w = .ok (.value (.agg (wq L))) w := by
  have h := hR.loadAt (P := Tryd.prog) Tryd.underlying76 (by rw [hz]; exact q_size16)
  simp only [execOp, hop, hx, Sem.run_bind, h, Result.andThen_ok, Sem.run_pure]
end Go.Proofs.YtnbdmkgldjhcaaaDoor

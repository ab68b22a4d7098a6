/- Operations on a Cipher in memory, one by one, as they stand in a statement whose order is open. Conditions: those typed. -/
import Derived.Test.YtglmfagmlfjceaaCiF
import Derived.Test.YtglmfagmlfjceaaCiNext
import Derived.Test.YtglmfagmlfjceaaSeq
import Derived.Test.YtglmfagmlfjceaaTurn
namespace Go.Proofs.Ytglmfagmlfjceaa
set_option maxRecDepth 50000
open Go.RowKit Ci Rot

section
variable {w : World} {ev : Operand → Value} {x y : Operand} {o : Oper} {B i : Nat}
theorem nil_run (hop : o.op = .nilCheck x) (hx : ev x = .pointer (some ⟨B, i, none⟩)) : (execOp ev o).run Try.prog w = .ok (.value (.pointer (some ⟨B, i, none⟩))) w := by
  simp [execOp, hop, hx, go_sem]
theorem fld0_run (hop : o.op = .fieldAddr 55 x 0) (hx : ev x = .pointer (some ⟨B, 0, none⟩)) : (execOp ev o).run Try.prog w = .ok (.value (.pointer (some ⟨B, 0, none⟩))) w := by
  simp [execOp, hop, hx, go_sem]
theorem ix18_run (hop : o.op = .indexAddr 51 x y) (hx : ev x = .pointer (some ⟨B, 0, none⟩)) (hy : ev y = .int .i64 (i : Int)) (hi : i < 18) : (execOp ev o).run Try.prog w = .ok (.value (.pointer (some ⟨B, i, none⟩))) w := by
  have h1 : (i : Int) < 18 := by omega
  simp [execOp, hop, hx, hy, go_sem, h1]
theorem ixs_run {n c off : Nat} (hop : o.op = .indexAddr 31 x y) (hx : ev x = .slice (some ⟨B, off, none⟩) n c) (hy : ev y = .int .i64 (i : Int)) (hi : i < n) : (execOp ev o).run Try.prog w = .ok (.value (.pointer (some ⟨B, off + i, none⟩))) w := by
  have h1 : (i : Int) < (n : Int) := by omega
  simp [execOp, hop, hx, hy, go_sem, h1]
theorem ixt_run {n c off : Nat} (hop : o.op = .indexAddr 32 x y) (hx : ev x = .slice (some ⟨B, off, none⟩) n c) (hy : ev y = .int .i64 (i : Int)) (hi : i < n) : (execOp ev o).run Try.prog w = .ok (.value (.pointer (some ⟨B, off + i, none⟩))) w := by
  have h1 : (i : Int) < (n : Int) := by omega
  simp [execOp, hop, hx, hy, go_sem, h1]
theorem ldu_run {v : Value} (hop : o.op = .load 22 x) (hx : ev x = .pointer (some ⟨B, i, none⟩)) (hc : w.cell? ⟨B, i, none⟩ = some v) : (execOp ev o).run Try.prog w = .ok (.value v) w := by
  simp [execOp, hop, hx, hc, go_sem]
theorem ldi_run {v : Value} (hop : o.op = .load 3 x) (hx : ev x = .pointer (some ⟨B, i, none⟩)) (hc : w.cell? ⟨B, i, none⟩ = some v) : (execOp ev o).run Try.prog w = .ok (.value v) w := by
  simp [execOp, hop, hx, hc, go_sem]
theorem ldc_run {v : Value} (hop : o.op = .load 27 x) (hx : ev x = .pointer (some ⟨B, i, none⟩)) (hc : w.cell? ⟨B, i, none⟩ = some v) : (execOp ev o).run Try.prog w = .ok (.value v) w := by
  simp [execOp, hop, hx, hc, go_sem]
theorem ldf_run {v : Value} (hop : o.op = .load 38 x) (hx : ev x = .pointer (some ⟨B, i, none⟩)) (hc : w.cell? ⟨B, i, none⟩ = some v) : (execOp ev o).run Try.prog w = .ok (.value v) w := by
  simp [execOp, hop, hx, hc, go_sem]
theorem st_run {v : Value} {z : Int} (hop : o.op = .store 22 x y) (hx : ev x = .pointer (some ⟨B, i, none⟩)) (hy : ev y = .int .u32 z) (hc : w.cell? ⟨B, i, none⟩ = some v) (hf : w.frozen? ⟨B, i, none⟩ = false) : (execOp ev o).run Try.prog w = .ok .skip (w.setCell ⟨B, i, none⟩ (.int .u32 z)) := by
  simp [execOp, hop, hx, hy, hc, hf, go_sem]
theorem callv_run {f : FuncId} {cap : Array Value} (hop : o.op = .call { callee := .value x, args := #[], argTypes := #[] }) (he : ∀ (args : Array Value) (w : World), (callFunc f args).run Try.prog w = .ok (.enter f args) w) (hx : ev x = .func (.func f) #[] cap) : (execOp ev o).run Try.prog w = .ok (.enter f cap) w := by
  simp [execOp, hop, hx, resolve, Deferred.ofValue, invoke, he]
end
section
variable {w : World} {a : Act} {Q : Exit → Act → World → Prop} {o : Oper}
theorem st_does {W' : World → Prop} {x y : Operand} {B i : Nat} {v : Value} {z : Int} (hop : o.op = .store 22 x y) (hx : a.eval x = .pointer (some ⟨B, i, none⟩)) (hy : a.eval y = .int .u32 z) (hc : w.cell? ⟨B, i, none⟩ = some v) (hf : w.frozen? ⟨B, i, none⟩ = false)
    (h : W' (w.setCell ⟨B, i, none⟩ (.int .u32 z))) : o.wp Try.prog a w (fun a' w' => a' = a.put o.dst undef ∧ W' w') Q := by
  unfold Oper.wp
  rw [st_run hop hx hy hc hf]
  exact ⟨rfl, h⟩
end
end Go.Proofs.Ytglmfagmlfjceaa

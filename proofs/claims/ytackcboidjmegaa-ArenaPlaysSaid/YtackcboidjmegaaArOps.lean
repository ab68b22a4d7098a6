/- Operations of statements whose order is open: nil checks, fields, loads, not. No condition but those typed. -/
import Derived.Test.YtackcboidjmegaaArSt
import Derived.Test.YtackcboidjmegaaArFew
import Derived.Test.YtackcboidjmegaaArOther
import Derived.Test.YtackcboidjmegaaReg
namespace Go.Proofs.Ytackcboidjmegaa
set_option maxRecDepth 50000
open Go.RowKit Bb

section
variable {w : World} {b : Nat} {v : Value} {ev : Operand → Value} {x : Operand} {o : Oper}
theorem nil_run {ad : Addr} (hop : o.op = .nilCheck x) (hx : ev x = .pointer (some ad)) : (execOp ev o).run Try.prog w = .ok (.value (.pointer (some ad))) w := by
  simp [execOp, hop, hx, go_sem]
theorem actn_run (hop : o.op = .fieldAddr 45 x 1) (hx : ev x = .pointer (some ⟨b, 0, none⟩)) : (execOp ev o).run Try.prog w = .ok (.value (.pointer (some ⟨b, 1, none⟩))) w := by
  simp [execOp, hop, hx, go_sem]
theorem actw_run (hop : o.op = .fieldAddr 45 x 3) (hx : ev x = .pointer (some ⟨b, 0, none⟩)) : (execOp ev o).run Try.prog w = .ok (.value (.pointer (some ⟨b, 3, none⟩))) w := by
  simp [execOp, hop, hx, go_sem]
theorem marb_run (hop : o.op = .fieldAddr 32 x 0) (hx : ev x = .pointer (some ⟨b, 0, none⟩)) : (execOp ev o).run Try.prog w = .ok (.value (.pointer (some ⟨b, 0, none⟩))) w := by
  simp [execOp, hop, hx, go_sem]
theorem marh_run (hop : o.op = .fieldAddr 32 x 2) (hx : ev x = .pointer (some ⟨b, 0, none⟩)) : (execOp ev o).run Try.prog w = .ok (.value (.pointer (some ⟨b, 2, none⟩))) w := by
  simp [execOp, hop, hx, go_sem]
theorem lint_run {ad : Addr} (hop : o.op = .load 3 x) (hx : ev x = .pointer (some ad)) (hc : w.cell? ad = some v) : (execOp ev o).run Try.prog w = .ok (.value v) w := by
  simp [execOp, hop, hx, hc, go_sem]
theorem lu64_run {ad : Addr} (hop : o.op = .load 43 x) (hx : ev x = .pointer (some ad)) (hc : w.cell? ad = some v) : (execOp ev o).run Try.prog w = .ok (.value v) w := by
  simp [execOp, hop, hx, hc, go_sem]
theorem not_run {k : Bool} {t : TypeId} (hop : o.op = .unOp .not t x) (hx : ev x = .bool k) : (execOp ev o).run Try.prog w = .ok (.value (.bool !k)) w := by
  simp [execOp, hop, hx, go_sem]
/-- a block loaded -/
theorem blk_run {ad : Addr} {L : List Nat} (hop : o.op = .load 60 x) (hx : ev x = .pointer (some ad)) (hl : (loadVar 60 ad).run Try.prog w = .ok (.agg (wq L)) w) : (execOp ev o).run Try.prog w = .ok (.value (.agg (wq L))) w := by
  simp only [execOp, hop, hx, Instr.loadAt, Instr.sureAddr, Sem.run_bind, Sem.run_pure, Result.andThen_ok, hl]
theorem row_load {L : List Nat} (hR : RowAt w b 60 (wq L)) (hL : L.length = 128) : (loadVar 60 ⟨b, 0, none⟩).run Try.prog w = .ok (.agg (wq L)) w :=
  hR.load Try.underlying60 (by rw [wq_size, hL]; exact b_size)
theorem LiveAt.step {w' : World} {p a g : Nat} {l : List (List Nat)} (h : LiveAt w p a g l) (hb : Below w.heap.size w w') : LiveAt w' p a g l := ⟨RowAt.step h.row hb, RowAt.step h.blk hb, h.ok⟩
end
end Go.Proofs.Ytackcboidjmegaa

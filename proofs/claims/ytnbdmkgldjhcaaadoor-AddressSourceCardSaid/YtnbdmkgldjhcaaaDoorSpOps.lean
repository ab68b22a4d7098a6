/- Operations on shapes, turns and ints in memory, in statements whose order is open. No condition but those typed. -/
import Derived.Test.YtnbdmkgldjhcaaaDoorSpAwake
import Derived.Test.YtnbdmkgldjhcaaaDoorBnLay
namespace Go.Proofs.YtnbdmkgldjhcaaaDoor
set_option maxRecDepth 50000
open Go.RowKit

section
variable {w : World} {b : Nat} {v : Value} {ev : Operand → Value} {x : Operand} {o : Oper}
theorem int_run {ad : Addr} (hop : o.op = .load 3 x) (hx : ev x = .pointer (some ad)) (hc : w.cell? ad = some v) : (execOp ev o).run Tryd.prog w = .ok (.value v) w := by
  simp [execOp, hop, hx, hc, go_sem]
theorem spf_run {off : Nat} {k : Nat} (hop : o.op = .fieldAddr 28 x k) (hk : k = 2 ∨ k = 4 ∨ k = 5 ∨ k = 6) (hx : ev x = .pointer (some ⟨b, off, none⟩)) : (execOp ev o).run Tryd.prog w = .ok (.value (.pointer (some ⟨b, off + k, none⟩))) w := by
  rcases hk with rfl | rfl | rfl | rfl
  all_goals
    simp [execOp, hop, hx, go_sem]
theorem tuf_run {off : Nat} {k : Nat} (hop : o.op = .fieldAddr 25 x k) (hk : k = 0 ∨ k = 1) (hx : ev x = .pointer (some ⟨b, off, none⟩)) : (execOp ev o).run Tryd.prog w = .ok (.value (.pointer (some ⟨b, off + k, none⟩))) w := by
  rcases hk with rfl | rfl
  all_goals
    simp [execOp, hop, hx, go_sem]
end
section
variable (w : World)
theorem quo_run (n c q : Nat) (hc : 0 < c) (hq : n / c = q) (hn : n ≤ 4611686018427387904) : (binOp .quo 3 (.int .i64 (n : Int)) (.int .i64 (c : Int))).run Tryd.prog w = .ok (.int .i64 (q : Int)) w := by
  have hqn : q ≤ n := by rw [← hq]; exact Nat.div_le_self _ _
  have l0 : ¬ c = 0 := by omega
  have e1 : (n : Int) / (c : Int) = (q : Int) := by rw [← hq]; rfl
  have e2 : Int.tdiv (n : Int) (c : Int) = (q : Int) := by rw [Int.tdiv_eq_ediv_of_nonneg (by omega)]; exact e1
  have e3 : IntKind.i64.wrap (q : Int) = (q : Int) := by rw [IntKind.wrap_i64]; omega
  clear hq
  simp [go_sem, l0, e2, e3]
theorem rem_run (n c q : Nat) (hc : 0 < c) (hq : n % c = q) : (binOp .rem 3 (.int .i64 (n : Int)) (.int .i64 (c : Int))).run Tryd.prog w = .ok (.int .i64 (q : Int)) w := by
  have l0 : ¬ c = 0 := by omega
  have e1 : (n : Int) % (c : Int) = (q : Int) := by rw [← hq]; rfl
  have e2 : Int.tmod (n : Int) (c : Int) = (q : Int) := by rw [Int.tmod_eq_emod_of_nonneg (by omega)]; exact e1
  clear hq
  simp [go_sem, l0, e2]
theorem add_run (x y z : Int) (h : x + y = z) (h1 : -4611686018427387904 ≤ z) (h2 : z ≤ 4611686018427387904) : (binOp .add 3 (.int .i64 x) (.int .i64 y)).run Tryd.prog w = .ok (.int .i64 z) w := by
  have e3 : IntKind.i64.wrap z = z := by rw [IntKind.wrap_i64]; omega
  simp [go_sem, h, e3]
theorem sub_run (x y z : Int) (h : x - y = z) (h1 : -4611686018427387904 ≤ z) (h2 : z ≤ 4611686018427387904) : (binOp .sub 3 (.int .i64 x) (.int .i64 y)).run Tryd.prog w = .ok (.int .i64 z) w := by
  have e3 : IntKind.i64.wrap z = z := by rw [IntKind.wrap_i64]; omega
  simp [go_sem, h, e3]
theorem mul_run (x y z : Int) (h : x * y = z) (h1 : -4611686018427387904 ≤ z) (h2 : z ≤ 4611686018427387904) : (binOp .mul 3 (.int .i64 x) (.int .i64 y)).run Tryd.prog w = .ok (.int .i64 z) w := by
  have e3 : IntKind.i64.wrap z = z := by rw [IntKind.wrap_i64]; omega
  simp [go_sem, h, e3]
theorem geq_run (x y : Int) (h : y ≤ x) : (binOp .geq 3 (.int .i64 x) (.int .i64 y)).run Tryd.prog w = .ok (.bool true) w := by
  simp [go_sem, h]
theorem lss_run (x y : Int) (h : x < y) : (binOp .lss 3 (.int .i64 x) (.int .i64 y)).run Tryd.prog w = .ok (.bool true) w := by
  simp [go_sem, h]
theorem eql_run (x : Int) : (binOp .eql 3 (.int .i64 x) (.int .i64 x)).run Tryd.prog w = .ok (.bool true) w := by
  simp [go_sem]
end
end Go.Proofs.YtnbdmkgldjhcaaaDoor

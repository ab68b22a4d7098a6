/- Turns held against each other; what stands in memory while turns are gone through; the next turn by its number. Conditions: those typed. -/
import Derived.Test.YtnbdmkgldjhcaaaDoorSpOps
import Derived.Laws.StructEq
import Derived.DeepKeys
namespace Go.Proofs.YtnbdmkgldjhcaaaDoor
set_option maxRecDepth 50000
open Go.RowKit

theorem ktu_wf (i : Nat) (h : i ≤ 140737488351232) : (Lit.int .i64 (i : Int)).wf = true := by
  have e1 : IntKind.i64.min = -9223372036854775808 := rfl
  have e2 : IntKind.i64.max = 9223372036854775807 := rfl
  simp [Lit.wf, e1, e2]
  omega
theorem ktu_int (d i : Nat) (h : i ≤ 140737488351232) : Tryd.prog.keyLits (d + 1) 3 [.int .i64 (i : Int)] = some [.int .i64 (i : Int)] := by
  unfold Program.keyLits
  simp only [Tryd.underlying3]
  simp [ktu_wf i h]
theorem ktu (d p s : Nat) (hp : p ≤ 140737488351232) (hs : s ≤ 140737488351232) : Tryd.prog.keyLits (d + 2) 25 [.int .i64 (p : Int), .int .i64 (s : Int)] = some [.int .i64 (p : Int), .int .i64 (s : Int)] := by
  have k1 := ktu_int d p hp
  have k2 := ktu_int d s hs
  unfold Program.keyLits
  simp only [Tryd.underlying25]
  have c1 : Tryd.prog.cellsOf 25 = 2 := by kernel_rfl
  have c2 : Tryd.prog.cellsOf 3 = 1 := by kernel_rfl
  simp [c1, c2, k1, k2]
theorem tu_same (p s : Nat) (hp : p ≤ 140737488351232) (hs : s ≤ 140737488351232) (w : World) : (Op.equalIn 10000 25 (tuv p s) (tuv p s)).run Tryd.prog w = .ok true w := by
  obtain ⟨r, q1, q2⟩ := run_equalIn_deep (P := Tryd.prog) 9990 10 25 (by kernel_rfl) w 10 10 (tuv p s) (tuv p s) _ _ (by kernel_rfl) (by kernel_rfl) (ktu 8 p s hp hs) (ktu 8 p s hp hs)
  have hr : r = true := q2.2 rfl
  subst hr
  exact q1
theorem tu_neq (p s : Nat) (hp : p ≤ 140737488351232) (hs : s ≤ 140737488351232) (w : World) : (binOp .neq 25 (tuv p s) (tuv p s)).run Tryd.prog w = .ok (.bool false) w := by
  rw [run_neq_struct, tu_same p s hp hs]; rfl
theorem tu_eql (p s : Nat) (hp : p ≤ 140737488351232) (hs : s ≤ 140737488351232) (w : World) : (binOp .eql 25 (tuv p s) (tuv p s)).run Tryd.prog w = .ok (.bool true) w := by
  rw [run_eql_struct, tu_same p s hp hs]; rfl
theorem g_tu : Tryd.prog.eqGuardType Tryd.prog.depth 25 = false := by kernel_rfl
theorem cmp_run (w : World) {xs ys : Array Value} {k : Bool} {c : BinOp} (ev : Operand → Value) (x y : Operand) {t ty : TypeId} {o : Oper} (hop : o.op = .binOp c t x y ty) (hx : ev x = .agg xs) (hy : ev y = .agg ys) (hm : Tryd.prog.eqGuardType Tryd.prog.depth t = false) (hr : (binOp c t (.agg xs) (.agg ys)).run Tryd.prog w = .ok (.bool k) w) : (execOp ev o).run Tryd.prog w = .ok (.value (.bool k)) w := by
  have hg := run_eqGuard_agg (P := Tryd.prog) w c t x y xs ys hm
  simp only [execOp, hop, hx, hy, Sem.run_bind, hg, Result.andThen_ok, hr, Sem.run_pure]
theorem RowAt.apart {w : World} {b b' : Nat} {t t' : TypeId} {C C' : Array Value} (h : RowAt w b t C) (h' : RowAt w b' t' C') (hn : t ≠ t') : b ≠ b' := by
  rintro rfl
  have e := Option.some.inj (h.symm.trans h')
  injection e with _ e _
  exact hn e

/-- what stands in memory while turns are gone through -/
structure TuSt (w wr : World) (q r : Nat) (a t l m b c g z : Nat) (p s : Int) : Prop where
  pa : RowAt wr w.heap.size 23 (pac a t m l z)
  sh : RowAt wr q 28 (spc a t l m b c g z)
  tu : RowAt wr r 25 (tuc p s)
  le : w.heap.size ≤ r
  below : Below w.heap.size w wr
section
variable {w wr w' : World} {q r a t l m b c g z : Nat} {p s : Int}
theorem TuSt.on (H : TuSt w wr q r a t l m b c g z p s) (hb : Below wr.heap.size wr w') : TuSt w w' q r a t l m b c g z p s := ⟨H.pa.step hb, H.sh.step hb, H.tu.step hb, H.le, H.below.trans (hb.mono H.below.size)⟩
theorem TuSt.copy (H : TuSt w wr q r a t l m b c g z p s) : TuSt w (wr.alloc (.cells (tuc p s) 25)) q wr.heap.size a t l m b c g z p s := ⟨H.pa.alloc _, H.sh.alloc _, RowAt.new _ _ _, H.below.size, H.below.alloc H.below.size _⟩
theorem TuSt.set (H : TuSt w wr q r a t l m b c g z p s) (p' s' : Int) : TuSt w (wr.setRow r (tuc p' s')) q r a t l m b c g z p' s' :=
  ⟨H.pa.setRowOther r (H.tu.apart H.pa (by decide)) _, H.sh.setRowOther r (H.tu.apart H.sh (by decide)) _, H.tu.setRow _, H.le, below_setRow H.below H.le _⟩
theorem TuSt.time (H : TuSt w wr q r a t l m b c g z p s) : wr.cell? ⟨w.heap.size, 1, none⟩ = some (.int .i64 (t : Int)) := (pa_cells H.pa).2.1
theorem TuSt.facts (H : TuSt w wr q r a t l m b c g z p s) : wr.cell? ⟨q, 0 + 6, none⟩ = some (.int .i64 (g : Int)) ∧ wr.cell? ⟨q, 0 + 2, none⟩ = some (.int .i64 (l : Int)) ∧ wr.cell? ⟨r, 0 + 0, none⟩ = some (.int .i64 p) ∧ wr.cell? ⟨r, 0 + 1, none⟩ = some (.int .i64 s) ∧ (loadVar 28 ⟨q, 0, none⟩).run Tryd.prog wr = .ok (spv a t l m b c g z) wr :=
  ⟨(H.sh.cell 6).trans rfl, (H.sh.cell 2).trans rfl, (H.tu.cell 0).trans rfl, (H.tu.cell 1).trans rfl, sp_load H.sh⟩
end

/-- the turn number n, a zero one behind the last -/
def tuA (t n : Nat) : Nat := if n < 4 * t then n / 4 else 0
def tuB (t n : Nat) : Nat := if n < 4 * t then n % 4 else 0
theorem hasB_yes {t p s : Nat} (hp : p < t) (hs : s ≤ 3) : hasB t p s = true := by
  simp [hasB, inB]; omega
theorem hasB_late {t p : Nat} (s : Int) (hp : t ≤ p) : hasB t p s = false := by
  simp [hasB, inB]; omega
end Go.Proofs.YtnbdmkgldjhcaaaDoor

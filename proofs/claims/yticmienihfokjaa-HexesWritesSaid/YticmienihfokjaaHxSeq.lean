/- Operations of a statement whose order is open, one by one, each in the very world that it finds. No condition. -/
import Derived.Test.YticmienihfokjaaSeq
import Derived.Laws.AppendOwn
namespace Go.Proofs.Yticmienihfokjaa
set_option maxRecDepth 50000
open Go.RowKit

section
variable {P : Program} {ops : List Oper} {ms : List Nat} {vs : List Value} {W : Nat → World → Prop} {a0 : Act} {Q : Exit → Act → World → Prop}
/-- an operation that leaves memory as it is -/
theorem seq_exact {i : Nat} {o : Oper} (hk : decide (kindOf ops ms i < 2) = true) (H : ∀ a w k, SCtx ops vs a0 i o a → W k w → Does P (fun v w' => v = vs.getD i undef ∧ w' = w) o a w Q) : SPart P ops ms vs W a0 Q i o := by
  intro a w k C hW _ _ _
  rw [if_pos (by simpa using hk)]
  refine Oper.wp_mono ?_ (H a w k C hW)
  rintro a' w' ⟨v, rfl, ⟨rfl, rfl⟩, hb⟩
  exact ⟨rfl, hW⟩
theorem quiet_call {f : FuncId} {args : Array Value} {w : World} {v u : Value} (h : Calls P f args w fun e w' => e = .returned v ∧ w' = w) (hu : v = u) : Calls P f args w fun e w' => ∃ x, e = .returned x ∧ (x = u ∧ w' = w) ∧ Below w.heap.size w w' :=
  h.mono fun e w' ⟨h1, h2⟩ => ⟨v, h1, ⟨hu, h2⟩, by rw [h2]; exact Below.refl _ _⟩
theorem turn_value {a : Act} {w w' : World} {o : Oper} {v : Value} {R : World → Prop} (h : (execOp a.eval o).run P w = .ok (.value v) w') (hR : R w') : o.wp P a w (fun a' w' => a' = a.put o.dst v ∧ R w') Q := by
  unfold Oper.wp
  rw [h]
  exact ⟨rfl, hR⟩
theorem ixt_run {ev : Operand → Value} {x y : Operand} {o : Oper} {t : TypeId} {s : ByteArray} {i : Nat} {w : World} (hop : o.op = .index t x y) (ht : P.underlying t = some .string) (hx : ev x = .string s) (hy : ev y = .int .i64 (i : Int)) (hi : i < s.size) : (execOp ev o).run P w = .ok (.value (.int .u8 ((s[i]'hi).toNat : Int))) w := by
  simp [execOp, hop, hx, hy, run_index_string w t s .i64 (i : Int) ht, hi]
theorem append_run {ev : Operand → Value} {x y : Operand} {o : Oper} {t : TypeId} {v1 v2 v : Value} {w w' : World} (hop : o.op = .call { callee := .builtin .append, args := #[x, y], argTypes := #[t, t] }) (hx : ev x = v1) (hy : ev y = v2) (hr : (Builtin.append_ #[t, t] o.type #[v1, v2]).run P w = .ok v w') : (execOp ev o).run P w = .ok (.value v) w' := by
  simp only [execOp, hop, resolve, invoke, builtin, Sem.run_bind, Sem.run_pure, Result.andThen_ok, List.map_toArray, List.map_cons, List.map_nil, hx, hy, hr]
end
theorem slice_run1 {ev : Operand → Value} {x : Operand} {o : Oper} {z : Int} (w : World) (hop : o.op = .buildSlice 40 1 #[(0, x)]) (hx : ev x = .int .u8 z) : (execOp ev o).run Try.prog w = .ok (.value (.slice (some ⟨w.heap.size, 0, none⟩) 1 1)) (w.alloc (.cells #[.int .u8 z] 5)) := by
  simp [execOp, hop, hx, go_sem]
/-- three worlds, one behind the other -/
def wdec (a b c : World) : Nat → World
  | 0 => a
  | 1 => b
  | _ => c
theorem own_drew0 {w : World} {B : Nat} {e : TypeId} {v : Value} {n : Nat} {xs : List Value} (h : w.ownsRow B e 1 v n xs) : w.drew.ownsRow B e 1 v n xs := h
theorem own_drew {w : World} {B : Nat} {e : TypeId} {v : Value} {n : Nat} {xs : List Value} (h : w.ownsRow B e 1 v n xs) (o : Obj) : (w.drew.alloc o).ownsRow B e 1 v n xs := (own_drew0 h).alloc o
end Go.Proofs.Yticmienihfokjaa

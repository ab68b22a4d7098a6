/- The operations of a statement whose order is open, one by one: what each yields. No condition but those typed. -/
import Derived.Test.YtoknhmilhljadaaAny
import Derived.Test.YtoknhmilhljadaaWback
import Derived.Laws.BytesArg
import Derived.Lib.BufferRead
namespace Go.Proofs.Ytoknhmilhljadaa
open Go.RowKit

def Is (v : Value) : Value → World → Prop := fun x _ => x = v
def Free : Value → World → Prop := fun _ _ => True
/-- a slice value of n cells that reads as xs -/
def ReadsAs (n : Nat) (xs : List Value) : Value → World → Prop := fun x w => ∃ A c, x = .slice A n c ∧ Reads w w.heap.size A xs
def Stable (p : Value → World → Prop) : Prop := ∀ v w w', p v w → Below w.heap.size w w' → p v w'
theorem stable_is (v : Value) : Stable (Is v) := fun _ _ _ h _ => h
theorem stable_free : Stable Free := fun _ _ _ _ _ => trivial
theorem stable_reads (n : Nat) (xs : List Value) : Stable (ReadsAs n xs) := fun _ _ _ ⟨A, c, e, h⟩ hb => ⟨A, c, e, h.step hb⟩
def Ds (l : List (Value → World → Prop)) (i : Nat) : Value → World → Prop := l.getD i Free
theorem stable_ds (l : List (Value → World → Prop)) (h : ∀ p ∈ l, Stable p) : ∀ i v w w', Ds l i v w → Below w.heap.size w w' → Ds l i v w' := by
  intro i v w w' hd hb
  unfold Ds List.getD at *
  cases hi : l[i]? with
  | none => trivial
  | some p => rw [hi] at hd; exact h p (List.mem_of_getElem? hi) v w w' hd hb

/-- all operations of a list, from number k on -/
def AllFrom (R : Nat → Oper → Prop) : Nat → List Oper → Prop
  | _, [] => True
  | k, o :: l => R k o ∧ AllFrom R (k + 1) l
theorem all_from {R : Nat → Oper → Prop} : ∀ (l : List Oper) (k : Nat), AllFrom R k l → ∀ i o, l[i]? = some o → R (k + i) o
  | [], _, _, i, o, hi => by simp at hi
  | x :: l, k, h, 0, o, hi => by simp at hi; subst hi; exact h.1
  | x :: l, k, h, i + 1, o, hi => by
    have := all_from l (k + 1) h.2 i o (by simpa using hi)
    rwa [show k + (i + 1) = k + 1 + i from by omega]

section
variable {P : Program} {ops : List Oper} {D : Nat → Value → World → Prop} {a0 : Act} {w0 : World} {o : Oper} {a : Act} {w : World} {Q : Exit → Act → World → Prop}
theorem Ctx.on (C : Ctx ops D a0 w0 o a w) {j : Nat} {o' : Oper} {d : Tmp} (h : o.after.toList.any (fun e => Region.binds .any e && e.on == j) = true) (hj : ops[j]? = some o') (hd : o'.dst = some d) : D j (a.tmps.getD d undef) w := by
  obtain ⟨e, he, h2⟩ := List.any_eq_true.1 h
  simp only [Bool.and_eq_true, beq_iff_eq] at h2
  obtain ⟨hb, rfl⟩ := h2
  exact C.dep e (by simpa using he) hb o' d hj hd
theorem Ctx.was (C : Ctx ops D a0 w0 o a w) (t : Tmp) (h : (ops.all fun o' => o'.dst != some t) = true) : a.tmps.getD t undef = a0.tmps.getD t undef :=
  C.old t fun o' ho e => by have := List.all_eq_true.1 h o' ho; rw [e] at this; simp at this
theorem Ctx.was_as (C : Ctx ops D a0 w0 o a w) (t : Tmp) (h : (ops.all fun o' => o'.dst != some t) = true) {p : Value → World → Prop} (hs : Stable p) (hp : p (a0.tmps.getD t undef) w0) : p (a.tmps.getD t undef) w := by
  rw [C.was t h]; exact hs _ _ _ hp C.below
theorem wanted_free (hg : o.guard = none) (y : Nat → Option Bool) : Region.wanted o y = true := by simp [Region.wanted, hg]
theorem wanted_on {j : Nat} {b : Bool} {o' : Oper} {d : Tmp} (hg : o.guard = some (j, b)) (hj : ops[j]? = some o') (hd : o'.dst = some d) (h : a.tmps.getD d undef = .bool b) : Region.wanted o (yielded ops.toArray a.tmps) = true := by
  have h2 : a.tmps[d]? = some (.bool b) := by
    rw [Array.getD_eq_getD_getElem?] at h
    cases hc : a.tmps[d]? with
    | none => rw [hc] at h; cases h
    | some v => rw [hc] at h; simp only [Option.getD_some] at h; rw [h]
  simp [Region.wanted, hg, yielded, hj, hd, h2]

/-- THE REGION, operation by operation -/
theorem wp_region_list {id : Nat} (ds : List (Value → World → Prop)) (hm : P.follows .mixedOrders = true) (hok : okOps ops a0.tmps.size = true) (hst : ∀ p ∈ ds, Stable p)
    (hop : AllFrom (fun i o => ∀ a w, Ctx ops (Ds ds) a0 w0 o a w → if Region.wanted o (yielded ops.toArray a.tmps) = true then o.wp P a w (fun a' w' => ∃ v, a' = a.put o.dst v ∧ Ds ds i v w' ∧ Below w.heap.size w w') Q else Ds ds i undef w) 0 ops)
    (hfin : ∀ a w, Below w0.heap.size w0 w → a.tmps.size = a0.tmps.size → a.defers = a0.defers → (∀ t, (∀ o' ∈ ops, o'.dst ≠ some t) → a.tmps.getD t undef = a0.tmps.getD t undef) →
      (∀ i o d, ops[i]? = some o → o.dst = some d → Ds ds i (a.tmps.getD d undef) w) → Q .normal a w) : (Code.region id ops.toArray true).wp P Q a0 w0 :=
  wp_region_each (Ds ds) hm hok (stable_ds ds hst) (fun i o ho => by have := all_from ops 0 hop i o ho; rwa [Nat.zero_add] at this) hfin

def Does (P : Program) (p : Value → World → Prop) (o : Oper) (a : Act) (w : World) (Q : Exit → Act → World → Prop) : Prop := o.wp P a w (fun a' w' => ∃ v, a' = a.put o.dst v ∧ p v w' ∧ Below w.heap.size w w') Q
variable {p : Value → World → Prop}
theorem each_pos {i : Nat} (hw : Region.wanted o (yielded ops.toArray a.tmps) = true) (h : Does P (D i) o a w Q) : if Region.wanted o (yielded ops.toArray a.tmps) = true then o.wp P a w (fun a' w' => ∃ v, a' = a.put o.dst v ∧ D i v w' ∧ Below w.heap.size w w') Q else D i undef w := by
  rw [if_pos hw]; exact h
theorem op_value {v : Value} (h : (execOp a.eval o).run P w = .ok (.value v) w) (hp : p v w) : Does P p o a w Q := by
  unfold Does Oper.wp
  rw [h]
  exact ⟨v, rfl, hp, Below.refl _ _⟩
theorem op_move {x : Operand} (ho : o.op = .move x ∨ o.op = .assign x) (hp : p (a.eval x) w) : Does P p o a w Q := by
  refine op_value ?_ hp
  rcases ho with ho | ho <;> simp [execOp, ho]
theorem op_pick {c x y : Operand} {k : Bool} (ho : o.op = .pick c x y) (hc : a.eval c = .bool k) (hp : p (if k then a.eval x else a.eval y) w) : Does P p o a w Q := by
  refine op_value ?_ hp
  simp [execOp, ho, hc, asBool]
theorem op_enter {f : FuncId} {args : Array Value} (h : (execOp a.eval o).run P w = .ok (.enter f args) w) (hc : Calls P f args w fun e w' => ∃ v, e = .returned v ∧ p v w' ∧ Below w.heap.size w w') : Does P p o a w Q := by
  unfold Does Oper.wp
  rw [h]
  refine hc.mono ?_
  rintro e w' ⟨v, rfl, h1, h2⟩
  exact ⟨v, rfl, h1, h2⟩
theorem op_call {f : FuncId} {xs : Array Operand} {ts : Array TypeId} (ho : o.op = .call { callee := .value (.func f), args := xs, argTypes := ts }) (he : ∀ (args : Array Value) (w : World), (callFunc f args).run P w = .ok (.enter f args) w)
    (hc : Calls P f (xs.toList.map a.eval).toArray w fun e w' => ∃ v, e = .returned v ∧ p v w' ∧ Below w.heap.size w w') : Does P p o a w Q := by
  have hx : (xs.toList.map a.eval).toArray = xs.map a.eval := by rw [← Array.toList_map, Array.toArray_toList]
  rw [hx] at hc
  refine op_enter ?_ hc
  simp [execOp, ho, resolve, Deferred.ofValue, Act.eval, invoke, he]
theorem op_eqs {t ty : TypeId} {x y : Operand} {s : ByteArray} (ho : o.op = .binOp .eql t x y ty) (hx : a.eval x = .string s) (hy : a.eval y = .string s) (hp : p (.bool true) w) : Does P p o a w Q := by
  refine op_value ?_ hp
  simp only [execOp, ho]
  rw [hx, hy]
  simp [go_sem]
end

/-- a text of numbers below 256 -/
def strOf (l : List Nat) : ByteArray := strOfNums (l.map fun x : Nat => (x : Int))
theorem conv_str (w : World) {B : Nat} {A : Option Addr} {c : Nat} (l : List Nat) (hr : Reads w B A (u8s l)) : (convert 25 9 (.slice A l.length c)).run Try.prog w = .ok (.string (strOf l)) w := by
  rcases A with _ | ad
  · have hl : l = [] := by
      cases l with
      | nil => rfl
      | cons x l => obtain ⟨b, off, h, _⟩ := hr 0 (by simp [u8s]); cases h
    subst hl
    exact Lib.run_convert_nil_bytes w 25 9 5 c Try.underlying25 Try.underlying5 Try.underlying9
  · cases l with
    | nil =>
      rw [run_convert_bytes_string w 25 9 5 _ _ c Try.underlying25 Try.underlying5 Try.underlying9, run_bytesToString w _ _ c [] (by simpa using run_loadCells_list (P := Try.prog) w ad [] (by simp))]
      rfl
    | cons x l =>
      obtain ⟨b, off, h, _⟩ := hr 0 (by simp [u8s])
      injection h with h
      subst h
      have hl : ((x :: l).map fun x : Nat => (x : Int)).length = (x :: l).length := by simp
      refine run_convert_bytes_arg w 25 5 Try.underlying25 Try.underlying5 b off _ c _ hl (fun i hi => ?_) 9 Try.underlying9
      obtain ⟨b', off', h', _, hc⟩ := hr i (by simpa [u8s] using hi)
      injection h' with h'
      injection h' with h1 h2
      subst h1; subst h2
      have e : ((x :: l).map fun x : Nat => (x : Int)).getD i 0 = (((x :: l)[i] : Nat) : Int) := by
        rw [List.getD, List.getElem?_map, List.getElem?_eq_getElem hi]; rfl
      rw [hc, u8_at, e]
theorem op_conv {o : Oper} {a : Act} {w : World} {Q : Exit → Act → World → Prop} {p : Value → World → Prop} {x : Operand} {l : List Nat} (ho : o.op = .convert 25 9 x) (hx : ReadsAs l.length (u8s l) (a.eval x) w) (hp : p (.string (strOf l)) w) : Does Try.prog p o a w Q := by
  obtain ⟨A, c, hx, hr⟩ := hx
  refine op_value ?_ hp
  simp [execOp, ho, hx, conv_str w l hr]
end Go.Proofs.Ytoknhmilhljadaa

/- A statement whose order is open, operation by operation; behind it the frame reads as if the operations had come in the text's order. No condition but those typed. -/
import Derived.Test.YtohmkhmanidljaaDoorAny
import Derived.Test.YtohmkhmanidljaaDoorFdHeld
namespace Go.Proofs.YtohmkhmanidljaaDoor
set_option maxRecDepth 50000
open Go.RowKit

def Is (v : Value) : Value → World → Prop := fun x _ => x = v
def Free : Value → World → Prop := fun _ _ => True
/-- a row of bytes of one's own -/
def Owns (l : List UInt8) : Value → World → Prop := fun x w => ∃ B n, w.ownsRow B 5 1 x n (cs l)
def Stable (p : Value → World → Prop) : Prop := ∀ v w w', p v w → Below w.heap.size w w' → p v w'
theorem stable_is (v : Value) : Stable (Is v) := fun _ _ _ h _ => h
theorem stable_free : Stable Free := fun _ _ _ _ _ => trivial
theorem stable_owns (l : List UInt8) : Stable (Owns l) := fun _ _ _ ⟨B, n, h⟩ hb => ⟨B, n, own_kept h (Kept.of_below (M := fun _ => False) hb) fun _ _ => id⟩
def Ds (l : List (Value → World → Prop)) (i : Nat) : Value → World → Prop := l.getD i Free
def AllStable : List (Value → World → Prop) → Prop
  | [] => True
  | p :: l => Stable p ∧ AllStable l
theorem all_stable : ∀ {l : List (Value → World → Prop)}, AllStable l → ∀ p ∈ l, Stable p
  | _ :: _, ⟨h, h2⟩, p, hp => by
    rcases List.mem_cons.1 hp with rfl | hp
    · exact h
    · exact all_stable h2 p hp
theorem stable_ds (l : List (Value → World → Prop)) (h : ∀ p ∈ l, Stable p) : ∀ i v w w', Ds l i v w → Below w.heap.size w w' → Ds l i v w' := by
  intro i v w w' hd hb
  unfold Ds List.getD at *
  cases hi : l[i]? with
  | none => trivial
  | some p => rw [hi] at hd; exact h p (List.mem_of_getElem? hi) v w w' hd hb

/-- all operations of a list, from number k on -/
def AllFrom (R : Nat → Oper → Prop) : Nat → List Oper → Prop
  | _, [] => True
  | k, o :: l => R k o ∧ AllFrom R (k + 1) l
theorem all_from {R : Nat → Oper → Prop} : ∀ (l : List Oper) (k : Nat), AllFrom R k l → ∀ i o, l[i]? = some o → R (k + i) o
  | [], _, _, i, o, hi => by simp at hi
  | x :: l, k, h, 0, o, hi => by simp at hi; subst hi; exact h.1
  | x :: l, k, h, i + 1, o, hi => by
    have := all_from l (k + 1) h.2 i o (by simpa using hi)
    rwa [show k + (i + 1) = k + 1 + i from by omega]

/-- the frame, as if the operations had come one behind the other -/
def putAll (g : Option Tmp → Value) : List Oper → Act → Act
  | [], a => a
  | o :: l, a => putAll g l (a.put o.dst (g o.dst))
def setAt (m : Array Value) : Option Tmp → Value → Array Value
  | some d, v => m.setIfInBounds d v
  | none, _ => m
def Fin (K : Act → World → Prop) (w : World) (df : List Deferred) : List Oper → List (Value → World → Prop) → Array Value → Prop
  | o :: ops, p :: ds, m => ∀ v, p v w → Fin K w df ops ds (setAt m o.dst v)
  | _, _, m => K ⟨m, df⟩ w
theorem set_at_put (a : Act) (d : Option Tmp) (v : Value) : (a.put d v).tmps = setAt a.tmps d v ∧ (a.put d v).defers = a.defers := by cases d <;> exact ⟨rfl, rfl⟩
theorem fin_all {K : Act → World → Prop} {w : World} (g : Option Tmp → Value) : ∀ (ops : List Oper) (ds : List (Value → World → Prop)) (a : Act), ds.length = ops.length → (∀ i o, ops[i]? = some o → Ds ds i (g o.dst) w) → Fin K w a.defers ops ds a.tmps → K (putAll g ops a) w
  | [], [], _, _, _, h => h
  | [], _ :: _, _, hl, _, _ => by simp at hl
  | o :: ops, [], _, hl, _, _ => by simp at hl
  | o :: ops, p :: ds, a, hl, hd, h => by
    have h2 := h _ (hd 0 o rfl)
    obtain ⟨e1, e2⟩ := set_at_put a o.dst (g o.dst)
    rw [← e1, ← e2] at h2
    exact fin_all g ops ds _ (by simpa using hl) (fun i o' hi => hd (i + 1) o' (by simpa using hi)) h2
theorem put_all_size (g : Option Tmp → Value) : ∀ (ops : List Oper) (a : Act), (putAll g ops a).tmps.size = a.tmps.size ∧ (putAll g ops a).defers = a.defers
  | [], _ => ⟨rfl, rfl⟩
  | o :: ops, a => by
    obtain ⟨h1, h2⟩ := put_all_size g ops (a.put o.dst (g o.dst))
    unfold putAll
    rw [h1, h2]
    cases o.dst <;> simp [Act.put]
theorem put_all_at (g : Option Tmp → Value) (t : Tmp) : ∀ (ops : List Oper) (a : Act), (putAll g ops a).tmps.getD t undef = if (∃ o ∈ ops, o.dst = some t) ∧ t < a.tmps.size then g (some t) else a.tmps.getD t undef
  | [], a => by simp [putAll]
  | o :: ops, a => by
    unfold putAll
    rw [put_all_at g t ops]
    have hs : (a.put o.dst (g o.dst)).tmps.size = a.tmps.size := by cases o.dst <;> simp [Act.put]
    rw [hs]
    by_cases ht : t < a.tmps.size
    · by_cases h1 : ∃ o' ∈ ops, o'.dst = some t
      · rw [if_pos ⟨h1, ht⟩, if_pos ⟨by obtain ⟨o', h, e⟩ := h1; exact ⟨o', by simp [h], e⟩, ht⟩]
      · rw [if_neg (fun h => h1 h.1)]
        by_cases h2 : o.dst = some t
        · rw [if_pos ⟨⟨o, by simp, h2⟩, ht⟩, h2, getD_put, if_pos ⟨rfl, ht⟩]
        · rw [if_neg (by rintro ⟨⟨o', h, e⟩, _⟩; rcases List.mem_cons.1 h with rfl | h; exact h2 e; exact h1 ⟨o', h, e⟩)]
          cases hd : o.dst with
          | none => rfl
          | some d => rw [getD_put, if_neg (by rintro ⟨rfl, _⟩; exact h2 hd)]
    · rw [if_neg (fun h => ht h.2), if_neg (fun h => ht h.2)]
      have e1 : ∀ b : Act, b.tmps.size = a.tmps.size → b.tmps.getD t undef = undef := fun b hb => by
        have : b.tmps.size ≤ t := by rw [hb]; exact Nat.le_of_not_lt ht
        rw [Array.getD_eq_getD_getElem?, Array.getElem?_eq_none this]; rfl
      rw [e1 _ hs, e1 a rfl]
theorem act_ext {a b : Act} (h1 : a.tmps.size = b.tmps.size) (h2 : a.defers = b.defers) (h3 : ∀ t, a.tmps.getD t undef = b.tmps.getD t undef) : a = b := by
  obtain ⟨m, d⟩ := a
  obtain ⟨m', d'⟩ := b
  simp only at h1 h2 h3
  subst h2
  congr 1
  refine Array.ext h1 fun i hi hi' => ?_
  have := h3 i
  simpa [Array.getD_eq_getD_getElem?, Array.getElem?_eq_getElem hi, Array.getElem?_eq_getElem hi'] using this

section
variable {P : Program} {ops : List Oper} {D : Nat → Value → World → Prop} {a0 : Act} {w0 : World} {o : Oper} {a : Act} {w : World} {Q : Exit → Act → World → Prop}
theorem Ctx.on (C : Ctx ops D a0 w0 o a w) {j : Nat} {o' : Oper} {d : Tmp} (h : o.after.toList.any (fun e => Region.binds .any e && e.on == j) = true) (hj : ops[j]? = some o') (hd : o'.dst = some d) : D j (a.tmps.getD d undef) w := by
  obtain ⟨e, he, h2⟩ := List.any_eq_true.1 h
  simp only [Bool.and_eq_true, beq_iff_eq] at h2
  obtain ⟨hb, rfl⟩ := h2
  exact C.dep e (by simpa using he) hb o' d hj hd
theorem Ctx.was (C : Ctx ops D a0 w0 o a w) (t : Tmp) (h : (ops.all fun o' => o'.dst != some t) = true) : a.tmps.getD t undef = a0.tmps.getD t undef :=
  C.old t fun o' ho e => by have := List.all_eq_true.1 h o' ho; rw [e] at this; simp at this
theorem Ctx.was_as (C : Ctx ops D a0 w0 o a w) (t : Tmp) (h : (ops.all fun o' => o'.dst != some t) = true) {p : Value → World → Prop} (hs : Stable p) (hp : p (a0.tmps.getD t undef) w0) : p (a.tmps.getD t undef) w := by
  rw [C.was t h]; exact hs _ _ _ hp C.below
theorem wanted_free (hg : o.guard = none) (y : Nat → Option Bool) : Region.wanted o y = true := by simp [Region.wanted, hg]
theorem wanted_on {j : Nat} {b : Bool} {o' : Oper} {d : Tmp} (hg : o.guard = some (j, b)) (hj : ops[j]? = some o') (hd : o'.dst = some d) (h : a.tmps.getD d undef = .bool b) : Region.wanted o (yielded ops.toArray a.tmps) = true := by
  have h2 : a.tmps[d]? = some (.bool b) := by
    rw [Array.getD_eq_getD_getElem?] at h
    cases hc : a.tmps[d]? with
    | none => rw [hc] at h; cases h
    | some v => rw [hc] at h; simp only [Option.getD_some] at h; rw [h]
  simp [Region.wanted, hg, yielded, hj, hd, h2]
theorem wanted_off {j : Nat} {b : Bool} {o' : Oper} {d : Tmp} (hg : o.guard = some (j, b)) (hj : ops[j]? = some o') (hd : o'.dst = some d) (h : a.tmps.getD d undef = .bool (!b)) : Region.wanted o (yielded ops.toArray a.tmps) = false := by
  have h2 : a.tmps[d]? = some (.bool (!b)) := by
    rw [Array.getD_eq_getD_getElem?] at h
    cases hc : a.tmps[d]? with
    | none => rw [hc] at h; cases h
    | some v => rw [hc] at h; simp only [Option.getD_some] at h; rw [h]
  simp [Region.wanted, hg, yielded, hj, hd, h2]

def Does (P : Program) (p : Value → World → Prop) (o : Oper) (a : Act) (w : World) (Q : Exit → Act → World → Prop) : Prop := o.wp P a w (fun a' w' => ∃ v, a' = a.put o.dst v ∧ p v w' ∧ Below w.heap.size w w') Q
/-- one operation's part of the region -/
def Part (P : Program) (ops : List Oper) (ds : List (Value → World → Prop)) (a0 : Act) (w0 : World) (Q : Exit → Act → World → Prop) (i : Nat) (o : Oper) : Prop :=
  ∀ a w, Ctx ops (Ds ds) a0 w0 o a w → if Region.wanted o (yielded ops.toArray a.tmps) = true then Does P (Ds ds i) o a w Q else Ds ds i undef w

/-- THE REGION: whatever the order, it is enough to look at each operation by what it waits for, and to go on as if they had come in the text's order -/
theorem wp_region_text {id : Nat} (ds : List (Value → World → Prop)) (hm : P.follows .mixedOrders = true) (hok : okOps ops a0.tmps.size = true) (hlen : ds.length = ops.length) (hst : AllStable ds)
    (hop : AllFrom (Part P ops ds a0 w0 Q) 0 ops)
    (hfin : ∀ w, Below w0.heap.size w0 w → Fin (Q .normal) w a0.defers ops ds a0.tmps) : (Code.region id ops.toArray true).wp P Q a0 w0 := by
  refine wp_region_each (Ds ds) hm hok (stable_ds ds (all_stable hst)) (fun i o ho => by have := all_from ops 0 hop i o ho; rwa [Nat.zero_add] at this) fun a w hb hsz hdf hold hdone => ?_
  have hd1 : ∀ i o, ops[i]? = some o → Ds ds i ((fun d : Option Tmp => match d with | some t => a.tmps.getD t undef | none => undef) o.dst) w := fun i o hi => by
    obtain ⟨d, hd, _⟩ := (okOps_spec hok).1 o (List.mem_of_getElem? hi)
    rw [hd]
    exact hdone i o d hi hd
  have e : a = putAll (fun d : Option Tmp => match d with | some t => a.tmps.getD t undef | none => undef) ops a0 := by
    obtain ⟨e1, e2⟩ := put_all_size (fun d : Option Tmp => match d with | some t => a.tmps.getD t undef | none => undef) ops a0
    refine act_ext (by rw [e1, hsz]) (by rw [e2, hdf]) fun t => ?_
    rw [put_all_at]
    by_cases h : (∃ o ∈ ops, o.dst = some t) ∧ t < a0.tmps.size
    · rw [if_pos h]
    · rw [if_neg h]
      by_cases ht : t < a0.tmps.size
      · exact hold t fun o' ho e => h ⟨⟨o', ho, e⟩, ht⟩
      · rw [Array.getD_eq_getD_getElem?, Array.getD_eq_getD_getElem?, Array.getElem?_eq_none (by omega), Array.getElem?_eq_none (by omega)]
  rw [e]
  exact fin_all _ ops ds a0 hlen hd1 (hfin w hb)

variable {p : Value → World → Prop} {ds : List (Value → World → Prop)} {i : Nat}
theorem part_on (hw : Region.wanted o (yielded ops.toArray a.tmps) = true) (h : Does P (Ds ds i) o a w Q) : if Region.wanted o (yielded ops.toArray a.tmps) = true then Does P (Ds ds i) o a w Q else Ds ds i undef w := by
  rw [if_pos hw]; exact h
theorem part_off (hw : Region.wanted o (yielded ops.toArray a.tmps) = false) (h : Ds ds i undef w) : if Region.wanted o (yielded ops.toArray a.tmps) = true then Does P (Ds ds i) o a w Q else Ds ds i undef w := by
  rw [if_neg (by rw [hw]; decide)]; exact h
theorem op_value {v : Value} (h : (execOp a.eval o).run P w = .ok (.value v) w) (hp : p v w) : Does P p o a w Q := by
  unfold Does Oper.wp
  rw [h]
  exact ⟨v, rfl, hp, Below.refl _ _⟩
theorem op_move {x : Operand} (ho : o.op = .move x ∨ o.op = .assign x) (hp : p (a.eval x) w) : Does P p o a w Q := by
  refine op_value ?_ hp
  rcases ho with ho | ho <;> simp [execOp, ho]
theorem op_pick {c x y : Operand} {k : Bool} (ho : o.op = .pick c x y) (hc : a.eval c = .bool k) (hp : p (if k then a.eval x else a.eval y) w) : Does P p o a w Q := by
  refine op_value ?_ hp
  simp [execOp, ho, hc, asBool]
theorem op_enter {f : FuncId} {args : Array Value} (h : (execOp a.eval o).run P w = .ok (.enter f args) w) (hc : Calls P f args w fun e w' => ∃ v, e = .returned v ∧ p v w' ∧ Below w.heap.size w w') : Does P p o a w Q := by
  unfold Does Oper.wp
  rw [h]
  refine hc.mono ?_
  rintro e w' ⟨v, rfl, h1, h2⟩
  exact ⟨v, rfl, h1, h2⟩
theorem reg_enters {f : FuncId} {fn : Func} (hf : P.funcs[f]? = some fn) (hname : (fn.name == "runtime.NumGoroutine") = false) (hb : fn.body.isNone = false) (args : Array Value) (w : World) :
    (callFunc f args).run P w = .ok (.enter f args) w := by
  simp only [beq_eq_false_iff_ne, ne_eq] at hname
  have hb' : ¬ fn.body = none := fun h => by rw [h] at hb; cases hb
  simp [callFunc, hf, hname, hb']
theorem op_call {f : FuncId} {xs : Array Operand} {ts : Array TypeId} (ho : o.op = .call { callee := .value (.func f), args := xs, argTypes := ts }) (he : ∀ (args : Array Value) (w : World), (callFunc f args).run P w = .ok (.enter f args) w)
    (hc : Calls P f (xs.toList.map a.eval).toArray w fun e w' => ∃ v, e = .returned v ∧ p v w' ∧ Below w.heap.size w w') : Does P p o a w Q := by
  have hx : (xs.toList.map a.eval).toArray = xs.map a.eval := by rw [← Array.toList_map, Array.toArray_toList]
  rw [hx] at hc
  refine op_enter ?_ hc
  simp [execOp, ho, resolve, Deferred.ofValue, Act.eval, invoke, he]
/-- a call of one argument -/
theorem op_call1 {f : FuncId} {x : Operand} {ts : Array TypeId} {v1 : Value} (ho : o.op = .call { callee := .value (.func f), args := #[x], argTypes := ts }) (he : ∀ (args : Array Value) (w : World), (callFunc f args).run P w = .ok (.enter f args) w)
    (hx : a.eval x = v1) (hc : Calls P f #[v1] w fun e w' => ∃ v, e = .returned v ∧ p v w' ∧ Below w.heap.size w w') : Does P p o a w Q := by
  subst hx
  exact op_call ho he hc
theorem op_call2 {f : FuncId} {x y : Operand} {ts : Array TypeId} {v1 v2 : Value} (ho : o.op = .call { callee := .value (.func f), args := #[x, y], argTypes := ts }) (he : ∀ (args : Array Value) (w : World), (callFunc f args).run P w = .ok (.enter f args) w)
    (hx : a.eval x = v1) (hy : a.eval y = v2) (hc : Calls P f #[v1, v2] w fun e w' => ∃ v, e = .returned v ∧ p v w' ∧ Below w.heap.size w w') : Does P p o a w Q := by
  subst hx; subst hy
  exact op_call ho he hc
theorem op_bin {b : BinOp} {t ty : TypeId} {x y : Operand} {v1 v2 v : Value} (ho : o.op = .binOp b t x y ty) (hx : a.eval x = v1) (hy : a.eval y = v2) (hq : eqGuard b t x y v1 v2 = pure ()) (hr : (binOp b t v1 v2).run P w = .ok v w) (hp : p v w) : Does P p o a w Q := by
  subst hx; subst hy
  refine op_value ?_ hp
  simp only [execOp, ho, hq]
  simp [hr]
theorem op_conv {s t : TypeId} {x : Operand} {v1 v : Value} (ho : o.op = .convert s t x) (hx : a.eval x = v1) (hr : (convert s t v1).run P w = .ok v w) (hp : p v w) : Does P p o a w Q := by
  subst hx
  refine op_value ?_ hp
  simp only [execOp, ho]
  rw [Sem.run_bind, hr]
  rfl
theorem op_len_slice {x : Operand} {t e : TypeId} {A : Option Addr} {n c : Nat} (ho : o.op = .call { callee := .builtin .len, args := #[x], argTypes := #[t] }) (ht : P.underlying t = some (.slice e)) (hx : a.eval x = .slice A n c) (hp : p (.int .i64 (n : Int)) w) : Does P p o a w Q := by
  refine op_value ?_ hp
  simp only [execOp, ho]
  simp [resolve, invoke, builtin, hx, Builtin.len_, run_underlying ht, goInt]
theorem op_len_text {x : Operand} {t : TypeId} {s : ByteArray} (ho : o.op = .call { callee := .builtin .len, args := #[x], argTypes := #[t] }) (ht : P.underlying t = some .string) (hx : a.eval x = .string s) (hp : p (.int .i64 (s.size : Int)) w) : Does P p o a w Q := by
  refine op_value ?_ hp
  simp only [execOp, ho]
  simp [resolve, invoke, builtin, hx, Builtin.len_, run_underlying ht, goInt]
end
end Go.Proofs.YtohmkhmanidljaaDoor

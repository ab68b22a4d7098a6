/- General texts: regions whose order is open, joined texts and lists. Conditions: those typed. -/
import Derived.Below
import Derived.Orders
import Derived.WalkKit
import Derived.Test.YtfoodaobiknihaaGreatDoorKi
namespace Go.Proofs.YtfoodaobiknihaaGreatDoor
set_option maxRecDepth 50000
open Go.RowKit
def okOps (ops : List Oper) (n : Nat) : Bool :=
  ops.all (fun o => match o.dst with | some d => decide (d < n) | none => false) && decide (ops.map (·.dst)).Nodup &&
  (List.range ops.length).all fun i => match ops[i]? with | some o => o.after.all fun e => !Region.binds .any e || decide (e.on < i) | none => true
structure Ctx (ops : List Oper) (D : Nat → Value → World → Prop) (a0 : Act) (w0 : World) (o : Oper) (a : Act) (w : World) : Prop where
  below : Below w0.heap.size w0 w
  old : ∀ t, (∀ o' ∈ ops, o'.dst ≠ some t) → a.tmps.getD t undef = a0.tmps.getD t undef
  dep : ∀ e ∈ o.after, Region.binds .any e = true → ∀ o' d, ops[e.on]? = some o' → o'.dst = some d → D e.on (a.tmps.getD d undef) w
structure RInv (ops : List Oper) (D : Nat → Value → World → Prop) (a0 : Act) (w0 : World) (listed : Array Bool) (a : Act) (w : World) : Prop where
  below : Below w0.heap.size w0 w
  size : a.tmps.size = a0.tmps.size
  defers : a.defers = a0.defers
  old : ∀ t, (∀ o' ∈ ops, o'.dst ≠ some t) → a.tmps.getD t undef = a0.tmps.getD t undef
  done : ∀ i o d, ops[i]? = some o → listed.getD i false = true → o.dst = some d → D i (a.tmps.getD d undef) w
  lsize : listed.size = ops.length
theorem getD_put (a : Act) (d t : Tmp) (v : Value) : (a.put (some d) v).tmps.getD t undef = if t = d ∧ d < a.tmps.size then v else a.tmps.getD t undef := by
  simp only [Act.put, Array.getD_eq_getD_getElem?, Array.getElem?_setIfInBounds]
  by_cases h : d = t
  · subst h
    by_cases h2 : d < a.tmps.size
    · simp [h2]
    · simp [h2]
  · simp [h, show ¬ t = d from fun e => h e.symm]
theorem okOps_spec {ops : List Oper} {n : Nat} (h : okOps ops n = true) :
    (∀ o ∈ ops, ∃ d, o.dst = some d ∧ d < n) ∧ (ops.map (·.dst)).Nodup ∧ (∀ i o, ops[i]? = some o → ∀ e ∈ o.after, Region.binds .any e = true → e.on < i) := by
  simp only [okOps, Bool.and_eq_true, decide_eq_true_eq, List.all_eq_true] at h
  obtain ⟨⟨h1, h2⟩, h3⟩ := h
  refine ⟨fun o ho => ?_, h2, fun i o hi e he hb => ?_⟩
  · have := h1 o ho
    cases hd : o.dst with
    | none => rw [hd] at this; cases this
    | some d => rw [hd] at this; exact ⟨d, rfl, by simpa using this⟩
  · have hlt : i < ops.length := (List.getElem?_eq_some_iff.1 hi).1
    have := h3 i (List.mem_range.2 hlt)
    rw [hi] at this
    have := (Array.all_eq_true'.1 this) e he
    simp only [Bool.or_eq_true, Bool.not_eq_true', decide_eq_true_eq] at this
    rcases this with h | h
    · rw [hb] at h; cases h
    · exact h
theorem dst_inj {ops : List Oper} (hn : (ops.map (·.dst)).Nodup) {i j : Nat} {o o' : Oper} (hi : ops[i]? = some o) (hj : ops[j]? = some o') (hd : o.dst = o'.dst) : i = j := by
  have hli : i < (ops.map (·.dst)).length := by simpa using (List.getElem?_eq_some_iff.1 hi).1
  have hlj : j < (ops.map (·.dst)).length := by simpa using (List.getElem?_eq_some_iff.1 hj).1
  refine (List.getElem_inj (h₀ := hli) (h₁ := hlj) hn).1 ?_
  simp only [List.getElem_map]
  rw [(List.getElem?_eq_some_iff.1 hi).2, (List.getElem?_eq_some_iff.1 hj).2, hd]
section
variable {P : Program} {ops : List Oper} {Q : Exit → Act → World → Prop} {a0 : Act} {w0 : World} {D : Nat → Value → World → Prop}
theorem rinv_step (hok : okOps ops a0.tmps.size = true) (hst : ∀ i v w w', D i v w → Below w.heap.size w w' → D i v w') {listed : Array Bool} {a : Act} {w w' : World} {i : Nat} {o : Oper} {v : Value}
    (inv : RInv ops D a0 w0 listed a w) (hi : ops[i]? = some o) (hv : D i v w') (hb : Below w.heap.size w w') : RInv ops D a0 w0 (listed.setIfInBounds i true) (a.put o.dst v) w' := by
  obtain ⟨h1, h2, _⟩ := okOps_spec hok
  obtain ⟨d, hd, hdn⟩ := h1 o (List.mem_of_getElem? hi)
  rw [hd]
  refine ⟨inv.below.trans (hb.mono inv.below.size), by simp [Act.put, inv.size], inv.defers, fun t ht => ?_, fun j o' d' hj hl hd' => ?_, by simp [inv.lsize]⟩
  · rw [getD_put, if_neg (fun h => ht o (List.mem_of_getElem? hi) (by rw [hd, h.1]))]
    exact inv.old t ht
  · rw [getD_put]
    by_cases hij : i = j
    · subst hij
      rw [hi] at hj
      injection hj with hj
      subst hj
      rw [hd] at hd'
      injection hd' with hd'
      subst hd'
      rw [if_pos ⟨rfl, by rw [inv.size]; exact hdn⟩]
      exact hv
    · rw [if_neg (fun h => hij (dst_inj h2 hi hj (by rw [hd, hd', h.1])))]
      refine hst _ _ _ _ (inv.done j o' d' hj ?_ hd') hb
      simpa [Array.getD_eq_getD_getElem?, Array.getElem?_setIfInBounds, hij] using hl
theorem all_listed (hok : okOps ops a0.tmps.size = true) {listed : Array Bool} (hs : listed.size = ops.length) (hr : Region.ready .any ops.toArray listed = []) : ∀ i, i < ops.length → listed.getD i false = true := by
  intro i
  induction i using Nat.strongRecOn with
  | ind i ih =>
    intro hi
    cases hc : listed.getD i false with
    | true => rfl
    | false =>
      exfalso
      have hne : i ∈ Region.ready .any ops.toArray listed := by
        have hli : i < listed.size := by omega
        have e2 : listed.getD i true = false := by
          simpa [Array.getD_eq_getD_getElem?, Array.getElem?_eq_getElem hli] using hc
        simp only [Region.ready, List.mem_filter, List.mem_range, Bool.and_eq_true, Bool.not_eq_true', e2, true_and, List.size_toArray, hi, List.getElem?_toArray, List.getElem?_eq_getElem hi, Option.map_some, Option.getD_some]
        rw [Array.all_eq_true']
        intro e he
        cases hb : Region.binds .any e with
        | false => rfl
        | true =>
          have hlt := (okOps_spec hok).2.2 i _ (List.getElem?_eq_getElem hi) e he hb
          simp only [Bool.not_true, Bool.false_or]
          exact ih e.on hlt (by omega)
      rw [hr] at hne
      cases hne
theorem count_step {listed : Array Bool} {i : Nat} (hi : i < listed.size) (h : listed.getD i true = false) {n : Nat} (hc : listed.toList.count false = n + 1) : (listed.setIfInBounds i true).toList.count false = n := by
  have hf : listed.toList[i]'(by simpa using hi) = false := by
    simpa [Array.getD_eq_getD_getElem?, Array.getElem?_eq_getElem hi] using h
  rw [Array.toList_setIfInBounds, List.count_set (by simpa using hi), hf, hc]
  simp
theorem region_any (hok : okOps ops a0.tmps.size = true) (hst : ∀ i v w w', D i v w → Below w.heap.size w w' → D i v w')
    (hop : ∀ i o, ops[i]? = some o → ∀ a w, Ctx ops D a0 w0 o a w → if Region.wanted o (yielded ops.toArray a.tmps) = true then o.wp P a w (fun a' w' => ∃ v, a' = a.put o.dst v ∧ D i v w' ∧ Below w.heap.size w w') Q else D i undef w)
    (hfin : ∀ a w, Below w0.heap.size w0 w → a.tmps.size = a0.tmps.size → a.defers = a0.defers → (∀ t, (∀ o' ∈ ops, o'.dst ≠ some t) → a.tmps.getD t undef = a0.tmps.getD t undef) →
      (∀ i o d, ops[i]? = some o → o.dst = some d → D i (a.tmps.getD d undef) w) → Q .normal a w) :
    ∀ (fuel : Nat) (listed : Array Bool) (a : Act) (w : World), listed.toList.count false = fuel → RInv ops D a0 w0 listed a w → wpAny P .any ops.toArray Q fuel listed a w := by
  have hend : ∀ (listed : Array Bool) (a : Act) (w : World), RInv ops D a0 w0 listed a w → Region.ready .any ops.toArray listed = [] → Q .normal a w := fun listed a w inv hr =>
    hfin a w inv.below inv.size inv.defers inv.old fun i o d hi hd => inv.done i o d hi (all_listed hok inv.lsize hr i (List.getElem?_eq_some_iff.1 hi).1) hd
  intro fuel
  induction fuel with
  | zero =>
    intro listed a w hc inv
    have hr : Region.ready .any ops.toArray listed = [] := by
      rw [List.eq_nil_iff_forall_not_mem]
      intro i hi
      simp only [Region.ready, List.mem_filter, List.mem_range, Bool.and_eq_true, Bool.not_eq_true'] at hi
      have hli : i < listed.size := by rw [inv.lsize]; simpa using hi.1
      have : false ∈ listed.toList := by
        have h2 : listed[i] = false := by simpa [Array.getD_eq_getD_getElem?, Array.getElem?_eq_getElem hli] using hi.2.1
        rw [← h2]; exact Array.getElem_mem_toList hli
      exact absurd (List.count_pos_iff.2 this) (by omega)
    exact ⟨hr, hend listed a w inv hr⟩
  | succ fuel ih =>
    intro listed a w hc inv
    refine ⟨hend listed a w inv, fun i hi => ?_⟩
    have hi' := hi
    simp only [Region.ready, List.mem_filter, List.mem_range, Bool.and_eq_true, Bool.not_eq_true', List.size_toArray] at hi'
    obtain ⟨hlt, hun, hdep⟩ := hi'
    have hli : i < listed.size := by rw [inv.lsize]; exact hlt
    have ho : ops[i]? = some ops[i] := List.getElem?_eq_getElem hlt
    have hc' := count_step hli hun hc
    have hdeps : ∀ e ∈ (ops[i]).after, Region.binds .any e = true → listed.getD e.on false = true := by
      intro e he hb
      simp only [List.getElem?_toArray, ho, Option.map_some, Option.getD_some] at hdep
      have := (Array.all_eq_true'.1 hdep) e he
      simpa [hb] using this
    have H := hop i ops[i] ho a w ⟨inv.below, inv.old, fun e he hb o' d hj hd => inv.done e.on o' d hj (hdeps e he hb) hd⟩
    unfold wpOp
    rw [List.getElem?_toArray, ho]
    show if Region.wanted ops[i] (yielded ops.toArray a.tmps) = true then _ else _
    by_cases hw : Region.wanted ops[i] (yielded ops.toArray a.tmps) = true
    · rw [if_pos hw] at H ⊢
      refine .inl (Oper.wp_mono ?_ H)
      rintro a' w' ⟨v, rfl, hv, hb⟩
      exact ih _ _ _ hc' (rinv_step hok hst inv ho hv hb)
    · rw [if_neg hw] at H ⊢
      exact ih _ _ _ hc' (rinv_step hok hst inv ho H (Below.refl _ _))
theorem wp_region_each {id : Nat} (D : Nat → Value → World → Prop) (hm : P.follows .mixedOrders = true) (hok : okOps ops a0.tmps.size = true) (hst : ∀ i v w w', D i v w → Below w.heap.size w w' → D i v w')
    (hop : ∀ i o, ops[i]? = some o → ∀ a w, Ctx ops D a0 w0 o a w → if Region.wanted o (yielded ops.toArray a.tmps) = true then o.wp P a w (fun a' w' => ∃ v, a' = a.put o.dst v ∧ D i v w' ∧ Below w.heap.size w w') Q else D i undef w)
    (hfin : ∀ a w, Below w0.heap.size w0 w → a.tmps.size = a0.tmps.size → a.defers = a0.defers → (∀ t, (∀ o' ∈ ops, o'.dst ≠ some t) → a.tmps.getD t undef = a0.tmps.getD t undef) →
      (∀ i o d, ops[i]? = some o → o.dst = some d → D i (a.tmps.getD d undef) w) → Q .normal a w) : (Code.region id ops.toArray true).wp P Q a0 w0 := by
  refine wp_region_any hm (region_any hok hst hop hfin _ _ _ _ ?_ ⟨(Below.refl _ _).drew, rfl, rfl, fun _ _ => rfl, fun i o d _ hl _ => ?_, by simp⟩)
  · simp
  · simp [Array.getD_eq_getD_getElem?, Array.getElem?_replicate] at hl
    split at hl <;> simp_all
end
open Go.RowKit
def Is (v : Value) : Value → World → Prop := fun x _ => x = v
def Free : Value → World → Prop := fun _ _ => True
def Owns (l : List UInt8) : Value → World → Prop := fun x w => ∃ B n, w.ownsRow B 5 1 x n (cs l)
def Stable (p : Value → World → Prop) : Prop := ∀ v w w', p v w → Below w.heap.size w w' → p v w'
theorem stable_is (v : Value) : Stable (Is v) := fun _ _ _ h _ => h
theorem stable_free : Stable Free := fun _ _ _ _ _ => trivial
theorem stable_owns (l : List UInt8) : Stable (Owns l) := fun _ _ _ ⟨B, n, h⟩ hb => ⟨B, n, own_kept h (Kept.of_below (M := fun _ => False) hb) fun _ _ => id⟩
def Ds (l : List (Value → World → Prop)) (i : Nat) : Value → World → Prop := l.getD i Free
def AllStable : List (Value → World → Prop) → Prop
  | [] => True
  | p :: l => Stable p ∧ AllStable l
theorem all_stable : ∀ {l : List (Value → World → Prop)}, AllStable l → ∀ p ∈ l, Stable p
  | _ :: _, ⟨h, h2⟩, p, hp => by
    rcases List.mem_cons.1 hp with rfl | hp
    · exact h
    · exact all_stable h2 p hp
theorem stable_ds (l : List (Value → World → Prop)) (h : ∀ p ∈ l, Stable p) : ∀ i v w w', Ds l i v w → Below w.heap.size w w' → Ds l i v w' := by
  intro i v w w' hd hb
  unfold Ds List.getD at *
  cases hi : l[i]? with
  | none => trivial
  | some p => rw [hi] at hd; exact h p (List.mem_of_getElem? hi) v w w' hd hb
def AllFrom (R : Nat → Oper → Prop) : Nat → List Oper → Prop
  | _, [] => True
  | k, o :: l => R k o ∧ AllFrom R (k + 1) l
theorem all_from {R : Nat → Oper → Prop} : ∀ (l : List Oper) (k : Nat), AllFrom R k l → ∀ i o, l[i]? = some o → R (k + i) o
  | [], _, _, i, o, hi => by simp at hi
  | x :: l, k, h, 0, o, hi => by simp at hi; subst hi; exact h.1
  | x :: l, k, h, i + 1, o, hi => by
    have := all_from l (k + 1) h.2 i o (by simpa using hi)
    rwa [show k + (i + 1) = k + 1 + i from by omega]
def putAll (g : Option Tmp → Value) : List Oper → Act → Act
  | [], a => a
  | o :: l, a => putAll g l (a.put o.dst (g o.dst))
def setAt (m : Array Value) : Option Tmp → Value → Array Value
  | some d, v => m.setIfInBounds d v
  | none, _ => m
def Fin (K : Act → World → Prop) (w : World) (df : List Deferred) : List Oper → List (Value → World → Prop) → Array Value → Prop
  | o :: ops, p :: ds, m => ∀ v, p v w → Fin K w df ops ds (setAt m o.dst v)
  | _, _, m => K ⟨m, df⟩ w
theorem set_at_put (a : Act) (d : Option Tmp) (v : Value) : (a.put d v).tmps = setAt a.tmps d v ∧ (a.put d v).defers = a.defers := by cases d <;> exact ⟨rfl, rfl⟩
theorem fin_all {K : Act → World → Prop} {w : World} (g : Option Tmp → Value) : ∀ (ops : List Oper) (ds : List (Value → World → Prop)) (a : Act), ds.length = ops.length → (∀ i o, ops[i]? = some o → Ds ds i (g o.dst) w) → Fin K w a.defers ops ds a.tmps → K (putAll g ops a) w
  | [], [], _, _, _, h => h
  | [], _ :: _, _, hl, _, _ => by simp at hl
  | o :: ops, [], _, hl, _, _ => by simp at hl
  | o :: ops, p :: ds, a, hl, hd, h => by
    have h2 := h _ (hd 0 o rfl)
    obtain ⟨e1, e2⟩ := set_at_put a o.dst (g o.dst)
    rw [← e1, ← e2] at h2
    exact fin_all g ops ds _ (by simpa using hl) (fun i o' hi => hd (i + 1) o' (by simpa using hi)) h2
theorem put_all_size (g : Option Tmp → Value) : ∀ (ops : List Oper) (a : Act), (putAll g ops a).tmps.size = a.tmps.size ∧ (putAll g ops a).defers = a.defers
  | [], _ => ⟨rfl, rfl⟩
  | o :: ops, a => by
    obtain ⟨h1, h2⟩ := put_all_size g ops (a.put o.dst (g o.dst))
    unfold putAll
    rw [h1, h2]
    cases o.dst <;> simp [Act.put]
theorem put_all_at (g : Option Tmp → Value) (t : Tmp) : ∀ (ops : List Oper) (a : Act), (putAll g ops a).tmps.getD t undef = if (∃ o ∈ ops, o.dst = some t) ∧ t < a.tmps.size then g (some t) else a.tmps.getD t undef
  | [], a => by simp [putAll]
  | o :: ops, a => by
    unfold putAll
    rw [put_all_at g t ops]
    have hs : (a.put o.dst (g o.dst)).tmps.size = a.tmps.size := by cases o.dst <;> simp [Act.put]
    rw [hs]
    by_cases ht : t < a.tmps.size
    · by_cases h1 : ∃ o' ∈ ops, o'.dst = some t
      · rw [if_pos ⟨h1, ht⟩, if_pos ⟨by obtain ⟨o', h, e⟩ := h1; exact ⟨o', by simp [h], e⟩, ht⟩]
      · rw [if_neg (fun h => h1 h.1)]
        by_cases h2 : o.dst = some t
        · rw [if_pos ⟨⟨o, by simp, h2⟩, ht⟩, h2, getD_put, if_pos ⟨rfl, ht⟩]
        · rw [if_neg (by rintro ⟨⟨o', h, e⟩, _⟩; rcases List.mem_cons.1 h with rfl | h; exact h2 e; exact h1 ⟨o', h, e⟩)]
          cases hd : o.dst with
          | none => rfl
          | some d => rw [getD_put, if_neg (by rintro ⟨rfl, _⟩; exact h2 hd)]
    · rw [if_neg (fun h => ht h.2), if_neg (fun h => ht h.2)]
      have e1 : ∀ b : Act, b.tmps.size = a.tmps.size → b.tmps.getD t undef = undef := fun b hb => by
        have : b.tmps.size ≤ t := by rw [hb]; exact Nat.le_of_not_lt ht
        rw [Array.getD_eq_getD_getElem?, Array.getElem?_eq_none this]; rfl
      rw [e1 _ hs, e1 a rfl]
theorem act_ext {a b : Act} (h1 : a.tmps.size = b.tmps.size) (h2 : a.defers = b.defers) (h3 : ∀ t, a.tmps.getD t undef = b.tmps.getD t undef) : a = b := by
  obtain ⟨m, d⟩ := a
  obtain ⟨m', d'⟩ := b
  simp only at h1 h2 h3
  subst h2
  congr 1
  refine Array.ext h1 fun i hi hi' => ?_
  have := h3 i
  simpa [Array.getD_eq_getD_getElem?, Array.getElem?_eq_getElem hi, Array.getElem?_eq_getElem hi'] using this
section
variable {P : Program} {ops : List Oper} {D : Nat → Value → World → Prop} {a0 : Act} {w0 : World} {o : Oper} {a : Act} {w : World} {Q : Exit → Act → World → Prop}
theorem Ctx.on (C : Ctx ops D a0 w0 o a w) {j : Nat} {o' : Oper} {d : Tmp} (h : o.after.toList.any (fun e => Region.binds .any e && e.on == j) = true) (hj : ops[j]? = some o') (hd : o'.dst = some d) : D j (a.tmps.getD d undef) w := by
  obtain ⟨e, he, h2⟩ := List.any_eq_true.1 h
  simp only [Bool.and_eq_true, beq_iff_eq] at h2
  obtain ⟨hb, rfl⟩ := h2
  exact C.dep e (by simpa using he) hb o' d hj hd
theorem Ctx.was (C : Ctx ops D a0 w0 o a w) (t : Tmp) (h : (ops.all fun o' => o'.dst != some t) = true) : a.tmps.getD t undef = a0.tmps.getD t undef :=
  C.old t fun o' ho e => by have := List.all_eq_true.1 h o' ho; rw [e] at this; simp at this
theorem wanted_free (hg : o.guard = none) (y : Nat → Option Bool) : Region.wanted o y = true := by simp [Region.wanted, hg]
theorem wanted_on {j : Nat} {b : Bool} {o' : Oper} {d : Tmp} (hg : o.guard = some (j, b)) (hj : ops[j]? = some o') (hd : o'.dst = some d) (h : a.tmps.getD d undef = .bool b) : Region.wanted o (yielded ops.toArray a.tmps) = true := by
  have h2 : a.tmps[d]? = some (.bool b) := by
    rw [Array.getD_eq_getD_getElem?] at h
    cases hc : a.tmps[d]? with
    | none => rw [hc] at h; cases h
    | some v => rw [hc] at h; simp only [Option.getD_some] at h; rw [h]
  simp [Region.wanted, hg, yielded, hj, hd, h2]
theorem wanted_off {j : Nat} {b : Bool} {o' : Oper} {d : Tmp} (hg : o.guard = some (j, b)) (hj : ops[j]? = some o') (hd : o'.dst = some d) (h : a.tmps.getD d undef = .bool (!b)) : Region.wanted o (yielded ops.toArray a.tmps) = false := by
  have h2 : a.tmps[d]? = some (.bool (!b)) := by
    rw [Array.getD_eq_getD_getElem?] at h
    cases hc : a.tmps[d]? with
    | none => rw [hc] at h; cases h
    | some v => rw [hc] at h; simp only [Option.getD_some] at h; rw [h]
  simp [Region.wanted, hg, yielded, hj, hd, h2]
def Does (P : Program) (p : Value → World → Prop) (o : Oper) (a : Act) (w : World) (Q : Exit → Act → World → Prop) : Prop := o.wp P a w (fun a' w' => ∃ v, a' = a.put o.dst v ∧ p v w' ∧ Below w.heap.size w w') Q
def Part (P : Program) (ops : List Oper) (ds : List (Value → World → Prop)) (a0 : Act) (w0 : World) (Q : Exit → Act → World → Prop) (i : Nat) (o : Oper) : Prop :=
  ∀ a w, Ctx ops (Ds ds) a0 w0 o a w → if Region.wanted o (yielded ops.toArray a.tmps) = true then Does P (Ds ds i) o a w Q else Ds ds i undef w
theorem wp_region_text {id : Nat} (ds : List (Value → World → Prop)) (hm : P.follows .mixedOrders = true) (hok : okOps ops a0.tmps.size = true) (hlen : ds.length = ops.length) (hst : AllStable ds)
    (hop : AllFrom (Part P ops ds a0 w0 Q) 0 ops)
    (hfin : ∀ w, Below w0.heap.size w0 w → Fin (Q .normal) w a0.defers ops ds a0.tmps) : (Code.region id ops.toArray true).wp P Q a0 w0 := by
  refine wp_region_each (Ds ds) hm hok (stable_ds ds (all_stable hst)) (fun i o ho => by have := all_from ops 0 hop i o ho; rwa [Nat.zero_add] at this) fun a w hb hsz hdf hold hdone => ?_
  have hd1 : ∀ i o, ops[i]? = some o → Ds ds i ((fun d : Option Tmp => match d with | some t => a.tmps.getD t undef | none => undef) o.dst) w := fun i o hi => by
    obtain ⟨d, hd, _⟩ := (okOps_spec hok).1 o (List.mem_of_getElem? hi)
    rw [hd]
    exact hdone i o d hi hd
  have e : a = putAll (fun d : Option Tmp => match d with | some t => a.tmps.getD t undef | none => undef) ops a0 := by
    obtain ⟨e1, e2⟩ := put_all_size (fun d : Option Tmp => match d with | some t => a.tmps.getD t undef | none => undef) ops a0
    refine act_ext (by rw [e1, hsz]) (by rw [e2, hdf]) fun t => ?_
    rw [put_all_at]
    by_cases h : (∃ o ∈ ops, o.dst = some t) ∧ t < a0.tmps.size
    · rw [if_pos h]
    · rw [if_neg h]
      by_cases ht : t < a0.tmps.size
      · exact hold t fun o' ho e => h ⟨⟨o', ho, e⟩, ht⟩
      · rw [Array.getD_eq_getD_getElem?, Array.getD_eq_getD_getElem?, Array.getElem?_eq_none (by omega), Array.getElem?_eq_none (by omega)]
  rw [e]
  exact fin_all _ ops ds a0 hlen hd1 (hfin w hb)
variable {p : Value → World → Prop} {ds : List (Value → World → Prop)} {i : Nat}
theorem part_on (hw : Region.wanted o (yielded ops.toArray a.tmps) = true) (h : Does P (Ds ds i) o a w Q) : if Region.wanted o (yielded ops.toArray a.tmps) = true then Does P (Ds ds i) o a w Q else Ds ds i undef w := by
  rw [if_pos hw]; exact h
theorem part_off (hw : Region.wanted o (yielded ops.toArray a.tmps) = false) (h : Ds ds i undef w) : if Region.wanted o (yielded ops.toArray a.tmps) = true then Does P (Ds ds i) o a w Q else Ds ds i undef w := by
  rw [if_neg (by rw [hw]; decide)]; exact h
theorem op_value {v : Value} (h : (execOp a.eval o).run P w = .ok (.value v) w) (hp : p v w) : Does P p o a w Q := by
  unfold Does Oper.wp
  rw [h]
  exact ⟨v, rfl, hp, Below.refl _ _⟩
theorem op_move {x : Operand} (ho : o.op = .move x ∨ o.op = .assign x) (hp : p (a.eval x) w) : Does P p o a w Q := by
  refine op_value ?_ hp
  rcases ho with ho | ho <;> simp [execOp, ho]
theorem op_pick {c x y : Operand} {k : Bool} (ho : o.op = .pick c x y) (hc : a.eval c = .bool k) (hp : p (if k then a.eval x else a.eval y) w) : Does P p o a w Q := by
  refine op_value ?_ hp
  simp [execOp, ho, hc, asBool]
theorem op_enter {f : FuncId} {args : Array Value} (h : (execOp a.eval o).run P w = .ok (.enter f args) w) (hc : Calls P f args w fun e w' => ∃ v, e = .returned v ∧ p v w' ∧ Below w.heap.size w w') : Does P p o a w Q := by
  unfold Does Oper.wp
  rw [h]
  refine hc.mono ?_
  rintro e w' ⟨v, rfl, h1, h2⟩
  exact ⟨v, rfl, h1, h2⟩
theorem reg_enters {f : FuncId} {fn : Func} (hf : P.funcs[f]? = some fn) (hname : (fn.name == "runtime.NumGoroutine") = false) (hb : fn.body.isNone = false) (args : Array Value) (w : World) :
    (callFunc f args).run P w = .ok (.enter f args) w := by
  simp only [beq_eq_false_iff_ne, ne_eq] at hname
  have hb' : ¬ fn.body = none := fun h => by rw [h] at hb; cases hb
  simp [callFunc, hf, hname, hb']
theorem op_call {f : FuncId} {xs : Array Operand} {ts : Array TypeId} (ho : o.op = .call { callee := .value (.func f), args := xs, argTypes := ts }) (he : ∀ (args : Array Value) (w : World), (callFunc f args).run P w = .ok (.enter f args) w)
    (hc : Calls P f (xs.toList.map a.eval).toArray w fun e w' => ∃ v, e = .returned v ∧ p v w' ∧ Below w.heap.size w w') : Does P p o a w Q := by
  have hx : (xs.toList.map a.eval).toArray = xs.map a.eval := by rw [← Array.toList_map, Array.toArray_toList]
  rw [hx] at hc
  refine op_enter ?_ hc
  simp [execOp, ho, resolve, Deferred.ofValue, Act.eval, invoke, he]
theorem op_call1 {f : FuncId} {x : Operand} {ts : Array TypeId} {v1 : Value} (ho : o.op = .call { callee := .value (.func f), args := #[x], argTypes := ts }) (he : ∀ (args : Array Value) (w : World), (callFunc f args).run P w = .ok (.enter f args) w)
    (hx : a.eval x = v1) (hc : Calls P f #[v1] w fun e w' => ∃ v, e = .returned v ∧ p v w' ∧ Below w.heap.size w w') : Does P p o a w Q := by
  subst hx
  exact op_call ho he hc
theorem op_call2 {f : FuncId} {x y : Operand} {ts : Array TypeId} {v1 v2 : Value} (ho : o.op = .call { callee := .value (.func f), args := #[x, y], argTypes := ts }) (he : ∀ (args : Array Value) (w : World), (callFunc f args).run P w = .ok (.enter f args) w)
    (hx : a.eval x = v1) (hy : a.eval y = v2) (hc : Calls P f #[v1, v2] w fun e w' => ∃ v, e = .returned v ∧ p v w' ∧ Below w.heap.size w w') : Does P p o a w Q := by
  subst hx; subst hy
  exact op_call ho he hc
theorem op_bin {b : BinOp} {t ty : TypeId} {x y : Operand} {v1 v2 v : Value} (ho : o.op = .binOp b t x y ty) (hx : a.eval x = v1) (hy : a.eval y = v2) (hq : eqGuard b t x y v1 v2 = pure ()) (hr : (binOp b t v1 v2).run P w = .ok v w) (hp : p v w) : Does P p o a w Q := by
  subst hx; subst hy
  refine op_value ?_ hp
  simp only [execOp, ho, hq]
  simp [hr]
theorem op_conv {s t : TypeId} {x : Operand} {v1 v : Value} (ho : o.op = .convert s t x) (hx : a.eval x = v1) (hr : (convert s t v1).run P w = .ok v w) (hp : p v w) : Does P p o a w Q := by
  subst hx
  refine op_value ?_ hp
  simp only [execOp, ho]
  rw [Sem.run_bind, hr]
  rfl
theorem op_len_slice {x : Operand} {t e : TypeId} {A : Option Addr} {n c : Nat} (ho : o.op = .call { callee := .builtin .len, args := #[x], argTypes := #[t] }) (ht : P.underlying t = some (.slice e)) (hx : a.eval x = .slice A n c) (hp : p (.int .i64 (n : Int)) w) : Does P p o a w Q := by
  refine op_value ?_ hp
  simp only [execOp, ho]
  simp [resolve, invoke, builtin, hx, Builtin.len_, run_underlying ht, goInt]
end
open Go.RowKit
def depsOf (ops : List Oper) (i : Nat) : List Nat := match ops[i]? with | some o => (o.after.toList.filter (Region.binds .any)).map (·.on) | none => []
def reach (ops : List Oper) : Nat → List Nat → List Nat
  | 0, S => S
  | k + 1, S => reach ops k (if S.contains k then depsOf ops k ++ S else S)
theorem reach_in (ops : List Oper) (L : Nat → Prop) (hc : ∀ i, L i → ∀ j ∈ depsOf ops i, L j) : ∀ k S, (∀ j ∈ S, L j) → ∀ j ∈ reach ops k S, L j
  | 0, _, h => h
  | k + 1, S, h => reach_in ops L hc k _ (by
      split
      · rename_i hk
        intro j hj
        rcases List.mem_append.1 hj with hj | hj
        · exact hc k (h k (by simpa using hk)) j hj
        · exact h j hj
      · exact h)
section
variable {P : Program} {ops : List Oper} {Q : Exit → Act → World → Prop} {a0 : Act} {w0 : World} {D E : Nat → Value → World → Prop} {n : Nat}
theorem getD_listed (listed : Array Bool) (i j : Nat) (hi : i < listed.size) : (listed.setIfInBounds i true).getD j false = if i = j then true else listed.getD j false := by
  by_cases h : i = j
  · subst h; simp [Array.getD_eq_getD_getElem?, hi]
  · simp [Array.getD_eq_getD_getElem?, h]
end
open Go.RowKit
def kindOf (ops : List Oper) (ms : List Nat) (i : Nat) : Nat :=
  if ms.contains i then ms.idxOf i + 2 else if (reach ops ops.length (depsOf ops (ms.getD 0 0))).contains i then 0 else 1
def okSeq (ops : List Oper) (ms : List Nat) (n : Nat) : Bool :=
  ops.all (fun o => (match o.dst with | some d => decide (d < n) | none => true) && o.guard.isNone) && decide (ops.filterMap (·.dst)).Nodup &&
  ((List.range ops.length).all fun i => (depsOf ops i).all fun j => decide (j < i)) &&
  (ms.all fun m => decide (m < ops.length)) && ((List.range ms.length).all fun j => decide (ms.idxOf (ms.getD j 0) = j) && (decide (j = 0) || (depsOf ops (ms.getD j 0)).contains (ms.getD (j - 1) 0)))
structure SCtx (ops : List Oper) (vs : List Value) (a0 : Act) (i : Nat) (o : Oper) (a : Act) : Prop where
  old : ∀ t, (∀ o' ∈ ops, o'.dst ≠ some t) → a.tmps.getD t undef = a0.tmps.getD t undef
  dep : ∀ e ∈ o.after, Region.binds .any e = true → ∀ o' d, ops[e.on]? = some o' → o'.dst = some d → a.tmps.getD d undef = vs.getD e.on undef
  late : ∀ t, (∀ j o', ops[j]? = some o' → o'.dst = some t → (reach ops ops.length (depsOf ops j)).contains i = true) → a.tmps.getD t undef = a0.tmps.getD t undef
structure SInv (ops : List Oper) (ms : List Nat) (vs : List Value) (W : Nat → World → Prop) (a0 : Act) (listed : Array Bool) (a : Act) (w : World) : Prop where
  size : a.tmps.size = a0.tmps.size
  defers : a.defers = a0.defers
  old : ∀ t, (∀ o' ∈ ops, o'.dst ≠ some t) → a.tmps.getD t undef = a0.tmps.getD t undef
  done : ∀ i o d, ops[i]? = some o → listed.getD i false = true → o.dst = some d → a.tmps.getD d undef = vs.getD i undef
  late : ∀ t, (∀ j o', ops[j]? = some o' → o'.dst = some t → listed.getD j false = false) → a.tmps.getD t undef = a0.tmps.getD t undef
  lsize : listed.size = ops.length
  closed : ∀ i, listed.getD i false = true → ∀ j ∈ depsOf ops i, listed.getD j false = true
  world : ∃ k, k ≤ ms.length ∧ W k w ∧ ∀ j, j < ms.length → (listed.getD (ms.getD j 0) false = true ↔ j < k)
theorem okSeq_spec {ops : List Oper} {ms : List Nat} {n : Nat} (h : okSeq ops ms n = true) :
    (∀ o ∈ ops, (∀ d, o.dst = some d → d < n) ∧ o.guard = none) ∧ (ops.filterMap (·.dst)).Nodup ∧ (∀ i, i < ops.length → ∀ j ∈ depsOf ops i, j < i) ∧ (∀ m ∈ ms, m < ops.length) ∧
      (∀ j, j < ms.length → ms.idxOf (ms.getD j 0) = j ∧ (0 < j → ms.getD (j - 1) 0 ∈ depsOf ops (ms.getD j 0))) := by
  simp only [okSeq, Bool.and_eq_true, decide_eq_true_eq, List.all_eq_true, List.mem_range] at h
  obtain ⟨⟨⟨⟨h1, h2⟩, h3⟩, h4⟩, h5⟩ := h
  refine ⟨fun o ho => ⟨fun d hd => ?_, ?_⟩, h2, h3, h4, fun j hj => ⟨(h5 j hj).1, fun h0 => ?_⟩⟩
  · have := (h1 o ho).1; rw [hd] at this; simpa using this
  · simpa using (h1 o ho).2
  · have := (h5 j hj).2
    simp only [Bool.or_eq_true, decide_eq_true_eq, List.contains_iff_mem] at this
    rcases this with h | h
    · omega
    · exact h
theorem dst_one {ops : List Oper} (hn : (ops.filterMap (·.dst)).Nodup) : ∀ {i j : Nat} {o o' : Oper} {d : Tmp}, ops[i]? = some o → ops[j]? = some o' → o.dst = some d → o'.dst = some d → i = j := by
  induction ops with
  | nil => intro i j o o' d hi; simp at hi
  | cons p ops ih =>
    intro i j o o' d hi hj hd hd'
    have hmem : ∀ {k : Nat} {q : Oper}, ops[k]? = some q → q.dst = some d → d ∈ ops.filterMap (·.dst) := fun hk hq => List.mem_filterMap.2 ⟨_, List.mem_of_getElem? hk, hq⟩
    have hn2 : (ops.filterMap (·.dst)).Nodup := by
      cases hp : p.dst with
      | none => rwa [List.filterMap_cons_none hp] at hn
      | some x => rw [List.filterMap_cons_some hp] at hn; exact (List.nodup_cons.1 hn).2
    have hno : p.dst = some d → d ∉ ops.filterMap (·.dst) := fun hp => by
      rw [List.filterMap_cons_some hp] at hn; exact (List.nodup_cons.1 hn).1
    cases i with
    | zero =>
      cases j with
      | zero => rfl
      | succ j =>
        simp only [List.getElem?_cons_zero, Option.some.injEq] at hi
        subst hi
        exact absurd (hmem (by simpa using hj) hd') (hno hd)
    | succ i =>
      cases j with
      | zero =>
        simp only [List.getElem?_cons_zero, Option.some.injEq] at hj
        subst hj
        exact absurd (hmem (by simpa using hi) hd) (hno hd')
      | succ j => exact congrArg (· + 1) (ih hn2 (i := i) (j := j) (by simpa using hi) (by simpa using hj) hd hd')
section
variable {P : Program} {ops : List Oper} {Q : Exit → Act → World → Prop} {a0 : Act} {ms : List Nat} {vs : List Value} {W : Nat → World → Prop}
theorem seq_listed (hok : okSeq ops ms a0.tmps.size = true) {listed : Array Bool} (hs : listed.size = ops.length) (hr : Region.ready .any ops.toArray listed = []) : ∀ i, i < ops.length → listed.getD i false = true := by
  intro i
  induction i using Nat.strongRecOn with
  | ind i ih =>
    intro hi
    cases hc : listed.getD i false with
    | true => rfl
    | false =>
      exfalso
      have hne : i ∈ Region.ready .any ops.toArray listed := by
        have hli : i < listed.size := by omega
        have e2 : listed.getD i true = false := by
          simpa [Array.getD_eq_getD_getElem?, Array.getElem?_eq_getElem hli] using hc
        simp only [Region.ready, List.mem_filter, List.mem_range, Bool.and_eq_true, Bool.not_eq_true', e2, true_and, List.size_toArray, hi, List.getElem?_toArray, List.getElem?_eq_getElem hi, Option.map_some, Option.getD_some]
        rw [Array.all_eq_true']
        intro e he
        cases hb : Region.binds .any e with
        | false => rfl
        | true =>
          have hlt := (okSeq_spec hok).2.2.1 i hi e.on (by
            simp only [depsOf, List.getElem?_eq_getElem hi, List.mem_map, List.mem_filter]
            exact ⟨e, ⟨by simpa using he, hb⟩, rfl⟩)
          simp only [Bool.not_true, Bool.false_or]
          exact ih e.on hlt (by omega)
      rw [hr] at hne
      cases hne
def SPart (P : Program) (ops : List Oper) (ms : List Nat) (vs : List Value) (W : Nat → World → Prop) (a0 : Act) (Q : Exit → Act → World → Prop) (i : Nat) (o : Oper) : Prop :=
  ∀ a w k, SCtx ops vs a0 i o a → W k w → (kindOf ops ms i = 0 → k = 0) → (∀ j, kindOf ops ms i = j + 2 → k = j) → (∀ j, j < ms.length → (reach ops ops.length (depsOf ops (ms.getD j 0))).contains i = true → k ≤ j) →
    o.wp P a w (fun a' w' => a' = a.put o.dst (vs.getD i undef) ∧ W (if kindOf ops ms i < 2 then k else k + 1) w') Q
theorem region_seq (hok : okSeq ops ms a0.tmps.size = true) (hop : ∀ i o, ops[i]? = some o → SPart P ops ms vs W a0 Q i o)
    (hfin : ∀ a w, W ms.length w → a.tmps.size = a0.tmps.size → a.defers = a0.defers → (∀ t, (∀ o' ∈ ops, o'.dst ≠ some t) → a.tmps.getD t undef = a0.tmps.getD t undef) →
      (∀ i o d, ops[i]? = some o → o.dst = some d → a.tmps.getD d undef = vs.getD i undef) → Q .normal a w) :
    ∀ (fuel : Nat) (listed : Array Bool) (a : Act) (w : World), listed.toList.count false = fuel → SInv ops ms vs W a0 listed a w → wpAny P .any ops.toArray Q fuel listed a w := by
  obtain ⟨k1, k2, k3, k4, k5⟩ := okSeq_spec hok
  have hend : ∀ (listed : Array Bool) (a : Act) (w : World), SInv ops ms vs W a0 listed a w → Region.ready .any ops.toArray listed = [] → Q .normal a w := fun listed a w inv hr => by
    have hall := seq_listed hok inv.lsize hr
    obtain ⟨k, hk, hW, hk2⟩ := inv.world
    have e : k = ms.length := by
      rcases Nat.lt_or_ge k ms.length with h | h
      · have := (hk2 k h).1 (hall _ (k4 _ (by rw [List.getD_eq_getElem?_getD, List.getElem?_eq_getElem h]; exact List.getElem_mem h)))
        omega
      · omega
    subst e
    exact hfin a w hW inv.size inv.defers inv.old fun i o d hi hd => inv.done i o d hi (hall i (List.getElem?_eq_some_iff.1 hi).1) hd
  intro fuel
  induction fuel with
  | zero =>
    intro listed a w hc inv
    have hr : Region.ready .any ops.toArray listed = [] := by
      rw [List.eq_nil_iff_forall_not_mem]
      intro i hi
      simp only [Region.ready, List.mem_filter, List.mem_range, Bool.and_eq_true, Bool.not_eq_true'] at hi
      have hli : i < listed.size := by rw [inv.lsize]; simpa using hi.1
      have : false ∈ listed.toList := by
        have h2 : listed[i] = false := by simpa [Array.getD_eq_getD_getElem?, Array.getElem?_eq_getElem hli] using hi.2.1
        rw [← h2]; exact Array.getElem_mem_toList hli
      exact absurd (List.count_pos_iff.2 this) (by omega)
    exact ⟨hr, hend listed a w inv hr⟩
  | succ fuel ih =>
    intro listed a w hc inv
    refine ⟨hend listed a w inv, fun i hi => ?_⟩
    have hi' := hi
    simp only [Region.ready, List.mem_filter, List.mem_range, Bool.and_eq_true, Bool.not_eq_true', List.size_toArray] at hi'
    obtain ⟨hlt, hun, hdep⟩ := hi'
    have hli : i < listed.size := by rw [inv.lsize]; exact hlt
    have hunf : listed.getD i false = false := by
      simpa [Array.getD_eq_getD_getElem?, Array.getElem?_eq_getElem hli] using hun
    have ho : ops[i]? = some ops[i] := List.getElem?_eq_getElem hlt
    have hc' := count_step hli hun hc
    have hdeps : ∀ e ∈ (ops[i]).after, Region.binds .any e = true → listed.getD e.on false = true := by
      intro e he hb
      simp only [List.getElem?_toArray, ho, Option.map_some, Option.getD_some] at hdep
      have := (Array.all_eq_true'.1 hdep) e he
      simpa [hb] using this
    have hdl : ∀ j ∈ depsOf ops i, listed.getD j false = true := by
      intro j hj
      simp only [depsOf, ho, List.mem_map, List.mem_filter] at hj
      obtain ⟨e, ⟨he, hb⟩, rfl⟩ := hj
      exact hdeps e (by simpa using he) hb
    obtain ⟨k, hk, hW, hk2⟩ := inv.world
    have hmem : ∀ j, j < ms.length → ms.getD j 0 ∈ ms := fun j h => by rw [List.getD_eq_getElem?_getD, List.getElem?_eq_getElem h]; exact List.getElem_mem h
    have h0 : kindOf ops ms i = 0 → k = 0 := fun hz => by
      unfold kindOf at hz
      split at hz
      · omega
      · rename_i hnc
        split at hz
        · rename_i hr
          rcases Nat.eq_zero_or_pos k with h | h
          · exact h
          · exfalso
            have hm := (hk2 0 (by omega)).2 h
            have := reach_in ops (fun i => listed.getD i false = true) inv.closed ops.length _ (inv.closed _ hm) i (by simpa using hr)
            rw [hunf] at this; cases this
        · cases hz
    have hin : ∀ j, kindOf ops ms i = j + 2 → j < ms.length ∧ ms.getD j 0 = i := fun j hz => by
      unfold kindOf at hz
      split at hz
      · rename_i hcn
        have hmi : i ∈ ms := by simpa using hcn
        have hjl : ms.idxOf i < ms.length := List.idxOf_lt_length_of_mem hmi
        have : j = ms.idxOf i := by omega
        subst this
        refine ⟨hjl, ?_⟩
        rw [List.getD_eq_getElem?_getD, List.getElem?_eq_getElem hjl]
        simp
      · split at hz <;> omega
    have h1 : ∀ j, kindOf ops ms i = j + 2 → k = j := fun j hz => by
      obtain ⟨hj, he⟩ := hin j hz
      have a1 : ¬ j < k := fun h => by have := (hk2 j hj).2 h; rw [he, hunf] at this; cases this
      rcases Nat.eq_zero_or_pos j with h | h
      · omega
      · have := (k5 j hj).2 h
        rw [he] at this
        have := (hk2 (j - 1) (by omega)).1 (hdl _ this)
        omega
    have h2 : (∀ j, j < ms.length → (reach ops ops.length (depsOf ops (ms.getD j 0))).contains i = true → k ≤ j) := fun j hj hr => by
      rcases Nat.lt_or_ge j k with h | h
      · exfalso
        have hm := (hk2 j hj).2 h
        have := reach_in ops (fun i => listed.getD i false = true) inv.closed ops.length _ (inv.closed _ hm) i (by simpa using hr)
        rw [hunf] at this; cases this
      · exact h
    have H := hop i ops[i] ho a w k ⟨inv.old, fun e he hb o' d hj hd => inv.done e.on o' d hj (hdeps e he hb) hd, fun t ht => inv.late t fun j o' hj hd => by
      cases hl : listed.getD j false with
      | false => rfl
      | true =>
        have := reach_in ops (fun i => listed.getD i false = true) inv.closed ops.length _ (inv.closed _ hl) i (by simpa using ht j o' hj hd)
        rw [hunf] at this; cases this⟩ hW h0 h1 h2
    unfold wpOp
    rw [List.getElem?_toArray, ho]
    show if Region.wanted ops[i] (yielded ops.toArray a.tmps) = true then _ else _
    rw [if_pos (wanted_free (k1 _ (List.getElem_mem hlt)).2 _)]
    refine .inl (Oper.wp_mono ?_ H)
    rintro a' w' ⟨rfl, hW'⟩
    refine ih _ _ _ hc' ⟨?_, ?_, fun t ht => ?_, fun j o d hj hl hd => ?_, fun t ht => ?_, by simp [inv.lsize], fun j hj q hq => ?_, ?_⟩
    · rw [← inv.size]; cases (ops[i]).dst <;> simp [Act.put]
    · rw [← inv.defers]; cases (ops[i]).dst <;> rfl
    · rw [← inv.old t ht]
      cases hd : (ops[i]).dst with
      | none => rfl
      | some d => rw [getD_put, if_neg (fun h => ht _ (List.getElem_mem hlt) (by rw [hd, h.1]))]
    · by_cases hij : i = j
      · subst hij
        rw [ho] at hj
        injection hj with hj
        subst hj
        rw [hd, getD_put, if_pos ⟨rfl, by rw [inv.size]; exact (k1 _ (List.getElem_mem hlt)).1 d hd⟩]
      · have hl2 : listed.getD j false = true := by rwa [getD_listed _ _ _ hli, if_neg hij] at hl
        rw [← inv.done j o d hj hl2 hd]
        cases hd2 : (ops[i]).dst with
        | none => rfl
        | some d2 => rw [getD_put, if_neg (fun h => hij (dst_one k2 ho hj (by rw [hd2, h.1]) hd))]
    · have hno : ∀ j o', ops[j]? = some o' → o'.dst = some t → j ≠ i ∧ listed.getD j false = false := fun j o' hj hd => by
        have h3 := ht j o' hj hd
        rw [getD_listed _ _ _ hli] at h3
        by_cases hij : i = j
        · rw [if_pos hij] at h3; cases h3
        · rw [if_neg hij] at h3; exact ⟨Ne.symm hij, h3⟩
      rw [← inv.late t fun j o' hj hd => (hno j o' hj hd).2]
      cases hd : (ops[i]).dst with
      | none => rfl
      | some d => rw [getD_put, if_neg (fun h => (hno i _ ho (by rw [hd, h.1])).1 rfl)]
    · rw [getD_listed _ _ _ hli] at hj ⊢
      by_cases hiq : i = q
      · rw [if_pos hiq]
      · rw [if_neg hiq]
        by_cases hij : i = j
        · subst hij; exact hdl q hq
        · rw [if_neg hij] at hj; exact inv.closed j hj q hq
    · by_cases hz : kindOf ops ms i < 2
      · rw [if_pos hz] at hW'
        refine ⟨k, hk, hW', fun j hj => ?_⟩
        rw [getD_listed _ _ _ hli]
        have hne : ¬ i = ms.getD j 0 := fun e => by
          have : kindOf ops ms i = ms.idxOf i + 2 := by unfold kindOf; rw [if_pos (by rw [e]; simpa using hmem j hj)]
          omega
        rw [if_neg hne]
        exact hk2 j hj
      · rw [if_neg hz] at hW'
        obtain ⟨j0, hj0⟩ : ∃ j, kindOf ops ms i = j + 2 := ⟨kindOf ops ms i - 2, by omega⟩
        obtain ⟨hj1, hj2⟩ := hin j0 hj0
        obtain rfl := h1 j0 hj0
        refine ⟨k + 1, by omega, hW', fun j hj => ?_⟩
        rw [getD_listed _ _ _ hli]
        by_cases e : i = ms.getD j 0
        · rw [if_pos e]
          have := (k5 j hj).1
          have h3 := (k5 k hj1).1
          rw [← e] at this
          rw [hj2] at h3
          simp; omega
        · rw [if_neg e, hk2 j hj]
          have : j ≠ k := fun h => e (by rw [h, hj2])
          omega
def setAll : List Oper → List Value → Array Value → Array Value
  | o :: ops, v :: vs, m => setAll ops vs (setAt m o.dst v)
  | _, _, m => m
theorem setAt_size (m : Array Value) (d : Option Tmp) (v : Value) : (setAt m d v).size = m.size := by cases d <;> simp [setAt]
theorem setAll_size : ∀ (ops : List Oper) (vs : List Value) (m : Array Value), (setAll ops vs m).size = m.size
  | [], _, _ => rfl
  | _ :: _, [], _ => rfl
  | o :: ops, v :: vs, m => by rw [setAll, setAll_size ops vs, setAt_size]
theorem setAt_other (m : Array Value) (d : Option Tmp) (v : Value) (t : Tmp) (h : d ≠ some t) : (setAt m d v).getD t undef = m.getD t undef := by
  cases d with
  | none => rfl
  | some d =>
    have : d ≠ t := fun e => h (by rw [e])
    simp [setAt, Array.getD_eq_getD_getElem?, this]
theorem setAll_other (t : Tmp) : ∀ (ops : List Oper) (vs : List Value) (m : Array Value), (∀ o ∈ ops, o.dst ≠ some t) → (setAll ops vs m).getD t undef = m.getD t undef
  | [], _, _, _ => rfl
  | _ :: _, [], _, _ => rfl
  | o :: ops, v :: vs, m, h => by
    rw [setAll, setAll_other t ops vs _ (fun o' ho' => h o' (by simp [ho'])), setAt_other _ _ _ _ (h o (by simp))]
theorem setAll_at (t : Tmp) : ∀ (ops : List Oper) (vs : List Value) (m : Array Value), vs.length = ops.length → (ops.filterMap (·.dst)).Nodup → t < m.size → ∀ i o, ops[i]? = some o → o.dst = some t → (setAll ops vs m).getD t undef = vs.getD i undef
  | [], _, _, _, _, _, i, o, hi, _ => by simp at hi
  | _ :: _, [], _, hl, _, _, _, _, _, _ => by simp at hl
  | p :: ops, v :: vs, m, hl, hn, ht, i, o, hi, hd => by
    rw [setAll]
    cases i with
    | zero =>
      simp only [List.getElem?_cons_zero, Option.some.injEq] at hi
      subst hi
      rw [List.filterMap_cons_some hd] at hn
      rw [setAll_other t ops vs _ (fun o' ho' e => (List.nodup_cons.1 hn).1 (List.mem_filterMap.2 ⟨o', ho', e⟩)), hd]
      simp [setAt, Array.getD_eq_getD_getElem?, ht]
    | succ i =>
      have hn2 : (ops.filterMap (·.dst)).Nodup := by
        cases hp : p.dst with
        | none => rwa [List.filterMap_cons_none hp] at hn
        | some x => rw [List.filterMap_cons_some hp] at hn; exact (List.nodup_cons.1 hn).2
      rw [setAll_at t ops vs _ (by simpa using hl) hn2 (by rw [setAt_size]; exact ht) i o (by simpa using hi) hd]
      rfl
theorem wp_region_seq {id : Nat} {w0 : World} (ms : List Nat) (vs : List Value) (W : Nat → World → Prop) (hm : P.follows .mixedOrders = true) (hok : okSeq ops ms a0.tmps.size = true) (hlen : vs.length = ops.length) (hW : W 0 w0.drew)
    (hop : AllFrom (SPart P ops ms vs W a0 Q) 0 ops) (hfin : ∀ w, W ms.length w → Q .normal ⟨setAll ops vs a0.tmps, a0.defers⟩ w) : (Code.region id ops.toArray true).wp P Q a0 w0 := by
  refine wp_region_any hm (region_seq hok (fun i o ho => by have := all_from ops 0 hop i o ho; rwa [Nat.zero_add] at this) (fun a w h hsz hdf hold hdone => ?_) _ _ _ _ ?_ ⟨rfl, rfl, fun _ _ => rfl, fun i o d _ hl _ => ?_, fun _ _ => rfl, by simp, fun i hl => ?_, 0, Nat.zero_le _, hW, fun j hj => ?_⟩)
  · obtain ⟨k1, k2, _⟩ := okSeq_spec hok
    have e : a = ⟨setAll ops vs a0.tmps, a0.defers⟩ := by
      refine act_ext (by rw [hsz, setAll_size]) hdf fun t => ?_
      by_cases h : ∃ o ∈ ops, o.dst = some t
      · obtain ⟨o, ho, hd⟩ := h
        obtain ⟨i, hi⟩ := List.getElem?_of_mem ho
        rw [hdone i o t hi hd, setAll_at t ops vs _ hlen k2 ((k1 o ho).1 t hd) i o hi hd]
      · have hno : ∀ o' ∈ ops, o'.dst ≠ some t := fun o' ho' e => h ⟨o', ho', e⟩
        rw [hold t hno, setAll_other t ops vs _ hno]
    rw [e]
    exact hfin w h
  · simp
  · simp [Array.getD_eq_getD_getElem?, Array.getElem?_replicate] at hl
    split at hl <;> simp_all
  · simp [Array.getD_eq_getD_getElem?, Array.getElem?_replicate] at hl
    split at hl <;> simp_all
  · simp only [Nat.not_lt_zero, iff_false, Array.getD_eq_getD_getElem?, Array.getElem?_replicate]
    split <;> simp
theorem SCtx.on {i : Nat} {o : Oper} {a : Act} (C : SCtx ops vs a0 i o a) {j : Nat} {o' : Oper} {d : Tmp} (h : o.after.toList.any (fun e => Region.binds .any e && e.on == j) = true) (hj : ops[j]? = some o') (hd : o'.dst = some d) : a.tmps.getD d undef = vs.getD j undef := by
  simp only [List.any_eq_true, Bool.and_eq_true, beq_iff_eq] at h
  obtain ⟨e, he, hb, rfl⟩ := h
  exact C.dep e (by simpa using he) hb o' d hj hd
theorem SCtx.was {i : Nat} {o : Oper} {a : Act} (C : SCtx ops vs a0 i o a) (t : Tmp) (h : (ops.all fun o' => o'.dst != some t) = true) : a.tmps.getD t undef = a0.tmps.getD t undef :=
  C.old t fun o' ho e => by have := List.all_eq_true.1 h o' ho; rw [e] at this; simp at this
theorem seq_head {i : Nat} {o : Oper} (hk : kindOf ops ms i = 0) (hst : ∀ w w', W 0 w → Below w.heap.size w w' → W 0 w') (H : ∀ a w, SCtx ops vs a0 i o a → W 0 w → Does P (Is (vs.getD i undef)) o a w Q) : SPart P ops ms vs W a0 Q i o := by
  intro a w k C hW h0 _ _
  obtain rfl := h0 hk
  rw [if_pos (by rw [hk]; decide)]
  refine Oper.wp_mono ?_ (H a w C hW)
  rintro a' w' ⟨v, rfl, rfl, hb⟩
  exact ⟨rfl, hst _ _ hW hb⟩
theorem seq_float {i : Nat} {o : Oper} (hk : kindOf ops ms i = 1) (hst : ∀ k w w', W k w → Below w.heap.size w w' → W k w') (H : ∀ a w, SCtx ops vs a0 i o a → Does P (Is (vs.getD i undef)) o a w Q) : SPart P ops ms vs W a0 Q i o := by
  intro a w k C hW _ _ _
  rw [if_pos (by rw [hk]; decide)]
  refine Oper.wp_mono ?_ (H a w C)
  rintro a' w' ⟨v, rfl, rfl, hb⟩
  exact ⟨rfl, hst _ _ _ hW hb⟩
theorem seq_turn {i : Nat} {o : Oper} (j : Nat) (hk : kindOf ops ms i = j + 2) (H : ∀ a w, SCtx ops vs a0 i o a → W j w → o.wp P a w (fun a' w' => a' = a.put o.dst (vs.getD i undef) ∧ W (j + 1) w') Q) : SPart P ops ms vs W a0 Q i o := by
  intro a w k C hW _ h1 _
  obtain rfl := h1 j hk
  rw [if_neg (by rw [hk]; omega)]
  exact H a w C hW
theorem turn_enter {a : Act} {w : World} {o : Oper} {f : FuncId} {args : Array Value} {v : Value} {R : World → Prop} (h : (execOp a.eval o).run P w = .ok (.enter f args) w) (hc : Calls P f args w fun e w' => e = .returned v ∧ R w') : o.wp P a w (fun a' w' => a' = a.put o.dst v ∧ R w') Q := by
  unfold Oper.wp
  rw [h]
  refine hc.mono ?_
  rintro e w' ⟨rfl, h1⟩
  exact ⟨rfl, h1⟩
end
open Go.RowKit
section
variable {P : Program} {ops : List Oper} {Q : Exit → Act → World → Prop} {a0 : Act} {w0 : World} {D E : Nat → Value → World → Prop} {n m : Nat}
end
open Go.RowKit
def sideOf (ops : List Oper) (n i : Nat) : Nat :=
  if (reach ops ops.length (depsOf ops n)).contains i then 0 else if (reach ops ops.length (depsOf ops i)).contains n then 2 else 1
structure TCtx (ops : List Oper) (D : Nat → Value → World → Prop) (a0 : Act) (w0 : World) (o : Oper) (a : Act) (w : World) : Prop where
  below : Below w0.heap.size w0 w
  old : ∀ t, (∀ o' ∈ ops, o'.dst ≠ some t) → a.tmps.getD t undef = a0.tmps.getD t undef
  dep : ∀ e ∈ o.after, Region.binds .any e = true → ∀ o' d, ops[e.on]? = some o' → o'.dst = some d → D e.on (a.tmps.getD d undef) w
structure TInv (ops : List Oper) (n : Nat) (D E : Nat → Value → World → Prop) (a0 : Act) (w0 : World) (listed : Array Bool) (a : Act) (w : World) : Prop where
  below : Below w0.heap.size w0 w
  size : a.tmps.size = a0.tmps.size
  defers : a.defers = a0.defers
  old : ∀ t, (∀ o' ∈ ops, o'.dst ≠ some t) → a.tmps.getD t undef = a0.tmps.getD t undef
  done : ∀ i o d, ops[i]? = some o → listed.getD i false = true → o.dst = some d → if listed.getD n false = true then E i (a.tmps.getD d undef) w else D i (a.tmps.getD d undef) w
  lsize : listed.size = ops.length
  closed : ∀ i, listed.getD i false = true → ∀ j ∈ depsOf ops i, listed.getD j false = true
section
variable {P : Program} {ops : List Oper} {Q : Exit → Act → World → Prop} {a0 : Act} {w0 : World} {D E : Nat → Value → World → Prop} {n : Nat}
theorem tinv_step (hok : okSeq ops [n] a0.tmps.size = true) (hstD : ∀ i v w w', D i v w → Below w.heap.size w w' → D i v w') (hstE : ∀ i v w w', E i v w → Below w.heap.size w w' → E i v w') {listed : Array Bool} {a : Act} {w w' : World} {i : Nat} {o : Oper} {v : Value}
    (inv : TInv ops n D E a0 w0 listed a w) (hin : i ≠ n) (hi : ops[i]? = some o) (hdl : ∀ j ∈ depsOf ops i, listed.getD j false = true) (hv : if listed.getD n false = true then E i v w' else D i v w') (hb : Below w.heap.size w w') :
    TInv ops n D E a0 w0 (listed.setIfInBounds i true) (a.put o.dst v) w' := by
  obtain ⟨k1, k2, k3, k4, k5⟩ := okSeq_spec hok
  have hil : i < listed.size := by rw [inv.lsize]; exact (List.getElem?_eq_some_iff.1 hi).1
  have hnn : (listed.setIfInBounds i true).getD n false = listed.getD n false := by rw [getD_listed _ _ _ hil, if_neg hin]
  refine ⟨inv.below.trans (hb.mono inv.below.size), ?_, ?_, fun t ht => ?_, fun j o' d hj hl hd => ?_, by simp [inv.lsize], fun j hj q hq => ?_⟩
  · rw [← inv.size]; cases o.dst <;> simp [Act.put]
  · rw [← inv.defers]; cases o.dst <;> rfl
  · rw [← inv.old t ht]
    cases hd : o.dst with
    | none => rfl
    | some d => rw [getD_put, if_neg (fun h => ht _ (List.mem_of_getElem? hi) (by rw [hd, h.1]))]
  · rw [hnn]
    by_cases hij : i = j
    · subst hij
      rw [hi] at hj
      injection hj with hj
      subst hj
      have e : (a.put o.dst v).tmps.getD d undef = v := by rw [hd, getD_put, if_pos ⟨rfl, by rw [inv.size]; exact (k1 _ (List.mem_of_getElem? hi)).1 d hd⟩]
      rw [e]; exact hv
    · have hl2 : listed.getD j false = true := by rwa [getD_listed _ _ _ hil, if_neg hij] at hl
      have e : (a.put o.dst v).tmps.getD d undef = a.tmps.getD d undef := by
        cases hd2 : o.dst with
        | none => rfl
        | some d2 => rw [getD_put, if_neg (fun h => hij (dst_one k2 hi hj (by rw [hd2, h.1]) hd))]
      rw [e]
      have := inv.done j o' d hj hl2 hd
      cases hc : listed.getD n false with
      | true => rw [hc, if_pos rfl] at this; rw [if_pos rfl]; exact hstE _ _ _ _ this hb
      | false => rw [hc, if_neg (by decide)] at this; rw [if_neg (by decide)]; exact hstD _ _ _ _ this hb
  · rw [getD_listed _ _ _ hil] at hj ⊢
    by_cases hiq : i = q
    · rw [if_pos hiq]
    · rw [if_neg hiq]
      by_cases hij : i = j
      · subst hij; exact hdl q hq
      · rw [if_neg hij] at hj; exact inv.closed j hj q hq
theorem region_turn (hok : okSeq ops [n] a0.tmps.size = true) (hno : ∀ o, ops[n]? = some o → o.dst = none) (hstD : ∀ i v w w', D i v w → Below w.heap.size w w' → D i v w') (hstE : ∀ i v w w', E i v w → Below w.heap.size w w' → E i v w')
    (hop1 : ∀ i o, i ≠ n → sideOf ops n i < 2 → ops[i]? = some o → ∀ a w, TCtx ops D a0 w0 o a w → Does P (D i) o a w Q)
    (hop2 : ∀ i o, i ≠ n → 0 < sideOf ops n i → ops[i]? = some o → ∀ a w, TCtx ops E a0 w0 o a w → Does P (E i) o a w Q)
    (hturn : ∀ o, ops[n]? = some o → ∀ a w, TCtx ops D a0 w0 o a w → o.wp P a w (fun a' w' => a' = a.put o.dst undef ∧ Below w0.heap.size w0 w' ∧ ∀ i o' d, i ≠ n → ops[i]? = some o' → o'.dst = some d → D i (a.tmps.getD d undef) w → E i (a.tmps.getD d undef) w') Q)
    (hfin : ∀ a w, Below w0.heap.size w0 w → a.tmps.size = a0.tmps.size → a.defers = a0.defers → (∀ t, (∀ o' ∈ ops, o'.dst ≠ some t) → a.tmps.getD t undef = a0.tmps.getD t undef) →
      (∀ i o d, ops[i]? = some o → o.dst = some d → E i (a.tmps.getD d undef) w) → Q .normal a w) :
    ∀ (fuel : Nat) (listed : Array Bool) (a : Act) (w : World), listed.toList.count false = fuel → TInv ops n D E a0 w0 listed a w → wpAny P .any ops.toArray Q fuel listed a w := by
  obtain ⟨k1, k2, k3, k4, k5⟩ := okSeq_spec hok
  have hnl : n < ops.length := k4 n (by simp)
  have hend : ∀ (listed : Array Bool) (a : Act) (w : World), TInv ops n D E a0 w0 listed a w → Region.ready .any ops.toArray listed = [] → Q .normal a w := fun listed a w inv hr => by
    have hall := seq_listed hok inv.lsize hr
    refine hfin a w inv.below inv.size inv.defers inv.old fun i o d hi hd => ?_
    have := inv.done i o d hi (hall i (List.getElem?_eq_some_iff.1 hi).1) hd
    rwa [if_pos (hall n hnl)] at this
  intro fuel
  induction fuel with
  | zero =>
    intro listed a w hc inv
    have hr : Region.ready .any ops.toArray listed = [] := by
      rw [List.eq_nil_iff_forall_not_mem]
      intro i hi
      simp only [Region.ready, List.mem_filter, List.mem_range, Bool.and_eq_true, Bool.not_eq_true'] at hi
      have hli : i < listed.size := by rw [inv.lsize]; simpa using hi.1
      have : false ∈ listed.toList := by
        have h2 : listed[i] = false := by simpa [Array.getD_eq_getD_getElem?, Array.getElem?_eq_getElem hli] using hi.2.1
        rw [← h2]; exact Array.getElem_mem_toList hli
      exact absurd (List.count_pos_iff.2 this) (by omega)
    exact ⟨hr, hend listed a w inv hr⟩
  | succ fuel ih =>
    intro listed a w hc inv
    refine ⟨hend listed a w inv, fun i hi => ?_⟩
    have hi' := hi
    simp only [Region.ready, List.mem_filter, List.mem_range, Bool.and_eq_true, Bool.not_eq_true', List.size_toArray] at hi'
    obtain ⟨hlt, hun, hdep⟩ := hi'
    have hli : i < listed.size := by rw [inv.lsize]; exact hlt
    have hunf : listed.getD i false = false := by
      simpa [Array.getD_eq_getD_getElem?, Array.getElem?_eq_getElem hli] using hun
    have ho : ops[i]? = some ops[i] := List.getElem?_eq_getElem hlt
    have hc' := count_step hli hun hc
    have hdeps : ∀ e ∈ (ops[i]).after, Region.binds .any e = true → listed.getD e.on false = true := by
      intro e he hb
      simp only [List.getElem?_toArray, ho, Option.map_some, Option.getD_some] at hdep
      have := (Array.all_eq_true'.1 hdep) e he
      simpa [hb] using this
    have hdl : ∀ j ∈ depsOf ops i, listed.getD j false = true := by
      intro j hj
      simp only [depsOf, ho, List.mem_map, List.mem_filter] at hj
      obtain ⟨e, ⟨he, hb⟩, rfl⟩ := hj
      exact hdeps e (by simpa using he) hb
    unfold wpOp
    rw [List.getElem?_toArray, ho]
    show if Region.wanted ops[i] (yielded ops.toArray a.tmps) = true then _ else _
    rw [if_pos (wanted_free (k1 _ (List.getElem_mem hlt)).2 _)]
    by_cases hin : i = n
    · subst hin
      have H := hturn ops[i] ho a w ⟨inv.below, inv.old, fun e he hb o' d hj hd => by
        have := inv.done e.on o' d hj (hdeps e he hb) hd
        rwa [hunf, if_neg (by decide)] at this⟩
      refine .inl (Oper.wp_mono ?_ H)
      rintro a' w' ⟨rfl, hb, hconv⟩
      have hd0 := hno ops[i] ho
      rw [hd0]
      refine ih _ _ _ hc' ⟨hb, inv.size, inv.defers, inv.old, fun j o' d hj hl hd => ?_, by simp [inv.lsize], fun j hj q hq => ?_⟩
      · rw [getD_listed _ _ _ hli, if_pos rfl, if_pos rfl]
        have hji : j ≠ i := fun e => by
          subst e
          rw [ho] at hj
          injection hj with hj
          rw [← hj, hd0] at hd; cases hd
        have hl2 : listed.getD j false = true := by rwa [getD_listed _ _ _ hli, if_neg (fun e => hji e.symm)] at hl
        refine hconv j o' d hji hj hd ?_
        have := inv.done j o' d hj hl2 hd
        rwa [hunf, if_neg (by decide)] at this
      · rw [getD_listed _ _ _ hli] at hj ⊢
        by_cases hiq : i = q
        · rw [if_pos hiq]
        · rw [if_neg hiq]
          by_cases hij : i = j
          · subst hij; exact hdl q hq
          · rw [if_neg hij] at hj; exact inv.closed j hj q hq
    · cases hnl2 : listed.getD n false with
      | false =>
        have hs : sideOf ops n i < 2 := by
          unfold sideOf
          split
          · omega
          · split
            · rename_i hr
              have := reach_in ops (fun i => listed.getD i false = true) inv.closed ops.length _ hdl n (by simpa using hr)
              rw [hnl2] at this; cases this
            · omega
        have H := hop1 i ops[i] hin hs ho a w ⟨inv.below, inv.old, fun e he hb o' d hj hd => by
          have := inv.done e.on o' d hj (hdeps e he hb) hd
          rwa [hnl2, if_neg (by decide)] at this⟩
        refine .inl (Oper.wp_mono ?_ H)
        rintro a' w' ⟨v, rfl, hv, hb⟩
        exact ih _ _ _ hc' (tinv_step hok hstD hstE inv hin ho hdl (by rw [hnl2, if_neg (by decide)]; exact hv) hb)
      | true =>
        have hs : 0 < sideOf ops n i := by
          unfold sideOf
          split
          · rename_i hr
            have := reach_in ops (fun i => listed.getD i false = true) inv.closed ops.length _ (inv.closed n hnl2) i (by simpa using hr)
            rw [hunf] at this; cases this
          · split <;> omega
        have H := hop2 i ops[i] hin hs ho a w ⟨inv.below, inv.old, fun e he hb o' d hj hd => by
          have := inv.done e.on o' d hj (hdeps e he hb) hd
          rwa [hnl2, if_pos rfl] at this⟩
        refine .inl (Oper.wp_mono ?_ H)
        rintro a' w' ⟨v, rfl, hv, hb⟩
        exact ih _ _ _ hc' (tinv_step hok hstD hstE inv hin ho hdl (by rw [hnl2, if_pos rfl]; exact hv) hb)
def ConvL (s : Nat) : Nat → List (Value → World → Prop) → List (Value → World → Prop) → Prop
  | k, d :: ds, e :: es => (k = s ∨ ∀ v w w', d v w → e v w') ∧ ConvL s (k + 1) ds es
  | _, _, _ => True
theorem conv_all (s : Nat) : ∀ (ds es : List (Value → World → Prop)) (k : Nat), ConvL s k ds es → ds.length = es.length → ∀ i, k + i ≠ s → ∀ v w w', Ds ds i v w → Ds es i v w'
  | [], [], _, _, _, _, _, _, _, _, _ => by simp [Ds, Free]
  | [], _ :: _, _, _, hl, _, _, _, _, _, _ => by simp at hl
  | _ :: _, [], _, _, hl, _, _, _, _, _, _ => by simp at hl
  | d :: ds, e :: es, k, h, hl, i, hne, v, w, w', hd => by
    cases i with
    | zero =>
      rcases h.1 with h1 | h1
      · exact absurd h1 hne
      · exact h1 v w w' hd
    | succ i => exact conv_all s ds es (k + 1) h.2 (by simpa using hl) i (by omega) v w w' hd
def TPart (P : Program) (ops : List Oper) (n : Nat) (ds es : List (Value → World → Prop)) (a0 : Act) (w0 : World) (Q : Exit → Act → World → Prop) (i : Nat) (o : Oper) : Prop :=
  i = n ∨ ((sideOf ops n i < 2 → ∀ a w, TCtx ops (Ds ds) a0 w0 o a w → Does P (Ds ds i) o a w Q) ∧ (0 < sideOf ops n i → ∀ a w, TCtx ops (Ds es) a0 w0 o a w → Does P (Ds es i) o a w Q))
theorem wp_region_turn {id : Nat} (n s : Nat) (z so : Oper) (sd : Tmp) (ds es : List (Value → World → Prop)) (hm : P.follows .mixedOrders = true) (hok : okSeq ops [n] a0.tmps.size = true) (hz : ops[n]? = some z) (hzd : z.dst = none) (hso : ops[s]? = some so) (hsd : so.dst = some sd) (hsn : s ≠ n) (hld : ds.length = ops.length) (hle : es.length = ops.length) (hstD : AllStable ds) (hstE : AllStable es) (hconv : ConvL s 0 ds es)
    (hop : AllFrom (TPart P ops n ds es a0 w0 Q) 0 ops)
    (hturn : ∀ a w, TCtx ops (Ds ds) a0 w0 z a w → Ds ds s (a.tmps.getD sd undef) w → z.wp P a w (fun a' w' => a' = a.put none undef ∧ Below w0.heap.size w0 w' ∧ Ds es s (a.tmps.getD sd undef) w') Q)
    (hsz : (depsOf ops n).contains s = true) (hnd : ∀ i o, ops[i]? = some o → o.dst = none → ∀ v w, Ds es i v w)
    (hfin : ∀ w, Below w0.heap.size w0 w → Fin (Q .normal) w a0.defers ops es a0.tmps) : (Code.region id ops.toArray true).wp P Q a0 w0 := by
  have hpart : ∀ i o, ops[i]? = some o → TPart P ops n ds es a0 w0 Q i o := fun i o ho => by have := all_from ops 0 hop i o ho; rwa [Nat.zero_add] at this
  refine wp_region_any hm (region_turn (D := Ds ds) (E := Ds es) (n := n) hok (fun o ho => by rw [hz] at ho; injection ho with ho; rw [← ho]; exact hzd) (stable_ds ds (all_stable hstD)) (stable_ds es (all_stable hstE)) (fun i o hin hs ho => ?_) (fun i o hin hs ho => ?_) (fun o ho a w C => ?_) (fun a w hb hsz hdf hold hdone => ?_) _ _ _ _ ?_ ⟨(Below.refl _ _).drew, rfl, rfl, fun _ _ => rfl, fun i o d _ hl _ => ?_, by simp, fun i hl => ?_⟩)
  · rcases hpart i o ho with h | h
    · exact absurd h hin
    · exact h.1 hs
  · rcases hpart i o ho with h | h
    · exact absurd h hin
    · exact h.2 hs
  · rw [hz] at ho
    injection ho with ho
    subst ho
    have hs0 : Ds ds s (a.tmps.getD sd undef) w := by
      have hmem : s ∈ depsOf ops n := by simpa using hsz
      simp only [depsOf, hz, List.mem_map, List.mem_filter] at hmem
      obtain ⟨e, ⟨he, hb⟩, rfl⟩ := hmem
      exact C.dep e (by simpa using he) hb so sd hso hsd
    refine Oper.wp_mono ?_ (hturn a w C hs0)
    rintro a' w' ⟨rfl, hb, he⟩
    refine ⟨by rw [hzd]; rfl, hb, fun i o' d hin hi hd hD => ?_⟩
    by_cases his : i = s
    · subst his
      rw [hso] at hi
      injection hi with hi
      subst hi
      rw [hsd] at hd
      injection hd with hd
      subst hd
      exact he
    · exact conv_all s ds es 0 hconv (by rw [hld, hle]) i (by omega) _ _ _ hD
  · have hd1 : ∀ i o, ops[i]? = some o → Ds es i ((fun d : Option Tmp => match d with | some t => a.tmps.getD t undef | none => undef) o.dst) w := fun i o hi => by
      cases hd : o.dst with
      | none => exact hnd i o hi hd _ _
      | some d => exact hdone i o d hi hd
    have e : a = putAll (fun d : Option Tmp => match d with | some t => a.tmps.getD t undef | none => undef) ops a0 := by
      obtain ⟨e1, e2⟩ := put_all_size (fun d : Option Tmp => match d with | some t => a.tmps.getD t undef | none => undef) ops a0
      refine act_ext (by rw [e1, hsz]) (by rw [e2, hdf]) fun t => ?_
      rw [put_all_at]
      by_cases h : (∃ o ∈ ops, o.dst = some t) ∧ t < a0.tmps.size
      · rw [if_pos h]
      · rw [if_neg h]
        by_cases ht : t < a0.tmps.size
        · exact hold t fun o' ho e => h ⟨⟨o', ho, e⟩, ht⟩
        · rw [Array.getD_eq_getD_getElem?, Array.getD_eq_getD_getElem?, Array.getElem?_eq_none (by omega), Array.getElem?_eq_none (by omega)]
    rw [e]
    exact fin_all (fun d : Option Tmp => match d with | some t => a.tmps.getD t undef | none => undef) ops es a0 hle hd1 (hfin w hb)
  · simp
  · simp [Array.getD_eq_getD_getElem?, Array.getElem?_replicate] at hl
    split at hl <;> simp_all
  · simp [Array.getD_eq_getD_getElem?, Array.getElem?_replicate] at hl
    split at hl <;> simp_all
end
open Go.RowKit
def endOk (ops : List Oper) (n : Nat) : Bool :=
  (List.range n).all (fun j => (reach ops n (depsOf ops n)).contains j) && (List.range (n + 1)).all fun i => (depsOf ops i).all fun j => decide (j < i)
structure EInv (l ops : List Oper) (D : Nat → Value → World → Prop) (a0 : Act) (w0 : World) (listed : Array Bool) (a : Act) (w : World) : Prop where
  below : Below w0.heap.size w0 w
  size : a.tmps.size = a0.tmps.size
  defers : a.defers = a0.defers
  old : ∀ t, (∀ o' ∈ l, o'.dst ≠ some t) → a.tmps.getD t undef = a0.tmps.getD t undef
  done : ∀ i o d, l[i]? = some o → listed.getD i false = true → o.dst = some d → D i (a.tmps.getD d undef) w
  lsize : listed.size = l.length + 1
  closed : ∀ i, listed.getD i false = true → ∀ j ∈ depsOf ops i, listed.getD j false = true
  last : listed.getD l.length false = false
theorem listed_of {ops : List Oper} (hb : ∀ i, i < ops.length → ∀ j ∈ depsOf ops i, j < i) {listed : Array Bool} (hs : listed.size = ops.length) (hr : Region.ready .any ops.toArray listed = []) : ∀ i, i < ops.length → listed.getD i false = true := by
  intro i
  induction i using Nat.strongRecOn with
  | ind i ih =>
    intro hi
    cases hc : listed.getD i false with
    | true => rfl
    | false =>
      exfalso
      have hne : i ∈ Region.ready .any ops.toArray listed := by
        have hli : i < listed.size := by omega
        have e2 : listed.getD i true = false := by
          simpa [Array.getD_eq_getD_getElem?, Array.getElem?_eq_getElem hli] using hc
        simp only [Region.ready, List.mem_filter, List.mem_range, Bool.and_eq_true, Bool.not_eq_true', e2, true_and, List.size_toArray, hi, List.getElem?_toArray, List.getElem?_eq_getElem hi, Option.map_some, Option.getD_some]
        rw [Array.all_eq_true']
        intro e he
        cases hb2 : Region.binds .any e with
        | false => rfl
        | true =>
          have hlt := hb i hi e.on (by
            simp only [depsOf, List.getElem?_eq_getElem hi, List.mem_map, List.mem_filter]
            exact ⟨e, ⟨by simpa using he, hb2⟩, rfl⟩)
          simp only [Bool.not_true, Bool.false_or]
          exact ih e.on hlt (by omega)
      rw [hr] at hne
      cases hne
section
variable {P : Program} {l : List Oper} {z : Oper} {Q : Exit → Act → World → Prop} {a0 : Act} {w0 : World} {D : Nat → Value → World → Prop}
theorem region_end (hok : okOps l a0.tmps.size = true) (hz : z.guard = none) (hen : endOk (l ++ [z]) l.length = true) (hst : ∀ i v w w', D i v w → Below w.heap.size w w' → D i v w')
    (hop : ∀ i o, l[i]? = some o → ∀ a w, Ctx l D a0 w0 o a w → o.guard = none ∧ o.wp P a w (fun a' w' => ∃ v, a' = a.put o.dst v ∧ D i v w' ∧ Below w.heap.size w w') Q)
    (hfin : ∀ a w, Below w0.heap.size w0 w → a.tmps.size = a0.tmps.size → a.defers = a0.defers → (∀ t, (∀ o' ∈ l, o'.dst ≠ some t) → a.tmps.getD t undef = a0.tmps.getD t undef) →
      (∀ i o d, l[i]? = some o → o.dst = some d → D i (a.tmps.getD d undef) w) → z.wp P a w (fun a' w' => Q .normal a' w') Q ∨ (z.asks P a w ∧ LetsOut Q)) :
    ∀ (fuel : Nat) (listed : Array Bool) (a : Act) (w : World), listed.toList.count false = fuel → EInv l (l ++ [z]) D a0 w0 listed a w → wpAny P .any (l ++ [z]).toArray Q fuel listed a w := by
  simp only [endOk, Bool.and_eq_true, List.all_eq_true, List.mem_range, decide_eq_true_eq] at hen
  obtain ⟨hr1, hr2⟩ := hen
  obtain ⟨k1, k2, k3⟩ := okOps_spec hok
  have hlen : (l ++ [z]).length = l.length + 1 := by simp
  intro fuel
  induction fuel with
  | zero =>
    intro listed a w hc inv
    exfalso
    have hli : l.length < listed.size := by rw [inv.lsize]; omega
    have : false ∈ listed.toList := by
      have h2 : listed[l.length] = false := by simpa [Array.getD_eq_getD_getElem?, Array.getElem?_eq_getElem hli] using inv.last
      rw [← h2]; exact Array.getElem_mem_toList hli
    exact absurd (List.count_pos_iff.2 this) (by omega)
  | succ fuel ih =>
    intro listed a w hc inv
    refine ⟨fun hr => ?_, fun i hi => ?_⟩
    · have := listed_of (fun i hi => hr2 i (by omega)) (by rw [inv.lsize, hlen]) hr l.length (by omega)
      rw [inv.last] at this; cases this
    have hi' := hi
    simp only [Region.ready, List.mem_filter, List.mem_range, Bool.and_eq_true, Bool.not_eq_true', List.size_toArray] at hi'
    obtain ⟨hlt, hun, hdep⟩ := hi'
    have hli : i < listed.size := by rw [inv.lsize]; omega
    have hunf : listed.getD i false = false := by
      simpa [Array.getD_eq_getD_getElem?, Array.getElem?_eq_getElem hli] using hun
    have ho : (l ++ [z])[i]? = some (l ++ [z])[i] := List.getElem?_eq_getElem hlt
    have hc' := count_step hli hun hc
    have hdeps : ∀ e ∈ ((l ++ [z])[i]).after, Region.binds .any e = true → listed.getD e.on false = true := by
      intro e he hb
      simp only [List.getElem?_toArray, ho, Option.map_some, Option.getD_some] at hdep
      have := (Array.all_eq_true'.1 hdep) e he
      simpa [hb] using this
    have hdl : ∀ j ∈ depsOf (l ++ [z]) i, listed.getD j false = true := by
      intro j hj
      simp only [depsOf, ho, List.mem_map, List.mem_filter] at hj
      obtain ⟨e, ⟨he, hb⟩, rfl⟩ := hj
      exact hdeps e (by simpa using he) hb
    unfold wpOp
    rw [List.getElem?_toArray, ho]
    show if Region.wanted (l ++ [z])[i] (yielded (l ++ [z]).toArray a.tmps) = true then _ else _
    rcases Nat.lt_or_ge i l.length with hil | hil
    · have hoi : l[i]? = some (l ++ [z])[i] := by rw [← ho, List.getElem?_append_left hil]
      generalize hzo : (l ++ [z])[i] = o at *
      obtain ⟨hg, H⟩ := hop i o hoi a w ⟨inv.below, inv.old, fun e he hb o' d hj hd => inv.done e.on o' d hj (hdeps e he hb) hd⟩
      obtain ⟨d, hd, hdn⟩ := k1 o (List.mem_of_getElem? hoi)
      rw [if_pos (wanted_free hg _)]
      refine .inl (Oper.wp_mono ?_ H)
      rintro a' w' ⟨v, rfl, hv, hb⟩
      rw [hd]
      refine ih _ _ _ hc' ⟨inv.below.trans (hb.mono inv.below.size), by simp [Act.put, inv.size], inv.defers, fun t ht => ?_, fun j o' d' hj hl hd' => ?_, by simp [inv.lsize], fun j hj q hq => ?_, ?_⟩
      · rw [getD_put, if_neg (fun h => ht o (List.mem_of_getElem? hoi) (by rw [hd, h.1]))]
        exact inv.old t ht
      · rw [getD_put]
        by_cases hij : i = j
        · subst hij
          rw [hoi] at hj
          injection hj with hj
          subst hj
          rw [hd] at hd'
          injection hd' with hd'
          subst hd'
          rw [if_pos ⟨rfl, by rw [inv.size]; exact hdn⟩]
          exact hv
        · rw [if_neg (fun h => hij (dst_inj k2 hoi hj (by rw [hd, hd', h.1])))]
          refine hst _ _ _ _ (inv.done j o' d' hj ?_ hd') hb
          rwa [getD_listed _ _ _ hli, if_neg hij] at hl
      · rw [getD_listed _ _ _ hli] at hj ⊢
        by_cases hiq : i = q
        · rw [if_pos hiq]
        · rw [if_neg hiq]
          by_cases hij : i = j
          · subst hij; exact hdl q hq
          · rw [if_neg hij] at hj; exact inv.closed j hj q hq
      · rw [getD_listed _ _ _ hli, if_neg (by omega)]; exact inv.last
    · have e0 : i = l.length := by omega
      have hzo : (l ++ [z])[i] = z := by simp [e0]
      rw [hzo, if_pos (wanted_free hz _)]
      have hall : ∀ j, j < l.length → listed.getD j false = true := fun j hj =>
        reach_in (l ++ [z]) (fun i => listed.getD i false = true) inv.closed l.length _ (fun q hq => hdl q (by rw [e0]; exact hq)) j (by simpa using hr1 j hj)
      have H := hfin a w inv.below inv.size inv.defers inv.old fun i o d hi hd => inv.done i o d hi (hall i (List.getElem?_eq_some_iff.1 hi).1) hd
      rcases H with H | H
      rotate_left
      · exact .inr H
      refine .inl (Oper.wp_mono ?_ H)
      intro a' w' hq
      have hfull : ∀ j, j < l.length + 1 → (listed.setIfInBounds i true).getD j false = true := fun j hj => by
        rw [getD_listed _ _ _ hli]
        by_cases h : i = j
        · rw [if_pos h]
        · rw [if_neg h]; exact hall j (by omega)
      have hcount : (listed.setIfInBounds i true).toList.count false = 0 := by
        rw [List.count_eq_zero]
        intro hm
        obtain ⟨j, hj, he⟩ := List.getElem_of_mem hm
        have hj2 : j < (listed.setIfInBounds i true).size := by simpa using hj
        have := hfull j (by simp [inv.lsize] at hj2; exact hj2)
        simp only [Array.getD_eq_getD_getElem?, Array.getElem?_eq_getElem hj2, Option.getD_some] at this
        rw [Array.getElem_toList] at he
        rw [he] at this; cases this
      rw [hcount] at hc'
      subst hc'
      have hr : Region.ready .any (l ++ [z]).toArray (listed.setIfInBounds i true) = [] := by
        rw [List.eq_nil_iff_forall_not_mem]
        intro j hj
        simp only [Region.ready, List.mem_filter, List.mem_range, Bool.and_eq_true, Bool.not_eq_true', List.size_toArray] at hj
        have h1 := hfull j (by omega)
        have hlj : j < (listed.setIfInBounds i true).size := by simp [inv.lsize]; omega
        simp only [Array.getD_eq_getD_getElem?, Array.getElem?_eq_getElem hlj, Option.getD_some] at h1 hj
        rw [h1] at hj; exact absurd hj.2.1 (by decide)
      exact ⟨hr, hq⟩
def EPart (P : Program) (l : List Oper) (ds : List (Value → World → Prop)) (a0 : Act) (w0 : World) (Q : Exit → Act → World → Prop) (i : Nat) (o : Oper) : Prop :=
  ∀ a w, Ctx l (Ds ds) a0 w0 o a w → o.guard = none ∧ Does P (Ds ds i) o a w Q
theorem wp_region_end {id : Nat} {ops : List Oper} (l : List Oper) (z : Oper) (ds : List (Value → World → Prop)) (hops : ops = l ++ [z]) (hm : P.follows .mixedOrders = true) (hok : okOps l a0.tmps.size = true) (hz : z.guard.isNone = true) (hen : endOk (l ++ [z]) l.length = true) (hlen : ds.length = l.length) (hst : AllStable ds)
    (hop : AllFrom (EPart P l ds a0 w0 Q) 0 l) (hfin : ∀ w, Below w0.heap.size w0 w → Fin (fun a w => wpList P ops.toArray Q [z] a w) w a0.defers l ds a0.tmps) : (Code.region id ops.toArray true).wp P Q a0 w0 := by
  have hz2 : z.guard = none := by simpa using hz
  subst hops
  refine wp_region_any hm (region_end (D := Ds ds) hok hz2 hen (stable_ds ds (all_stable hst)) (fun i o ho => by have := all_from l 0 hop i o ho; rwa [Nat.zero_add] at this) (fun a w hb hsz hdf hold hdone => ?_) _ _ _ _ ?_ ⟨(Below.refl _ _).drew, rfl, rfl, fun _ _ => rfl, fun i o d _ hl _ => ?_, by simp, fun i hl => ?_, ?_⟩)
  · have hd1 : ∀ i o, l[i]? = some o → Ds ds i ((fun d : Option Tmp => match d with | some t => a.tmps.getD t undef | none => undef) o.dst) w := fun i o hi => by
      obtain ⟨d, hd, _⟩ := (okOps_spec hok).1 o (List.mem_of_getElem? hi)
      rw [hd]
      exact hdone i o d hi hd
    have e : a = putAll (fun d : Option Tmp => match d with | some t => a.tmps.getD t undef | none => undef) l a0 := by
      obtain ⟨e1, e2⟩ := put_all_size (fun d : Option Tmp => match d with | some t => a.tmps.getD t undef | none => undef) l a0
      refine act_ext (by rw [e1, hsz]) (by rw [e2, hdf]) fun t => ?_
      rw [put_all_at]
      by_cases h : (∃ o ∈ l, o.dst = some t) ∧ t < a0.tmps.size
      · rw [if_pos h]
      · rw [if_neg h]
        by_cases ht : t < a0.tmps.size
        · exact hold t fun o' ho e => h ⟨⟨o', ho, e⟩, ht⟩
        · rw [Array.getD_eq_getD_getElem?, Array.getD_eq_getD_getElem?, Array.getElem?_eq_none (by omega), Array.getElem?_eq_none (by omega)]
    have H := fin_all (fun d : Option Tmp => match d with | some t => a.tmps.getD t undef | none => undef) l ds a0 hlen hd1 (hfin w hb)
    rw [← e] at H
    unfold wpList at H
    rw [if_pos (wanted_free hz2 _)] at H
    exact H
  · simp
  · simp [Array.getD_eq_getD_getElem?, Array.getElem?_replicate] at hl
    split at hl <;> simp_all
  · simp [Array.getD_eq_getD_getElem?, Array.getElem?_replicate] at hl
    split at hl <;> simp_all
  · simp [Array.getD_eq_getD_getElem?]
def LPart (P : Program) (ops : List Oper) (ds : List (Value → World → Prop)) (a0 : Act) (w0 : World) (Q : Exit → Act → World → Prop) (i : Nat) (o : Oper) : Prop :=
  ∀ a w, Ctx ops (Ds ds) a0 w0 o a w → o.guard = none ∧ Does P (Ds ds i) o a w Q
theorem wp_region_last {id : Nat} {ops : List Oper} (n : Nat) (z : Oper) (ds : List (Value → World → Prop)) (hdz : ops.drop n = [z]) (hm : P.follows .mixedOrders = true) (hok : okOps (ops.take n) a0.tmps.size = true) (hz : z.guard.isNone = true) (hen : endOk ops n = true) (hlen : ds.length = (ops.take n).length) (hst : AllStable ds)
    (hop : AllFrom (LPart P ops ds a0 w0 Q) 0 (ops.take n)) (hfin : ∀ w, Below w0.heap.size w0 w → Fin (fun a w => wpList P ops.toArray Q [z] a w) w a0.defers (ops.take n) ds a0.tmps) : (Code.region id ops.toArray true).wp P Q a0 w0 := by
  have e : ops = ops.take n ++ [z] := by rw [← hdz, List.take_append_drop]
  have hl : (ops.take n).length = n := by
    have h1 := congrArg List.length hdz
    simp at h1
    rw [List.length_take]; omega
  have hen2 : endOk (ops.take n ++ [z]) (ops.take n).length = true := by rw [← e, hl]; exact hen
  refine wp_region_end (ops.take n) z ds e hm hok hz hen2 hlen hst ?_ hfin
  have hall := all_from (ops.take n) 0 hop
  have key : ∀ (m : List Oper) (k : Nat), (∀ i o, m[i]? = some o → (ops.take n)[k + i]? = some o) → AllFrom (EPart P (ops.take n) ds a0 w0 Q) k m := by
    intro m
    induction m with
    | nil => intro k _; exact trivial
    | cons o m ih =>
      intro k hk
      have ho := hk 0 o rfl
      rw [Nat.add_zero] at ho
      refine ⟨fun a w C => ?_, ih (k + 1) fun i o' hi => by have := hk (i + 1) o' (by simpa using hi); rwa [show k + 1 + i = k + (i + 1) by omega]⟩
      have H := hall k o ho
      rw [Nat.zero_add] at H
      refine H a w ⟨C.below, fun t ht => C.old t fun o' ho' => ht o' (List.mem_of_mem_take ho'), fun e' he hb o' d hj hd => C.dep e' he hb o' d ?_ hd⟩
      have hlt := (okOps_spec hok).2.2 k o ho e' he hb
      have hkl : k < (ops.take n).length := (List.getElem?_eq_some_iff.1 ho).1
      rw [List.getElem?_take, if_pos (by omega)]
      exact hj
  exact key (ops.take n) 0 fun i o hi => by rw [Nat.zero_add]; exact hi
end
end Go.Proofs.YtfoodaobiknihaaGreatDoor

/- A statement whose order of evaluation Go leaves open: if each operation, wherever it comes up, yields what is told of it, by what it waits for alone, and leaves old memory as it was, then so does the whole statement. No condition but those typed. -/
import Derived.Below
import Derived.Orders
import Derived.WalkKit
namespace Go.Proofs.YtohmkhmanidljaaDoor
set_option maxRecDepth 50000
open Go.RowKit

/-- each operation has a slot of its own below n, and waits for operations ahead of it alone -/
def okOps (ops : List Oper) (n : Nat) : Bool :=
  ops.all (fun o => match o.dst with | some d => decide (d < n) | none => false) && decide (ops.map (·.dst)).Nodup &&
  (List.range ops.length).all fun i => match ops[i]? with | some o => o.after.all fun e => !Region.binds .any e || decide (e.on < i) | none => true

/-- what is known when an operation comes up -/
structure Ctx (ops : List Oper) (D : Nat → Value → World → Prop) (a0 : Act) (w0 : World) (o : Oper) (a : Act) (w : World) : Prop where
  below : Below w0.heap.size w0 w
  old : ∀ t, (∀ o' ∈ ops, o'.dst ≠ some t) → a.tmps.getD t undef = a0.tmps.getD t undef
  dep : ∀ e ∈ o.after, Region.binds .any e = true → ∀ o' d, ops[e.on]? = some o' → o'.dst = some d → D e.on (a.tmps.getD d undef) w

structure RInv (ops : List Oper) (D : Nat → Value → World → Prop) (a0 : Act) (w0 : World) (listed : Array Bool) (a : Act) (w : World) : Prop where
  below : Below w0.heap.size w0 w
  size : a.tmps.size = a0.tmps.size
  defers : a.defers = a0.defers
  old : ∀ t, (∀ o' ∈ ops, o'.dst ≠ some t) → a.tmps.getD t undef = a0.tmps.getD t undef
  done : ∀ i o d, ops[i]? = some o → listed.getD i false = true → o.dst = some d → D i (a.tmps.getD d undef) w
  lsize : listed.size = ops.length

theorem getD_put (a : Act) (d t : Tmp) (v : Value) : (a.put (some d) v).tmps.getD t undef = if t = d ∧ d < a.tmps.size then v else a.tmps.getD t undef := by
  simp only [Act.put, Array.getD_eq_getD_getElem?, Array.getElem?_setIfInBounds]
  by_cases h : d = t
  · subst h
    by_cases h2 : d < a.tmps.size
    · simp [h2]
    · simp [h2]
  · simp [h, show ¬ t = d from fun e => h e.symm]

theorem okOps_spec {ops : List Oper} {n : Nat} (h : okOps ops n = true) :
    (∀ o ∈ ops, ∃ d, o.dst = some d ∧ d < n) ∧ (ops.map (·.dst)).Nodup ∧ (∀ i o, ops[i]? = some o → ∀ e ∈ o.after, Region.binds .any e = true → e.on < i) := by
  simp only [okOps, Bool.and_eq_true, decide_eq_true_eq, List.all_eq_true] at h
  obtain ⟨⟨h1, h2⟩, h3⟩ := h
  refine ⟨fun o ho => ?_, h2, fun i o hi e he hb => ?_⟩
  · have := h1 o ho
    cases hd : o.dst with
    | none => rw [hd] at this; cases this
    | some d => rw [hd] at this; exact ⟨d, rfl, by simpa using this⟩
  · have hlt : i < ops.length := (List.getElem?_eq_some_iff.1 hi).1
    have := h3 i (List.mem_range.2 hlt)
    rw [hi] at this
    have := (Array.all_eq_true'.1 this) e he
    simp only [Bool.or_eq_true, Bool.not_eq_true', decide_eq_true_eq] at this
    rcases this with h | h
    · rw [hb] at h; cases h
    · exact h

theorem dst_inj {ops : List Oper} (hn : (ops.map (·.dst)).Nodup) {i j : Nat} {o o' : Oper} (hi : ops[i]? = some o) (hj : ops[j]? = some o') (hd : o.dst = o'.dst) : i = j := by
  have hli : i < (ops.map (·.dst)).length := by simpa using (List.getElem?_eq_some_iff.1 hi).1
  have hlj : j < (ops.map (·.dst)).length := by simpa using (List.getElem?_eq_some_iff.1 hj).1
  refine (List.getElem_inj (h₀ := hli) (h₁ := hlj) hn).1 ?_
  simp only [List.getElem_map]
  rw [(List.getElem?_eq_some_iff.1 hi).2, (List.getElem?_eq_some_iff.1 hj).2, hd]

section
variable {P : Program} {ops : List Oper} {Q : Exit → Act → World → Prop} {a0 : Act} {w0 : World} {D : Nat → Value → World → Prop}

theorem rinv_step (hok : okOps ops a0.tmps.size = true) (hst : ∀ i v w w', D i v w → Below w.heap.size w w' → D i v w') {listed : Array Bool} {a : Act} {w w' : World} {i : Nat} {o : Oper} {v : Value}
    (inv : RInv ops D a0 w0 listed a w) (hi : ops[i]? = some o) (hv : D i v w') (hb : Below w.heap.size w w') : RInv ops D a0 w0 (listed.setIfInBounds i true) (a.put o.dst v) w' := by
  obtain ⟨h1, h2, _⟩ := okOps_spec hok
  obtain ⟨d, hd, hdn⟩ := h1 o (List.mem_of_getElem? hi)
  rw [hd]
  refine ⟨inv.below.trans (hb.mono inv.below.size), by simp [Act.put, inv.size], inv.defers, fun t ht => ?_, fun j o' d' hj hl hd' => ?_, by simp [inv.lsize]⟩
  · rw [getD_put, if_neg (fun h => ht o (List.mem_of_getElem? hi) (by rw [hd, h.1]))]
    exact inv.old t ht
  · rw [getD_put]
    by_cases hij : i = j
    · subst hij
      rw [hi] at hj
      injection hj with hj
      subst hj
      rw [hd] at hd'
      injection hd' with hd'
      subst hd'
      rw [if_pos ⟨rfl, by rw [inv.size]; exact hdn⟩]
      exact hv
    · rw [if_neg (fun h => hij (dst_inj h2 hi hj (by rw [hd, hd', h.1])))]
      refine hst _ _ _ _ (inv.done j o' d' hj ?_ hd') hb
      simpa [Array.getD_eq_getD_getElem?, Array.getElem?_setIfInBounds, hij] using hl

theorem all_listed (hok : okOps ops a0.tmps.size = true) {listed : Array Bool} (hs : listed.size = ops.length) (hr : Region.ready .any ops.toArray listed = []) : ∀ i, i < ops.length → listed.getD i false = true := by
  intro i
  induction i using Nat.strongRecOn with
  | ind i ih =>
    intro hi
    cases hc : listed.getD i false with
    | true => rfl
    | false =>
      exfalso
      have hne : i ∈ Region.ready .any ops.toArray listed := by
        have hli : i < listed.size := by omega
        have e2 : listed.getD i true = false := by
          simpa [Array.getD_eq_getD_getElem?, Array.getElem?_eq_getElem hli] using hc
        simp only [Region.ready, List.mem_filter, List.mem_range, Bool.and_eq_true, Bool.not_eq_true', e2, true_and, List.size_toArray, hi, List.getElem?_toArray, List.getElem?_eq_getElem hi, Option.map_some, Option.getD_some]
        rw [Array.all_eq_true']
        intro e he
        cases hb : Region.binds .any e with
        | false => rfl
        | true =>
          have hlt := (okOps_spec hok).2.2 i _ (List.getElem?_eq_getElem hi) e he hb
          simp only [Bool.not_true, Bool.false_or]
          exact ih e.on hlt (by omega)
      rw [hr] at hne
      cases hne

theorem count_step {listed : Array Bool} {i : Nat} (hi : i < listed.size) (h : listed.getD i true = false) {n : Nat} (hc : listed.toList.count false = n + 1) : (listed.setIfInBounds i true).toList.count false = n := by
  have hf : listed.toList[i]'(by simpa using hi) = false := by
    simpa [Array.getD_eq_getD_getElem?, Array.getElem?_eq_getElem hi] using h
  rw [Array.toList_setIfInBounds, List.count_set (by simpa using hi), hf, hc]
  simp

theorem region_any (hok : okOps ops a0.tmps.size = true) (hst : ∀ i v w w', D i v w → Below w.heap.size w w' → D i v w')
    (hop : ∀ i o, ops[i]? = some o → ∀ a w, Ctx ops D a0 w0 o a w → if Region.wanted o (yielded ops.toArray a.tmps) = true then o.wp P a w (fun a' w' => ∃ v, a' = a.put o.dst v ∧ D i v w' ∧ Below w.heap.size w w') Q else D i undef w)
    (hfin : ∀ a w, Below w0.heap.size w0 w → a.tmps.size = a0.tmps.size → a.defers = a0.defers → (∀ t, (∀ o' ∈ ops, o'.dst ≠ some t) → a.tmps.getD t undef = a0.tmps.getD t undef) →
      (∀ i o d, ops[i]? = some o → o.dst = some d → D i (a.tmps.getD d undef) w) → Q .normal a w) :
    ∀ (fuel : Nat) (listed : Array Bool) (a : Act) (w : World), listed.toList.count false = fuel → RInv ops D a0 w0 listed a w → wpAny P .any ops.toArray Q fuel listed a w := by
  have hend : ∀ (listed : Array Bool) (a : Act) (w : World), RInv ops D a0 w0 listed a w → Region.ready .any ops.toArray listed = [] → Q .normal a w := fun listed a w inv hr =>
    hfin a w inv.below inv.size inv.defers inv.old fun i o d hi hd => inv.done i o d hi (all_listed hok inv.lsize hr i (List.getElem?_eq_some_iff.1 hi).1) hd
  intro fuel
  induction fuel with
  | zero =>
    intro listed a w hc inv
    have hr : Region.ready .any ops.toArray listed = [] := by
      rw [List.eq_nil_iff_forall_not_mem]
      intro i hi
      simp only [Region.ready, List.mem_filter, List.mem_range, Bool.and_eq_true, Bool.not_eq_true'] at hi
      have hli : i < listed.size := by rw [inv.lsize]; simpa using hi.1
      have : false ∈ listed.toList := by
        have h2 : listed[i] = false := by simpa [Array.getD_eq_getD_getElem?, Array.getElem?_eq_getElem hli] using hi.2.1
        rw [← h2]; exact Array.getElem_mem_toList hli
      exact absurd (List.count_pos_iff.2 this) (by omega)
    exact ⟨hr, hend listed a w inv hr⟩
  | succ fuel ih =>
    intro listed a w hc inv
    refine ⟨hend listed a w inv, fun i hi => ?_⟩
    have hi' := hi
    simp only [Region.ready, List.mem_filter, List.mem_range, Bool.and_eq_true, Bool.not_eq_true', List.size_toArray] at hi'
    obtain ⟨hlt, hun, hdep⟩ := hi'
    have hli : i < listed.size := by rw [inv.lsize]; exact hlt
    have ho : ops[i]? = some ops[i] := List.getElem?_eq_getElem hlt
    have hc' := count_step hli hun hc
    have hdeps : ∀ e ∈ (ops[i]).after, Region.binds .any e = true → listed.getD e.on false = true := by
      intro e he hb
      simp only [List.getElem?_toArray, ho, Option.map_some, Option.getD_some] at hdep
      have := (Array.all_eq_true'.1 hdep) e he
      simpa [hb] using this
    have H := hop i ops[i] ho a w ⟨inv.below, inv.old, fun e he hb o' d hj hd => inv.done e.on o' d hj (hdeps e he hb) hd⟩
    unfold wpOp
    rw [List.getElem?_toArray, ho]
    show if Region.wanted ops[i] (yielded ops.toArray a.tmps) = true then _ else _
    by_cases hw : Region.wanted ops[i] (yielded ops.toArray a.tmps) = true
    · rw [if_pos hw] at H ⊢
      refine .inl (Oper.wp_mono ?_ H)
      rintro a' w' ⟨v, rfl, hv, hb⟩
      exact ih _ _ _ hc' (rinv_step hok hst inv ho hv hb)
    · rw [if_neg hw] at H ⊢
      exact ih _ _ _ hc' (rinv_step hok hst inv ho H (Below.refl _ _))

/-- THE REGION -/
theorem wp_region_each {id : Nat} (D : Nat → Value → World → Prop) (hm : P.follows .mixedOrders = true) (hok : okOps ops a0.tmps.size = true) (hst : ∀ i v w w', D i v w → Below w.heap.size w w' → D i v w')
    (hop : ∀ i o, ops[i]? = some o → ∀ a w, Ctx ops D a0 w0 o a w → if Region.wanted o (yielded ops.toArray a.tmps) = true then o.wp P a w (fun a' w' => ∃ v, a' = a.put o.dst v ∧ D i v w' ∧ Below w.heap.size w w') Q else D i undef w)
    (hfin : ∀ a w, Below w0.heap.size w0 w → a.tmps.size = a0.tmps.size → a.defers = a0.defers → (∀ t, (∀ o' ∈ ops, o'.dst ≠ some t) → a.tmps.getD t undef = a0.tmps.getD t undef) →
      (∀ i o d, ops[i]? = some o → o.dst = some d → D i (a.tmps.getD d undef) w) → Q .normal a w) : (Code.region id ops.toArray true).wp P Q a0 w0 := by
  refine wp_region_any hm (region_any hok hst hop hfin _ _ _ _ ?_ ⟨(Below.refl _ _).drew, rfl, rfl, fun _ _ => rfl, fun i o d _ hl _ => ?_, by simp⟩)
  · simp
  · simp [Array.getD_eq_getD_getElem?, Array.getElem?_replicate] at hl
    split at hl <;> simp_all
end
end Go.Proofs.YtohmkhmanidljaaDoor

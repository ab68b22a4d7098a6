/- A statement whose order is open, the last operation of which waits for all others: these may make memory; the last one is walked by itself. No condition but those typed. -/
import Derived.Test.YtnbdmkgldjhcaaaDoorGen
namespace Go.Proofs.YtnbdmkgldjhcaaaDoor
set_option maxRecDepth 50000
open Go.RowKit

/-- the last one waits for all ahead of it -/
def endOk (ops : List Oper) (n : Nat) : Bool :=
  (List.range n).all (fun j => (reach ops n (depsOf ops n)).contains j) && (List.range (n + 1)).all fun i => (depsOf ops i).all fun j => decide (j < i)

structure EInv (l ops : List Oper) (D : Nat → Value → World → Prop) (a0 : Act) (w0 : World) (listed : Array Bool) (a : Act) (w : World) : Prop where
  below : Below w0.heap.size w0 w
  size : a.tmps.size = a0.tmps.size
  defers : a.defers = a0.defers
  old : ∀ t, (∀ o' ∈ l, o'.dst ≠ some t) → a.tmps.getD t undef = a0.tmps.getD t undef
  done : ∀ i o d, l[i]? = some o → listed.getD i false = true → o.dst = some d → D i (a.tmps.getD d undef) w
  lsize : listed.size = l.length + 1
  closed : ∀ i, listed.getD i false = true → ∀ j ∈ depsOf ops i, listed.getD j false = true
  last : listed.getD l.length false = false

theorem listed_of {ops : List Oper} (hb : ∀ i, i < ops.length → ∀ j ∈ depsOf ops i, j < i) {listed : Array Bool} (hs : listed.size = ops.length) (hr : Region.ready .any ops.toArray listed = []) : ∀ i, i < ops.length → listed.getD i false = true := by
  intro i
  induction i using Nat.strongRecOn with
  | ind i ih =>
    intro hi
    cases hc : listed.getD i false with
    | true => rfl
    | false =>
      exfalso
      have hne : i ∈ Region.ready .any ops.toArray listed := by
        have hli : i < listed.size := by omega
        have e2 : listed.getD i true = false := by
          simpa [Array.getD_eq_getD_getElem?, Array.getElem?_eq_getElem hli] using hc
        simp only [Region.ready, List.mem_filter, List.mem_range, Bool.and_eq_true, Bool.not_eq_true', e2, true_and, List.size_toArray, hi, List.getElem?_toArray, List.getElem?_eq_getElem hi, Option.map_some, Option.getD_some]
        rw [Array.all_eq_true']
        intro e he
        cases hb2 : Region.binds .any e with
        | false => rfl
        | true =>
          have hlt := hb i hi e.on (by
            simp only [depsOf, List.getElem?_eq_getElem hi, List.mem_map, List.mem_filter]
            exact ⟨e, ⟨by simpa using he, hb2⟩, rfl⟩)
          simp only [Bool.not_true, Bool.false_or]
          exact ih e.on hlt (by omega)
      rw [hr] at hne
      cases hne

section
variable {P : Program} {l : List Oper} {z : Oper} {Q : Exit → Act → World → Prop} {a0 : Act} {w0 : World} {D : Nat → Value → World → Prop}

theorem region_end (hok : okOps l a0.tmps.size = true) (hz : z.guard = none) (hen : endOk (l ++ [z]) l.length = true) (hst : ∀ i v w w', D i v w → Below w.heap.size w w' → D i v w')
    (hop : ∀ i o, l[i]? = some o → ∀ a w, Ctx l D a0 w0 o a w → o.guard = none ∧ o.wp P a w (fun a' w' => ∃ v, a' = a.put o.dst v ∧ D i v w' ∧ Below w.heap.size w w') Q)
    (hfin : ∀ a w, Below w0.heap.size w0 w → a.tmps.size = a0.tmps.size → a.defers = a0.defers → (∀ t, (∀ o' ∈ l, o'.dst ≠ some t) → a.tmps.getD t undef = a0.tmps.getD t undef) →
      (∀ i o d, l[i]? = some o → o.dst = some d → D i (a.tmps.getD d undef) w) → z.wp P a w (fun a' w' => Q .normal a' w') Q ∨ (z.asks P a w ∧ LetsOut Q)) :
    ∀ (fuel : Nat) (listed : Array Bool) (a : Act) (w : World), listed.toList.count false = fuel → EInv l (l ++ [z]) D a0 w0 listed a w → wpAny P .any (l ++ [z]).toArray Q fuel listed a w := by
  simp only [endOk, Bool.and_eq_true, List.all_eq_true, List.mem_range, decide_eq_true_eq] at hen
  obtain ⟨hr1, hr2⟩ := hen
  obtain ⟨k1, k2, k3⟩ := okOps_spec hok
  have hlen : (l ++ [z]).length = l.length + 1 := by simp
  intro fuel
  induction fuel with
  | zero =>
    intro listed a w hc inv
    exfalso
    have hli : l.length < listed.size := by rw [inv.lsize]; omega
    have : false ∈ listed.toList := by
      have h2 : listed[l.length] = false := by simpa [Array.getD_eq_getD_getElem?, Array.getElem?_eq_getElem hli] using inv.last
      rw [← h2]; exact Array.getElem_mem_toList hli
    exact absurd (List.count_pos_iff.2 this) (by omega)
  | succ fuel ih =>
    intro listed a w hc inv
    refine ⟨fun hr => ?_, fun i hi => ?_⟩
    · have := listed_of (fun i hi => hr2 i (by omega)) (by rw [inv.lsize, hlen]) hr l.length (by omega)
      rw [inv.last] at this; cases this
    have hi' := hi
    simp only [Region.ready, List.mem_filter, List.mem_range, Bool.and_eq_true, Bool.not_eq_true', List.size_toArray] at hi'
    obtain ⟨hlt, hun, hdep⟩ := hi'
    have hli : i < listed.size := by rw [inv.lsize]; omega
    have hunf : listed.getD i false = false := by
      simpa [Array.getD_eq_getD_getElem?, Array.getElem?_eq_getElem hli] using hun
    have ho : (l ++ [z])[i]? = some (l ++ [z])[i] := List.getElem?_eq_getElem hlt
    have hc' := count_step hli hun hc
    have hdeps : ∀ e ∈ ((l ++ [z])[i]).after, Region.binds .any e = true → listed.getD e.on false = true := by
      intro e he hb
      simp only [List.getElem?_toArray, ho, Option.map_some, Option.getD_some] at hdep
      have := (Array.all_eq_true'.1 hdep) e he
      simpa [hb] using this
    have hdl : ∀ j ∈ depsOf (l ++ [z]) i, listed.getD j false = true := by
      intro j hj
      simp only [depsOf, ho, List.mem_map, List.mem_filter] at hj
      obtain ⟨e, ⟨he, hb⟩, rfl⟩ := hj
      exact hdeps e (by simpa using he) hb
    unfold wpOp
    rw [List.getElem?_toArray, ho]
    show if Region.wanted (l ++ [z])[i] (yielded (l ++ [z]).toArray a.tmps) = true then _ else _
    rcases Nat.lt_or_ge i l.length with hil | hil
    · have hoi : l[i]? = some (l ++ [z])[i] := by rw [← ho, List.getElem?_append_left hil]
      generalize hzo : (l ++ [z])[i] = o at *
      obtain ⟨hg, H⟩ := hop i o hoi a w ⟨inv.below, inv.old, fun e he hb o' d hj hd => inv.done e.on o' d hj (hdeps e he hb) hd⟩
      obtain ⟨d, hd, hdn⟩ := k1 o (List.mem_of_getElem? hoi)
      rw [if_pos (wanted_free hg _)]
      refine .inl (Oper.wp_mono ?_ H)
      rintro a' w' ⟨v, rfl, hv, hb⟩
      rw [hd]
      refine ih _ _ _ hc' ⟨inv.below.trans (hb.mono inv.below.size), by simp [Act.put, inv.size], inv.defers, fun t ht => ?_, fun j o' d' hj hl hd' => ?_, by simp [inv.lsize], fun j hj q hq => ?_, ?_⟩
      · rw [getD_put, if_neg (fun h => ht o (List.mem_of_getElem? hoi) (by rw [hd, h.1]))]
        exact inv.old t ht
      · rw [getD_put]
        by_cases hij : i = j
        · subst hij
          rw [hoi] at hj
          injection hj with hj
          subst hj
          rw [hd] at hd'
          injection hd' with hd'
          subst hd'
          rw [if_pos ⟨rfl, by rw [inv.size]; exact hdn⟩]
          exact hv
        · rw [if_neg (fun h => hij (dst_inj k2 hoi hj (by rw [hd, hd', h.1])))]
          refine hst _ _ _ _ (inv.done j o' d' hj ?_ hd') hb
          rwa [getD_listed _ _ _ hli, if_neg hij] at hl
      · rw [getD_listed _ _ _ hli] at hj ⊢
        by_cases hiq : i = q
        · rw [if_pos hiq]
        · rw [if_neg hiq]
          by_cases hij : i = j
          · subst hij; exact hdl q hq
          · rw [if_neg hij] at hj; exact inv.closed j hj q hq
      · rw [getD_listed _ _ _ hli, if_neg (by omega)]; exact inv.last
    · have e0 : i = l.length := by omega
      have hzo : (l ++ [z])[i] = z := by simp [e0]
      rw [hzo, if_pos (wanted_free hz _)]
      have hall : ∀ j, j < l.length → listed.getD j false = true := fun j hj =>
        reach_in (l ++ [z]) (fun i => listed.getD i false = true) inv.closed l.length _ (fun q hq => hdl q (by rw [e0]; exact hq)) j (by simpa using hr1 j hj)
      have H := hfin a w inv.below inv.size inv.defers inv.old fun i o d hi hd => inv.done i o d hi (hall i (List.getElem?_eq_some_iff.1 hi).1) hd
      rcases H with H | H
      rotate_left
      · exact .inr H
      refine .inl (Oper.wp_mono ?_ H)
      intro a' w' hq
      have hfull : ∀ j, j < l.length + 1 → (listed.setIfInBounds i true).getD j false = true := fun j hj => by
        rw [getD_listed _ _ _ hli]
        by_cases h : i = j
        · rw [if_pos h]
        · rw [if_neg h]; exact hall j (by omega)
      have hcount : (listed.setIfInBounds i true).toList.count false = 0 := by
        rw [List.count_eq_zero]
        intro hm
        obtain ⟨j, hj, he⟩ := List.getElem_of_mem hm
        have hj2 : j < (listed.setIfInBounds i true).size := by simpa using hj
        have := hfull j (by simp [inv.lsize] at hj2; exact hj2)
        simp only [Array.getD_eq_getD_getElem?, Array.getElem?_eq_getElem hj2, Option.getD_some] at this
        rw [Array.getElem_toList] at he
        rw [he] at this; cases this
      rw [hcount] at hc'
      subst hc'
      have hr : Region.ready .any (l ++ [z]).toArray (listed.setIfInBounds i true) = [] := by
        rw [List.eq_nil_iff_forall_not_mem]
        intro j hj
        simp only [Region.ready, List.mem_filter, List.mem_range, Bool.and_eq_true, Bool.not_eq_true', List.size_toArray] at hj
        have h1 := hfull j (by omega)
        have hlj : j < (listed.setIfInBounds i true).size := by simp [inv.lsize]; omega
        simp only [Array.getD_eq_getD_getElem?, Array.getElem?_eq_getElem hlj, Option.getD_some] at h1 hj
        rw [h1] at hj; exact absurd hj.2.1 (by decide)
      exact ⟨hr, hq⟩

/-- one operation's part -/
def EPart (P : Program) (l : List Oper) (ds : List (Value → World → Prop)) (a0 : Act) (w0 : World) (Q : Exit → Act → World → Prop) (i : Nat) (o : Oper) : Prop :=
  ∀ a w, Ctx l (Ds ds) a0 w0 o a w → o.guard = none ∧ Does P (Ds ds i) o a w Q
/-- THE REGION: ds what those ahead of the last one yield; then the last one, by itself -/
theorem wp_region_end {id : Nat} {ops : List Oper} (l : List Oper) (z : Oper) (ds : List (Value → World → Prop)) (hops : ops = l ++ [z]) (hm : P.follows .mixedOrders = true) (hok : okOps l a0.tmps.size = true) (hz : z.guard.isNone = true) (hen : endOk (l ++ [z]) l.length = true) (hlen : ds.length = l.length) (hst : AllStable ds)
    (hop : AllFrom (EPart P l ds a0 w0 Q) 0 l) (hfin : ∀ w, Below w0.heap.size w0 w → Fin (fun a w => wpList P ops.toArray Q [z] a w) w a0.defers l ds a0.tmps) : (Code.region id ops.toArray true).wp P Q a0 w0 := by
  have hz2 : z.guard = none := by simpa using hz
  subst hops
  refine wp_region_any hm (region_end (D := Ds ds) hok hz2 hen (stable_ds ds (all_stable hst)) (fun i o ho => by have := all_from l 0 hop i o ho; rwa [Nat.zero_add] at this) (fun a w hb hsz hdf hold hdone => ?_) _ _ _ _ ?_ ⟨(Below.refl _ _).drew, rfl, rfl, fun _ _ => rfl, fun i o d _ hl _ => ?_, by simp, fun i hl => ?_, ?_⟩)
  · have hd1 : ∀ i o, l[i]? = some o → Ds ds i ((fun d : Option Tmp => match d with | some t => a.tmps.getD t undef | none => undef) o.dst) w := fun i o hi => by
      obtain ⟨d, hd, _⟩ := (okOps_spec hok).1 o (List.mem_of_getElem? hi)
      rw [hd]
      exact hdone i o d hi hd
    have e : a = putAll (fun d : Option Tmp => match d with | some t => a.tmps.getD t undef | none => undef) l a0 := by
      obtain ⟨e1, e2⟩ := put_all_size (fun d : Option Tmp => match d with | some t => a.tmps.getD t undef | none => undef) l a0
      refine act_ext (by rw [e1, hsz]) (by rw [e2, hdf]) fun t => ?_
      rw [put_all_at]
      by_cases h : (∃ o ∈ l, o.dst = some t) ∧ t < a0.tmps.size
      · rw [if_pos h]
      · rw [if_neg h]
        by_cases ht : t < a0.tmps.size
        · exact hold t fun o' ho e => h ⟨⟨o', ho, e⟩, ht⟩
        · rw [Array.getD_eq_getD_getElem?, Array.getD_eq_getD_getElem?, Array.getElem?_eq_none (by omega), Array.getElem?_eq_none (by omega)]
    have H := fin_all (fun d : Option Tmp => match d with | some t => a.tmps.getD t undef | none => undef) l ds a0 hlen hd1 (hfin w hb)
    rw [← e] at H
    unfold wpList at H
    rw [if_pos (wanted_free hz2 _)] at H
    exact H
  · simp
  · simp [Array.getD_eq_getD_getElem?, Array.getElem?_replicate] at hl
    split at hl <;> simp_all
  · simp [Array.getD_eq_getD_getElem?, Array.getElem?_replicate] at hl
    split at hl <;> simp_all
  · simp [Array.getD_eq_getD_getElem?]

/-- likewise, told by the whole list -/
def LPart (P : Program) (ops : List Oper) (ds : List (Value → World → Prop)) (a0 : Act) (w0 : World) (Q : Exit → Act → World → Prop) (i : Nat) (o : Oper) : Prop :=
  ∀ a w, Ctx ops (Ds ds) a0 w0 o a w → o.guard = none ∧ Does P (Ds ds i) o a w Q
theorem wp_region_last {id : Nat} {ops : List Oper} (n : Nat) (z : Oper) (ds : List (Value → World → Prop)) (hdz : ops.drop n = [z]) (hm : P.follows .mixedOrders = true) (hok : okOps (ops.take n) a0.tmps.size = true) (hz : z.guard.isNone = true) (hen : endOk ops n = true) (hlen : ds.length = (ops.take n).length) (hst : AllStable ds)
    (hop : AllFrom (LPart P ops ds a0 w0 Q) 0 (ops.take n)) (hfin : ∀ w, Below w0.heap.size w0 w → Fin (fun a w => wpList P ops.toArray Q [z] a w) w a0.defers (ops.take n) ds a0.tmps) : (Code.region id ops.toArray true).wp P Q a0 w0 := by
  have e : ops = ops.take n ++ [z] := by rw [← hdz, List.take_append_drop]
  have hl : (ops.take n).length = n := by
    have h1 := congrArg List.length hdz
    simp at h1
    rw [List.length_take]; omega
  have hen2 : endOk (ops.take n ++ [z]) (ops.take n).length = true := by rw [← e, hl]; exact hen
  refine wp_region_end (ops.take n) z ds e hm hok hz hen2 hlen hst ?_ hfin
  have hall := all_from (ops.take n) 0 hop
  have key : ∀ (m : List Oper) (k : Nat), (∀ i o, m[i]? = some o → (ops.take n)[k + i]? = some o) → AllFrom (EPart P (ops.take n) ds a0 w0 Q) k m := by
    intro m
    induction m with
    | nil => intro k _; exact trivial
    | cons o m ih =>
      intro k hk
      have ho := hk 0 o rfl
      rw [Nat.add_zero] at ho
      refine ⟨fun a w C => ?_, ih (k + 1) fun i o' hi => by have := hk (i + 1) o' (by simpa using hi); rwa [show k + 1 + i = k + (i + 1) by omega]⟩
      have H := hall k o ho
      rw [Nat.zero_add] at H
      refine H a w ⟨C.below, fun t ht => C.old t fun o' ho' => ht o' (List.mem_of_mem_take ho'), fun e' he hb o' d hj hd => C.dep e' he hb o' d ?_ hd⟩
      have hlt := (okOps_spec hok).2.2 k o ho e' he hb
      have hkl : k < (ops.take n).length := (List.getElem?_eq_some_iff.1 ho).1
      rw [List.getElem?_take, if_pos (by omega)]
      exact hj
  exact key (ops.take n) 0 fun i o hi => by rw [Nat.zero_add]; exact hi
end
end Go.Proofs.YtnbdmkgldjhcaaaDoor

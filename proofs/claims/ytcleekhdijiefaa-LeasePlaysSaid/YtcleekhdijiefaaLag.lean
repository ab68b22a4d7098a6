/- A statement whose order is open, one of whose operations (number n) has no slot of its own or turns memory that the others made: those that it waits for come ahead of it, all others come when they like. What is told of a value may be told otherwise once n has come. No condition but those typed. -/
import Derived.Test.YtcleekhdijiefaaTail
namespace Go.Proofs.Ytcleekhdijiefaa
set_option maxRecDepth 50000
open Go.RowKit

/-- each operation but number n has a slot of its own below m, and waits for operations ahead of it alone -/
def okLag (ops : List Oper) (n m : Nat) : Bool :=
  ((List.range ops.length).all fun i => match ops[i]? with | some o => (match o.dst with | some d => decide (d < m) | none => i == n) | none => true) && decide (ops.map (·.dst)).Nodup &&
  (List.range ops.length).all fun i => match ops[i]? with | some o => o.after.all fun e => !Region.binds .any e || decide (e.on < i) | none => true
/-- number n waits for number i, by others too -/
def waits (ops : List Oper) (n i : Nat) : Bool := (reach ops ops.length (depsOf ops n)).contains i
theorem okLag_spec {ops : List Oper} {n m : Nat} (h : okLag ops n m = true) :
    (∀ i o, ops[i]? = some o → (∃ d, o.dst = some d ∧ d < m) ∨ (i = n ∧ o.dst = none)) ∧ (ops.map (·.dst)).Nodup ∧ (∀ i o, ops[i]? = some o → ∀ e ∈ o.after, Region.binds .any e = true → e.on < i) := by
  simp only [okLag, Bool.and_eq_true, decide_eq_true_eq, List.all_eq_true] at h
  obtain ⟨⟨h1, h2⟩, h3⟩ := h
  refine ⟨fun i o hi => ?_, h2, fun i o hi e he hb => ?_⟩
  · have := h1 i (List.mem_range.2 (List.getElem?_eq_some_iff.1 hi).1)
    rw [hi] at this
    cases hd : o.dst with
    | none => simp only [hd] at this; exact .inr ⟨by simpa using this, rfl⟩
    | some d => simp only [hd] at this; exact .inl ⟨d, rfl, by simpa using this⟩
  · have hlt : i < ops.length := (List.getElem?_eq_some_iff.1 hi).1
    have := h3 i (List.mem_range.2 hlt)
    rw [hi] at this
    have := (Array.all_eq_true'.1 this) e he
    simp only [Bool.or_eq_true, Bool.not_eq_true', decide_eq_true_eq] at this
    rcases this with h | h
    · rw [hb] at h; cases h
    · exact h

section
variable {P : Program} {ops : List Oper} {Q : Exit → Act → World → Prop} {a0 : Act} {w0 : World} {D E : Nat → Value → World → Prop} {n : Nat}

theorem lag_listed (hok : okLag ops n a0.tmps.size = true) {listed : Array Bool} (hs : listed.size = ops.length) (hr : Region.ready .any ops.toArray listed = []) : ∀ i, i < ops.length → listed.getD i false = true := by
  intro i
  induction i using Nat.strongRecOn with
  | ind i ih =>
    intro hi
    cases hc : listed.getD i false with
    | true => rfl
    | false =>
      exfalso
      have hne : i ∈ Region.ready .any ops.toArray listed := by
        have hli : i < listed.size := by omega
        have e2 : listed.getD i true = false := by
          simpa [Array.getD_eq_getD_getElem?, Array.getElem?_eq_getElem hli] using hc
        simp only [Region.ready, List.mem_filter, List.mem_range, Bool.and_eq_true, Bool.not_eq_true', e2, true_and, List.size_toArray, hi, List.getElem?_toArray, List.getElem?_eq_getElem hi, Option.map_some, Option.getD_some]
        rw [Array.all_eq_true']
        intro e he
        cases hb : Region.binds .any e with
        | false => rfl
        | true =>
          have hlt := (okLag_spec hok).2.2 i _ (List.getElem?_eq_getElem hi) e he hb
          simp only [Bool.not_true, Bool.false_or]
          exact ih e.on hlt (by omega)
      rw [hr] at hne
      cases hne


theorem linv_step (hok : okLag ops n a0.tmps.size = true) {listed : Array Bool} {a : Act} {w w' : World} {i : Nat} {o : Oper} {v : Value}
    (inv : RInv2 ops n D E a0 w0 listed a w) (hi : ops[i]? = some o) (hdep : ∀ j ∈ depsOf ops i, listed.getD j false = true)
    (hv : ∀ d, o.dst = some d → if (listed.setIfInBounds i true).getD n false = true then E i v w' else D i v w') (hb : Below w0.heap.size w0 w')
    (hst : ∀ j o' d, ops[j]? = some o' → o'.dst = some d → listed.getD j false = true → j ≠ i → (if listed.getD n false = true then E j (a.tmps.getD d undef) w else D j (a.tmps.getD d undef) w) → if (listed.setIfInBounds i true).getD n false = true then E j (a.tmps.getD d undef) w' else D j (a.tmps.getD d undef) w') : RInv2 ops n D E a0 w0 (listed.setIfInBounds i true) (a.put o.dst v) w' := by
  obtain ⟨h1, h2, _⟩ := okLag_spec hok
  have hil : i < listed.size := by rw [inv.lsize]; exact (List.getElem?_eq_some_iff.1 hi).1
  have hcl : ∀ j, (listed.setIfInBounds i true).getD j false = true → ∀ k ∈ depsOf ops j, (listed.setIfInBounds i true).getD k false = true := fun j hj k hk => by
    rw [getD_listed _ _ _ hil] at hj ⊢
    by_cases hik : i = k
    · rw [if_pos hik]
    · rw [if_neg hik]
      by_cases hij : i = j
      · subst hij; exact hdep k hk
      · rw [if_neg hij] at hj; exact inv.closed j hj k hk
  rcases h1 i o hi with ⟨d, hd, hdn⟩ | ⟨hin, hd⟩
  · rw [hd]
    refine ⟨hb, by simp [Act.put, inv.size], inv.defers, fun t ht => ?_, fun j o' d' hj hl hd' => ?_, by simp [inv.lsize], hcl⟩
    · rw [getD_put, if_neg (fun h => ht o (List.mem_of_getElem? hi) (by rw [hd, h.1]))]
      exact inv.old t ht
    · by_cases hij : i = j
      · subst hij
        rw [hi] at hj
        injection hj with hj
        subst hj
        rw [hd] at hd'
        injection hd' with hd'
        subst hd'
        have e : (a.put (some d) v).tmps.getD d undef = v := by rw [getD_put, if_pos ⟨rfl, by rw [inv.size]; exact hdn⟩]
        rw [e]
        exact hv d hd
      · have e : (a.put (some d) v).tmps.getD d' undef = a.tmps.getD d' undef := by rw [getD_put, if_neg (fun h => hij (dst_inj h2 hi hj (by rw [hd, hd', h.1])))]
        rw [e]
        have hl' : listed.getD j false = true := by rw [getD_listed _ _ _ hil, if_neg hij] at hl; exact hl
        exact hst j o' d' hj hd' hl' (fun e => hij e.symm) (inv.done j o' d' hj hl' hd')
  · rw [hd]
    refine ⟨hb, inv.size, inv.defers, inv.old, fun j o' d' hj hl hd' => ?_, by simp [inv.lsize], hcl⟩
    have hij : i ≠ j := fun e => by
      subst e
      rw [hi] at hj
      injection hj with hj
      subst hj
      rw [hd] at hd'
      cases hd'
    have hl' : listed.getD j false = true := by rw [getD_listed _ _ _ hil, if_neg hij] at hl; exact hl
    exact hst j o' d' hj hd' hl' (fun e => hij e.symm) (inv.done j o' d' hj hl' hd')

theorem region_lag (hok : okLag ops n a0.tmps.size = true) (hn : n < ops.length) (hstD : ∀ i v w w', D i v w → Below w.heap.size w w' → D i v w') (hstE : ∀ i v w w', E i v w → Below w.heap.size w w' → E i v w')
    (hhead : ∀ i o, i ≠ n → ops[i]? = some o → ∀ a w, Ctx ops D a0 w0 o a w → if Region.wanted o (yielded ops.toArray a.tmps) = true then o.wp P a w (fun a' w' => ∃ v, a' = a.put o.dst v ∧ D i v w' ∧ Below w.heap.size w w') Q else D i undef w)
    (hmid : ∀ o, ops[n]? = some o → ∀ a w, Ctx ops D a0 w0 o a w → Region.wanted o (yielded ops.toArray a.tmps) = true ∧ o.wp P a w (fun a' w' => ∃ v, a' = a.put o.dst v ∧ E n v w' ∧ Below w0.heap.size w0 w' ∧ ∀ i o' d, ops[i]? = some o' → o'.dst = some d → i ≠ n → D i (a.tmps.getD d undef) w → E i (a.tmps.getD d undef) w') Q)
    (hlast : ∀ i o, i ≠ n → waits ops n i = false → ops[i]? = some o → ∀ a w, Ctx ops E a0 w0 o a w → if Region.wanted o (yielded ops.toArray a.tmps) = true then o.wp P a w (fun a' w' => ∃ v, a' = a.put o.dst v ∧ E i v w' ∧ Below w.heap.size w w') Q else E i undef w)
    (hfin : ∀ a w, Below w0.heap.size w0 w → a.tmps.size = a0.tmps.size → a.defers = a0.defers → (∀ t, (∀ o' ∈ ops, o'.dst ≠ some t) → a.tmps.getD t undef = a0.tmps.getD t undef) →
      (∀ i o d, ops[i]? = some o → o.dst = some d → E i (a.tmps.getD d undef) w) → Q .normal a w) :
    ∀ (fuel : Nat) (listed : Array Bool) (a : Act) (w : World), listed.toList.count false = fuel → RInv2 ops n D E a0 w0 listed a w → wpAny P .any ops.toArray Q fuel listed a w := by
  have hwait : ∀ {listed : Array Bool} {a : Act} {w : World}, RInv2 ops n D E a0 w0 listed a w → listed.getD n false = true → ∀ i, waits ops n i = true → listed.getD i false = true := fun inv hd i hi =>
    reach_in ops (fun i => _ = true) inv.closed ops.length _ (inv.closed n hd) i (by simpa [waits] using hi)
  have hend : ∀ (listed : Array Bool) (a : Act) (w : World), RInv2 ops n D E a0 w0 listed a w → Region.ready .any ops.toArray listed = [] → Q .normal a w := fun listed a w inv hr =>
    hfin a w inv.below inv.size inv.defers inv.old fun i o d hi hd => by
      have h := inv.done i o d hi (lag_listed hok inv.lsize hr i (List.getElem?_eq_some_iff.1 hi).1) hd
      rw [if_pos (lag_listed hok inv.lsize hr n hn)] at h
      exact h
  intro fuel
  induction fuel with
  | zero =>
    intro listed a w hc inv
    have hr : Region.ready .any ops.toArray listed = [] := by
      rw [List.eq_nil_iff_forall_not_mem]
      intro i hi
      simp only [Region.ready, List.mem_filter, List.mem_range, Bool.and_eq_true, Bool.not_eq_true'] at hi
      have hli : i < listed.size := by rw [inv.lsize]; simpa using hi.1
      have : false ∈ listed.toList := by
        have h2 : listed[i] = false := by simpa [Array.getD_eq_getD_getElem?, Array.getElem?_eq_getElem hli] using hi.2.1
        rw [← h2]; exact Array.getElem_mem_toList hli
      exact absurd (List.count_pos_iff.2 this) (by omega)
    exact ⟨hr, hend listed a w inv hr⟩
  | succ fuel ih =>
    intro listed a w hc inv
    refine ⟨hend listed a w inv, fun i hi => ?_⟩
    have hi' := hi
    simp only [Region.ready, List.mem_filter, List.mem_range, Bool.and_eq_true, Bool.not_eq_true', List.size_toArray] at hi'
    obtain ⟨hlt, hun, hdep⟩ := hi'
    have hli : i < listed.size := by rw [inv.lsize]; exact hlt
    have hunf : listed.getD i false = false := by
      simpa [Array.getD_eq_getD_getElem?, Array.getElem?_eq_getElem hli] using hun
    have ho : ops[i]? = some ops[i] := List.getElem?_eq_getElem hlt
    have hc' := count_step hli hun hc
    have hdeps : ∀ e ∈ (ops[i]).after, Region.binds .any e = true → listed.getD e.on false = true := by
      intro e he hb
      simp only [List.getElem?_toArray, ho, Option.map_some, Option.getD_some] at hdep
      have := (Array.all_eq_true'.1 hdep) e he
      simpa [hb] using this
    have hdl : ∀ j ∈ depsOf ops i, listed.getD j false = true := by
      intro j hj
      simp only [depsOf, ho, List.mem_map, List.mem_filter] at hj
      obtain ⟨e, ⟨he, hb⟩, rfl⟩ := hj
      exact hdeps e (by simpa using he) hb
    unfold wpOp
    rw [List.getElem?_toArray, ho]
    show if Region.wanted ops[i] (yielded ops.toArray a.tmps) = true then _ else _
    by_cases hin0 : i = n
    · subst hin0
      have hl2 : (listed.setIfInBounds i true).getD i false = true := by rw [getD_listed _ _ _ hli, if_pos rfl]
      obtain ⟨hw, H⟩ := hmid ops[i] ho a w ⟨inv.below, inv.old, fun e he hb o' d hj hd => by
        have := inv.done e.on o' d hj (hdeps e he hb) hd
        rw [hunf] at this; exact this⟩
      rw [if_pos hw]
      refine .inl (Oper.wp_mono ?_ H)
      rintro a' w' ⟨v, rfl, hv, hb, hconv⟩
      refine ih _ _ _ hc' (linv_step hok inv ho hdl (fun _ _ => by rw [hl2]; exact hv) hb fun j o' d hj hd' _ hji hd => ?_)
      rw [hl2]
      rw [hunf] at hd
      exact hconv j o' d hj hd' hji hd
    · have hne : ∀ b, listed.getD n false = b → (listed.setIfInBounds i true).getD n false = b := fun b h => by rw [getD_listed _ _ _ hli, if_neg hin0]; exact h
      cases hnl : listed.getD n false with
      | false =>
        have hnl2 := hne _ hnl
        have H := hhead i ops[i] hin0 ho a w ⟨inv.below, inv.old, fun e he hb o' d hj hd => by
          have := inv.done e.on o' d hj (hdeps e he hb) hd
          rw [hnl] at this; exact this⟩
        by_cases hw : Region.wanted ops[i] (yielded ops.toArray a.tmps) = true
        · rw [if_pos hw] at H ⊢
          refine .inl (Oper.wp_mono ?_ H)
          rintro a' w' ⟨v, rfl, hv, hb⟩
          exact ih _ _ _ hc' (linv_step hok inv ho hdl (fun _ _ => by rw [hnl2]; exact hv) (inv.below.trans (hb.mono inv.below.size)) fun j o' d _ _ _ _ hd => by rw [hnl] at hd; rw [hnl2]; exact hstD _ _ _ _ hd hb)
        · rw [if_neg hw] at H ⊢
          exact ih _ _ _ hc' (linv_step hok inv ho hdl (fun _ _ => by rw [hnl2]; exact H) inv.below fun j o' d _ _ _ _ hd => by rw [hnl] at hd; rw [hnl2]; exact hd)
      | true =>
        have hnl2 := hne _ hnl
        have hwf : waits ops n i = false := by
          cases h : waits ops n i with
          | false => rfl
          | true => rw [hwait inv hnl i h] at hunf; cases hunf
        have H := hlast i ops[i] hin0 hwf ho a w ⟨inv.below, inv.old, fun e he hb o' d hj hd => by
          have := inv.done e.on o' d hj (hdeps e he hb) hd
          rw [if_pos hnl] at this; exact this⟩
        by_cases hw : Region.wanted ops[i] (yielded ops.toArray a.tmps) = true
        · rw [if_pos hw] at H ⊢
          refine .inl (Oper.wp_mono ?_ H)
          rintro a' w' ⟨v, rfl, hv, hb⟩
          exact ih _ _ _ hc' (linv_step hok inv ho hdl (fun _ _ => by rw [hnl2]; exact hv) (inv.below.trans (hb.mono inv.below.size)) fun j o' d _ _ _ _ hd => by rw [if_pos hnl] at hd; rw [if_pos hnl2]; exact hstE _ _ _ _ hd hb)
        · rw [if_neg hw] at H ⊢
          exact ih _ _ _ hc' (linv_step hok inv ho hdl (fun _ _ => by rw [hnl2]; exact H) inv.below fun j o' d _ _ _ _ hd => by rw [if_pos hnl] at hd; rw [if_pos hnl2]; exact hd)

/-- what number n does, and what it makes of what was told -/
def TurnsAll (P : Program) (ops : List Oper) (ds es : List (Value → World → Prop)) (n : Nat) (o : Oper) (a : Act) (w0 w : World) (Q : Exit → Act → World → Prop) : Prop :=
  o.wp P a w (fun a' w' => ∃ v, a' = a.put o.dst v ∧ Ds es n v w' ∧ Below w0.heap.size w0 w' ∧ ∀ i o' d, ops[i]? = some o' → o'.dst = some d → i ≠ n → Ds ds i (a.tmps.getD d undef) w → Ds es i (a.tmps.getD d undef) w') Q

/-- THE REGION: until n has come each is told by ds, behind that by es -/
theorem wp_region_lag {id : Nat} (n : Nat) (ds es : List (Value → World → Prop)) (hm : P.follows .mixedOrders = true) (hok : okLag ops n a0.tmps.size = true) (hlen2 : es.length = ops.length) (hn : n < ops.length) (hst : AllStable ds) (hst2 : AllStable es)
    (hnone : ∀ w, Ds es n undef w)
    (hhead : AllFrom (fun i o => i ≠ n → Part P ops ds a0 w0 Q i o) 0 ops)
    (hmid : ∀ o, ops[n]? = some o → ∀ a w, Ctx ops (Ds ds) a0 w0 o a w → Region.wanted o (yielded ops.toArray a.tmps) = true ∧ TurnsAll P ops ds es n o a w0 w Q)
    (hlast : AllFrom (fun i o => i ≠ n → waits ops n i = false → Part P ops es a0 w0 Q i o) 0 ops)
    (hfin : ∀ w, Below w0.heap.size w0 w → Fin (Q .normal) w a0.defers ops es a0.tmps) : (Code.region id ops.toArray true).wp P Q a0 w0 := by
  refine wp_region_any hm (region_lag (n := n) (D := Ds ds) (E := Ds es) hok hn (stable_ds _ (all_stable hst)) (stable_ds _ (all_stable hst2)) (fun i o hi ho => ?_) (fun o ho a w C => ?_) (fun i o hi1 hi2 ho => ?_) (fun a w hb hsz hdf hold hdone => ?_) _ _ _ _ ?_ ⟨(Below.refl _ _).drew, rfl, rfl, fun _ _ => rfl, fun i o d _ hl _ => ?_, by simp, fun i hl => ?_⟩)
  · have := all_from _ 0 hhead i o ho
    rw [Nat.zero_add] at this
    exact this hi
  · exact hmid o ho a w C
  · have := all_from _ 0 hlast i o ho
    rw [Nat.zero_add] at this
    exact this hi1 hi2
  · have hd1 : ∀ i o, ops[i]? = some o → Ds es i ((fun d : Option Tmp => match d with | some t => a.tmps.getD t undef | none => undef) o.dst) w := fun i o hi => by
      rcases (okLag_spec hok).1 i o hi with ⟨d, hd, _⟩ | ⟨rfl, hd⟩
      · rw [hd]
        exact hdone i o d hi hd
      · rw [hd]
        exact hnone w
    have e' : a = putAll (fun d : Option Tmp => match d with | some t => a.tmps.getD t undef | none => undef) ops a0 := by
      obtain ⟨e1, e2⟩ := put_all_size (fun d : Option Tmp => match d with | some t => a.tmps.getD t undef | none => undef) ops a0
      refine act_ext (by rw [e1, hsz]) (by rw [e2, hdf]) fun t => ?_
      rw [put_all_at]
      by_cases h : (∃ o ∈ ops, o.dst = some t) ∧ t < a0.tmps.size
      · rw [if_pos h]
      · rw [if_neg h]
        by_cases ht : t < a0.tmps.size
        · exact hold t fun o' ho e => h ⟨⟨o', ho, e⟩, ht⟩
        · rw [Array.getD_eq_getD_getElem?, Array.getD_eq_getD_getElem?, Array.getElem?_eq_none (by omega), Array.getElem?_eq_none (by omega)]
    rw [e']
    exact fin_all _ ops _ a0 hlen2 hd1 (hfin w hb)
  · simp
  · simp [Array.getD_eq_getD_getElem?, Array.getElem?_replicate] at hl
    split at hl <;> simp_all
  · simp [Array.getD_eq_getD_getElem?, Array.getElem?_replicate] at hl
    split at hl <;> simp_all
end
end Go.Proofs.Ytcleekhdijiefaa

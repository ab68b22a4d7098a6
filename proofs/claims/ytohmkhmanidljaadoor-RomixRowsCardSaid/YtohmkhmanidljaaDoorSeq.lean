/- A statement whose order is open, some of whose operations turn memory one behind the other, while others neither wait for these nor do these wait for them: each operation yields one value. No condition but those typed. -/
import Derived.Test.YtohmkhmanidljaaDoorTail
namespace Go.Proofs.YtohmkhmanidljaaDoor
set_option maxRecDepth 50000
open Go.RowKit

/-- 0: done ahead of the first turning; 1: whenever; j + 2: the turning number j -/
def kindOf (ops : List Oper) (ms : List Nat) (i : Nat) : Nat :=
  if ms.contains i then ms.idxOf i + 2 else if (reach ops ops.length (depsOf ops (ms.getD 0 0))).contains i then 0 else 1
/-- slots of their own below n; no guards; waiting for those ahead alone; the turnings one behind the other -/
def okSeq (ops : List Oper) (ms : List Nat) (n : Nat) : Bool :=
  ops.all (fun o => (match o.dst with | some d => decide (d < n) | none => true) && o.guard.isNone) && decide (ops.filterMap (·.dst)).Nodup &&
  ((List.range ops.length).all fun i => (depsOf ops i).all fun j => decide (j < i)) &&
  (ms.all fun m => decide (m < ops.length)) && ((List.range ms.length).all fun j => decide (ms.idxOf (ms.getD j 0) = j) && (decide (j = 0) || (depsOf ops (ms.getD j 0)).contains (ms.getD (j - 1) 0)))

structure SCtx (ops : List Oper) (vs : List Value) (a0 : Act) (i : Nat) (o : Oper) (a : Act) : Prop where
  old : ∀ t, (∀ o' ∈ ops, o'.dst ≠ some t) → a.tmps.getD t undef = a0.tmps.getD t undef
  dep : ∀ e ∈ o.after, Region.binds .any e = true → ∀ o' d, ops[e.on]? = some o' → o'.dst = some d → a.tmps.getD d undef = vs.getD e.on undef
  late : ∀ t, (∀ j o', ops[j]? = some o' → o'.dst = some t → (reach ops ops.length (depsOf ops j)).contains i = true) → a.tmps.getD t undef = a0.tmps.getD t undef

structure SInv (ops : List Oper) (ms : List Nat) (vs : List Value) (W : Nat → World → Prop) (a0 : Act) (listed : Array Bool) (a : Act) (w : World) : Prop where
  size : a.tmps.size = a0.tmps.size
  defers : a.defers = a0.defers
  old : ∀ t, (∀ o' ∈ ops, o'.dst ≠ some t) → a.tmps.getD t undef = a0.tmps.getD t undef
  done : ∀ i o d, ops[i]? = some o → listed.getD i false = true → o.dst = some d → a.tmps.getD d undef = vs.getD i undef
  late : ∀ t, (∀ j o', ops[j]? = some o' → o'.dst = some t → listed.getD j false = false) → a.tmps.getD t undef = a0.tmps.getD t undef
  lsize : listed.size = ops.length
  closed : ∀ i, listed.getD i false = true → ∀ j ∈ depsOf ops i, listed.getD j false = true
  world : ∃ k, k ≤ ms.length ∧ W k w ∧ ∀ j, j < ms.length → (listed.getD (ms.getD j 0) false = true ↔ j < k)

theorem okSeq_spec {ops : List Oper} {ms : List Nat} {n : Nat} (h : okSeq ops ms n = true) :
    (∀ o ∈ ops, (∀ d, o.dst = some d → d < n) ∧ o.guard = none) ∧ (ops.filterMap (·.dst)).Nodup ∧ (∀ i, i < ops.length → ∀ j ∈ depsOf ops i, j < i) ∧ (∀ m ∈ ms, m < ops.length) ∧
      (∀ j, j < ms.length → ms.idxOf (ms.getD j 0) = j ∧ (0 < j → ms.getD (j - 1) 0 ∈ depsOf ops (ms.getD j 0))) := by
  simp only [okSeq, Bool.and_eq_true, decide_eq_true_eq, List.all_eq_true, List.mem_range] at h
  obtain ⟨⟨⟨⟨h1, h2⟩, h3⟩, h4⟩, h5⟩ := h
  refine ⟨fun o ho => ⟨fun d hd => ?_, ?_⟩, h2, h3, h4, fun j hj => ⟨(h5 j hj).1, fun h0 => ?_⟩⟩
  · have := (h1 o ho).1; rw [hd] at this; simpa using this
  · simpa using (h1 o ho).2
  · have := (h5 j hj).2
    simp only [Bool.or_eq_true, decide_eq_true_eq, List.contains_iff_mem] at this
    rcases this with h | h
    · omega
    · exact h
theorem dst_one {ops : List Oper} (hn : (ops.filterMap (·.dst)).Nodup) : ∀ {i j : Nat} {o o' : Oper} {d : Tmp}, ops[i]? = some o → ops[j]? = some o' → o.dst = some d → o'.dst = some d → i = j := by
  induction ops with
  | nil => intro i j o o' d hi; simp at hi
  | cons p ops ih =>
    intro i j o o' d hi hj hd hd'
    have hmem : ∀ {k : Nat} {q : Oper}, ops[k]? = some q → q.dst = some d → d ∈ ops.filterMap (·.dst) := fun hk hq => List.mem_filterMap.2 ⟨_, List.mem_of_getElem? hk, hq⟩
    have hn2 : (ops.filterMap (·.dst)).Nodup := by
      cases hp : p.dst with
      | none => rwa [List.filterMap_cons_none hp] at hn
      | some x => rw [List.filterMap_cons_some hp] at hn; exact (List.nodup_cons.1 hn).2
    have hno : p.dst = some d → d ∉ ops.filterMap (·.dst) := fun hp => by
      rw [List.filterMap_cons_some hp] at hn; exact (List.nodup_cons.1 hn).1
    cases i with
    | zero =>
      cases j with
      | zero => rfl
      | succ j =>
        simp only [List.getElem?_cons_zero, Option.some.injEq] at hi
        subst hi
        exact absurd (hmem (by simpa using hj) hd') (hno hd)
    | succ i =>
      cases j with
      | zero =>
        simp only [List.getElem?_cons_zero, Option.some.injEq] at hj
        subst hj
        exact absurd (hmem (by simpa using hi) hd) (hno hd')
      | succ j => exact congrArg (· + 1) (ih hn2 (i := i) (j := j) (by simpa using hi) (by simpa using hj) hd hd')

section
variable {P : Program} {ops : List Oper} {Q : Exit → Act → World → Prop} {a0 : Act} {ms : List Nat} {vs : List Value} {W : Nat → World → Prop}

theorem seq_listed (hok : okSeq ops ms a0.tmps.size = true) {listed : Array Bool} (hs : listed.size = ops.length) (hr : Region.ready .any ops.toArray listed = []) : ∀ i, i < ops.length → listed.getD i false = true := by
  intro i
  induction i using Nat.strongRecOn with
  | ind i ih =>
    intro hi
    cases hc : listed.getD i false with
    | true => rfl
    | false =>
      exfalso
      have hne : i ∈ Region.ready .any ops.toArray listed := by
        have hli : i < listed.size := by omega
        have e2 : listed.getD i true = false := by
          simpa [Array.getD_eq_getD_getElem?, Array.getElem?_eq_getElem hli] using hc
        simp only [Region.ready, List.mem_filter, List.mem_range, Bool.and_eq_true, Bool.not_eq_true', e2, true_and, List.size_toArray, hi, List.getElem?_toArray, List.getElem?_eq_getElem hi, Option.map_some, Option.getD_some]
        rw [Array.all_eq_true']
        intro e he
        cases hb : Region.binds .any e with
        | false => rfl
        | true =>
          have hlt := (okSeq_spec hok).2.2.1 i hi e.on (by
            simp only [depsOf, List.getElem?_eq_getElem hi, List.mem_map, List.mem_filter]
            exact ⟨e, ⟨by simpa using he, hb⟩, rfl⟩)
          simp only [Bool.not_true, Bool.false_or]
          exact ih e.on hlt (by omega)
      rw [hr] at hne
      cases hne

/-- what one operation is to do -/
def SPart (P : Program) (ops : List Oper) (ms : List Nat) (vs : List Value) (W : Nat → World → Prop) (a0 : Act) (Q : Exit → Act → World → Prop) (i : Nat) (o : Oper) : Prop :=
  ∀ a w k, SCtx ops vs a0 i o a → W k w → (kindOf ops ms i = 0 → k = 0) → (∀ j, kindOf ops ms i = j + 2 → k = j) → (∀ j, j < ms.length → (reach ops ops.length (depsOf ops (ms.getD j 0))).contains i = true → k ≤ j) →
    o.wp P a w (fun a' w' => a' = a.put o.dst (vs.getD i undef) ∧ W (if kindOf ops ms i < 2 then k else k + 1) w') Q

theorem region_seq (hok : okSeq ops ms a0.tmps.size = true) (hop : ∀ i o, ops[i]? = some o → SPart P ops ms vs W a0 Q i o)
    (hfin : ∀ a w, W ms.length w → a.tmps.size = a0.tmps.size → a.defers = a0.defers → (∀ t, (∀ o' ∈ ops, o'.dst ≠ some t) → a.tmps.getD t undef = a0.tmps.getD t undef) →
      (∀ i o d, ops[i]? = some o → o.dst = some d → a.tmps.getD d undef = vs.getD i undef) → Q .normal a w) :
    ∀ (fuel : Nat) (listed : Array Bool) (a : Act) (w : World), listed.toList.count false = fuel → SInv ops ms vs W a0 listed a w → wpAny P .any ops.toArray Q fuel listed a w := by
  obtain ⟨k1, k2, k3, k4, k5⟩ := okSeq_spec hok
  have hend : ∀ (listed : Array Bool) (a : Act) (w : World), SInv ops ms vs W a0 listed a w → Region.ready .any ops.toArray listed = [] → Q .normal a w := fun listed a w inv hr => by
    have hall := seq_listed hok inv.lsize hr
    obtain ⟨k, hk, hW, hk2⟩ := inv.world
    have e : k = ms.length := by
      rcases Nat.lt_or_ge k ms.length with h | h
      · have := (hk2 k h).1 (hall _ (k4 _ (by rw [List.getD_eq_getElem?_getD, List.getElem?_eq_getElem h]; exact List.getElem_mem h)))
        omega
      · omega
    subst e
    exact hfin a w hW inv.size inv.defers inv.old fun i o d hi hd => inv.done i o d hi (hall i (List.getElem?_eq_some_iff.1 hi).1) hd
  intro fuel
  induction fuel with
  | zero =>
    intro listed a w hc inv
    have hr : Region.ready .any ops.toArray listed = [] := by
      rw [List.eq_nil_iff_forall_not_mem]
      intro i hi
      simp only [Region.ready, List.mem_filter, List.mem_range, Bool.and_eq_true, Bool.not_eq_true'] at hi
      have hli : i < listed.size := by rw [inv.lsize]; simpa using hi.1
      have : false ∈ listed.toList := by
        have h2 : listed[i] = false := by simpa [Array.getD_eq_getD_getElem?, Array.getElem?_eq_getElem hli] using hi.2.1
        rw [← h2]; exact Array.getElem_mem_toList hli
      exact absurd (List.count_pos_iff.2 this) (by omega)
    exact ⟨hr, hend listed a w inv hr⟩
  | succ fuel ih =>
    intro listed a w hc inv
    refine ⟨hend listed a w inv, fun i hi => ?_⟩
    have hi' := hi
    simp only [Region.ready, List.mem_filter, List.mem_range, Bool.and_eq_true, Bool.not_eq_true', List.size_toArray] at hi'
    obtain ⟨hlt, hun, hdep⟩ := hi'
    have hli : i < listed.size := by rw [inv.lsize]; exact hlt
    have hunf : listed.getD i false = false := by
      simpa [Array.getD_eq_getD_getElem?, Array.getElem?_eq_getElem hli] using hun
    have ho : ops[i]? = some ops[i] := List.getElem?_eq_getElem hlt
    have hc' := count_step hli hun hc
    have hdeps : ∀ e ∈ (ops[i]).after, Region.binds .any e = true → listed.getD e.on false = true := by
      intro e he hb
      simp only [List.getElem?_toArray, ho, Option.map_some, Option.getD_some] at hdep
      have := (Array.all_eq_true'.1 hdep) e he
      simpa [hb] using this
    have hdl : ∀ j ∈ depsOf ops i, listed.getD j false = true := by
      intro j hj
      simp only [depsOf, ho, List.mem_map, List.mem_filter] at hj
      obtain ⟨e, ⟨he, hb⟩, rfl⟩ := hj
      exact hdeps e (by simpa using he) hb
    obtain ⟨k, hk, hW, hk2⟩ := inv.world
    have hmem : ∀ j, j < ms.length → ms.getD j 0 ∈ ms := fun j h => by rw [List.getD_eq_getElem?_getD, List.getElem?_eq_getElem h]; exact List.getElem_mem h
    have h0 : kindOf ops ms i = 0 → k = 0 := fun hz => by
      unfold kindOf at hz
      split at hz
      · omega
      · rename_i hnc
        split at hz
        · rename_i hr
          rcases Nat.eq_zero_or_pos k with h | h
          · exact h
          · exfalso
            have hm := (hk2 0 (by omega)).2 h
            have := reach_in ops (fun i => listed.getD i false = true) inv.closed ops.length _ (inv.closed _ hm) i (by simpa using hr)
            rw [hunf] at this; cases this
        · cases hz
    have hin : ∀ j, kindOf ops ms i = j + 2 → j < ms.length ∧ ms.getD j 0 = i := fun j hz => by
      unfold kindOf at hz
      split at hz
      · rename_i hcn
        have hmi : i ∈ ms := by simpa using hcn
        have hjl : ms.idxOf i < ms.length := List.idxOf_lt_length_of_mem hmi
        have : j = ms.idxOf i := by omega
        subst this
        refine ⟨hjl, ?_⟩
        rw [List.getD_eq_getElem?_getD, List.getElem?_eq_getElem hjl]
        simp
      · split at hz <;> omega
    have h1 : ∀ j, kindOf ops ms i = j + 2 → k = j := fun j hz => by
      obtain ⟨hj, he⟩ := hin j hz
      have a1 : ¬ j < k := fun h => by have := (hk2 j hj).2 h; rw [he, hunf] at this; cases this
      rcases Nat.eq_zero_or_pos j with h | h
      · omega
      · have := (k5 j hj).2 h
        rw [he] at this
        have := (hk2 (j - 1) (by omega)).1 (hdl _ this)
        omega
    have h2 : (∀ j, j < ms.length → (reach ops ops.length (depsOf ops (ms.getD j 0))).contains i = true → k ≤ j) := fun j hj hr => by
      rcases Nat.lt_or_ge j k with h | h
      · exfalso
        have hm := (hk2 j hj).2 h
        have := reach_in ops (fun i => listed.getD i false = true) inv.closed ops.length _ (inv.closed _ hm) i (by simpa using hr)
        rw [hunf] at this; cases this
      · exact h
    have H := hop i ops[i] ho a w k ⟨inv.old, fun e he hb o' d hj hd => inv.done e.on o' d hj (hdeps e he hb) hd, fun t ht => inv.late t fun j o' hj hd => by
      cases hl : listed.getD j false with
      | false => rfl
      | true =>
        have := reach_in ops (fun i => listed.getD i false = true) inv.closed ops.length _ (inv.closed _ hl) i (by simpa using ht j o' hj hd)
        rw [hunf] at this; cases this⟩ hW h0 h1 h2
    unfold wpOp
    rw [List.getElem?_toArray, ho]
    show if Region.wanted ops[i] (yielded ops.toArray a.tmps) = true then _ else _
    rw [if_pos (wanted_free (k1 _ (List.getElem_mem hlt)).2 _)]
    refine .inl (Oper.wp_mono ?_ H)
    rintro a' w' ⟨rfl, hW'⟩
    refine ih _ _ _ hc' ⟨?_, ?_, fun t ht => ?_, fun j o d hj hl hd => ?_, fun t ht => ?_, by simp [inv.lsize], fun j hj q hq => ?_, ?_⟩
    · rw [← inv.size]; cases (ops[i]).dst <;> simp [Act.put]
    · rw [← inv.defers]; cases (ops[i]).dst <;> rfl
    · rw [← inv.old t ht]
      cases hd : (ops[i]).dst with
      | none => rfl
      | some d => rw [getD_put, if_neg (fun h => ht _ (List.getElem_mem hlt) (by rw [hd, h.1]))]
    · by_cases hij : i = j
      · subst hij
        rw [ho] at hj
        injection hj with hj
        subst hj
        rw [hd, getD_put, if_pos ⟨rfl, by rw [inv.size]; exact (k1 _ (List.getElem_mem hlt)).1 d hd⟩]
      · have hl2 : listed.getD j false = true := by rwa [getD_listed _ _ _ hli, if_neg hij] at hl
        rw [← inv.done j o d hj hl2 hd]
        cases hd2 : (ops[i]).dst with
        | none => rfl
        | some d2 => rw [getD_put, if_neg (fun h => hij (dst_one k2 ho hj (by rw [hd2, h.1]) hd))]
    · have hno : ∀ j o', ops[j]? = some o' → o'.dst = some t → j ≠ i ∧ listed.getD j false = false := fun j o' hj hd => by
        have h3 := ht j o' hj hd
        rw [getD_listed _ _ _ hli] at h3
        by_cases hij : i = j
        · rw [if_pos hij] at h3; cases h3
        · rw [if_neg hij] at h3; exact ⟨Ne.symm hij, h3⟩
      rw [← inv.late t fun j o' hj hd => (hno j o' hj hd).2]
      cases hd : (ops[i]).dst with
      | none => rfl
      | some d => rw [getD_put, if_neg (fun h => (hno i _ ho (by rw [hd, h.1])).1 rfl)]
    · rw [getD_listed _ _ _ hli] at hj ⊢
      by_cases hiq : i = q
      · rw [if_pos hiq]
      · rw [if_neg hiq]
        by_cases hij : i = j
        · subst hij; exact hdl q hq
        · rw [if_neg hij] at hj; exact inv.closed j hj q hq
    · by_cases hz : kindOf ops ms i < 2
      · rw [if_pos hz] at hW'
        refine ⟨k, hk, hW', fun j hj => ?_⟩
        rw [getD_listed _ _ _ hli]
        have hne : ¬ i = ms.getD j 0 := fun e => by
          have : kindOf ops ms i = ms.idxOf i + 2 := by unfold kindOf; rw [if_pos (by rw [e]; simpa using hmem j hj)]
          omega
        rw [if_neg hne]
        exact hk2 j hj
      · rw [if_neg hz] at hW'
        obtain ⟨j0, hj0⟩ : ∃ j, kindOf ops ms i = j + 2 := ⟨kindOf ops ms i - 2, by omega⟩
        obtain ⟨hj1, hj2⟩ := hin j0 hj0
        obtain rfl := h1 j0 hj0
        refine ⟨k + 1, by omega, hW', fun j hj => ?_⟩
        rw [getD_listed _ _ _ hli]
        by_cases e : i = ms.getD j 0
        · rw [if_pos e]
          have := (k5 j hj).1
          have h3 := (k5 k hj1).1
          rw [← e] at this
          rw [hj2] at h3
          simp; omega
        · rw [if_neg e, hk2 j hj]
          have : j ≠ k := fun h => e (by rw [h, hj2])
          omega

def setAll : List Oper → List Value → Array Value → Array Value
  | o :: ops, v :: vs, m => setAll ops vs (setAt m o.dst v)
  | _, _, m => m
theorem setAt_size (m : Array Value) (d : Option Tmp) (v : Value) : (setAt m d v).size = m.size := by cases d <;> simp [setAt]
theorem setAll_size : ∀ (ops : List Oper) (vs : List Value) (m : Array Value), (setAll ops vs m).size = m.size
  | [], _, _ => rfl
  | _ :: _, [], _ => rfl
  | o :: ops, v :: vs, m => by rw [setAll, setAll_size ops vs, setAt_size]
theorem setAt_other (m : Array Value) (d : Option Tmp) (v : Value) (t : Tmp) (h : d ≠ some t) : (setAt m d v).getD t undef = m.getD t undef := by
  cases d with
  | none => rfl
  | some d =>
    have : d ≠ t := fun e => h (by rw [e])
    simp [setAt, Array.getD_eq_getD_getElem?, this]
theorem setAll_other (t : Tmp) : ∀ (ops : List Oper) (vs : List Value) (m : Array Value), (∀ o ∈ ops, o.dst ≠ some t) → (setAll ops vs m).getD t undef = m.getD t undef
  | [], _, _, _ => rfl
  | _ :: _, [], _, _ => rfl
  | o :: ops, v :: vs, m, h => by
    rw [setAll, setAll_other t ops vs _ (fun o' ho' => h o' (by simp [ho'])), setAt_other _ _ _ _ (h o (by simp))]
theorem setAll_at (t : Tmp) : ∀ (ops : List Oper) (vs : List Value) (m : Array Value), vs.length = ops.length → (ops.filterMap (·.dst)).Nodup → t < m.size → ∀ i o, ops[i]? = some o → o.dst = some t → (setAll ops vs m).getD t undef = vs.getD i undef
  | [], _, _, _, _, _, i, o, hi, _ => by simp at hi
  | _ :: _, [], _, hl, _, _, _, _, _, _ => by simp at hl
  | p :: ops, v :: vs, m, hl, hn, ht, i, o, hi, hd => by
    rw [setAll]
    cases i with
    | zero =>
      simp only [List.getElem?_cons_zero, Option.some.injEq] at hi
      subst hi
      rw [List.filterMap_cons_some hd] at hn
      rw [setAll_other t ops vs _ (fun o' ho' e => (List.nodup_cons.1 hn).1 (List.mem_filterMap.2 ⟨o', ho', e⟩)), hd]
      simp [setAt, Array.getD_eq_getD_getElem?, ht]
    | succ i =>
      have hn2 : (ops.filterMap (·.dst)).Nodup := by
        cases hp : p.dst with
        | none => rwa [List.filterMap_cons_none hp] at hn
        | some x => rw [List.filterMap_cons_some hp] at hn; exact (List.nodup_cons.1 hn).2
      rw [setAll_at t ops vs _ (by simpa using hl) hn2 (by rw [setAt_size]; exact ht) i o (by simpa using hi) hd]
      rfl

/-- THE REGION: vs what each operation yields, ms those that turn memory, one behind the other; W k what holds behind k of them -/
theorem wp_region_seq {id : Nat} {w0 : World} (ms : List Nat) (vs : List Value) (W : Nat → World → Prop) (hm : P.follows .mixedOrders = true) (hok : okSeq ops ms a0.tmps.size = true) (hlen : vs.length = ops.length) (hW : W 0 w0.drew)
    (hop : AllFrom (SPart P ops ms vs W a0 Q) 0 ops) (hfin : ∀ w, W ms.length w → Q .normal ⟨setAll ops vs a0.tmps, a0.defers⟩ w) : (Code.region id ops.toArray true).wp P Q a0 w0 := by
  refine wp_region_any hm (region_seq hok (fun i o ho => by have := all_from ops 0 hop i o ho; rwa [Nat.zero_add] at this) (fun a w h hsz hdf hold hdone => ?_) _ _ _ _ ?_ ⟨rfl, rfl, fun _ _ => rfl, fun i o d _ hl _ => ?_, fun _ _ => rfl, by simp, fun i hl => ?_, 0, Nat.zero_le _, hW, fun j hj => ?_⟩)
  · obtain ⟨k1, k2, _⟩ := okSeq_spec hok
    have e : a = ⟨setAll ops vs a0.tmps, a0.defers⟩ := by
      refine act_ext (by rw [hsz, setAll_size]) hdf fun t => ?_
      by_cases h : ∃ o ∈ ops, o.dst = some t
      · obtain ⟨o, ho, hd⟩ := h
        obtain ⟨i, hi⟩ := List.getElem?_of_mem ho
        rw [hdone i o t hi hd, setAll_at t ops vs _ hlen k2 ((k1 o ho).1 t hd) i o hi hd]
      · have hno : ∀ o' ∈ ops, o'.dst ≠ some t := fun o' ho' e => h ⟨o', ho', e⟩
        rw [hold t hno, setAll_other t ops vs _ hno]
    rw [e]
    exact hfin w h
  · simp
  · simp [Array.getD_eq_getD_getElem?, Array.getElem?_replicate] at hl
    split at hl <;> simp_all
  · simp [Array.getD_eq_getD_getElem?, Array.getElem?_replicate] at hl
    split at hl <;> simp_all
  · simp only [Nat.not_lt_zero, iff_false, Array.getD_eq_getD_getElem?, Array.getElem?_replicate]
    split <;> simp

theorem SCtx.on {i : Nat} {o : Oper} {a : Act} (C : SCtx ops vs a0 i o a) {j : Nat} {o' : Oper} {d : Tmp} (h : o.after.toList.any (fun e => Region.binds .any e && e.on == j) = true) (hj : ops[j]? = some o') (hd : o'.dst = some d) : a.tmps.getD d undef = vs.getD j undef := by
  simp only [List.any_eq_true, Bool.and_eq_true, beq_iff_eq] at h
  obtain ⟨e, he, hb, rfl⟩ := h
  exact C.dep e (by simpa using he) hb o' d hj hd
theorem SCtx.was {i : Nat} {o : Oper} {a : Act} (C : SCtx ops vs a0 i o a) (t : Tmp) (h : (ops.all fun o' => o'.dst != some t) = true) : a.tmps.getD t undef = a0.tmps.getD t undef :=
  C.old t fun o' ho e => by have := List.all_eq_true.1 h o' ho; rw [e] at this; simp at this
theorem SCtx.yet {i : Nat} {o : Oper} {a : Act} (C : SCtx ops vs a0 i o a) (t : Tmp) (h : ((List.range ops.length).all fun j => ((ops.getD j o).dst != some t) || (reach ops ops.length (depsOf ops j)).contains i) = true) : a.tmps.getD t undef = a0.tmps.getD t undef :=
  C.late t fun j o' hj hd => by
    have hjl : j < ops.length := (List.getElem?_eq_some_iff.1 hj).1
    have h2 := List.all_eq_true.1 h j (List.mem_range.2 hjl)
    rw [List.getD_eq_getElem?_getD, hj] at h2
    simpa [hd] using h2
/-- an operation ahead of the first turning; one whenever; a turning -/
theorem seq_head {i : Nat} {o : Oper} (hk : kindOf ops ms i = 0) (hst : ∀ w w', W 0 w → Below w.heap.size w w' → W 0 w') (H : ∀ a w, SCtx ops vs a0 i o a → W 0 w → Does P (Is (vs.getD i undef)) o a w Q) : SPart P ops ms vs W a0 Q i o := by
  intro a w k C hW h0 _ _
  obtain rfl := h0 hk
  rw [if_pos (by rw [hk]; decide)]
  refine Oper.wp_mono ?_ (H a w C hW)
  rintro a' w' ⟨v, rfl, rfl, hb⟩
  exact ⟨rfl, hst _ _ hW hb⟩
theorem seq_float {i : Nat} {o : Oper} (hk : kindOf ops ms i = 1) (hst : ∀ k w w', W k w → Below w.heap.size w w' → W k w') (H : ∀ a w, SCtx ops vs a0 i o a → Does P (Is (vs.getD i undef)) o a w Q) : SPart P ops ms vs W a0 Q i o := by
  intro a w k C hW _ _ _
  rw [if_pos (by rw [hk]; decide)]
  refine Oper.wp_mono ?_ (H a w C)
  rintro a' w' ⟨v, rfl, rfl, hb⟩
  exact ⟨rfl, hst _ _ _ hW hb⟩
theorem seq_turn {i : Nat} {o : Oper} (j : Nat) (hk : kindOf ops ms i = j + 2) (H : ∀ a w, SCtx ops vs a0 i o a → W j w → o.wp P a w (fun a' w' => a' = a.put o.dst (vs.getD i undef) ∧ W (j + 1) w') Q) : SPart P ops ms vs W a0 Q i o := by
  intro a w k C hW _ h1 _
  obtain rfl := h1 j hk
  rw [if_neg (by rw [hk]; omega)]
  exact H a w C hW
/-- an operation that the turning number j waits for -/
theorem seq_early {i : Nat} {o : Oper} (j : Nat) (hk : decide (kindOf ops ms i < 2) = true) (hj : decide (j < ms.length) = true) (hr : (reach ops ops.length (depsOf ops (ms.getD j 0))).contains i = true) (hst : ∀ k w w', k ≤ j → W k w → Below w.heap.size w w' → W k w') (H : ∀ a w k, k ≤ j → SCtx ops vs a0 i o a → W k w → Does P (Is (vs.getD i undef)) o a w Q) : SPart P ops ms vs W a0 Q i o := by
  intro a w k C hW _ _ h2
  have hkj := h2 j (by simpa using hj) hr
  rw [if_pos (by simpa using hk)]
  refine Oper.wp_mono ?_ (H a w k hkj C hW)
  rintro a' w' ⟨v, rfl, rfl, hb⟩
  exact ⟨rfl, hst _ _ _ hkj hW hb⟩
/-- a call that turns memory -/
theorem turn_enter {a : Act} {w : World} {o : Oper} {f : FuncId} {args : Array Value} {v : Value} {R : World → Prop} (h : (execOp a.eval o).run P w = .ok (.enter f args) w) (hc : Calls P f args w fun e w' => e = .returned v ∧ R w') : o.wp P a w (fun a' w' => a' = a.put o.dst v ∧ R w') Q := by
  unfold Oper.wp
  rw [h]
  refine hc.mono ?_
  rintro e w' ⟨rfl, h1⟩
  exact ⟨rfl, h1⟩
end
end Go.Proofs.YtohmkhmanidljaaDoor

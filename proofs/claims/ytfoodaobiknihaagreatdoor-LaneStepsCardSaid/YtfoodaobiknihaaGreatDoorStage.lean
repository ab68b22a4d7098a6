/- A statement whose order is open, some operations of which (the numbers ns, one behind the other) turn memory, no older than B, or have no slot of their own: what is told of a value may be told otherwise from each of them on; all others come when they like, at the stages that are told for each. Those of the numbers fs make memory: no two of them the same. No condition but those typed. -/
import Derived.Test.YtfoodaobiknihaaGreatDoorGen
namespace Go.Proofs.YtfoodaobiknihaaGreatDoor
set_option maxRecDepth 50000
open Go.RowKit
def waits (ops : List Oper) (n i : Nat) : Bool := (reach ops ops.length (depsOf ops n)).contains i
def stA (ops : List Oper) (ns : List Nat) (m : Nat) : Bool := (List.range ops.length).all fun i => match ops[i]? with | some o => (match o.dst with | some d => decide (d < m) | none => ns.contains i) | none => true
def stB (ops : List Oper) : Bool := (List.range ops.length).all fun i => (List.range ops.length).all fun j => i == j || (match ops[i]?, ops[j]? with | some o, some o' => o.dst.isNone || o.dst != o'.dst | _, _ => true)
def stC (ops : List Oper) : Bool := (List.range ops.length).all fun i => match ops[i]? with | some o => o.after.all fun e => !Region.binds .any e || decide (e.on < i) | none => true
def stD (ops : List Oper) (ns : List Nat) : Bool := (ns.all fun n => decide (n < ops.length)) && (List.range ns.length).all fun q => (List.range q).all fun j => waits ops (ns.getD q 0) (ns.getD j 0)
def mayCome (ops : List Oper) (ns : List Nat) (k i : Nat) : Bool := ((List.range k).all fun j => !waits ops (ns.getD j 0) i) && (List.range ns.length).all fun j => decide (j < k) || !waits ops i (ns.getD j 0)
def stE (ops : List Oper) (ns : List Nat) (kss : List (List Nat)) : Bool := (List.range ops.length).all fun i => ns.contains i || (List.range (ns.length + 1)).all fun k => !mayCome ops ns k i || (kss.getD i []).contains k
def okStage (ops : List Oper) (ns : List Nat) (kss : List (List Nat)) (m : Nat) : Bool := stA ops ns m && stB ops && stC ops && stD ops ns && stE ops ns kss
structure OkS (ops : List Oper) (ns : List Nat) (kss : List (List Nat)) (m : Nat) : Prop where
  slot : ∀ (i : Nat) (o : Oper), ops[i]? = some o → (∃ d, o.dst = some d ∧ d < m) ∨ (i ∈ ns ∧ o.dst = none)
  inj : ∀ (i j : Nat) (o o' : Oper) (d : Tmp), ops[i]? = some o → ops[j]? = some o' → o.dst = some d → o'.dst = some d → i = j
  back : ∀ (i : Nat) (o : Oper), ops[i]? = some o → ∀ e ∈ o.after, Region.binds .any e = true → e.on < i
  lt : ∀ n ∈ ns, n < ops.length
  chain : ∀ q j, q < ns.length → j < q → waits ops (ns.getD q 0) (ns.getD j 0) = true
  comes : ∀ i k, i < ops.length → i ∉ ns → k ≤ ns.length → mayCome ops ns k i = true → k ∈ kss.getD i []
theorem okStage_spec {ops : List Oper} {ns : List Nat} {kss : List (List Nat)} {m : Nat} (h : okStage ops ns kss m = true) : OkS ops ns kss m := by
  simp only [okStage, stA, stB, stC, stD, stE, Bool.and_eq_true, List.all_eq_true, List.mem_range] at h
  obtain ⟨⟨⟨⟨h1, h2⟩, h3⟩, h4, h5⟩, h6⟩ := h
  have hl : ∀ {i : Nat} {o : Oper}, ops[i]? = some o → i < ops.length := fun hi => (List.getElem?_eq_some_iff.1 hi).1
  refine ⟨fun i o hi => ?_, fun i j o o' d hi hj hd hd' => ?_, fun i o hi e he hb => ?_, fun n hn => by simpa using h4 n hn, fun q j hq hj => h5 q hq j hj, fun i k hi hn hk hm => ?_⟩
  · have := h1 i (hl hi)
    rw [hi] at this
    cases hd : o.dst with
    | none => simp only [hd] at this; exact .inr ⟨by simpa using this, rfl⟩
    | some d => simp only [hd] at this; exact .inl ⟨d, rfl, by simpa using this⟩
  · have := h2 i (hl hi) j (hl hj)
    rw [hi, hj] at this
    simp only [hd, hd', Option.isNone_some, bne_self_eq_false, Bool.or_false, beq_iff_eq] at this
    exact this
  · have := h3 i (hl hi)
    rw [hi] at this
    have := (Array.all_eq_true'.1 this) e he
    simp only [Bool.or_eq_true, Bool.not_eq_true', decide_eq_true_eq] at this
    rcases this with h | h
    · rw [hb] at h; cases h
    · exact h
  · have := h6 i hi
    simp only [Bool.or_eq_true, List.all_eq_true, List.mem_range, List.contains_eq_mem, decide_eq_true_eq] at this
    rcases this with h | h
    · exact absurd h hn
    · have := h k (by omega)
      simpa [hm] using this
def FreshP (w w' : World) (v : Value) : Prop := ∃ b, v = .pointer (some ⟨b, 0, none⟩) ∧ w.heap.size ≤ b ∧ b < w'.heap.size
structure RInvS (B : Nat) (ops : List Oper) (ns fs : List Nat) (D : Nat → Nat → Value → World → Prop) (a0 : Act) (w0 : World) (k : Nat) (listed : Array Bool) (a : Act) (w : World) : Prop where
  below : if k = 0 then Below w0.heap.size w0 w else Below B w0 w
  size : a.tmps.size = a0.tmps.size
  defers : a.defers = a0.defers
  old : ∀ t, (∀ o' ∈ ops, o'.dst ≠ some t) → a.tmps.getD t undef = a0.tmps.getD t undef
  done : ∀ i o d, ops[i]? = some o → listed.getD i false = true → o.dst = some d → D k i (a.tmps.getD d undef) w
  lsize : listed.size = ops.length
  closed : ∀ i, listed.getD i false = true → ∀ j ∈ depsOf ops i, listed.getD j false = true
  upto : ∀ j, j < k → listed.getD (ns.getD j 0) false = true
  beyond : ∀ j, k ≤ j → j < ns.length → listed.getD (ns.getD j 0) false = false
  kle : k ≤ ns.length
  fr : ∀ i o d, i ∈ fs → ops[i]? = some o → listed.getD i false = true → o.dst = some d → ∃ b, a.tmps.getD d undef = .pointer (some ⟨b, 0, none⟩) ∧ b < w.heap.size
  df : ∀ i j o o' d d', i ∈ fs → j ∈ fs → i ≠ j → ops[i]? = some o → ops[j]? = some o' → listed.getD i false = true → listed.getD j false = true → o.dst = some d → o'.dst = some d' → a.tmps.getD d undef ≠ a.tmps.getD d' undef
section
variable {P : Program} {ops : List Oper} {Q : Exit → Act → World → Prop} {a0 : Act} {w0 : World} {D : Nat → Nat → Value → World → Prop} {ns fs : List Nat} {kss : List (List Nat)} {B : Nat}
theorem sinv_step (hok : OkS ops ns kss a0.tmps.size) {listed : Array Bool} {a : Act} {w w' : World} {i k k' : Nat} {o : Oper} {v : Value}
    (inv : RInvS B ops ns fs D a0 w0 k listed a w) (hi : ops[i]? = some o) (hdep : ∀ j ∈ depsOf ops i, listed.getD j false = true)
    (hv : ∀ d, o.dst = some d → D k' i v w') (hb : if k' = 0 then Below w0.heap.size w0 w' else Below B w0 w')
    (hst : ∀ j o' d, ops[j]? = some o' → o'.dst = some d → listed.getD j false = true → j ≠ i → D k j (a.tmps.getD d undef) w → D k' j (a.tmps.getD d undef) w')
    (hup : ∀ j, j < k' → (listed.setIfInBounds i true).getD (ns.getD j 0) false = true) (hbe : ∀ j, k' ≤ j → j < ns.length → (listed.setIfInBounds i true).getD (ns.getD j 0) false = false) (hk : k' ≤ ns.length) (hfr : i ∈ fs → FreshP w w' v) (hsz : w.heap.size ≤ w'.heap.size) :
    RInvS B ops ns fs D a0 w0 k' (listed.setIfInBounds i true) (a.put o.dst v) w' := by
  have hil : i < listed.size := by rw [inv.lsize]; exact (List.getElem?_eq_some_iff.1 hi).1
  have hcl : ∀ j, (listed.setIfInBounds i true).getD j false = true → ∀ k ∈ depsOf ops j, (listed.setIfInBounds i true).getD k false = true := fun j hj k hk => by
    rw [getD_listed _ _ _ hil] at hj ⊢
    by_cases hik : i = k
    · rw [if_pos hik]
    · rw [if_neg hik]
      by_cases hij : i = j
      · subst hij; exact hdep k hk
      · rw [if_neg hij] at hj; exact inv.closed j hj k hk
  have hol : ∀ j, j ≠ i → (listed.setIfInBounds i true).getD j false = true → listed.getD j false = true := fun j hji hl => by
    rw [getD_listed _ _ _ hil, if_neg (Ne.symm hji)] at hl; exact hl
  rcases hok.slot i o hi with ⟨d, hd, hdn⟩ | ⟨hin, hd⟩
  · have enew : (a.put (some d) v).tmps.getD d undef = v := by rw [getD_put, if_pos ⟨rfl, by rw [inv.size]; exact hdn⟩]
    have eold : ∀ j o' d', ops[j]? = some o' → o'.dst = some d' → j ≠ i → (a.put (some d) v).tmps.getD d' undef = a.tmps.getD d' undef := fun j o' d' hj hd' hji => by
      rw [getD_put, if_neg (fun h => hji (hok.inj j i o' o d hj hi (by rw [hd', h.1]) hd))]
    have eis : ∀ o' d', ops[i]? = some o' → o'.dst = some d' → d' = d := fun o' d' hj hd' => by
      rw [hi] at hj; injection hj with hj; subst hj; rw [hd] at hd'; injection hd' with hd'; exact hd'.symm
    rw [hd]
    refine ⟨hb, by simp [Act.put, inv.size], inv.defers, fun t ht => ?_, fun j o' d' hj hl hd' => ?_, by simp [inv.lsize], hcl, hup, hbe, hk, fun j o' d' hjf hj hl hd' => ?_, fun j q o' o'' d' d'' hjf hqf hjq hj hq hl hl2 hd' hd'' => ?_⟩
    · rw [getD_put, if_neg (fun h => ht o (List.mem_of_getElem? hi) (by rw [hd, h.1]))]
      exact inv.old t ht
    · by_cases hij : i = j
      · subst hij
        rw [hi] at hj
        injection hj with hj
        subst hj
        rw [hd] at hd'
        injection hd' with hd'
        subst hd'
        have e : (a.put (some d) v).tmps.getD d undef = v := by rw [getD_put, if_pos ⟨rfl, by rw [inv.size]; exact hdn⟩]
        rw [e]
        exact hv d hd
      · have e : (a.put (some d) v).tmps.getD d' undef = a.tmps.getD d' undef := by rw [getD_put, if_neg (fun h => hij (hok.inj i j o o' d hi hj hd (by rw [hd', h.1])))]
        rw [e]
        have hl' : listed.getD j false = true := by rw [getD_listed _ _ _ hil, if_neg hij] at hl; exact hl
        exact hst j o' d' hj hd' hl' (fun e => hij e.symm) (inv.done j o' d' hj hl' hd')
    · by_cases hji : j = i
      · subst hji
        rw [eis o' d' hj hd', enew]
        obtain ⟨b, e, _, h2⟩ := hfr hjf
        exact ⟨b, e, h2⟩
      · rw [eold j o' d' hj hd' hji]
        obtain ⟨b, e, h2⟩ := inv.fr j o' d' hjf hj (hol j hji hl) hd'
        exact ⟨b, e, by omega⟩
    · by_cases hji : j = i
      · subst hji
        rw [eis o' d' hj hd', enew, eold q o'' d'' hq hd'' (Ne.symm hjq)]
        obtain ⟨b, e, h1, _⟩ := hfr hjf
        obtain ⟨b', e', h2⟩ := inv.fr q o'' d'' hqf hq (hol q (Ne.symm hjq) hl2) hd''
        rw [e, e']
        intro h
        injection h with h
        injection h with h
        injection h with h
        omega
      · by_cases hqi : q = i
        · subst hqi
          rw [eis o'' d'' hq hd'', enew, eold j o' d' hj hd' hji]
          obtain ⟨b, e, h1, _⟩ := hfr hqf
          obtain ⟨b', e', h2⟩ := inv.fr j o' d' hjf hj (hol j hji hl) hd'
          rw [e, e']
          intro h
          injection h with h
          injection h with h
          injection h with h
          omega
        · rw [eold j o' d' hj hd' hji, eold q o'' d'' hq hd'' hqi]
          exact inv.df j q o' o'' d' d'' hjf hqf hjq hj hq (hol j hji hl) (hol q hqi hl2) hd' hd''
  · have hni : ∀ j o' d', ops[j]? = some o' → o'.dst = some d' → j ≠ i := fun j o' d' hj hd' e => by
      subst e
      rw [hi] at hj
      injection hj with hj
      subst hj
      rw [hd] at hd'
      cases hd'
    rw [hd]
    refine ⟨hb, inv.size, inv.defers, inv.old, fun j o' d' hj hl hd' => ?_, by simp [inv.lsize], hcl, hup, hbe, hk, fun j o' d' hjf hj hl hd' => ?_, fun j q o' o'' d' d'' hjf hqf hjq hj hq hl hl2 hd' hd'' => inv.df j q o' o'' d' d'' hjf hqf hjq hj hq (hol j (hni j o' d' hj hd') hl) (hol q (hni q o'' d'' hq hd'') hl2) hd' hd''⟩
    rotate_left
    · obtain ⟨b, e, h2⟩ := inv.fr j o' d' hjf hj (hol j (hni j o' d' hj hd') hl) hd'
      exact ⟨b, e, by omega⟩
    have hij : i ≠ j := fun e => by
      subst e
      rw [hi] at hj
      injection hj with hj
      subst hj
      rw [hd] at hd'
      cases hd'
    have hl' : listed.getD j false = true := by rw [getD_listed _ _ _ hil, if_neg hij] at hl; exact hl
    exact hst j o' d' hj hd' hl' (fun e => hij e.symm) (inv.done j o' d' hj hl' hd')
theorem stage_listed (hok : OkS ops ns kss a0.tmps.size) {listed : Array Bool} (hs : listed.size = ops.length) (hr : Region.ready .any ops.toArray listed = []) : ∀ i, i < ops.length → listed.getD i false = true := by
  intro i
  induction i using Nat.strongRecOn with
  | ind i ih =>
    intro hi
    cases hc : listed.getD i false with
    | true => rfl
    | false =>
      exfalso
      have hne : i ∈ Region.ready .any ops.toArray listed := by
        have hli : i < listed.size := by omega
        have e2 : listed.getD i true = false := by
          simpa [Array.getD_eq_getD_getElem?, Array.getElem?_eq_getElem hli] using hc
        simp only [Region.ready, List.mem_filter, List.mem_range, Bool.and_eq_true, Bool.not_eq_true', e2, true_and, List.size_toArray, hi, List.getElem?_toArray, List.getElem?_eq_getElem hi, Option.map_some, Option.getD_some]
        rw [Array.all_eq_true']
        intro e he
        cases hb : Region.binds .any e with
        | false => rfl
        | true =>
          have hlt := hok.back i _ (List.getElem?_eq_getElem hi) e he hb
          simp only [Bool.not_true, Bool.false_or]
          exact ih e.on hlt (by omega)
      rw [hr] at hne
      cases hne
def TurnsS (P : Program) (B : Nat) (ops : List Oper) (D : Nat → Nat → Value → World → Prop) (k n : Nat) (o : Oper) (a : Act) (w0 w : World) (Q : Exit → Act → World → Prop) : Prop :=
  o.wp P a w (fun a' w' => ∃ v, a' = a.put o.dst v ∧ D (k + 1) n v w' ∧ Below B w0 w' ∧ w.heap.size ≤ w'.heap.size ∧ ∀ i o' d, ops[i]? = some o' → o'.dst = some d → i ≠ n → waits ops i n = false → D k i (a.tmps.getD d undef) w → D (k + 1) i (a.tmps.getD d undef) w') Q
def backTo (k : Nat) (w0 w : World) : World := if k = 0 then w0 else w
def Apart (ops : List Oper) (fs : List Nat) (n : Nat) (a : Act) : Prop := ∀ i j o o' d d', i ∈ fs → j ∈ fs → i ≠ j → waits ops n i = true → waits ops n j = true → ops[i]? = some o → ops[j]? = some o' → o.dst = some d → o'.dst = some d' → a.tmps.getD d undef ≠ a.tmps.getD d' undef
theorem region_stage (hB : B ≤ w0.heap.size) (hok : OkS ops ns kss a0.tmps.size) (hst : ∀ k i v w w', D k i v w → Below w.heap.size w w' → D k i v w') (hnf : ∀ n ∈ ns, n ∉ fs)
    (hpart : ∀ i o k, i ∉ ns → k ∈ kss.getD i [] → ops[i]? = some o → ∀ a w, Ctx ops (D k) a0 (backTo k w0 w) o a w → Below B w0 w → if Region.wanted o (yielded ops.toArray a.tmps) = true then o.wp P a w (fun a' w' => ∃ v, a' = a.put o.dst v ∧ D k i v w' ∧ Below w.heap.size w w' ∧ (i ∈ fs → FreshP w w' v)) Q else D k i undef w ∧ i ∉ fs)
    (hturn : ∀ k o, k < ns.length → ops[ns.getD k 0]? = some o → ∀ a w, Ctx ops (D k) a0 (backTo k w0 w) o a w → Apart ops fs (ns.getD k 0) a → Region.wanted o (yielded ops.toArray a.tmps) = true ∧ o.wp P a w (fun a' w' => ∃ v, a' = a.put o.dst v ∧ D (k + 1) (ns.getD k 0) v w' ∧ Below B (backTo k w0 w) w' ∧ w.heap.size ≤ w'.heap.size ∧ ∀ i o' d, ops[i]? = some o' → o'.dst = some d → i ≠ ns.getD k 0 → waits ops i (ns.getD k 0) = false → D k i (a.tmps.getD d undef) w → D (k + 1) i (a.tmps.getD d undef) w') Q)
    (hfin : ∀ a w, (if ns.length = 0 then Below w0.heap.size w0 w else Below B w0 w) → a.tmps.size = a0.tmps.size → a.defers = a0.defers → (∀ t, (∀ o' ∈ ops, o'.dst ≠ some t) → a.tmps.getD t undef = a0.tmps.getD t undef) →
      (∀ i o d, ops[i]? = some o → o.dst = some d → D ns.length i (a.tmps.getD d undef) w) → Q .normal a w) :
    ∀ (fuel : Nat) (k : Nat) (listed : Array Bool) (a : Act) (w : World), listed.toList.count false = fuel → RInvS B ops ns fs D a0 w0 k listed a w → wpAny P .any ops.toArray Q fuel listed a w := by
  have hmem : ∀ j, j < ns.length → ns.getD j 0 ∈ ns := fun j hj => by
    rw [List.getD_eq_getElem?_getD, List.getElem?_eq_getElem hj]; exact List.getElem_mem hj
  have hwait : ∀ {k : Nat} {listed : Array Bool} {a : Act} {w : World}, RInvS B ops ns fs D a0 w0 k listed a w → ∀ n, listed.getD n false = true → ∀ i, waits ops n i = true → listed.getD i false = true := fun inv n hd i hi =>
    reach_in ops (fun i => _ = true) inv.closed ops.length _ (inv.closed n hd) i (by simpa [waits] using hi)
  have hend : ∀ (k : Nat) (listed : Array Bool) (a : Act) (w : World), RInvS B ops ns fs D a0 w0 k listed a w → Region.ready .any ops.toArray listed = [] → Q .normal a w := fun k listed a w inv hr => by
    have hall := stage_listed hok inv.lsize hr
    have hk : k = ns.length := by
      rcases Nat.lt_or_ge k ns.length with h | h
      · have h1 := inv.beyond k (Nat.le_refl _) h
        rw [hall _ (hok.lt _ (hmem k h))] at h1
        cases h1
      · have := inv.kle; omega
    subst hk
    exact hfin a w inv.below inv.size inv.defers inv.old fun i o d hi hd => inv.done i o d hi (hall i (List.getElem?_eq_some_iff.1 hi).1) hd
  have hback : ∀ {k : Nat} {listed : Array Bool} {a : Act} {w : World}, RInvS B ops ns fs D a0 w0 k listed a w → Below (backTo k w0 w).heap.size (backTo k w0 w) w := fun {k _ _ w} inv => by
    have h := inv.below
    unfold backTo
    by_cases hk : k = 0
    · rw [if_pos hk] at h ⊢; exact h
    · rw [if_neg hk]; exact Below.refl _ _
  intro fuel
  induction fuel with
  | zero =>
    intro k listed a w hc inv
    have hr : Region.ready .any ops.toArray listed = [] := by
      rw [List.eq_nil_iff_forall_not_mem]
      intro i hi
      simp only [Region.ready, List.mem_filter, List.mem_range, Bool.and_eq_true, Bool.not_eq_true'] at hi
      have hli : i < listed.size := by rw [inv.lsize]; simpa using hi.1
      have : false ∈ listed.toList := by
        have h2 : listed[i] = false := by simpa [Array.getD_eq_getD_getElem?, Array.getElem?_eq_getElem hli] using hi.2.1
        rw [← h2]; exact Array.getElem_mem_toList hli
      exact absurd (List.count_pos_iff.2 this) (by omega)
    exact ⟨hr, hend k listed a w inv hr⟩
  | succ fuel ih =>
    intro k listed a w hc inv
    refine ⟨hend k listed a w inv, fun i hi => ?_⟩
    have hi' := hi
    simp only [Region.ready, List.mem_filter, List.mem_range, Bool.and_eq_true, Bool.not_eq_true', List.size_toArray] at hi'
    obtain ⟨hlt, hun, hdep⟩ := hi'
    have hli : i < listed.size := by rw [inv.lsize]; exact hlt
    have hunf : listed.getD i false = false := by
      simpa [Array.getD_eq_getD_getElem?, Array.getElem?_eq_getElem hli] using hun
    have ho : ops[i]? = some ops[i] := List.getElem?_eq_getElem hlt
    have hc' := count_step hli hun hc
    have hdeps : ∀ e ∈ (ops[i]).after, Region.binds .any e = true → listed.getD e.on false = true := by
      intro e he hb
      simp only [List.getElem?_toArray, ho, Option.map_some, Option.getD_some] at hdep
      have := (Array.all_eq_true'.1 hdep) e he
      simpa [hb] using this
    have hdl : ∀ j ∈ depsOf ops i, listed.getD j false = true := by
      intro j hj
      simp only [depsOf, ho, List.mem_map, List.mem_filter] at hj
      obtain ⟨e, ⟨he, hb⟩, rfl⟩ := hj
      exact hdeps e (by simpa using he) hb
    have hwi : ∀ j, waits ops i j = true → listed.getD j false = true := fun j hj =>
      reach_in ops (fun i => _ = true) inv.closed ops.length _ hdl j (by simpa [waits] using hj)
    have hcx : Ctx ops (D k) a0 (backTo k w0 w) ops[i] a w := ⟨hback inv, inv.old, fun e he hb o' d hj hd => inv.done e.on o' d hj (hdeps e he hb) hd⟩
    unfold wpOp
    rw [List.getElem?_toArray, ho]
    show if Region.wanted ops[i] (yielded ops.toArray a.tmps) = true then _ else _
    by_cases hin : i ∈ ns
    · obtain ⟨q, hq, hqi⟩ := List.getElem_of_mem hin
      have hqi : ns.getD q 0 = i := by rw [List.getD_eq_getElem?_getD, List.getElem?_eq_getElem hq]; exact hqi
      have hkq : k = q := by
        rcases Nat.lt_trichotomy k q with h | h | h
        · have h1 := hwi (ns.getD k 0) (by rw [← hqi]; exact hok.chain q k hq h)
          rw [inv.beyond k (Nat.le_refl _) (by omega)] at h1; cases h1
        · exact h
        · have h1 := inv.upto q h
          rw [hqi, hunf] at h1; cases h1
      subst hkq
      obtain ⟨hw, H⟩ := hturn k ops[i] hq (by rw [hqi]; exact ho) a w hcx (by
        rw [hqi]
        exact fun x y o o' d d' hx hy hxy w1 w2 h1 h2 h3 h4 => inv.df x y o o' d d' hx hy hxy h1 h2 (hwi x w1) (hwi y w2) h3 h4)
      rw [hqi] at H
      rw [if_pos hw]
      refine .inl (Oper.wp_mono ?_ H)
      rintro a' w' ⟨v, rfl, hv, hb, hsz, hconv⟩
      have hb' : Below B w0 w' := by
        have h := inv.below
        unfold backTo at hb
        by_cases hk : k = 0
        · rw [if_pos hk] at hb; exact hb
        · rw [if_neg hk] at hb h
          exact h.trans hb
      refine ih (k + 1) _ _ _ hc' (sinv_step hok inv ho hdl (fun _ _ => hv) (by rw [if_neg (by omega)]; exact hb') (fun j o' d hj hd' hl hji hd => hconv j o' d hj hd' hji (by
        cases h : waits ops j i with
        | false => rfl
        | true =>
          have h2 := hwait inv j hl i h
          rw [hunf] at h2; cases h2) hd) (fun j hj => ?_) (fun j hj hj2 => ?_) (by omega) (fun hf => absurd hf (hnf i hin)) ?_)
      · rw [getD_listed _ _ _ hli]
        by_cases h : i = ns.getD j 0
        · rw [if_pos h]
        · rw [if_neg h]
          refine inv.upto j ?_
          rcases Nat.lt_or_ge j k with h2 | h2
          · exact h2
          · exact absurd (by rw [show j = k by omega, hqi]) h
      · rw [getD_listed _ _ _ hli, if_neg ?_]
        · exact inv.beyond j (by omega) hj2
        · intro e
          have h1 := hok.chain j k hj2 (by omega)
          rw [← e, hqi] at h1
          have h2 := hwi i h1
          rw [hunf] at h2; cases h2
      · exact hsz
    · have hmay : mayCome ops ns k i = true := by
        simp only [mayCome, Bool.and_eq_true, List.all_eq_true, List.mem_range, Bool.not_eq_true', Bool.or_eq_true, decide_eq_true_eq]
        refine ⟨fun j hj => ?_, fun j hj => ?_⟩
        · cases h : waits ops (ns.getD j 0) i with
          | false => rfl
          | true =>
            have h1 := hwait inv _ (inv.upto j hj) i h
            rw [hunf] at h1; cases h1
        · rcases Nat.lt_or_ge j k with h | h
          · exact .inl h
          · refine .inr ?_
            cases h2 : waits ops i (ns.getD j 0) with
            | false => rfl
            | true =>
              have h1 := hwi _ h2
              rw [inv.beyond j h hj] at h1; cases h1
      have hk := hok.comes i k hlt hin inv.kle hmay
      have hne : ∀ j, j < ns.length → i ≠ ns.getD j 0 := fun j hj e => hin (by rw [e]; exact hmem j hj)
      have hup : ∀ j, j < k → (listed.setIfInBounds i true).getD (ns.getD j 0) false = true := fun j hj => by
        rw [getD_listed _ _ _ hli, if_neg (hne j (by have := inv.kle; omega))]; exact inv.upto j hj
      have hbe : ∀ j, k ≤ j → j < ns.length → (listed.setIfInBounds i true).getD (ns.getD j 0) false = false := fun j hj hj2 => by
        rw [getD_listed _ _ _ hli, if_neg (hne j hj2)]; exact inv.beyond j hj hj2
      have hbel : ∀ w', Below w.heap.size w w' → if k = 0 then Below w0.heap.size w0 w' else Below B w0 w' := fun w' hb => by
        have h := inv.below
        by_cases hk : k = 0
        · rw [if_pos hk] at h ⊢; exact h.trans (hb.mono h.size)
        · rw [if_neg hk] at h ⊢
          exact h.trans (hb.mono (Nat.le_trans hB h.size))
      have H := hpart i ops[i] k hin hk ho a w hcx (by
        have h := inv.below
        by_cases hk0 : k = 0
        · rw [if_pos hk0] at h; exact h.mono hB
        · rw [if_neg hk0] at h; exact h)
      by_cases hw : Region.wanted ops[i] (yielded ops.toArray a.tmps) = true
      · rw [if_pos hw] at H ⊢
        refine .inl (Oper.wp_mono ?_ H)
        rintro a' w' ⟨v, rfl, hv, hb, hf⟩
        exact ih k _ _ _ hc' (sinv_step hok inv ho hdl (fun _ _ => hv) (hbel w' hb) (fun j o' d _ _ _ _ hd => hst _ _ _ _ _ hd hb) hup hbe inv.kle hf hb.size)
      · rw [if_neg hw] at H ⊢
        exact ih k _ _ _ hc' (sinv_step hok inv ho hdl (fun _ _ => H.1) inv.below (fun j o' d _ _ _ _ hd => hd) hup hbe inv.kle (fun hf => absurd hf H.2) (Nat.le_refl _))
def Dss (dss : List (List (Value → World → Prop))) (k i : Nat) : Value → World → Prop := Ds (dss.getD k []) i
def AllStable2 : List (List (Value → World → Prop)) → Prop
  | [] => True
  | l :: m => AllStable l ∧ AllStable2 m
theorem stable2_at : ∀ {m : List (List (Value → World → Prop))}, AllStable2 m → ∀ k, AllStable (m.getD k [])
  | [], _, _ => trivial
  | _ :: _, h, 0 => h.1
  | _ :: m, h, k + 1 => stable2_at (m := m) h.2 k
def AllNum (R : Nat → Nat → Prop) : Nat → List Nat → Prop
  | _, [] => True
  | k, n :: l => R k n ∧ AllNum R (k + 1) l
theorem all_num {R : Nat → Nat → Prop} : ∀ (l : List Nat) (k : Nat), AllNum R k l → ∀ j, j < l.length → R (k + j) (l.getD j 0)
  | [], _, _, j, hj => absurd hj (by simp)
  | _ :: _, _, h, 0, _ => h.1
  | _ :: l, k, h, j + 1, hj => by
    have := all_num l (k + 1) h.2 j (by simpa using hj)
    rwa [show k + (j + 1) = k + 1 + j from by omega]
def PartS (P : Program) (p : Value → World → Prop) (f : Bool) (ops : List Oper) (o : Oper) (a : Act) (w : World) (Q : Exit → Act → World → Prop) : Prop :=
  match f with
  | true => Region.wanted o (yielded ops.toArray a.tmps) = true ∧ o.wp P a w (fun a' w' => ∃ v, a' = a.put o.dst v ∧ p v w' ∧ Below w.heap.size w w' ∧ FreshP w w' v) Q
  | false => if Region.wanted o (yielded ops.toArray a.tmps) = true then Does P p o a w Q else p undef w
theorem partS_on {p : Value → World → Prop} {o : Oper} {a : Act} {w : World} (hw : Region.wanted o (yielded ops.toArray a.tmps) = true) (h : Does P p o a w Q) : PartS P p false ops o a w Q := by
  unfold PartS; rw [if_pos hw]; exact h
theorem partS_new {p : Value → World → Prop} {o : Oper} {a : Act} {w : World} (hw : Region.wanted o (yielded ops.toArray a.tmps) = true) (h : o.wp P a w (fun a' w' => ∃ v, a' = a.put o.dst v ∧ p v w' ∧ Below w.heap.size w w' ∧ FreshP w w' v) Q) : PartS P p true ops o a w Q := ⟨hw, h⟩
theorem wp_region_stage {id : Nat} (B : Nat) (ns fs : List Nat) (kss : List (List Nat)) (dss : List (List (Value → World → Prop))) (es : List (Value → World → Prop)) (hB : B ≤ w0.heap.size) (hm : P.follows .mixedOrders = true) (hok : okStage ops ns kss a0.tmps.size = true) (hes : dss.getD ns.length [] = es) (hlen : es.length = ops.length) (hst : AllStable2 dss)
    (hnone : ∀ n ∈ ns, ∀ o, ops[n]? = some o → o.dst = none → ∀ w, Ds es n undef w) (hnf : (ns.all fun n => !fs.contains n) = true)
    (hpart : AllFrom (fun i o => i ∉ ns → ∀ k ∈ kss.getD i [], ∀ a w, Ctx ops (Dss dss k) a0 (backTo k w0 w) o a w → Below B w0 w → PartS P (Dss dss k i) (fs.contains i) ops o a w Q) 0 ops)
    (hturn : AllNum (fun k n => ∀ o, ops[n]? = some o → ∀ a w, Ctx ops (Dss dss k) a0 (backTo k w0 w) o a w → Apart ops fs n a → Region.wanted o (yielded ops.toArray a.tmps) = true ∧ TurnsS P B ops (Dss dss) k n o a (backTo k w0 w) w Q) 0 ns)
    (hns : 0 < ns.length)
    (hfin : ∀ w, Below B w0 w → Fin (Q .normal) w a0.defers ops es a0.tmps) : (Code.region id ops.toArray true).wp P Q a0 w0 := by
  have hok := okStage_spec hok
  refine wp_region_any hm (region_stage (D := Dss dss) (fs := fs) hB hok (fun k => stable_ds _ (all_stable (stable2_at hst k))) (fun n hn hf => by have := List.all_eq_true.1 hnf n hn; simp [hf] at this) (fun i o k hi hk ho a w C Z => ?_) (fun k o hk ho a w C A => ?_) (fun a w hb hsz hdf hold hdone => ?_) _ 0 _ _ _ ?_ ⟨by rw [if_pos rfl]; exact (Below.refl _ _).drew, rfl, rfl, fun _ _ => rfl, fun i o d _ hl _ => ?_, by simp, fun i hl => ?_, fun j hj => absurd hj (by omega), fun j _ _ => ?_, Nat.zero_le _, fun i o d _ _ hl _ => ?_, fun i j o o' d d' _ _ _ _ _ hl _ _ _ => ?_⟩)
  · have := all_from _ 0 hpart i o ho
    rw [Nat.zero_add] at this
    have H := this hi k hk a w C Z
    unfold PartS at H
    cases hf : fs.contains i with
    | true =>
      rw [hf] at H
      rw [if_pos H.1]
      exact Oper.wp_mono (fun a' w' ⟨v, e, h1, h2, h3⟩ => ⟨v, e, h1, h2, fun _ => h3⟩) H.2
    | false =>
      rw [hf] at H
      have hn : i ∉ fs := fun h => by simp [h] at hf
      by_cases hw : Region.wanted o (yielded ops.toArray a.tmps) = true
      · rw [if_pos hw] at H ⊢
        exact Oper.wp_mono (fun a' w' ⟨v, e, h1, h2⟩ => ⟨v, e, h1, h2, fun h => absurd h hn⟩) H
      · rw [if_neg hw] at H ⊢
        exact ⟨H, hn⟩
  · have := all_num _ 0 hturn k hk
    rw [Nat.zero_add] at this
    exact this o ho a w C A
  · rw [if_neg (by omega)] at hb
    have hd1 : ∀ i o, ops[i]? = some o → Ds es i ((fun d : Option Tmp => match d with | some t => a.tmps.getD t undef | none => undef) o.dst) w := fun i o hi => by
      rcases hok.slot i o hi with ⟨d, hd, _⟩ | ⟨hin, hd⟩
      · rw [hd]
        have := hdone i o d hi hd
        unfold Dss at this
        rwa [hes] at this
      · rw [hd]
        exact hnone i hin o hi hd w
    have e' : a = putAll (fun d : Option Tmp => match d with | some t => a.tmps.getD t undef | none => undef) ops a0 := by
      obtain ⟨e1, e2⟩ := put_all_size (fun d : Option Tmp => match d with | some t => a.tmps.getD t undef | none => undef) ops a0
      refine act_ext (by rw [e1, hsz]) (by rw [e2, hdf]) fun t => ?_
      rw [put_all_at]
      by_cases h : (∃ o ∈ ops, o.dst = some t) ∧ t < a0.tmps.size
      · rw [if_pos h]
      · rw [if_neg h]
        by_cases ht : t < a0.tmps.size
        · exact hold t fun o' ho e => h ⟨⟨o', ho, e⟩, ht⟩
        · rw [Array.getD_eq_getD_getElem?, Array.getD_eq_getD_getElem?, Array.getElem?_eq_none (by omega), Array.getElem?_eq_none (by omega)]
    rw [e']
    exact fin_all _ ops _ a0 (by rw [hlen]) hd1 (hfin w hb)
  · simp
  · simp [Array.getD_eq_getD_getElem?, Array.getElem?_replicate] at hl
    split at hl <;> simp_all
  · simp [Array.getD_eq_getD_getElem?, Array.getElem?_replicate] at hl
    split at hl <;> simp_all
  · simp only [Array.getD_eq_getD_getElem?, Array.getElem?_replicate]
    split <;> rfl
  · simp [Array.getD_eq_getD_getElem?, Array.getElem?_replicate] at hl
    split at hl <;> simp_all
  · simp [Array.getD_eq_getD_getElem?, Array.getElem?_replicate] at hl
    split at hl <;> simp_all
end
end Go.Proofs.YtfoodaobiknihaaGreatDoor

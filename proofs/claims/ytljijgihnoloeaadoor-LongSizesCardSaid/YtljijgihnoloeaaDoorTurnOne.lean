/- A statement whose order is open, one operation of which (number n) turns memory and has no slot of its own: those that it waits for, those that float, and those that wait for it. No condition but those typed. -/
import Derived.Test.YtljijgihnoloeaaDoorSeq
namespace Go.Proofs.YtljijgihnoloeaaDoor
set_option maxRecDepth 50000
open Go.RowKit

/-- 0: ahead of number n; 1: whenever; 2: behind it -/
def sideOf (ops : List Oper) (n i : Nat) : Nat :=
  if (reach ops ops.length (depsOf ops n)).contains i then 0 else if (reach ops ops.length (depsOf ops i)).contains n then 2 else 1

structure TCtx (ops : List Oper) (D : Nat → Value → World → Prop) (a0 : Act) (w0 : World) (o : Oper) (a : Act) (w : World) : Prop where
  below : Below w0.heap.size w0 w
  old : ∀ t, (∀ o' ∈ ops, o'.dst ≠ some t) → a.tmps.getD t undef = a0.tmps.getD t undef
  dep : ∀ e ∈ o.after, Region.binds .any e = true → ∀ o' d, ops[e.on]? = some o' → o'.dst = some d → D e.on (a.tmps.getD d undef) w

structure TInv (ops : List Oper) (n : Nat) (D E : Nat → Value → World → Prop) (a0 : Act) (w0 : World) (listed : Array Bool) (a : Act) (w : World) : Prop where
  below : Below w0.heap.size w0 w
  size : a.tmps.size = a0.tmps.size
  defers : a.defers = a0.defers
  old : ∀ t, (∀ o' ∈ ops, o'.dst ≠ some t) → a.tmps.getD t undef = a0.tmps.getD t undef
  done : ∀ i o d, ops[i]? = some o → listed.getD i false = true → o.dst = some d → if listed.getD n false = true then E i (a.tmps.getD d undef) w else D i (a.tmps.getD d undef) w
  lsize : listed.size = ops.length
  closed : ∀ i, listed.getD i false = true → ∀ j ∈ depsOf ops i, listed.getD j false = true

section
variable {P : Program} {ops : List Oper} {Q : Exit → Act → World → Prop} {a0 : Act} {w0 : World} {D E : Nat → Value → World → Prop} {n : Nat}

theorem tinv_step (hok : okSeq ops [n] a0.tmps.size = true) (hstD : ∀ i v w w', D i v w → Below w.heap.size w w' → D i v w') (hstE : ∀ i v w w', E i v w → Below w.heap.size w w' → E i v w') {listed : Array Bool} {a : Act} {w w' : World} {i : Nat} {o : Oper} {v : Value}
    (inv : TInv ops n D E a0 w0 listed a w) (hin : i ≠ n) (hi : ops[i]? = some o) (hdl : ∀ j ∈ depsOf ops i, listed.getD j false = true) (hv : if listed.getD n false = true then E i v w' else D i v w') (hb : Below w.heap.size w w') :
    TInv ops n D E a0 w0 (listed.setIfInBounds i true) (a.put o.dst v) w' := by
  obtain ⟨k1, k2, k3, k4, k5⟩ := okSeq_spec hok
  have hil : i < listed.size := by rw [inv.lsize]; exact (List.getElem?_eq_some_iff.1 hi).1
  have hnn : (listed.setIfInBounds i true).getD n false = listed.getD n false := by rw [getD_listed _ _ _ hil, if_neg hin]
  refine ⟨inv.below.trans (hb.mono inv.below.size), ?_, ?_, fun t ht => ?_, fun j o' d hj hl hd => ?_, by simp [inv.lsize], fun j hj q hq => ?_⟩
  · rw [← inv.size]; cases o.dst <;> simp [Act.put]
  · rw [← inv.defers]; cases o.dst <;> rfl
  · rw [← inv.old t ht]
    cases hd : o.dst with
    | none => rfl
    | some d => rw [getD_put, if_neg (fun h => ht _ (List.mem_of_getElem? hi) (by rw [hd, h.1]))]
  · rw [hnn]
    by_cases hij : i = j
    · subst hij
      rw [hi] at hj
      injection hj with hj
      subst hj
      have e : (a.put o.dst v).tmps.getD d undef = v := by rw [hd, getD_put, if_pos ⟨rfl, by rw [inv.size]; exact (k1 _ (List.mem_of_getElem? hi)).1 d hd⟩]
      rw [e]; exact hv
    · have hl2 : listed.getD j false = true := by rwa [getD_listed _ _ _ hil, if_neg hij] at hl
      have e : (a.put o.dst v).tmps.getD d undef = a.tmps.getD d undef := by
        cases hd2 : o.dst with
        | none => rfl
        | some d2 => rw [getD_put, if_neg (fun h => hij (dst_one k2 hi hj (by rw [hd2, h.1]) hd))]
      rw [e]
      have := inv.done j o' d hj hl2 hd
      cases hc : listed.getD n false with
      | true => rw [hc, if_pos rfl] at this; rw [if_pos rfl]; exact hstE _ _ _ _ this hb
      | false => rw [hc, if_neg (by decide)] at this; rw [if_neg (by decide)]; exact hstD _ _ _ _ this hb
  · rw [getD_listed _ _ _ hil] at hj ⊢
    by_cases hiq : i = q
    · rw [if_pos hiq]
    · rw [if_neg hiq]
      by_cases hij : i = j
      · subst hij; exact hdl q hq
      · rw [if_neg hij] at hj; exact inv.closed j hj q hq

theorem region_turn (hok : okSeq ops [n] a0.tmps.size = true) (hno : ∀ o, ops[n]? = some o → o.dst = none) (hstD : ∀ i v w w', D i v w → Below w.heap.size w w' → D i v w') (hstE : ∀ i v w w', E i v w → Below w.heap.size w w' → E i v w')
    (hop1 : ∀ i o, i ≠ n → sideOf ops n i < 2 → ops[i]? = some o → ∀ a w, TCtx ops D a0 w0 o a w → Does P (D i) o a w Q)
    (hop2 : ∀ i o, i ≠ n → 0 < sideOf ops n i → ops[i]? = some o → ∀ a w, TCtx ops E a0 w0 o a w → Does P (E i) o a w Q)
    (hturn : ∀ o, ops[n]? = some o → ∀ a w, TCtx ops D a0 w0 o a w → o.wp P a w (fun a' w' => a' = a.put o.dst undef ∧ Below w0.heap.size w0 w' ∧ ∀ i o' d, i ≠ n → ops[i]? = some o' → o'.dst = some d → D i (a.tmps.getD d undef) w → E i (a.tmps.getD d undef) w') Q)
    (hfin : ∀ a w, Below w0.heap.size w0 w → a.tmps.size = a0.tmps.size → a.defers = a0.defers → (∀ t, (∀ o' ∈ ops, o'.dst ≠ some t) → a.tmps.getD t undef = a0.tmps.getD t undef) →
      (∀ i o d, ops[i]? = some o → o.dst = some d → E i (a.tmps.getD d undef) w) → Q .normal a w) :
    ∀ (fuel : Nat) (listed : Array Bool) (a : Act) (w : World), listed.toList.count false = fuel → TInv ops n D E a0 w0 listed a w → wpAny P .any ops.toArray Q fuel listed a w := by
  obtain ⟨k1, k2, k3, k4, k5⟩ := okSeq_spec hok
  have hnl : n < ops.length := k4 n (by simp)
  have hend : ∀ (listed : Array Bool) (a : Act) (w : World), TInv ops n D E a0 w0 listed a w → Region.ready .any ops.toArray listed = [] → Q .normal a w := fun listed a w inv hr => by
    have hall := seq_listed hok inv.lsize hr
    refine hfin a w inv.below inv.size inv.defers inv.old fun i o d hi hd => ?_
    have := inv.done i o d hi (hall i (List.getElem?_eq_some_iff.1 hi).1) hd
    rwa [if_pos (hall n hnl)] at this
  intro fuel
  induction fuel with
  | zero =>
    intro listed a w hc inv
    have hr : Region.ready .any ops.toArray listed = [] := by
      rw [List.eq_nil_iff_forall_not_mem]
      intro i hi
      simp only [Region.ready, List.mem_filter, List.mem_range, Bool.and_eq_true, Bool.not_eq_true'] at hi
      have hli : i < listed.size := by rw [inv.lsize]; simpa using hi.1
      have : false ∈ listed.toList := by
        have h2 : listed[i] = false := by simpa [Array.getD_eq_getD_getElem?, Array.getElem?_eq_getElem hli] using hi.2.1
        rw [← h2]; exact Array.getElem_mem_toList hli
      exact absurd (List.count_pos_iff.2 this) (by omega)
    exact ⟨hr, hend listed a w inv hr⟩
  | succ fuel ih =>
    intro listed a w hc inv
    refine ⟨hend listed a w inv, fun i hi => ?_⟩
    have hi' := hi
    simp only [Region.ready, List.mem_filter, List.mem_range, Bool.and_eq_true, Bool.not_eq_true', List.size_toArray] at hi'
    obtain ⟨hlt, hun, hdep⟩ := hi'
    have hli : i < listed.size := by rw [inv.lsize]; exact hlt
    have hunf : listed.getD i false = false := by
      simpa [Array.getD_eq_getD_getElem?, Array.getElem?_eq_getElem hli] using hun
    have ho : ops[i]? = some ops[i] := List.getElem?_eq_getElem hlt
    have hc' := count_step hli hun hc
    have hdeps : ∀ e ∈ (ops[i]).after, Region.binds .any e = true → listed.getD e.on false = true := by
      intro e he hb
      simp only [List.getElem?_toArray, ho, Option.map_some, Option.getD_some] at hdep
      have := (Array.all_eq_true'.1 hdep) e he
      simpa [hb] using this
    have hdl : ∀ j ∈ depsOf ops i, listed.getD j false = true := by
      intro j hj
      simp only [depsOf, ho, List.mem_map, List.mem_filter] at hj
      obtain ⟨e, ⟨he, hb⟩, rfl⟩ := hj
      exact hdeps e (by simpa using he) hb
    unfold wpOp
    rw [List.getElem?_toArray, ho]
    show if Region.wanted ops[i] (yielded ops.toArray a.tmps) = true then _ else _
    rw [if_pos (wanted_free (k1 _ (List.getElem_mem hlt)).2 _)]
    by_cases hin : i = n
    · subst hin
      have H := hturn ops[i] ho a w ⟨inv.below, inv.old, fun e he hb o' d hj hd => by
        have := inv.done e.on o' d hj (hdeps e he hb) hd
        rwa [hunf, if_neg (by decide)] at this⟩
      refine .inl (Oper.wp_mono ?_ H)
      rintro a' w' ⟨rfl, hb, hconv⟩
      have hd0 := hno ops[i] ho
      rw [hd0]
      refine ih _ _ _ hc' ⟨hb, inv.size, inv.defers, inv.old, fun j o' d hj hl hd => ?_, by simp [inv.lsize], fun j hj q hq => ?_⟩
      · rw [getD_listed _ _ _ hli, if_pos rfl, if_pos rfl]
        have hji : j ≠ i := fun e => by
          subst e
          rw [ho] at hj
          injection hj with hj
          rw [← hj, hd0] at hd; cases hd
        have hl2 : listed.getD j false = true := by rwa [getD_listed _ _ _ hli, if_neg (fun e => hji e.symm)] at hl
        refine hconv j o' d hji hj hd ?_
        have := inv.done j o' d hj hl2 hd
        rwa [hunf, if_neg (by decide)] at this
      · rw [getD_listed _ _ _ hli] at hj ⊢
        by_cases hiq : i = q
        · rw [if_pos hiq]
        · rw [if_neg hiq]
          by_cases hij : i = j
          · subst hij; exact hdl q hq
          · rw [if_neg hij] at hj; exact inv.closed j hj q hq
    · cases hnl2 : listed.getD n false with
      | false =>
        have hs : sideOf ops n i < 2 := by
          unfold sideOf
          split
          · omega
          · split
            · rename_i hr
              have := reach_in ops (fun i => listed.getD i false = true) inv.closed ops.length _ hdl n (by simpa using hr)
              rw [hnl2] at this; cases this
            · omega
        have H := hop1 i ops[i] hin hs ho a w ⟨inv.below, inv.old, fun e he hb o' d hj hd => by
          have := inv.done e.on o' d hj (hdeps e he hb) hd
          rwa [hnl2, if_neg (by decide)] at this⟩
        refine .inl (Oper.wp_mono ?_ H)
        rintro a' w' ⟨v, rfl, hv, hb⟩
        exact ih _ _ _ hc' (tinv_step hok hstD hstE inv hin ho hdl (by rw [hnl2, if_neg (by decide)]; exact hv) hb)
      | true =>
        have hs : 0 < sideOf ops n i := by
          unfold sideOf
          split
          · rename_i hr
            have := reach_in ops (fun i => listed.getD i false = true) inv.closed ops.length _ (inv.closed n hnl2) i (by simpa using hr)
            rw [hunf] at this; cases this
          · split <;> omega
        have H := hop2 i ops[i] hin hs ho a w ⟨inv.below, inv.old, fun e he hb o' d hj hd => by
          have := inv.done e.on o' d hj (hdeps e he hb) hd
          rwa [hnl2, if_pos rfl] at this⟩
        refine .inl (Oper.wp_mono ?_ H)
        rintro a' w' ⟨v, rfl, hv, hb⟩
        exact ih _ _ _ hc' (tinv_step hok hstD hstE inv hin ho hdl (by rw [hnl2, if_pos rfl]; exact hv) hb)

/-- what stands behind the turning follows from what stood ahead of it, but for number s -/
def ConvL (s : Nat) : Nat → List (Value → World → Prop) → List (Value → World → Prop) → Prop
  | k, d :: ds, e :: es => (k = s ∨ ∀ v w w', d v w → e v w') ∧ ConvL s (k + 1) ds es
  | _, _, _ => True
theorem conv_all (s : Nat) : ∀ (ds es : List (Value → World → Prop)) (k : Nat), ConvL s k ds es → ds.length = es.length → ∀ i, k + i ≠ s → ∀ v w w', Ds ds i v w → Ds es i v w'
  | [], [], _, _, _, _, _, _, _, _, _ => by simp [Ds, Free]
  | [], _ :: _, _, _, hl, _, _, _, _, _, _ => by simp at hl
  | _ :: _, [], _, _, hl, _, _, _, _, _, _ => by simp at hl
  | d :: ds, e :: es, k, h, hl, i, hne, v, w, w', hd => by
    cases i with
    | zero =>
      rcases h.1 with h1 | h1
      · exact absurd h1 hne
      · exact h1 v w w' hd
    | succ i => exact conv_all s ds es (k + 1) h.2 (by simpa using hl) i (by omega) v w w' hd

/-- one operation's part: ahead of the turning, and behind it -/
def TPart (P : Program) (ops : List Oper) (n : Nat) (ds es : List (Value → World → Prop)) (a0 : Act) (w0 : World) (Q : Exit → Act → World → Prop) (i : Nat) (o : Oper) : Prop :=
  i = n ∨ ((sideOf ops n i < 2 → ∀ a w, TCtx ops (Ds ds) a0 w0 o a w → Does P (Ds ds i) o a w Q) ∧ (0 < sideOf ops n i → ∀ a w, TCtx ops (Ds es) a0 w0 o a w → Does P (Ds es i) o a w Q))
/-- THE REGION -/
theorem wp_region_turn {id : Nat} (n s : Nat) (z so : Oper) (sd : Tmp) (ds es : List (Value → World → Prop)) (hm : P.follows .mixedOrders = true) (hok : okSeq ops [n] a0.tmps.size = true) (hz : ops[n]? = some z) (hzd : z.dst = none) (hso : ops[s]? = some so) (hsd : so.dst = some sd) (hsn : s ≠ n) (hld : ds.length = ops.length) (hle : es.length = ops.length) (hstD : AllStable ds) (hstE : AllStable es) (hconv : ConvL s 0 ds es)
    (hop : AllFrom (TPart P ops n ds es a0 w0 Q) 0 ops)
    (hturn : ∀ a w, TCtx ops (Ds ds) a0 w0 z a w → Ds ds s (a.tmps.getD sd undef) w → z.wp P a w (fun a' w' => a' = a.put none undef ∧ Below w0.heap.size w0 w' ∧ Ds es s (a.tmps.getD sd undef) w') Q)
    (hsz : (depsOf ops n).contains s = true) (hnd : ∀ i o, ops[i]? = some o → o.dst = none → ∀ v w, Ds es i v w)
    (hfin : ∀ w, Below w0.heap.size w0 w → Fin (Q .normal) w a0.defers ops es a0.tmps) : (Code.region id ops.toArray true).wp P Q a0 w0 := by
  have hpart : ∀ i o, ops[i]? = some o → TPart P ops n ds es a0 w0 Q i o := fun i o ho => by have := all_from ops 0 hop i o ho; rwa [Nat.zero_add] at this
  refine wp_region_any hm (region_turn (D := Ds ds) (E := Ds es) (n := n) hok (fun o ho => by rw [hz] at ho; injection ho with ho; rw [← ho]; exact hzd) (stable_ds ds (all_stable hstD)) (stable_ds es (all_stable hstE)) (fun i o hin hs ho => ?_) (fun i o hin hs ho => ?_) (fun o ho a w C => ?_) (fun a w hb hsz hdf hold hdone => ?_) _ _ _ _ ?_ ⟨(Below.refl _ _).drew, rfl, rfl, fun _ _ => rfl, fun i o d _ hl _ => ?_, by simp, fun i hl => ?_⟩)
  · rcases hpart i o ho with h | h
    · exact absurd h hin
    · exact h.1 hs
  · rcases hpart i o ho with h | h
    · exact absurd h hin
    · exact h.2 hs
  · rw [hz] at ho
    injection ho with ho
    subst ho
    have hs0 : Ds ds s (a.tmps.getD sd undef) w := by
      have hmem : s ∈ depsOf ops n := by simpa using hsz
      simp only [depsOf, hz, List.mem_map, List.mem_filter] at hmem
      obtain ⟨e, ⟨he, hb⟩, rfl⟩ := hmem
      exact C.dep e (by simpa using he) hb so sd hso hsd
    refine Oper.wp_mono ?_ (hturn a w C hs0)
    rintro a' w' ⟨rfl, hb, he⟩
    refine ⟨by rw [hzd]; rfl, hb, fun i o' d hin hi hd hD => ?_⟩
    by_cases his : i = s
    · subst his
      rw [hso] at hi
      injection hi with hi
      subst hi
      rw [hsd] at hd
      injection hd with hd
      subst hd
      exact he
    · exact conv_all s ds es 0 hconv (by rw [hld, hle]) i (by omega) _ _ _ hD
  · have hd1 : ∀ i o, ops[i]? = some o → Ds es i ((fun d : Option Tmp => match d with | some t => a.tmps.getD t undef | none => undef) o.dst) w := fun i o hi => by
      cases hd : o.dst with
      | none => exact hnd i o hi hd _ _
      | some d => exact hdone i o d hi hd
    have e : a = putAll (fun d : Option Tmp => match d with | some t => a.tmps.getD t undef | none => undef) ops a0 := by
      obtain ⟨e1, e2⟩ := put_all_size (fun d : Option Tmp => match d with | some t => a.tmps.getD t undef | none => undef) ops a0
      refine act_ext (by rw [e1, hsz]) (by rw [e2, hdf]) fun t => ?_
      rw [put_all_at]
      by_cases h : (∃ o ∈ ops, o.dst = some t) ∧ t < a0.tmps.size
      · rw [if_pos h]
      · rw [if_neg h]
        by_cases ht : t < a0.tmps.size
        · exact hold t fun o' ho e => h ⟨⟨o', ho, e⟩, ht⟩
        · rw [Array.getD_eq_getD_getElem?, Array.getD_eq_getD_getElem?, Array.getElem?_eq_none (by omega), Array.getElem?_eq_none (by omega)]
    rw [e]
    exact fin_all (fun d : Option Tmp => match d with | some t => a.tmps.getD t undef | none => undef) ops es a0 hle hd1 (hfin w hb)
  · simp
  · simp [Array.getD_eq_getD_getElem?, Array.getElem?_replicate] at hl
    split at hl <;> simp_all
  · simp [Array.getD_eq_getD_getElem?, Array.getElem?_replicate] at hl
    split at hl <;> simp_all
end
end Go.Proofs.YtljijgihnoloeaaDoor

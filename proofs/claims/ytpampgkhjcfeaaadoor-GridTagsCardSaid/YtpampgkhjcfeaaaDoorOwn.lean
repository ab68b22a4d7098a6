/- A statement whose order is open, one operation of which (number n) turns memory that is older than the statement, but no older than B: all ahead of it are waited for, all behind it wait for it. No condition but those typed. -/
import Derived.Test.YtpampgkhjcfeaaaDoorGen
namespace Go.Proofs.YtpampgkhjcfeaaaDoor
set_option maxRecDepth 50000
open Go.RowKit

/-- number n waits for all ahead of it, and all behind it wait for n, or for those that do -/
def tailOk3 (ops : List Oper) (n : Nat) : Bool :=
  (List.range n).all (fun j => (reach ops n (depsOf ops n)).contains j) && (List.range ops.length).all fun i => !decide (n < i) || (reach ops ops.length (depsOf ops i)).contains n

structure RInv3 (B : Nat) (ops : List Oper) (n : Nat) (D E : Nat → Value → World → Prop) (a0 : Act) (w0 : World) (listed : Array Bool) (a : Act) (w : World) : Prop where
  below : if listed.getD n false = true then Below B w0 w else Below w0.heap.size w0 w
  size : a.tmps.size = a0.tmps.size
  defers : a.defers = a0.defers
  old : ∀ t, (∀ o' ∈ ops, o'.dst ≠ some t) → a.tmps.getD t undef = a0.tmps.getD t undef
  yet : listed.getD n false = false → ∀ t, (∀ i o', ops[i]? = some o' → o'.dst = some t → n < i) → a.tmps.getD t undef = a0.tmps.getD t undef
  done : ∀ i o d, ops[i]? = some o → listed.getD i false = true → o.dst = some d → if listed.getD n false = true then E i (a.tmps.getD d undef) w else D i (a.tmps.getD d undef) w
  lsize : listed.size = ops.length
  closed : ∀ i, listed.getD i false = true → ∀ j ∈ depsOf ops i, listed.getD j false = true

section
variable {P : Program} {ops : List Oper} {Q : Exit → Act → World → Prop} {a0 : Act} {w0 : World} {D E : Nat → Value → World → Prop} {n B : Nat}

theorem rinv3_step (hok : okOps ops a0.tmps.size = true) {listed : Array Bool} {a : Act} {w w' : World} {i : Nat} {o : Oper} {v : Value}
    (inv : RInv3 B ops n D E a0 w0 listed a w) (hi : ops[i]? = some o) (hdep : ∀ j ∈ depsOf ops i, listed.getD j false = true)
    (hv : if (listed.setIfInBounds i true).getD n false = true then E i v w' else D i v w') (hb : if (listed.setIfInBounds i true).getD n false = true then Below B w0 w' else Below w0.heap.size w0 w')
    (hy : (listed.setIfInBounds i true).getD n false = false → i < n)
    (hst : ∀ j u, listed.getD j false = true → j ≠ i → (if listed.getD n false = true then E j u w else D j u w) → if (listed.setIfInBounds i true).getD n false = true then E j u w' else D j u w') : RInv3 B ops n D E a0 w0 (listed.setIfInBounds i true) (a.put o.dst v) w' := by
  obtain ⟨h1, h2, _⟩ := okOps_spec hok
  obtain ⟨d, hd, hdn⟩ := h1 o (List.mem_of_getElem? hi)
  have hil : i < listed.size := by rw [inv.lsize]; exact (List.getElem?_eq_some_iff.1 hi).1
  rw [hd]
  refine ⟨hb, by simp [Act.put, inv.size], inv.defers, fun t ht => ?_, fun hn0 t ht => ?_, fun j o' d' hj hl hd' => ?_, by simp [inv.lsize], fun j hj k hk => ?_⟩
  · rw [getD_put, if_neg (fun h => ht o (List.mem_of_getElem? hi) (by rw [hd, h.1]))]
    exact inv.old t ht
  · have hlt := hy hn0
    rw [getD_listed _ _ _ hil, if_neg (by omega)] at hn0
    rw [getD_put, if_neg (fun h => by have := ht i o hi (by rw [hd, h.1]); omega)]
    exact inv.yet hn0 t ht
  · by_cases hij : i = j
    · subst hij
      rw [hi] at hj
      injection hj with hj
      subst hj
      rw [hd] at hd'
      injection hd' with hd'
      subst hd'
      have e : (a.put (some d) v).tmps.getD d undef = v := by rw [getD_put, if_pos ⟨rfl, by rw [inv.size]; exact hdn⟩]
      rw [e]
      exact hv
    · have e : (a.put (some d) v).tmps.getD d' undef = a.tmps.getD d' undef := by rw [getD_put, if_neg (fun h => hij (dst_inj h2 hi hj (by rw [hd, hd', h.1])))]
      rw [e]
      have hl' : listed.getD j false = true := by rw [getD_listed _ _ _ hil, if_neg hij] at hl; exact hl
      exact hst j _ hl' (fun e => hij e.symm) (inv.done j o' d' hj hl' hd')
  · rw [getD_listed _ _ _ hil] at hj ⊢
    by_cases hik : i = k
    · rw [if_pos hik]
    · rw [if_neg hik]
      by_cases hij : i = j
      · subst hij; exact hdep k hk
      · rw [if_neg hij] at hj; exact inv.closed j hj k hk

theorem region_own (hB : B ≤ w0.heap.size) (hok : okOps ops a0.tmps.size = true) (hn : n < ops.length) (htl : tailOk3 ops n = true) (hstD : ∀ i v w w', D i v w → Below w.heap.size w w' → D i v w') (hstE : ∀ i v w w', E i v w → Below w.heap.size w w' → E i v w')
    (hfree : ∀ i v w, i < n → E i v w)
    (hhead : ∀ i o, i < n → ops[i]? = some o → ∀ a w, Ctx ops D a0 w0 o a w → (∀ t, (∀ i o', ops[i]? = some o' → o'.dst = some t → n < i) → a.tmps.getD t undef = a0.tmps.getD t undef) → if Region.wanted o (yielded ops.toArray a.tmps) = true then o.wp P a w (fun a' w' => ∃ v, a' = a.put o.dst v ∧ D i v w' ∧ Below w.heap.size w w') Q else D i undef w)
    (hmid : ∀ o, ops[n]? = some o → ∀ a w, Ctx ops D a0 w0 o a w → Region.wanted o (yielded ops.toArray a.tmps) = true ∧ o.wp P a w (fun a' w' => ∃ v, a' = a.put o.dst v ∧ E n v w' ∧ Below B w0 w') Q)
    (hlast : ∀ i o, n < i → ops[i]? = some o → ∀ a w, Ctx ops E a0 w o a w → if Region.wanted o (yielded ops.toArray a.tmps) = true then o.wp P a w (fun a' w' => ∃ v, a' = a.put o.dst v ∧ E i v w' ∧ Below w.heap.size w w') Q else E i undef w)
    (hfin : ∀ a w, Below B w0 w → a.tmps.size = a0.tmps.size → a.defers = a0.defers → (∀ t, (∀ o' ∈ ops, o'.dst ≠ some t) → a.tmps.getD t undef = a0.tmps.getD t undef) →
      (∀ i o d, ops[i]? = some o → o.dst = some d → E i (a.tmps.getD d undef) w) → Q .normal a w) :
    ∀ (fuel : Nat) (listed : Array Bool) (a : Act) (w : World), listed.toList.count false = fuel → RInv3 B ops n D E a0 w0 listed a w → wpAny P .any ops.toArray Q fuel listed a w := by
  simp only [tailOk3, Bool.and_eq_true, List.all_eq_true, List.mem_range] at htl
  obtain ⟨ht1, ht2⟩ := htl
  have hall : ∀ {listed : Array Bool} {a : Act} {w : World}, RInv3 B ops n D E a0 w0 listed a w → (∀ j ∈ depsOf ops n, listed.getD j false = true) → ∀ j, j < n → listed.getD j false = true := fun inv hd j hj =>
    reach_in ops (fun i => _ = true) inv.closed n _ hd j (by simpa using ht1 j hj)
  have hend : ∀ (listed : Array Bool) (a : Act) (w : World), RInv3 B ops n D E a0 w0 listed a w → Region.ready .any ops.toArray listed = [] → Q .normal a w := fun listed a w inv hr =>
    hfin a w (by have h := inv.below; rw [if_pos (all_listed hok inv.lsize hr n hn)] at h; exact h) inv.size inv.defers inv.old fun i o d hi hd => by
      have h := inv.done i o d hi (all_listed hok inv.lsize hr i (List.getElem?_eq_some_iff.1 hi).1) hd
      rw [if_pos (all_listed hok inv.lsize hr n hn)] at h
      exact h
  intro fuel
  induction fuel with
  | zero =>
    intro listed a w hc inv
    have hr : Region.ready .any ops.toArray listed = [] := by
      rw [List.eq_nil_iff_forall_not_mem]
      intro i hi
      simp only [Region.ready, List.mem_filter, List.mem_range, Bool.and_eq_true, Bool.not_eq_true'] at hi
      have hli : i < listed.size := by rw [inv.lsize]; simpa using hi.1
      have : false ∈ listed.toList := by
        have h2 : listed[i] = false := by simpa [Array.getD_eq_getD_getElem?, Array.getElem?_eq_getElem hli] using hi.2.1
        rw [← h2]; exact Array.getElem_mem_toList hli
      exact absurd (List.count_pos_iff.2 this) (by omega)
    exact ⟨hr, hend listed a w inv hr⟩
  | succ fuel ih =>
    intro listed a w hc inv
    refine ⟨hend listed a w inv, fun i hi => ?_⟩
    have hi' := hi
    simp only [Region.ready, List.mem_filter, List.mem_range, Bool.and_eq_true, Bool.not_eq_true', List.size_toArray] at hi'
    obtain ⟨hlt, hun, hdep⟩ := hi'
    have hli : i < listed.size := by rw [inv.lsize]; exact hlt
    have hunf : listed.getD i false = false := by
      simpa [Array.getD_eq_getD_getElem?, Array.getElem?_eq_getElem hli] using hun
    have ho : ops[i]? = some ops[i] := List.getElem?_eq_getElem hlt
    have hc' := count_step hli hun hc
    have hdeps : ∀ e ∈ (ops[i]).after, Region.binds .any e = true → listed.getD e.on false = true := by
      intro e he hb
      simp only [List.getElem?_toArray, ho, Option.map_some, Option.getD_some] at hdep
      have := (Array.all_eq_true'.1 hdep) e he
      simpa [hb] using this
    have hdl : ∀ j ∈ depsOf ops i, listed.getD j false = true := by
      intro j hj
      simp only [depsOf, ho, List.mem_map, List.mem_filter] at hj
      obtain ⟨e, ⟨he, hb⟩, rfl⟩ := hj
      exact hdeps e (by simpa using he) hb
    unfold wpOp
    rw [List.getElem?_toArray, ho]
    show if Region.wanted ops[i] (yielded ops.toArray a.tmps) = true then _ else _
    rcases Nat.lt_trichotomy i n with hin | hin | hin
    · have hnl : listed.getD n false = false := by
        cases hq : listed.getD n false with
        | false => rfl
        | true => rw [hall inv (inv.closed n hq) i hin] at hunf; cases hunf
      have hnl2 : (listed.setIfInBounds i true).getD n false = false := by rw [getD_listed _ _ _ hli, if_neg (by omega)]; exact hnl
      have hbl : Below w0.heap.size w0 w := by have h := inv.below; rw [hnl] at h; exact h
      have H := hhead i ops[i] hin ho a w ⟨hbl, inv.old, fun e he hb o' d hj hd => by
        have := inv.done e.on o' d hj (hdeps e he hb) hd
        rw [hnl] at this; exact this⟩ (inv.yet hnl)
      by_cases hw : Region.wanted ops[i] (yielded ops.toArray a.tmps) = true
      · rw [if_pos hw] at H ⊢
        refine .inl (Oper.wp_mono ?_ H)
        rintro a' w' ⟨v, rfl, hv, hb⟩
        exact ih _ _ _ hc' (rinv3_step hok inv ho hdl (by rw [hnl2]; exact hv) (by rw [hnl2]; exact hbl.trans (hb.mono hbl.size)) (fun _ => hin) fun j u _ _ hd => by rw [hnl] at hd; rw [hnl2]; exact hstD _ _ _ _ hd hb)
      · rw [if_neg hw] at H ⊢
        exact ih _ _ _ hc' (rinv3_step hok inv ho hdl (by rw [hnl2]; exact H) (by rw [hnl2]; exact hbl) (fun _ => hin) fun j u _ _ hd => by rw [hnl] at hd; rw [hnl2]; exact hd)
    · subst hin
      have hl2 : (listed.setIfInBounds i true).getD i false = true := by rw [getD_listed _ _ _ hli, if_pos rfl]
      have hbl : Below w0.heap.size w0 w := by have h := inv.below; rw [hunf] at h; exact h
      obtain ⟨hw, H⟩ := hmid ops[i] ho a w ⟨hbl, inv.old, fun e he hb o' d hj hd => by
        have := inv.done e.on o' d hj (hdeps e he hb) hd
        rw [hunf] at this; exact this⟩
      rw [if_pos hw]
      refine .inl (Oper.wp_mono ?_ H)
      rintro a' w' ⟨v, rfl, hv, hb⟩
      refine ih _ _ _ hc' (rinv3_step hok inv ho hdl (by rw [hl2]; exact hv) (by rw [hl2]; exact hb) (fun h => by rw [hl2] at h; cases h) fun j u hj hji _ => ?_)
      rw [hl2]
      rcases Nat.lt_or_ge j i with h | h
      · exact hfree j u w' h
      · exfalso
        have hjl : j < ops.length := by
          rcases Nat.lt_or_ge j listed.size with h2 | h2
          · rw [← inv.lsize]; exact h2
          · simp [Array.getD_eq_getD_getElem?, Array.getElem?_eq_none h2] at hj
        have := ht2 j hjl
        simp only [Bool.or_eq_true, Bool.not_eq_true', decide_eq_false_iff_not] at this
        rcases this with h2 | h2
        · omega
        · rw [reach_in ops (fun i => listed.getD i false = true) inv.closed ops.length _ (inv.closed j hj) i (by simpa using h2)] at hunf; cases hunf
    · have hnl : listed.getD n false = true := by
        have := ht2 i hlt
        simp only [Bool.or_eq_true, Bool.not_eq_true', decide_eq_false_iff_not] at this
        rcases this with h2 | h2
        · omega
        · exact reach_in ops (fun i => listed.getD i false = true) inv.closed ops.length _ hdl n (by simpa using h2)
      have hnl2 : (listed.setIfInBounds i true).getD n false = true := by rw [getD_listed _ _ _ hli]; split; rfl; exact hnl
      have hbl : Below B w0 w := by have h := inv.below; rw [if_pos hnl] at h; exact h
      have H := hlast i ops[i] hin ho a w ⟨Below.refl _ _, inv.old, fun e he hb o' d hj hd => by
        have := inv.done e.on o' d hj (hdeps e he hb) hd
        rw [if_pos hnl] at this; exact this⟩
      by_cases hw : Region.wanted ops[i] (yielded ops.toArray a.tmps) = true
      · rw [if_pos hw] at H ⊢
        refine .inl (Oper.wp_mono ?_ H)
        rintro a' w' ⟨v, rfl, hv, hb⟩
        exact ih _ _ _ hc' (rinv3_step hok inv ho hdl (by rw [hnl2]; exact hv) (by rw [hnl2]; exact hbl.trans (hb.mono (Nat.le_trans hB hbl.size))) (fun h => by rw [hnl2] at h; cases h) fun j u _ _ hd => by rw [if_pos hnl] at hd; rw [if_pos hnl2]; exact hstE _ _ _ _ hd hb)
      · rw [if_neg hw] at H ⊢
        exact ih _ _ _ hc' (rinv3_step hok inv ho hdl (by rw [hnl2]; exact H) (by rw [hnl2]; exact hbl) (fun h => by rw [hnl2] at h; cases h) fun j u _ _ hd => by rw [if_pos hnl] at hd; rw [if_pos hnl2]; exact hd)

/-- what number n may do: turn memory that the statement's own operations made -/
def TurnsB (B : Nat) (P : Program) (p : Value → World → Prop) (o : Oper) (a : Act) (w0 w : World) (Q : Exit → Act → World → Prop) : Prop := o.wp P a w (fun a' w' => ∃ v, a' = a.put o.dst v ∧ p v w' ∧ Below B w0 w') Q

/-- THE REGION: the operations ahead of number n by ds, number n and those behind it by es -/
theorem wp_region_own {id : Nat} (B n : Nat) (hB : B ≤ w0.heap.size) (ds es : List (Value → World → Prop)) (hm : P.follows .mixedOrders = true) (hok : okOps ops a0.tmps.size = true) (htl : tailOk3 ops n = true) (hlen : ds.length = n) (hlen2 : (ds.map (fun _ => Free) ++ es).length = ops.length) (hn : n < ops.length) (hst : AllStable ds) (hst2 : AllStable es)
    (hhead : AllFrom (fun i o => ∀ a w, Ctx ops (Ds ds) a0 w0 o a w → (∀ t, (∀ i o', ops[i]? = some o' → o'.dst = some t → n < i) → a.tmps.getD t undef = a0.tmps.getD t undef) → if Region.wanted o (yielded ops.toArray a.tmps) = true then Does P (Ds ds i) o a w Q else Ds ds i undef w) 0 (ops.take n))
    (hmid : ∀ o, ops[n]? = some o → ∀ a w, Ctx ops (Ds ds) a0 w0 o a w → Region.wanted o (yielded ops.toArray a.tmps) = true ∧ TurnsB B P (Ds es 0) o a w0 w Q)
    (hlast : AllFrom (fun i o => ∀ a w, Ctx ops (Ds (ds.map (fun _ => Free) ++ es)) a0 w o a w → if Region.wanted o (yielded ops.toArray a.tmps) = true then Does P (Ds (ds.map (fun _ => Free) ++ es) i) o a w Q else Ds (ds.map (fun _ => Free) ++ es) i undef w) (n + 1) (ops.drop (n + 1)))
    (hfin : ∀ w, Below B w0 w → Fin (Q .normal) w a0.defers ops (ds.map (fun _ => Free) ++ es) a0.tmps) : (Code.region id ops.toArray true).wp P Q a0 w0 := by
  have hE : ∀ p ∈ ds.map (fun _ => Free) ++ es, Stable p := by
    intro p hp
    rcases List.mem_append.1 hp with hp | hp
    · simp only [List.mem_map] at hp; obtain ⟨_, _, rfl⟩ := hp; exact stable_free
    · exact all_stable hst2 p hp
  have hE0 : Ds (ds.map (fun _ => Free) ++ es) n = Ds es 0 := by
    unfold Ds
    rw [List.getD_eq_getElem?_getD, List.getD_eq_getElem?_getD, List.getElem?_append_right (by simp [hlen])]
    simp [hlen]
  refine wp_region_any hm (region_own (B := B) (n := n) (D := Ds ds) (E := Ds (ds.map (fun _ => Free) ++ es)) hB hok hn htl (stable_ds ds (all_stable hst)) (stable_ds _ hE) (fun i v w hi => ?_) (fun i o hi ho => ?_) (fun o ho a w C => ?_) (fun i o hi ho => ?_) (fun a w hb hsz hdf hold hdone => ?_) _ _ _ _ ?_ ⟨?_, rfl, rfl, fun _ _ => rfl, fun _ _ _ => rfl, fun i o d _ hl _ => ?_, by simp, fun i hl => ?_⟩)
  · unfold Ds
    rw [List.getD_eq_getElem?_getD, List.getElem?_append_left (by simp [hlen]; exact hi)]
    simp [hlen, hi, Free]
  · have := all_from _ 0 hhead i o (by rw [List.getElem?_take, if_pos hi]; exact ho)
    rw [Nat.zero_add] at this
    exact this
  · obtain ⟨h1, h2⟩ := hmid o ho a w C
    rw [hE0]
    exact ⟨h1, h2⟩
  · obtain ⟨k, rfl⟩ : ∃ k, i = n + 1 + k := ⟨i - (n + 1), by omega⟩
    exact all_from _ (n + 1) hlast k o (by rw [List.getElem?_drop]; exact ho)
  · have hd1 : ∀ i o, ops[i]? = some o → Ds (ds.map (fun _ => Free) ++ es) i ((fun d : Option Tmp => match d with | some t => a.tmps.getD t undef | none => undef) o.dst) w := fun i o hi => by
      obtain ⟨d, hd, _⟩ := (okOps_spec hok).1 o (List.mem_of_getElem? hi)
      rw [hd]
      exact hdone i o d hi hd
    have e : a = putAll (fun d : Option Tmp => match d with | some t => a.tmps.getD t undef | none => undef) ops a0 := by
      obtain ⟨e1, e2⟩ := put_all_size (fun d : Option Tmp => match d with | some t => a.tmps.getD t undef | none => undef) ops a0
      refine act_ext (by rw [e1, hsz]) (by rw [e2, hdf]) fun t => ?_
      rw [put_all_at]
      by_cases h : (∃ o ∈ ops, o.dst = some t) ∧ t < a0.tmps.size
      · rw [if_pos h]
      · rw [if_neg h]
        by_cases ht : t < a0.tmps.size
        · exact hold t fun o' ho e => h ⟨⟨o', ho, e⟩, ht⟩
        · rw [Array.getD_eq_getD_getElem?, Array.getD_eq_getD_getElem?, Array.getElem?_eq_none (by omega), Array.getElem?_eq_none (by omega)]
    rw [e]
    exact fin_all _ ops _ a0 hlen2 hd1 (hfin w hb)
  · simp
  · rw [if_neg (by simp [Array.getD_eq_getD_getElem?, Array.getElem?_replicate]; split <;> simp_all)]
    exact (Below.refl _ _).drew
  · simp [Array.getD_eq_getD_getElem?, Array.getElem?_replicate] at hl
    split at hl <;> simp_all
  · simp [Array.getD_eq_getD_getElem?, Array.getElem?_replicate] at hl
    split at hl <;> simp_all
end
end Go.Proofs.YtpampgkhjcfeaaaDoor

namespace Go.Proofs.YtpampgkhjcfeaaaDoor
set_option maxRecDepth 50000
open Go.RowKit
/-- a slot that those behind number n alone write, as it was -/
theorem yet_was {ops : List Oper} {n : Nat} {a a0 : Act} (Y : ∀ t, (∀ i o', ops[i]? = some o' → o'.dst = some t → n < i) → a.tmps.getD t undef = a0.tmps.getD t undef) (t : Tmp) (h : ((List.range ops.length).all fun i => !((ops[i]?.bind Oper.dst) == some t) || decide (n < i)) = true) : a.tmps.getD t undef = a0.tmps.getD t undef :=
  Y t fun i o' hi hd => by
    have hil := (List.getElem?_eq_some_iff.1 hi).1
    have := List.all_eq_true.1 h i (List.mem_range.2 hil)
    rw [hi] at this
    simpa [hd] using this
theorem turnsb_value {B : Nat} {P : Program} {o : Oper} {a : Act} {w0 w w' : World} {Q : Exit → Act → World → Prop} {p : Value → World → Prop} {v : Value} (h : (execOp a.eval o).run P w = .ok (.value v) w') (hp : p v w') (hb : Below B w0 w') : TurnsB B P p o a w0 w Q := by
  unfold TurnsB Oper.wp
  rw [h]
  exact ⟨v, rfl, hp, hb⟩
end Go.Proofs.YtpampgkhjcfeaaaDoor

/- A statement that turns older memory; the document's first blocks. Conditions: those typed. -/
import Derived.Test.YtcbccjcnllifjaaGreatDoorGen
import Derived.Test.YtcbccjcnllifjaaGreatDoorGf
import Derived.Deep.LoopGhost
import Derived.Deep.CutBlock
import Derived.Deep.CutRange
import Derived.WalkMore
import Derived.Deep.RegionWith
namespace Go.Proofs.YtcbccjcnllifjaaGreatDoor
set_option maxRecDepth 50000
open Go.RowKit
def tailOk3 (ops : List Oper) (n : Nat) : Bool :=
  (List.range n).all (fun j => (reach ops n (depsOf ops n)).contains j) && (List.range ops.length).all fun i => !decide (n < i) || (reach ops ops.length (depsOf ops i)).contains n
structure RInv3 (B : Nat) (ops : List Oper) (n : Nat) (D E : Nat → Value → World → Prop) (a0 : Act) (w0 : World) (listed : Array Bool) (a : Act) (w : World) : Prop where
  below : if listed.getD n false = true then Below B w0 w else Below w0.heap.size w0 w
  size : a.tmps.size = a0.tmps.size
  defers : a.defers = a0.defers
  old : ∀ t, (∀ o' ∈ ops, o'.dst ≠ some t) → a.tmps.getD t undef = a0.tmps.getD t undef
  yet : listed.getD n false = false → ∀ t, (∀ i o', ops[i]? = some o' → o'.dst = some t → n < i) → a.tmps.getD t undef = a0.tmps.getD t undef
  done : ∀ i o d, ops[i]? = some o → listed.getD i false = true → o.dst = some d → if listed.getD n false = true then E i (a.tmps.getD d undef) w else D i (a.tmps.getD d undef) w
  lsize : listed.size = ops.length
  closed : ∀ i, listed.getD i false = true → ∀ j ∈ depsOf ops i, listed.getD j false = true
section
variable {P : Program} {ops : List Oper} {Q : Exit → Act → World → Prop} {a0 : Act} {w0 : World} {D E : Nat → Value → World → Prop} {n B : Nat}
theorem rinv3_step (hok : okOps ops a0.tmps.size = true) {listed : Array Bool} {a : Act} {w w' : World} {i : Nat} {o : Oper} {v : Value}
    (inv : RInv3 B ops n D E a0 w0 listed a w) (hi : ops[i]? = some o) (hdep : ∀ j ∈ depsOf ops i, listed.getD j false = true)
    (hv : if (listed.setIfInBounds i true).getD n false = true then E i v w' else D i v w') (hb : if (listed.setIfInBounds i true).getD n false = true then Below B w0 w' else Below w0.heap.size w0 w')
    (hy : (listed.setIfInBounds i true).getD n false = false → i < n)
    (hst : ∀ j u, listed.getD j false = true → j ≠ i → (if listed.getD n false = true then E j u w else D j u w) → if (listed.setIfInBounds i true).getD n false = true then E j u w' else D j u w') : RInv3 B ops n D E a0 w0 (listed.setIfInBounds i true) (a.put o.dst v) w' := by
  obtain ⟨h1, h2, _⟩ := okOps_spec hok
  obtain ⟨d, hd, hdn⟩ := h1 o (List.mem_of_getElem? hi)
  have hil : i < listed.size := by rw [inv.lsize]; exact (List.getElem?_eq_some_iff.1 hi).1
  rw [hd]
  refine ⟨hb, by simp [Act.put, inv.size], inv.defers, fun t ht => ?_, fun hn0 t ht => ?_, fun j o' d' hj hl hd' => ?_, by simp [inv.lsize], fun j hj k hk => ?_⟩
  · rw [getD_put, if_neg (fun h => ht o (List.mem_of_getElem? hi) (by rw [hd, h.1]))]
    exact inv.old t ht
  · have hlt := hy hn0
    rw [getD_listed _ _ _ hil, if_neg (by omega)] at hn0
    rw [getD_put, if_neg (fun h => by have := ht i o hi (by rw [hd, h.1]); omega)]
    exact inv.yet hn0 t ht
  · by_cases hij : i = j
    · subst hij
      rw [hi] at hj
      injection hj with hj
      subst hj
      rw [hd] at hd'
      injection hd' with hd'
      subst hd'
      have e : (a.put (some d) v).tmps.getD d undef = v := by rw [getD_put, if_pos ⟨rfl, by rw [inv.size]; exact hdn⟩]
      rw [e]
      exact hv
    · have e : (a.put (some d) v).tmps.getD d' undef = a.tmps.getD d' undef := by rw [getD_put, if_neg (fun h => hij (dst_inj h2 hi hj (by rw [hd, hd', h.1])))]
      rw [e]
      have hl' : listed.getD j false = true := by rw [getD_listed _ _ _ hil, if_neg hij] at hl; exact hl
      exact hst j _ hl' (fun e => hij e.symm) (inv.done j o' d' hj hl' hd')
  · rw [getD_listed _ _ _ hil] at hj ⊢
    by_cases hik : i = k
    · rw [if_pos hik]
    · rw [if_neg hik]
      by_cases hij : i = j
      · subst hij; exact hdep k hk
      · rw [if_neg hij] at hj; exact inv.closed j hj k hk
theorem region_own (hB : B ≤ w0.heap.size) (hok : okOps ops a0.tmps.size = true) (hn : n < ops.length) (htl : tailOk3 ops n = true) (hstD : ∀ i v w w', D i v w → Below w.heap.size w w' → D i v w') (hstE : ∀ i v w w', E i v w → Below w.heap.size w w' → E i v w')
    (hfree : ∀ i v w, i < n → E i v w)
    (hhead : ∀ i o, i < n → ops[i]? = some o → ∀ a w, Ctx ops D a0 w0 o a w → (∀ t, (∀ i o', ops[i]? = some o' → o'.dst = some t → n < i) → a.tmps.getD t undef = a0.tmps.getD t undef) → if Region.wanted o (yielded ops.toArray a.tmps) = true then o.wp P a w (fun a' w' => ∃ v, a' = a.put o.dst v ∧ D i v w' ∧ Below w.heap.size w w') Q else D i undef w)
    (hmid : ∀ o, ops[n]? = some o → ∀ a w, Ctx ops D a0 w0 o a w → Region.wanted o (yielded ops.toArray a.tmps) = true ∧ o.wp P a w (fun a' w' => ∃ v, a' = a.put o.dst v ∧ E n v w' ∧ Below B w0 w') Q)
    (hlast : ∀ i o, n < i → ops[i]? = some o → ∀ a w, Ctx ops E a0 w o a w → if Region.wanted o (yielded ops.toArray a.tmps) = true then o.wp P a w (fun a' w' => ∃ v, a' = a.put o.dst v ∧ E i v w' ∧ Below w.heap.size w w') Q else E i undef w)
    (hfin : ∀ a w, Below B w0 w → a.tmps.size = a0.tmps.size → a.defers = a0.defers → (∀ t, (∀ o' ∈ ops, o'.dst ≠ some t) → a.tmps.getD t undef = a0.tmps.getD t undef) →
      (∀ i o d, ops[i]? = some o → o.dst = some d → E i (a.tmps.getD d undef) w) → Q .normal a w) :
    ∀ (fuel : Nat) (listed : Array Bool) (a : Act) (w : World), listed.toList.count false = fuel → RInv3 B ops n D E a0 w0 listed a w → wpAny P .any ops.toArray Q fuel listed a w := by
  simp only [tailOk3, Bool.and_eq_true, List.all_eq_true, List.mem_range] at htl
  obtain ⟨ht1, ht2⟩ := htl
  have hall : ∀ {listed : Array Bool} {a : Act} {w : World}, RInv3 B ops n D E a0 w0 listed a w → (∀ j ∈ depsOf ops n, listed.getD j false = true) → ∀ j, j < n → listed.getD j false = true := fun inv hd j hj =>
    reach_in ops (fun i => _ = true) inv.closed n _ hd j (by simpa using ht1 j hj)
  have hend : ∀ (listed : Array Bool) (a : Act) (w : World), RInv3 B ops n D E a0 w0 listed a w → Region.ready .any ops.toArray listed = [] → Q .normal a w := fun listed a w inv hr =>
    hfin a w (by have h := inv.below; rw [if_pos (all_listed hok inv.lsize hr n hn)] at h; exact h) inv.size inv.defers inv.old fun i o d hi hd => by
      have h := inv.done i o d hi (all_listed hok inv.lsize hr i (List.getElem?_eq_some_iff.1 hi).1) hd
      rw [if_pos (all_listed hok inv.lsize hr n hn)] at h
      exact h
  intro fuel
  induction fuel with
  | zero =>
    intro listed a w hc inv
    have hr : Region.ready .any ops.toArray listed = [] := by
      rw [List.eq_nil_iff_forall_not_mem]
      intro i hi
      simp only [Region.ready, List.mem_filter, List.mem_range, Bool.and_eq_true, Bool.not_eq_true'] at hi
      have hli : i < listed.size := by rw [inv.lsize]; simpa using hi.1
      have : false ∈ listed.toList := by
        have h2 : listed[i] = false := by simpa [Array.getD_eq_getD_getElem?, Array.getElem?_eq_getElem hli] using hi.2.1
        rw [← h2]; exact Array.getElem_mem_toList hli
      exact absurd (List.count_pos_iff.2 this) (by omega)
    exact ⟨hr, hend listed a w inv hr⟩
  | succ fuel ih =>
    intro listed a w hc inv
    refine ⟨hend listed a w inv, fun i hi => ?_⟩
    have hi' := hi
    simp only [Region.ready, List.mem_filter, List.mem_range, Bool.and_eq_true, Bool.not_eq_true', List.size_toArray] at hi'
    obtain ⟨hlt, hun, hdep⟩ := hi'
    have hli : i < listed.size := by rw [inv.lsize]; exact hlt
    have hunf : listed.getD i false = false := by
      simpa [Array.getD_eq_getD_getElem?, Array.getElem?_eq_getElem hli] using hun
    have ho : ops[i]? = some ops[i] := List.getElem?_eq_getElem hlt
    have hc' := count_step hli hun hc
    have hdeps : ∀ e ∈ (ops[i]).after, Region.binds .any e = true → listed.getD e.on false = true := by
      intro e he hb
      simp only [List.getElem?_toArray, ho, Option.map_some, Option.getD_some] at hdep
      have := (Array.all_eq_true'.1 hdep) e he
      simpa [hb] using this
    have hdl : ∀ j ∈ depsOf ops i, listed.getD j false = true := by
      intro j hj
      simp only [depsOf, ho, List.mem_map, List.mem_filter] at hj
      obtain ⟨e, ⟨he, hb⟩, rfl⟩ := hj
      exact hdeps e (by simpa using he) hb
    unfold wpOp
    rw [List.getElem?_toArray, ho]
    show if Region.wanted ops[i] (yielded ops.toArray a.tmps) = true then _ else _
    rcases Nat.lt_trichotomy i n with hin | hin | hin
    · have hnl : listed.getD n false = false := by
        cases hq : listed.getD n false with
        | false => rfl
        | true => rw [hall inv (inv.closed n hq) i hin] at hunf; cases hunf
      have hnl2 : (listed.setIfInBounds i true).getD n false = false := by rw [getD_listed _ _ _ hli, if_neg (by omega)]; exact hnl
      have hbl : Below w0.heap.size w0 w := by have h := inv.below; rw [hnl] at h; exact h
      have H := hhead i ops[i] hin ho a w ⟨hbl, inv.old, fun e he hb o' d hj hd => by
        have := inv.done e.on o' d hj (hdeps e he hb) hd
        rw [hnl] at this; exact this⟩ (inv.yet hnl)
      by_cases hw : Region.wanted ops[i] (yielded ops.toArray a.tmps) = true
      · rw [if_pos hw] at H ⊢
        refine .inl (Oper.wp_mono ?_ H)
        rintro a' w' ⟨v, rfl, hv, hb⟩
        exact ih _ _ _ hc' (rinv3_step hok inv ho hdl (by rw [hnl2]; exact hv) (by rw [hnl2]; exact hbl.trans (hb.mono hbl.size)) (fun _ => hin) fun j u _ _ hd => by rw [hnl] at hd; rw [hnl2]; exact hstD _ _ _ _ hd hb)
      · rw [if_neg hw] at H ⊢
        exact ih _ _ _ hc' (rinv3_step hok inv ho hdl (by rw [hnl2]; exact H) (by rw [hnl2]; exact hbl) (fun _ => hin) fun j u _ _ hd => by rw [hnl] at hd; rw [hnl2]; exact hd)
    · subst hin
      have hl2 : (listed.setIfInBounds i true).getD i false = true := by rw [getD_listed _ _ _ hli, if_pos rfl]
      have hbl : Below w0.heap.size w0 w := by have h := inv.below; rw [hunf] at h; exact h
      obtain ⟨hw, H⟩ := hmid ops[i] ho a w ⟨hbl, inv.old, fun e he hb o' d hj hd => by
        have := inv.done e.on o' d hj (hdeps e he hb) hd
        rw [hunf] at this; exact this⟩
      rw [if_pos hw]
      refine .inl (Oper.wp_mono ?_ H)
      rintro a' w' ⟨v, rfl, hv, hb⟩
      refine ih _ _ _ hc' (rinv3_step hok inv ho hdl (by rw [hl2]; exact hv) (by rw [hl2]; exact hb) (fun h => by rw [hl2] at h; cases h) fun j u hj hji _ => ?_)
      rw [hl2]
      rcases Nat.lt_or_ge j i with h | h
      · exact hfree j u w' h
      · exfalso
        have hjl : j < ops.length := by
          rcases Nat.lt_or_ge j listed.size with h2 | h2
          · rw [← inv.lsize]; exact h2
          · simp [Array.getD_eq_getD_getElem?, Array.getElem?_eq_none h2] at hj
        have := ht2 j hjl
        simp only [Bool.or_eq_true, Bool.not_eq_true', decide_eq_false_iff_not] at this
        rcases this with h2 | h2
        · omega
        · rw [reach_in ops (fun i => listed.getD i false = true) inv.closed ops.length _ (inv.closed j hj) i (by simpa using h2)] at hunf; cases hunf
    · have hnl : listed.getD n false = true := by
        have := ht2 i hlt
        simp only [Bool.or_eq_true, Bool.not_eq_true', decide_eq_false_iff_not] at this
        rcases this with h2 | h2
        · omega
        · exact reach_in ops (fun i => listed.getD i false = true) inv.closed ops.length _ hdl n (by simpa using h2)
      have hnl2 : (listed.setIfInBounds i true).getD n false = true := by rw [getD_listed _ _ _ hli]; split; rfl; exact hnl
      have hbl : Below B w0 w := by have h := inv.below; rw [if_pos hnl] at h; exact h
      have H := hlast i ops[i] hin ho a w ⟨Below.refl _ _, inv.old, fun e he hb o' d hj hd => by
        have := inv.done e.on o' d hj (hdeps e he hb) hd
        rw [if_pos hnl] at this; exact this⟩
      by_cases hw : Region.wanted ops[i] (yielded ops.toArray a.tmps) = true
      · rw [if_pos hw] at H ⊢
        refine .inl (Oper.wp_mono ?_ H)
        rintro a' w' ⟨v, rfl, hv, hb⟩
        exact ih _ _ _ hc' (rinv3_step hok inv ho hdl (by rw [hnl2]; exact hv) (by rw [hnl2]; exact hbl.trans (hb.mono (Nat.le_trans hB hbl.size))) (fun h => by rw [hnl2] at h; cases h) fun j u _ _ hd => by rw [if_pos hnl] at hd; rw [if_pos hnl2]; exact hstE _ _ _ _ hd hb)
      · rw [if_neg hw] at H ⊢
        exact ih _ _ _ hc' (rinv3_step hok inv ho hdl (by rw [hnl2]; exact H) (by rw [hnl2]; exact hbl) (fun h => by rw [hnl2] at h; cases h) fun j u _ _ hd => by rw [if_pos hnl] at hd; rw [if_pos hnl2]; exact hd)
def TurnsB (B : Nat) (P : Program) (p : Value → World → Prop) (o : Oper) (a : Act) (w0 w : World) (Q : Exit → Act → World → Prop) : Prop := o.wp P a w (fun a' w' => ∃ v, a' = a.put o.dst v ∧ p v w' ∧ Below B w0 w') Q
theorem wp_region_own {id : Nat} (B n : Nat) (hB : B ≤ w0.heap.size) (ds es : List (Value → World → Prop)) (hm : P.follows .mixedOrders = true) (hok : okOps ops a0.tmps.size = true) (htl : tailOk3 ops n = true) (hlen : ds.length = n) (hlen2 : (ds.map (fun _ => Free) ++ es).length = ops.length) (hn : n < ops.length) (hst : AllStable ds) (hst2 : AllStable es)
    (hhead : AllFrom (fun i o => ∀ a w, Ctx ops (Ds ds) a0 w0 o a w → (∀ t, (∀ i o', ops[i]? = some o' → o'.dst = some t → n < i) → a.tmps.getD t undef = a0.tmps.getD t undef) → if Region.wanted o (yielded ops.toArray a.tmps) = true then Does P (Ds ds i) o a w Q else Ds ds i undef w) 0 (ops.take n))
    (hmid : ∀ o, ops[n]? = some o → ∀ a w, Ctx ops (Ds ds) a0 w0 o a w → Region.wanted o (yielded ops.toArray a.tmps) = true ∧ TurnsB B P (Ds es 0) o a w0 w Q)
    (hlast : AllFrom (fun i o => ∀ a w, Ctx ops (Ds (ds.map (fun _ => Free) ++ es)) a0 w o a w → if Region.wanted o (yielded ops.toArray a.tmps) = true then Does P (Ds (ds.map (fun _ => Free) ++ es) i) o a w Q else Ds (ds.map (fun _ => Free) ++ es) i undef w) (n + 1) (ops.drop (n + 1)))
    (hfin : ∀ w, Below B w0 w → Fin (Q .normal) w a0.defers ops (ds.map (fun _ => Free) ++ es) a0.tmps) : (Code.region id ops.toArray true).wp P Q a0 w0 := by
  have hE : ∀ p ∈ ds.map (fun _ => Free) ++ es, Stable p := by
    intro p hp
    rcases List.mem_append.1 hp with hp | hp
    · simp only [List.mem_map] at hp; obtain ⟨_, _, rfl⟩ := hp; exact stable_free
    · exact all_stable hst2 p hp
  have hE0 : Ds (ds.map (fun _ => Free) ++ es) n = Ds es 0 := by
    unfold Ds
    rw [List.getD_eq_getElem?_getD, List.getD_eq_getElem?_getD, List.getElem?_append_right (by simp [hlen])]
    simp [hlen]
  refine wp_region_any hm (region_own (B := B) (n := n) (D := Ds ds) (E := Ds (ds.map (fun _ => Free) ++ es)) hB hok hn htl (stable_ds ds (all_stable hst)) (stable_ds _ hE) (fun i v w hi => ?_) (fun i o hi ho => ?_) (fun o ho a w C => ?_) (fun i o hi ho => ?_) (fun a w hb hsz hdf hold hdone => ?_) _ _ _ _ ?_ ⟨?_, rfl, rfl, fun _ _ => rfl, fun _ _ _ => rfl, fun i o d _ hl _ => ?_, by simp, fun i hl => ?_⟩)
  · unfold Ds
    rw [List.getD_eq_getElem?_getD, List.getElem?_append_left (by simp [hlen]; exact hi)]
    simp [hlen, hi, Free]
  · have := all_from _ 0 hhead i o (by rw [List.getElem?_take, if_pos hi]; exact ho)
    rw [Nat.zero_add] at this
    exact this
  · obtain ⟨h1, h2⟩ := hmid o ho a w C
    rw [hE0]
    exact ⟨h1, h2⟩
  · obtain ⟨k, rfl⟩ : ∃ k, i = n + 1 + k := ⟨i - (n + 1), by omega⟩
    exact all_from _ (n + 1) hlast k o (by rw [List.getElem?_drop]; exact ho)
  · have hd1 : ∀ i o, ops[i]? = some o → Ds (ds.map (fun _ => Free) ++ es) i ((fun d : Option Tmp => match d with | some t => a.tmps.getD t undef | none => undef) o.dst) w := fun i o hi => by
      obtain ⟨d, hd, _⟩ := (okOps_spec hok).1 o (List.mem_of_getElem? hi)
      rw [hd]
      exact hdone i o d hi hd
    have e : a = putAll (fun d : Option Tmp => match d with | some t => a.tmps.getD t undef | none => undef) ops a0 := by
      obtain ⟨e1, e2⟩ := put_all_size (fun d : Option Tmp => match d with | some t => a.tmps.getD t undef | none => undef) ops a0
      refine act_ext (by rw [e1, hsz]) (by rw [e2, hdf]) fun t => ?_
      rw [put_all_at]
      by_cases h : (∃ o ∈ ops, o.dst = some t) ∧ t < a0.tmps.size
      · rw [if_pos h]
      · rw [if_neg h]
        by_cases ht : t < a0.tmps.size
        · exact hold t fun o' ho e => h ⟨⟨o', ho, e⟩, ht⟩
        · rw [Array.getD_eq_getD_getElem?, Array.getD_eq_getD_getElem?, Array.getElem?_eq_none (by omega), Array.getElem?_eq_none (by omega)]
    rw [e]
    exact fin_all _ ops _ a0 hlen2 hd1 (hfin w hb)
  · simp
  · rw [if_neg (by simp [Array.getD_eq_getD_getElem?, Array.getElem?_replicate]; split <;> simp_all)]
    exact (Below.refl _ _).drew
  · simp [Array.getD_eq_getD_getElem?, Array.getElem?_replicate] at hl
    split at hl <;> simp_all
  · simp [Array.getD_eq_getD_getElem?, Array.getElem?_replicate] at hl
    split at hl <;> simp_all
end
end Go.Proofs.YtcbccjcnllifjaaGreatDoor
namespace Go.Proofs.YtcbccjcnllifjaaGreatDoor
set_option maxRecDepth 50000
open Go.RowKit
theorem yet_was {ops : List Oper} {n : Nat} {a a0 : Act} (Y : ∀ t, (∀ i o', ops[i]? = some o' → o'.dst = some t → n < i) → a.tmps.getD t undef = a0.tmps.getD t undef) (t : Tmp) (h : ((List.range ops.length).all fun i => !((ops[i]?.bind Oper.dst) == some t) || decide (n < i)) = true) : a.tmps.getD t undef = a0.tmps.getD t undef :=
  Y t fun i o' hi hd => by
    have hil := (List.getElem?_eq_some_iff.1 hi).1
    have := List.all_eq_true.1 h i (List.mem_range.2 hil)
    rw [hi] at this
    simpa [hd] using this
theorem turnsb_value {B : Nat} {P : Program} {o : Oper} {a : Act} {w0 w w' : World} {Q : Exit → Act → World → Prop} {p : Value → World → Prop} {v : Value} (h : (execOp a.eval o).run P w = .ok (.value v) w') (hp : p v w') (hb : Below B w0 w') : TurnsB B P p o a w0 w Q := by
  unfold TurnsB Oper.wp
  rw [h]
  exact ⟨v, rfl, hp, hb⟩
end Go.Proofs.YtcbccjcnllifjaaGreatDoor
namespace Go.Proofs.YtcbccjcnllifjaaGreatDoor
set_option maxRecDepth 50000
open Go.RowKit Bb Bl
def frS (z : List Nat) (k : Nat) : List Nat := tb fun j => if j < k then z.getD j 0 else 0
theorem frS_len (z : List Nat) (k : Nat) : (frS z k).length = 128 := tb_length _
theorem frS_zero (z : List Nat) : frS z 0 = zb := by rw [zb_tb]; exact tb_congr _ _ fun j _ => by simp
theorem frS_all {z : List Nat} (hz : z.length = 128) : frS z 128 = z := by
  unfold frS
  rw [tb_congr _ (fun k => z.getD k 0) fun j hj => if_pos hj]
  exact tb_self z hz
theorem frS_next (z : List Nat) (k : Nat) : (frS z k).set k (z.getD k 0) = frS z (k + 1) := by
  have h := tb_set (fun j => if j < k then z.getD j 0 else 0) (fun j => if j < k + 1 then z.getD j 0 else 0) k fun j _ hj => by
    by_cases h : j < k
    · rw [if_pos h, if_pos (by omega)]
    · rw [if_neg h, if_neg (by omega)]
  rw [if_pos (Nat.lt_succ_self k)] at h
  exact h
set_option maxHeartbeats 3200000 in
theorem rfrom_any (s : ByteArray) (h : s.size = 1024) (w : World) : Calls Tryz.prog 62 #[.string s] w fun e w' => e = .returned (.agg (wq (frB (nb s)))) ∧ Below w.heap.size w w' := by
  obtain ⟨N, hN⟩ : ∃ N, N = w.heap.size := ⟨_, rfl⟩
  obtain ⟨w1, e1⟩ : ∃ w1, w1 = (w.alloc (.cells (wq zb) 111)).alloc (.cells (wq zb) 111) := ⟨_, rfl⟩
  have b1 : Below w.heap.size w w1 := by rw [e1]; exact two_box _ _ _
  have r1 : RowAt w1 N 111 (wq zb) := by rw [e1, hN]; exact (RowAt.new w _ _).alloc _
  have r2 : RowAt w1 (N + 1) 111 (wq zb) := by
    rw [e1, hN]
    have := RowAt.new (w.alloc (.cells (wq zb) 111)) 111 (wq zb)
    rwa [World.size_alloc] at this
  have hs1 : w1.heap.size = N + 2 := by rw [e1, World.size_alloc, World.size_alloc, hN]
  obtain ⟨W1, c1, hcv, hbw, hbuf, hsw⟩ := bytes_of_text w1 s
  have C := words8_any (some ⟨w1.heap.size, 0, none⟩) c1 (nb s) 128 (by rw [nb_length, h]) W1 (hbuf.reads (by omega)) (by rw [nb_length, h]; decide) (nb_lt s)
  rw [nb_length, h, ← link8 128 (nb s) (nb_lt s)] at C
  rw [h] at hcv
  obtain ⟨z, hz2⟩ : ∃ z, z = frB (nb s) := ⟨_, rfl⟩
  rw [show wordsAt ups 8 128 (nb s) (8 * 128) = z from hz2.symm] at C
  rw [hs1] at C
  have hsW := hbw.size
  have HC := Lib.hid C
  have HO : Hid (okb z) := Lib.hid (by rw [hz2]; exact frB_ok (nb s) (nb_lt s))
  have hz := zero_b
  have HR1 := Lib.hid (RowAt.step r1 hbw)
  have HR2 := Lib.hid (RowAt.step r2 hbw)
  have HB1 := Lib.hid (below_step b1 hbw)
  have HZ := Lib.hid hz2
  have HN := Lib.hid hN
  have E1 := Lib.hid e1
  rw [← hz2]
  clear C hbuf hsw r1 r2 b1 e1 hN hz2 hbw
  go_enter Tryz.func62, Tryz.ntmps62
  go_upto_region 2 with fail
  rw [← E1.out, ← HN.out]
  clear E1
  go_wp2_with fail
  refine HC.out.mono ?_
  rintro e w3 ⟨v, rfl, hown, hb3⟩
  obtain ⟨A', c', rfl, hnl, hA, _⟩ := own_form hown
  obtain ⟨g, rfl, hg⟩ := hA (by decide)
  have hrd := Reads.of_own hown
  have HRD : Hid (∀ k, k < 128 → w3.cell? ⟨g, k, none⟩ = some (.int .u64 ((z.getD k 0 : Nat) : Int))) := Lib.hid fun k hk => by
    obtain ⟨b', off', e', _, hc'⟩ := hrd k (by rw [u64s_length, HO.out.1]; exact hk)
    cases e'
    rw [Nat.zero_add] at hc'
    rw [hc', u64_at, List.getD_eq_getElem?_getD, List.getElem?_eq_getElem (by rw [HO.out.1]; exact hk)]
    rfl
  have HR3 := Lib.hid (RowAt.step HR1.out hb3)
  have HR4 := Lib.hid (RowAt.step HR2.out hb3)
  have HB3 := Lib.hid (below_step HB1.out hb3)
  have hgN : N + 2 ≤ g := by have := hb3.size; omega
  clear hown hrd hb3 HR1 HR2 HB1 HC hnl hA hcv
  go_wp2
  go_loopw [6] (fun v6 wr => ∃ k : Nat, k ≤ 128 ∧ v6 = .int .i64 (k : Int) ∧ Hid (RowAt wr N 111 (wq zb)) ∧ Hid (RowAt wr (N + 1) 111 (wq (frS z k))) ∧ Hid (Below N w wr) ∧ Hid (∀ k, k < 128 → wr.cell? ⟨g, k, none⟩ = some (.int .u64 ((z.getD k 0 : Nat) : Int)))) (fun v6 _ => 128 - (intOf v6).toNat)
  case atStart => exact ⟨0, Nat.zero_le _, rfl, HR3, Lib.hid (by rw [frS_zero]; exact HR4.out), Lib.hid (by rw [HN.out]; exact HB3.out), HRD⟩
  case round =>
    obtain ⟨k, hk, rfl, HA, HB, HW, HD⟩ := hrel
    by_cases hk8 : k < 128
    · have hd1 : decide ((k : Int) < 128) = true := by simp; omega
      have hd2 : decide (k < 128) = true := by simp; omega
      have hk0 : (0 : Int) ≤ (k : Int) := by omega
      have hk1 : (k : Int) < 128 := by omega
      have kc := HD.out k hk8
      have kf := RowAt.frozen HB.out k
      have kb : wr.cell? ⟨N + 1, k, none⟩ = some (.int .u64 (((frS z k).getD k 0 : Nat) : Int)) := (RowAt.cell HB.out k).trans (wq_at _ k (by rw [frS_len]; exact hk8))
      have HS := Lib.hid (RowAt.setCell HB.out k (.int .u64 ((z.getD k 0 : Nat) : Int)))
      have HNX := Lib.hid (frS_next z k)
      have HX := Lib.hid (ok_at HO.out k)
      generalize hx : z.getD k 0 = x at *
      go_wp2
      go_roundw
      case rel => exact ⟨k + 1, by omega, by go_num, Lib.hid (RowAt.setOther HA.out _ (by simp) _), Lib.hid (by have h := HS.out; rw [wq_set, HNX.out] at h; exact h), Lib.hid (HW.out.setCell (by simp) _), Lib.hid fun j hj => by rw [World.cell?_setCell_other _ _ _ _ (by intro h; simp only [Addr.mk.injEq] at h; omega)]; exact HD.out j hj⟩
      case measure => simp [intOf]; omega
    · obtain rfl : k = 128 := by omega
      have kA := RowAt.load HB.out Tryz.underlying111 (by rw [wq_size, frS_len]; exact b_size)
      rw [frS_all HO.out.1] at kA
      have HST := Lib.hid (HA.out.store (C' := wq z) (by rw [wq_size, HO.out.1]; exact b_size) (by rw [wq_size, wq_size, HO.out.1]; exact zb_ok.1) (wq_one _))
      go_wp2_with (first
        | refine wpList_load_want rfl 111 _ rfl _ _ rfl kA ?_
        | refine wpList_store_of rfl _ _ _ rfl ⟨N, 0, none⟩ _ rfl rfl HST.out ?_)
      have hR := RowAt.setRow HA.out (wq z)
      refine bodyPost_ret (v := .agg (wq z)) (results_cell_row rfl _ _ N 111 _ (0, 0) _ rfl hR Tryz.underlying111 rfl (by rw [wq_size, HO.out.1]; exact b_size)) rfl ⟨by rw [HZ.out], ?_⟩
      rw [← HN.out]
      exact below_setRow HW.out (Nat.le_refl _) _
end Go.Proofs.YtcbccjcnllifjaaGreatDoor
namespace Go.Proofs.YtcbccjcnllifjaaGreatDoor
set_option maxRecDepth 50000
open Go.RowKit Bb Bl
theorem conv_u32 (k : Nat) (h : k < 4294967296) (w : World) : (convert 3 97 (.int .i64 (k : Int))).run Tryz.prog w = .ok (.int .u32 (k : Int)) w := by
  have e : IntKind.u32.wrap (k : Int) = (k : Int) := by rw [IntKind.wrap_u32]; omega
  simp [go_sem, e]
theorem of32_owns (k : Nat) (w : World) (h : k < 2 ^ 32) : Calls Tryz.prog 49 #[.int .u32 (k : Int)] w fun e w' => ∃ v, e = .returned v ∧ Owns (lead k) v w' ∧ Below w.heap.size w w' := by
  refine (of32_any k w h).mono ?_
  rintro e w' ⟨v, rfl, ho, hb⟩
  rw [lead_cs] at ho
  exact ⟨v, rfl, ⟨_, _, ho⟩, hb⟩
theorem s27_agg (w : World) : (isAgg 44).run Tryz.prog w = .ok true w := by
  unfold isAgg
  rw [Sem.run_bind, run_underlying Tryz.underlying44 w]
  rfl
theorem s27_size : (Tryz.prog.info? 44).map (·.size) = some 8 := by kernel_rfl
set_option maxHeartbeats 6400000 in
theorem rbegin_any (a t l m b c g z : Nat) (hl0 : 0 < l) (hl : l ≤ 1000) (hc2 : 2 ≤ c) (hc : c ≤ 4194304) (s : ByteArray) (hs : s.size ≤ 1000) (w : World) :
    Calls Tryz.prog 36 #[.agg (wq iv), spv a t l m b c g z, .string s] w fun e w' => ∃ v gs, e = .returned v ∧ DocAt w' w.heap.size v c gs (begTo s c (List.replicate (l * c) zb) l) ∧ gs.length = l ∧ Below w.heap.size w w' := by
  obtain ⟨A0, hA0⟩ : ∃ A0, A0 = w.heap.size := ⟨_, rfl⟩
  obtain ⟨w1, e1⟩ : ∃ w1, w1 = (w.alloc (.cells (wq iv) 35)).alloc (.cells (spc a t l m b c g z) 44) := ⟨_, rfl⟩
  have b1 : Below A0 w w1 := by rw [e1, hA0]; exact two_box _ _ _
  have r1 : RowAt w1 A0 35 (wq iv) := by rw [e1, hA0]; exact (RowAt.new w _ _).alloc _
  have r2 : RowAt w1 (A0 + 1) 44 (spc a t l m b c g z) := by
    rw [e1, hA0]
    have := RowAt.new (w.alloc (.cells (wq iv) 35)) 44 (spc a t l m b c g z)
    rwa [World.size_alloc] at this
  have hs1 : w1.heap.size = A0 + 2 := by rw [e1, World.size_alloc, World.size_alloc, hA0]
  have CE := Lib.hid (rempty_any a t l m b c g z hl hc w1)
  have HB1 := Lib.hid b1
  have HR1 := Lib.hid r1
  have HR2 := Lib.hid r2
  have E1 := Lib.hid e1
  have HA0 := Lib.hid hA0
  have HSs := Lib.hid hs
  have HS1 := Lib.hid hs1
  clear b1 r1 r2 e1 hA0 hs hs1
  go_enter Tryz.func36, Tryz.ntmps36
  go_upto_region 1 with fail
  rw [← E1.out, ← HA0.out]
  clear E1
  have kS : (loadVar 44 ⟨A0 + 1, 0, none⟩).run Tryz.prog w1 = .ok (spv a t l m b c g z) w1 := sub_load HR2.out s27_agg s27_size 0 (spc a t l m b c g z).toList rfl fun j v h => by simpa using h
  go_wp2_with (refine wpList_load_want rfl 44 _ rfl _ _ rfl kS ?_)
  refine CE.out.mono ?_
  rintro e w2 ⟨v, gs, rfl, hD, rfl, hb⟩
  rw [HS1.out] at hD
  obtain ⟨o, kk, rfl⟩ := hD.head hl0
  have HD0 := Lib.hid hD
  have HR1 := Lib.hid (RowAt.step HR1.out hb)
  have HR2 := Lib.hid (RowAt.step HR2.out hb)
  have HB2 := Lib.hid (HB1.out.trans (hb.mono (by rw [HS1.out]; omega)))
  have hs2 : A0 + 2 ≤ w2.heap.size := by have := hb.size; have := HS1.out; omega
  clear hD hb CE kS HB1
  go_wp2
  go_loopw [8] (fun v8 wr => ∃ i : Nat, i ≤ gs.length ∧ v8 = .int .i64 (i : Int) ∧ Hid (DocAt wr (A0 + 2) (.slice (some ⟨o, 0, none⟩) gs.length kk) c gs (begTo s c (List.replicate (gs.length * c) zb) i)) ∧ Hid (Below (A0 + 2) w2 wr)) (fun v8 _ => gs.length - (intOf v8).toNat)
  case atStart => exact ⟨0, Nat.zero_le _, rfl, HD0, Lib.hid (Below.refl _ _)⟩
  case round =>
    obtain ⟨i, hi, rfl, HD, HB⟩ := hrel
    have kl : wr.cell? ⟨A0 + 1, 2, none⟩ = some (.int .i64 (gs.length : Int)) := ((HR2.out.below HB.out (by omega)).cell 2).trans rfl
    by_cases hil : i < gs.length
    · have hd1 : decide ((i : Int) < (gs.length : Int)) = true := by simp; omega
      have hd2 : decide (i < gs.length) = true := by simp; omega
      have hi0 : (0 : Int) ≤ (i : Int) := by omega
      have hi1 : (i : Int) < (gs.length : Int) := by omega
      have hil1 : i ≤ 1000 := by omega
      have HI := Lib.hid hil
      have HE : Hid (begTo s c (List.replicate (gs.length * c) zb) (i + 1) = begIn s c (begTo s c (List.replicate (gs.length * c) zb) i) i 2) := Lib.hid rfl
      generalize begTo s c (List.replicate (gs.length * c) zb) i = M at *
      go_wp2
      go_loopw [9] (fun v9 wr => ∃ k : Nat, k ≤ 2 ∧ v9 = .int .i64 (k : Int) ∧ Hid (DocAt wr (A0 + 2) (.slice (some ⟨o, 0, none⟩) gs.length kk) c gs (begIn s c M i k)) ∧ Hid (Below (A0 + 2) w2 wr)) (fun v9 _ => 2 - (intOf v9).toNat)
      case atStart => exact ⟨0, Nat.zero_le _, rfl, HD, HB⟩
      case round =>
        obtain ⟨k, hk, rfl, HD3, HB3⟩ := hrel
        clear kl
        by_cases hk2 : k < 2
        · have hd3 : decide ((k : Int) < 2) = true := by simp; omega
          have hd4 : decide (k < 2) = true := by simp; omega
          go_wp2
          refine wp_region_text [Is (.int .i64 (k : Int)), Is (.int .u32 (k : Int)), Owns (lead k), Is (.string (tx (lead k))), Is (.int .i64 (i : Int)), Is (.int .u32 (i : Int)), Owns (lead i), Is (.string (tx (lead i))), Is (.string (tx (lead k) ++ tx (lead i))), Is (.string (tx (lead k) ++ tx (lead i)))] (by kernel_rfl) (by kernel_rfl) rfl ⟨stable_is _, stable_is _, stable_owns _, stable_is _, stable_is _, stable_is _, stable_owns _, stable_is _, stable_is _, stable_is _, trivial⟩ ⟨?_, ?_, ?_, ?_, ?_, ?_, ?_, ?_, ?_, ?_, trivial⟩ ?_
          · intro a w C
            exact part_on (wanted_free rfl _) (op_move (.inl rfl) (C.was 9 (by kernel_rfl)))
          · intro a w C
            exact part_on (wanted_free rfl _) (op_conv rfl (C.on (j := 0) (by kernel_rfl) rfl rfl) (conv_u32 k (by omega) w) rfl)
          · intro a w C
            exact part_on (wanted_free rfl _) (op_call1 rfl (reg_enters Tryz.func49 (by kernel_rfl) (by kernel_rfl)) (C.on (j := 1) (by kernel_rfl) rfl rfl) (of32_owns k w (by omega)))
          · intro a w C
            obtain ⟨B, n, ho⟩ : Owns _ _ _ := (C.on (j := 2) (by kernel_rfl) rfl rfl)
            exact part_on (wanted_free rfl _) (op_conv rfl rfl (conv_text w ho) rfl)
          · intro a w C
            exact part_on (wanted_free rfl _) (op_move (.inl rfl) (C.was 8 (by kernel_rfl)))
          · intro a w C
            exact part_on (wanted_free rfl _) (op_conv rfl (C.on (j := 4) (by kernel_rfl) rfl rfl) (conv_u32 i (by omega) w) rfl)
          · intro a w C
            exact part_on (wanted_free rfl _) (op_call1 rfl (reg_enters Tryz.func49 (by kernel_rfl) (by kernel_rfl)) (C.on (j := 5) (by kernel_rfl) rfl rfl) (of32_owns i w (by omega)))
          · intro a w C
            obtain ⟨B, n, ho⟩ : Owns _ _ _ := (C.on (j := 6) (by kernel_rfl) rfl rfl)
            exact part_on (wanted_free rfl _) (op_conv rfl rfl (conv_text w ho) rfl)
          · intro a w C
            exact part_on (wanted_free rfl _) (op_bin rfl (C.on (j := 3) (by kernel_rfl) rfl rfl) (C.on (j := 7) (by kernel_rfl) rfl rfl) rfl (by simp [go_sem, tx_size, lead_length]) rfl)
          · intro a w C
            exact part_on (wanted_free rfl _) (op_move (.inr rfl) (C.on (j := 8) (by kernel_rfl) rfl rfl))
          rintro wF hbF _ rfl _ rfl x25 hx25 _ rfl _ rfl _ rfl x29 hx29 _ rfl _ rfl _ rfl
          simp only [Fin, setAt, Exit.then, List.setIfInBounds_toArray, List.set_cons_succ, List.set_cons_zero]
          have hbD := HD3.out.step hbF
          have hbB := HB3.out.trans (hbF.mono (by have := HB3.out.size; omega))
          have HDF := Lib.hid hbD
          have HBF := Lib.hid hbB
          clear hbF hbD hbB HD3 HB3
          obtain ⟨U, hU⟩ : ∃ U, U = tx (lead k) ++ tx (lead i) := ⟨_, rfl⟩
          have htl : tl s = s.data.toList := rfl
          have hsl : (tl s).length ≤ 1000 := by rw [htl, Array.length_toList]; exact HSs.out
          have hUt : tl (s ++ U) = tl s ++ (lead k ++ lead i) := by rw [tl_app, hU, tl_app, tl_tx, tl_tx]
          have hUs : (s ++ U).size ≤ 9000 := by
            have h1 : (s ++ U).size = (tl (s ++ U)).length := by rw [← tx_size, tx_tl]
            rw [h1, hUt, List.length_append, List.length_append, lead_length, lead_length]
            omega
          have hfl : (tl s ++ (lead k ++ lead i)).length ≤ 100000 := by rw [List.length_append, List.length_append, lead_length, lead_length]; omega
          have CLg : Hid (∀ u, Calls Tryz.prog 56 #[.agg (wq iv), .int .i64 1024, .string (s ++ U)] u fun e w' => e = .returned (.string (tx (fS s i k))) ∧ Below u.heap.size u w') := Lib.hid fun u => by
            have h := rlong_any 1024 (by decide) (by decide) (s ++ U) hUs u
            rw [hUt] at h
            exact h
          have CFr : Hid (∀ u, Calls Tryz.prog 62 #[.string (tx (fS s i k))] u fun e w' => e = .returned (.agg (wq (fB s i k))) ∧ Below u.heap.size u w') := Lib.hid fun u => rfrom_any (tx (fS s i k)) (longL_tx 1024 (by decide) _ hfl) u
          have HSU : Hid (s.size + U.size ≤ 9223372036854775807) := Lib.hid (by
            have h1 : U.size = 8 := by rw [← tx_tl U, tx_size, hU, tl_app, tl_tx, tl_tx, List.length_append, lead_length, lead_length]
            have := HSs.out
            omega)
          have HX := Lib.hid (fB_ok s i k)
          have HNX : Hid (begIn s c M i (k + 1) = (begIn s c M i k).set (i * c + k) (fB s i k)) := Lib.hid rfl
          have HKc : Hid (k < c) := Lib.hid (by omega)
          rw [← hU]
          clear hU htl hsl hUt hUs hfl
          generalize tx (fS s i k) = T at *
          generalize fB s i k = x at *
          generalize hgi : gs.getD i 0 = gi at *
          have HGI := Lib.hid hgi
          clear hgi
          obtain ⟨W, hWd⟩ : ∃ W : Nat → World → Prop, W = fun j u => if j = 0 then Below wF.heap.size wF u else (DocAt u (A0 + 2) (.slice (some ⟨o, 0, none⟩) gs.length kk) c gs (begIn s c M i (k + 1)) ∧ Below (A0 + 2) w2 u) := ⟨_, rfl⟩
          have hsF : A0 + 2 ≤ wF.heap.size := by have := HBF.out.size; omega
          have HWS : Hid (∀ k w w', W k w → Below w.heap.size w w' → W k w') := Lib.hid fun j u u' hu hb => by
            subst hWd
            by_cases hj : j = 0
            · simp only [if_pos hj] at hu ⊢; exact below_step hu hb
            · simp only [if_neg hj] at hu ⊢; exact ⟨hu.1.step hb, hu.2.trans (hb.mono (by have := hu.2.size; omega))⟩
          have HW0 : Hid (W 0 wF) := Lib.hid (by subst hWd; exact Below.refl _ _)
          have HF : Hid (∀ u, W 0 u → (loadVar 77 ⟨o, i, none⟩).run Tryz.prog u = .ok (.slice (some ⟨gi, 0, none⟩) c c) u ∧ (loadVar 35 ⟨A0, 0, none⟩).run Tryz.prog u = .ok (.agg (wq iv)) u) := Lib.hid fun u hu => by
            subst hWd
            have hr := (HDF.out.step hu).row HI.out
            rw [HGI.out] at hr
            exact ⟨by simp [hr, go_sem], RowAt.load (RowAt.step (HR1.out.below HBF.out (by omega)) hu) Tryz.underlying35 (by kernel_rfl)⟩
          have HT : Hid (∀ u, W 0 u → ∃ w3, (storeVar 111 ⟨gi, k * 128, none⟩ (.agg (wq x))).run Tryz.prog u = .ok () w3 ∧ W 1 w3) := Lib.hid fun u hu => by
            subst hWd
            obtain ⟨u2, hs, hd, hk⟩ := (HDF.out.step hu).store HI.out HKc.out HX.out
            rw [HGI.out] at hs hk
            rw [← HNX.out] at hd
            have hge : A0 + 2 ≤ gi := by rw [← HGI.out]; exact HDF.out.ge _ (getD_mem HI.out)
            exact ⟨u2, hs, hd, (HBF.out.trans (hu.mono hsF)).trans (hk.below (by have := hu.size; omega) fun x hx => by omega)⟩
          have HW1 : Hid (∀ u, W 1 u → DocAt u (A0 + 2) (.slice (some ⟨o, 0, none⟩) gs.length kk) c gs (begIn s c M i (k + 1)) ∧ Below (A0 + 2) w2 u) := Lib.hid fun u hu => by subst hWd; exact hu
          clear hWd HX HNX hsF HDF HBF
          go_wp2
          refine wp_region_seq [12] [.slice (some ⟨o, 0, none⟩) gs.length kk, .int .i64 (i : Int), .pointer (some ⟨o, i, none⟩), .slice (some ⟨gi, 0, none⟩) c c, .int .i64 (k : Int), .agg (wq iv), .string s, .string U, .string (s ++ U), .string T, .agg (wq x), .pointer (some ⟨gi, k * 128, none⟩), undef] W (by kernel_rfl) (by kernel_rfl) rfl (HWS.out 0 _ _ HW0.out (Below.refl _ _).drew) ⟨?_, ?_, ?_, ?_, ?_, ?_, ?_, ?_, ?_, ?_, ?_, ?_, ?_, trivial⟩ ?_
          · exact seq_head (by kernel_rfl) (HWS.out 0) fun a w C hW => op_move (.inl rfl) (C.was 7 (by kernel_rfl))
          · exact seq_head (by kernel_rfl) (HWS.out 0) fun a w C hW => op_move (.inl rfl) (C.was 8 (by kernel_rfl))
          · exact seq_head (by kernel_rfl) (HWS.out 0) fun a w C hW => op_value (ixg_run rfl (C.on (j := 0) (by kernel_rfl) rfl rfl) (C.on (j := 1) (by kernel_rfl) rfl rfl) HI.out) rfl
          · exact seq_head (by kernel_rfl) (HWS.out 0) fun a w C hW => op_value (load_run rfl (C.on (j := 2) (by kernel_rfl) rfl rfl) (HF.out w hW).1) rfl
          · exact seq_head (by kernel_rfl) (HWS.out 0) fun a w C hW => op_move (.inl rfl) (C.was 9 (by kernel_rfl))
          · exact seq_head (by kernel_rfl) (HWS.out 0) fun a w C hW => op_value (load_run rfl (C.was 3 (by kernel_rfl)) (HF.out w hW).2) rfl
          · exact seq_head (by kernel_rfl) (HWS.out 0) fun a w C hW => op_move (.inl rfl) (C.was 2 (by kernel_rfl))
          · exact seq_head (by kernel_rfl) (HWS.out 0) fun a w C hW => op_move (.inl rfl) (C.was 10 (by kernel_rfl))
          · exact seq_head (by kernel_rfl) (HWS.out 0) fun a w C hW => op_bin rfl (C.on (j := 6) (by kernel_rfl) rfl rfl) (C.on (j := 7) (by kernel_rfl) rfl rfl) rfl (by simp [go_sem, HSU.out]) rfl
          · exact seq_head (by kernel_rfl) (HWS.out 0) fun a w C hW => op_call3 rfl (reg_enters Tryz.func56 (by kernel_rfl) (by kernel_rfl)) (C.on (j := 5) (by kernel_rfl) rfl rfl) rfl (C.on (j := 8) (by kernel_rfl) rfl rfl) (calls_is (CLg.out w))
          · exact seq_head (by kernel_rfl) (HWS.out 0) fun a w C hW => op_call1 rfl (reg_enters Tryz.func62 (by kernel_rfl) (by kernel_rfl)) (C.on (j := 9) (by kernel_rfl) rfl rfl) (calls_is (CFr.out w))
          · exact seq_head (by kernel_rfl) (HWS.out 0) fun a w C hW => op_value (ixr_run rfl (C.on (j := 3) (by kernel_rfl) rfl rfl) (C.on (j := 4) (by kernel_rfl) rfl rfl) HKc.out) rfl
          · exact seq_turn 0 (by kernel_rfl) fun a w C hW => by
                obtain ⟨w2, hs, hn⟩ := HT.out w hW
                exact sto_does rfl (C.on (j := 11) (by kernel_rfl) rfl rfl) (C.on (j := 10) (by kernel_rfl) rfl rfl) hs hn
          intro w3 hw
          obtain ⟨D3, B3⟩ := HW1.out w3 hw
          have HD4 := Lib.hid D3
          have HB4 := Lib.hid B3
          clear hw HWS HW0 HF HT HW1 B3 D3
          simp only [setAll, setAt, List.setIfInBounds_toArray, List.set_cons_succ, List.set_cons_zero]
          go_wp2
          go_roundw
          case rel => exact ⟨k + 1, by omega, by go_num, HD4, HB4⟩
          case measure => simp [intOf]; omega
        · obtain rfl : k = 2 := by omega
          go_wp2
          go_roundw
          case rel => exact ⟨i + 1, by omega, by go_num, Lib.hid (by rw [HE.out]; exact HD3.out), HB3⟩
          case measure => simp [intOf]; omega
    · obtain rfl : i = gs.length := by omega
      have hd1 : decide ((gs.length : Int) < (gs.length : Int)) = false := by simp
      go_wp2
      refine bodyPost_ret (results_tmp rfl _ _ _) rfl ⟨_, gs, rfl, ?_, rfl, ?_⟩
      · rw [← HA0.out]
        exact HD.out.weak (by omega)
      · rw [← HA0.out]
        exact HB2.out.trans (HB.out.mono (by omega))
end Go.Proofs.YtcbccjcnllifjaaGreatDoor
namespace Go.Proofs.YtcbccjcnllifjaaGreatDoor
set_option maxRecDepth 50000
open Go.RowKit Bb Bl
theorem s27_run {w : World} {b off k : Nat} {ev : Operand → Value} {x : Operand} {o : Oper} (hop : o.op = .fieldAddr 44 x k) (hk : k < 8) (hx : ev x = .pointer (some ⟨b, off, none⟩)) : (execOp ev o).run Tryz.prog w = .ok (.value (.pointer (some ⟨b, off + k, none⟩))) w := by
  rcases (show k = 0 ∨ k = 1 ∨ k = 2 ∨ k = 3 ∨ k = 4 ∨ k = 5 ∨ k = 6 ∨ k = 7 by omega) with rfl | rfl | rfl | rfl | rfl | rfl | rfl | rfl
  all_goals
    simp [execOp, hop, hx, go_sem]
end Go.Proofs.YtcbccjcnllifjaaGreatDoor

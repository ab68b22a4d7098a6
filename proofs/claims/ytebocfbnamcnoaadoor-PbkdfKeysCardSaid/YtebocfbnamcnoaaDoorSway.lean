/- A statement whose order is open, one of whose operations may turn memory that those ahead of it made, while others neither wait for it nor does it wait for them: these yield values that hang on no memory. No condition but those typed. -/
import Derived.Test.YtebocfbnamcnoaaDoorTail
namespace Go.Proofs.YtebocfbnamcnoaaDoor
set_option maxRecDepth 50000
open Go.RowKit

/-- number n waits for all ahead of it; all from number m on wait for n -/
def swayOk (ops : List Oper) (n m : Nat) : Bool :=
  (List.range n).all (fun j => (reach ops n (depsOf ops n)).contains j) && (List.range ops.length).all fun i => decide (i < m) || (reach ops ops.length (depsOf ops i)).contains n

section
variable {P : Program} {ops : List Oper} {Q : Exit → Act → World → Prop} {a0 : Act} {w0 : World} {D E : Nat → Value → World → Prop} {n m : Nat}

theorem region_sway (hok : okOps ops a0.tmps.size = true) (hn : n < ops.length) (hnm : n < m) (htl : swayOk ops n m = true) (hstD : ∀ i v w w', D i v w → Below w.heap.size w w' → D i v w') (hstE : ∀ i v w w', E i v w → Below w.heap.size w w' → E i v w')
    (hfree : ∀ i v w, i < n → E i v w)
    (hconv : ∀ i v w w', n < i → i < m → D i v w → E i v w')
    (hhead : ∀ i o, i < n → ops[i]? = some o → ∀ a w, Ctx ops D a0 w0 o a w → if Region.wanted o (yielded ops.toArray a.tmps) = true then o.wp P a w (fun a' w' => ∃ v, a' = a.put o.dst v ∧ D i v w' ∧ Below w.heap.size w w') Q else D i undef w)
    (hmid : ∀ o, ops[n]? = some o → ∀ a w, Ctx ops D a0 w0 o a w → Region.wanted o (yielded ops.toArray a.tmps) = true ∧ o.wp P a w (fun a' w' => ∃ v, a' = a.put o.dst v ∧ E n v w' ∧ Below w0.heap.size w0 w') Q)
    (hfloat : ∀ i o, n < i → i < m → ops[i]? = some o → ∀ a w, Ctx ops D a0 w0 o a w → if Region.wanted o (yielded ops.toArray a.tmps) = true then o.wp P a w (fun a' w' => ∃ v, a' = a.put o.dst v ∧ D i v w' ∧ Below w.heap.size w w') Q else D i undef w)
    (hlast : ∀ i o, n < i → ops[i]? = some o → ∀ a w, Ctx ops E a0 w0 o a w → if Region.wanted o (yielded ops.toArray a.tmps) = true then o.wp P a w (fun a' w' => ∃ v, a' = a.put o.dst v ∧ E i v w' ∧ Below w.heap.size w w') Q else E i undef w)
    (hfin : ∀ a w, Below w0.heap.size w0 w → a.tmps.size = a0.tmps.size → a.defers = a0.defers → (∀ t, (∀ o' ∈ ops, o'.dst ≠ some t) → a.tmps.getD t undef = a0.tmps.getD t undef) →
      (∀ i o d, ops[i]? = some o → o.dst = some d → E i (a.tmps.getD d undef) w) → Q .normal a w) :
    ∀ (fuel : Nat) (listed : Array Bool) (a : Act) (w : World), listed.toList.count false = fuel → RInv2 ops n D E a0 w0 listed a w → wpAny P .any ops.toArray Q fuel listed a w := by
  simp only [swayOk, Bool.and_eq_true, List.all_eq_true, List.mem_range] at htl
  obtain ⟨ht1, ht2⟩ := htl
  have hall : ∀ {listed : Array Bool} {a : Act} {w : World}, RInv2 ops n D E a0 w0 listed a w → (∀ j ∈ depsOf ops n, listed.getD j false = true) → ∀ j, j < n → listed.getD j false = true := fun inv hd j hj =>
    reach_in ops (fun i => _ = true) inv.closed n _ hd j (by simpa using ht1 j hj)
  have hbeh : ∀ {listed : Array Bool} {a : Act} {w : World}, RInv2 ops n D E a0 w0 listed a w → ∀ i, i < ops.length → m ≤ i → (∀ j ∈ depsOf ops i, listed.getD j false = true) → listed.getD n false = true := fun inv i hi hm hd => by
    have := ht2 i hi
    simp only [Bool.or_eq_true, decide_eq_true_eq] at this
    rcases this with h | h
    · omega
    · exact reach_in ops (fun i => _ = true) inv.closed ops.length _ hd n (by simpa using h)
  have hend : ∀ (listed : Array Bool) (a : Act) (w : World), RInv2 ops n D E a0 w0 listed a w → Region.ready .any ops.toArray listed = [] → Q .normal a w := fun listed a w inv hr =>
    hfin a w inv.below inv.size inv.defers inv.old fun i o d hi hd => by
      have h := inv.done i o d hi (all_listed hok inv.lsize hr i (List.getElem?_eq_some_iff.1 hi).1) hd
      rw [if_pos (all_listed hok inv.lsize hr n hn)] at h
      exact h
  intro fuel
  induction fuel with
  | zero =>
    intro listed a w hc inv
    have hr : Region.ready .any ops.toArray listed = [] := by
      rw [List.eq_nil_iff_forall_not_mem]
      intro i hi
      simp only [Region.ready, List.mem_filter, List.mem_range, Bool.and_eq_true, Bool.not_eq_true'] at hi
      have hli : i < listed.size := by rw [inv.lsize]; simpa using hi.1
      have : false ∈ listed.toList := by
        have h2 : listed[i] = false := by simpa [Array.getD_eq_getD_getElem?, Array.getElem?_eq_getElem hli] using hi.2.1
        rw [← h2]; exact Array.getElem_mem_toList hli
      exact absurd (List.count_pos_iff.2 this) (by omega)
    exact ⟨hr, hend listed a w inv hr⟩
  | succ fuel ih =>
    intro listed a w hc inv
    refine ⟨hend listed a w inv, fun i hi => ?_⟩
    have hi' := hi
    simp only [Region.ready, List.mem_filter, List.mem_range, Bool.and_eq_true, Bool.not_eq_true', List.size_toArray] at hi'
    obtain ⟨hlt, hun, hdep⟩ := hi'
    have hli : i < listed.size := by rw [inv.lsize]; exact hlt
    have hunf : listed.getD i false = false := by
      simpa [Array.getD_eq_getD_getElem?, Array.getElem?_eq_getElem hli] using hun
    have ho : ops[i]? = some ops[i] := List.getElem?_eq_getElem hlt
    have hc' := count_step hli hun hc
    have hdeps : ∀ e ∈ (ops[i]).after, Region.binds .any e = true → listed.getD e.on false = true := by
      intro e he hb
      simp only [List.getElem?_toArray, ho, Option.map_some, Option.getD_some] at hdep
      have := (Array.all_eq_true'.1 hdep) e he
      simpa [hb] using this
    have hdl : ∀ j ∈ depsOf ops i, listed.getD j false = true := by
      intro j hj
      simp only [depsOf, ho, List.mem_map, List.mem_filter] at hj
      obtain ⟨e, ⟨he, hb⟩, rfl⟩ := hj
      exact hdeps e (by simpa using he) hb
    unfold wpOp
    rw [List.getElem?_toArray, ho]
    show if Region.wanted ops[i] (yielded ops.toArray a.tmps) = true then _ else _
    by_cases hin0 : i = n
    · subst hin0
      have hl2 : (listed.setIfInBounds i true).getD i false = true := by rw [getD_listed _ _ _ hli, if_pos rfl]
      obtain ⟨hw, H⟩ := hmid ops[i] ho a w ⟨inv.below, inv.old, fun e he hb o' d hj hd => by
        have := inv.done e.on o' d hj (hdeps e he hb) hd
        rw [hunf] at this; exact this⟩
      rw [if_pos hw]
      refine .inl (Oper.wp_mono ?_ H)
      rintro a' w' ⟨v, rfl, hv, hb⟩
      refine ih _ _ _ hc' (rinv2_step hok inv ho hdl (by rw [hl2]; exact hv) hb fun j u hj hji hd => ?_)
      rw [hl2]
      rw [hunf] at hd
      rcases Nat.lt_or_ge j i with h | h
      · exact hfree j u w' h
      · rcases Nat.lt_or_ge j m with h3 | h3
        · exact hconv j u w w' (by omega) h3 hd
        · exfalso
          have hjl : j < ops.length := by
            rcases Nat.lt_or_ge j listed.size with h2 | h2
            · rw [← inv.lsize]; exact h2
            · simp [Array.getD_eq_getD_getElem?, Array.getElem?_eq_none h2] at hj
          rw [hbeh inv j hjl h3 (inv.closed j hj)] at hunf
          cases hunf
    · have hne : ∀ b, listed.getD n false = b → (listed.setIfInBounds i true).getD n false = b := fun b h => by rw [getD_listed _ _ _ hli, if_neg hin0]; exact h
      cases hnl : listed.getD n false with
      | false =>
        have hnl2 := hne _ hnl
        have C : Ctx ops D a0 w0 ops[i] a w := ⟨inv.below, inv.old, fun e he hb o' d hj hd => by
          have := inv.done e.on o' d hj (hdeps e he hb) hd
          rw [hnl] at this; exact this⟩
        have H : if Region.wanted ops[i] (yielded ops.toArray a.tmps) = true then (ops[i]).wp P a w (fun a' w' => ∃ v, a' = a.put (ops[i]).dst v ∧ D i v w' ∧ Below w.heap.size w w') Q else D i undef w := by
          rcases Nat.lt_or_ge i n with h | h
          · exact hhead i ops[i] h ho a w C
          · rcases Nat.lt_or_ge i m with h3 | h3
            · exact hfloat i ops[i] (by omega) h3 ho a w C
            · rw [hbeh inv i hlt h3 hdl] at hnl; cases hnl
        by_cases hw : Region.wanted ops[i] (yielded ops.toArray a.tmps) = true
        · rw [if_pos hw] at H ⊢
          refine .inl (Oper.wp_mono ?_ H)
          rintro a' w' ⟨v, rfl, hv, hb⟩
          exact ih _ _ _ hc' (rinv2_step hok inv ho hdl (by rw [hnl2]; exact hv) (inv.below.trans (hb.mono inv.below.size)) fun j u _ _ hd => by rw [hnl] at hd; rw [hnl2]; exact hstD _ _ _ _ hd hb)
        · rw [if_neg hw] at H ⊢
          exact ih _ _ _ hc' (rinv2_step hok inv ho hdl (by rw [hnl2]; exact H) inv.below fun j u _ _ hd => by rw [hnl] at hd; rw [hnl2]; exact hd)
      | true =>
        have hnl2 := hne _ hnl
        have hin : n < i := by
          rcases Nat.lt_trichotomy i n with h | h | h
          · rw [hall inv (inv.closed n hnl) i h] at hunf; cases hunf
          · exact absurd h hin0
          · exact h
        have H := hlast i ops[i] hin ho a w ⟨inv.below, inv.old, fun e he hb o' d hj hd => by
          have := inv.done e.on o' d hj (hdeps e he hb) hd
          rw [if_pos hnl] at this; exact this⟩
        by_cases hw : Region.wanted ops[i] (yielded ops.toArray a.tmps) = true
        · rw [if_pos hw] at H ⊢
          refine .inl (Oper.wp_mono ?_ H)
          rintro a' w' ⟨v, rfl, hv, hb⟩
          exact ih _ _ _ hc' (rinv2_step hok inv ho hdl (by rw [hnl2]; exact hv) (inv.below.trans (hb.mono inv.below.size)) fun j u _ _ hd => by rw [if_pos hnl] at hd; rw [if_pos hnl2]; exact hstE _ _ _ _ hd hb)
        · rw [if_neg hw] at H ⊢
          exact ih _ _ _ hc' (rinv2_step hok inv ho hdl (by rw [hnl2]; exact H) inv.below fun j u _ _ hd => by rw [if_pos hnl] at hd; rw [if_pos hnl2]; exact hd)

/-- THE REGION: those ahead of number n by ds; n by e; those that float, from n + 1 on, by values; those that wait for n, behind these, by es -/
theorem wp_region_sway {id : Nat} (n : Nat) (ds : List (Value → World → Prop)) (e : Value → World → Prop) (fs : List Value) (es : List (Value → World → Prop)) (hm : P.follows .mixedOrders = true) (hok : okOps ops a0.tmps.size = true) (htl : swayOk ops n (n + 1 + fs.length) = true) (hlen : ds.length = n)
    (hlen2 : (ds.map (fun _ => Free) ++ e :: (fs.map Is ++ es)).length = ops.length) (hn : n < ops.length) (hst : AllStable ds) (hst0 : Stable e) (hst2 : AllStable es)
    (hhead : AllFrom (Part P ops (ds ++ Free :: fs.map Is) a0 w0 Q) 0 (ops.take n))
    (hmid : ∀ o, ops[n]? = some o → ∀ a w, Ctx ops (Ds (ds ++ Free :: fs.map Is)) a0 w0 o a w → Region.wanted o (yielded ops.toArray a.tmps) = true ∧ Turns P e o a w0 w Q)
    (hfloat : AllFrom (Part P ops (ds ++ Free :: fs.map Is) a0 w0 Q) (n + 1) ((ops.drop (n + 1)).take fs.length))
    (hlast : AllFrom (Part P ops (ds.map (fun _ => Free) ++ e :: (fs.map Is ++ es)) a0 w0 Q) (n + 1) (ops.drop (n + 1)))
    (hfin : ∀ w, Below w0.heap.size w0 w → Fin (Q .normal) w a0.defers ops (ds.map (fun _ => Free) ++ e :: (fs.map Is ++ es)) a0.tmps) : (Code.region id ops.toArray true).wp P Q a0 w0 := by
  have hD : ∀ p ∈ ds ++ Free :: fs.map Is, Stable p := by
    intro p hp
    rcases List.mem_append.1 hp with hp | hp
    · exact all_stable hst p hp
    · rcases List.mem_cons.1 hp with rfl | hp
      · exact stable_free
      · simp only [List.mem_map] at hp; obtain ⟨v, _, rfl⟩ := hp; exact stable_is v
  have hE : ∀ p ∈ ds.map (fun _ => Free) ++ e :: (fs.map Is ++ es), Stable p := by
    intro p hp
    rcases List.mem_append.1 hp with hp | hp
    · simp only [List.mem_map] at hp; obtain ⟨_, _, rfl⟩ := hp; exact stable_free
    · rcases List.mem_cons.1 hp with rfl | hp
      · exact hst0
      · rcases List.mem_append.1 hp with hp | hp
        · simp only [List.mem_map] at hp; obtain ⟨v, _, rfl⟩ := hp; exact stable_is v
        · exact all_stable hst2 p hp
  have hE0 : Ds (ds.map (fun _ => Free) ++ e :: (fs.map Is ++ es)) n = e := by
    unfold Ds
    rw [List.getD_eq_getElem?_getD, List.getElem?_append_right (by simp [hlen])]
    simp [hlen]
  refine wp_region_any hm (region_sway (n := n) (m := n + 1 + fs.length) (D := Ds (ds ++ Free :: fs.map Is)) (E := Ds (ds.map (fun _ => Free) ++ e :: (fs.map Is ++ es))) hok hn (by omega) htl (stable_ds _ hD) (stable_ds _ hE) (fun i v w hi => ?_) (fun i v w w' hi1 hi2 hd => ?_) (fun i o hi ho => ?_) (fun o ho a w C => ?_) (fun i o hi1 hi2 ho => ?_) (fun i o hi ho => ?_) (fun a w hb hsz hdf hold hdone => ?_) _ _ _ _ ?_ ⟨(Below.refl _ _).drew, rfl, rfl, fun _ _ => rfl, fun i o d _ hl _ => ?_, by simp, fun i hl => ?_⟩)
  · unfold Ds
    rw [List.getD_eq_getElem?_getD, List.getElem?_append_left (by simp [hlen]; exact hi)]
    simp [hlen, hi, Free]
  · obtain ⟨k, rfl⟩ : ∃ k, i = n + 1 + k := ⟨i - (n + 1), by omega⟩
    have hk : k < fs.length := by omega
    have e1 : Ds (ds ++ Free :: fs.map Is) (n + 1 + k) = Is fs[k] := by
      unfold Ds
      rw [List.getD_eq_getElem?_getD, List.getElem?_append_right (by omega), hlen, show n + 1 + k - n = k + 1 from by omega, List.getElem?_cons_succ, List.getElem?_map, List.getElem?_eq_getElem hk]
      rfl
    have e2 : Ds (ds.map (fun _ => Free) ++ e :: (fs.map Is ++ es)) (n + 1 + k) = Is fs[k] := by
      unfold Ds
      rw [List.getD_eq_getElem?_getD, List.getElem?_append_right (by rw [List.length_map]; omega), List.length_map, hlen, show n + 1 + k - n = k + 1 from by omega, List.getElem?_cons_succ, List.getElem?_append_left (by simpa using hk), List.getElem?_map, List.getElem?_eq_getElem hk]
      rfl
    rw [e1] at hd
    rw [e2]
    exact hd
  · have := all_from _ 0 hhead i o (by rw [List.getElem?_take, if_pos hi]; exact ho)
    rw [Nat.zero_add] at this
    exact this
  · obtain ⟨h1, h2⟩ := hmid o ho a w C
    rw [hE0]
    exact ⟨h1, h2⟩
  · obtain ⟨k, rfl⟩ : ∃ k, i = n + 1 + k := ⟨i - (n + 1), by omega⟩
    exact all_from _ (n + 1) hfloat k o (by rw [List.getElem?_take, if_pos (by omega), List.getElem?_drop]; exact ho)
  · obtain ⟨k, rfl⟩ : ∃ k, i = n + 1 + k := ⟨i - (n + 1), by omega⟩
    exact all_from _ (n + 1) hlast k o (by rw [List.getElem?_drop]; exact ho)
  · have hd1 : ∀ i o, ops[i]? = some o → Ds (ds.map (fun _ => Free) ++ e :: (fs.map Is ++ es)) i ((fun d : Option Tmp => match d with | some t => a.tmps.getD t undef | none => undef) o.dst) w := fun i o hi => by
      obtain ⟨d, hd, _⟩ := (okOps_spec hok).1 o (List.mem_of_getElem? hi)
      rw [hd]
      exact hdone i o d hi hd
    have e' : a = putAll (fun d : Option Tmp => match d with | some t => a.tmps.getD t undef | none => undef) ops a0 := by
      obtain ⟨e1, e2⟩ := put_all_size (fun d : Option Tmp => match d with | some t => a.tmps.getD t undef | none => undef) ops a0
      refine act_ext (by rw [e1, hsz]) (by rw [e2, hdf]) fun t => ?_
      rw [put_all_at]
      by_cases h : (∃ o ∈ ops, o.dst = some t) ∧ t < a0.tmps.size
      · rw [if_pos h]
      · rw [if_neg h]
        by_cases ht : t < a0.tmps.size
        · exact hold t fun o' ho e => h ⟨⟨o', ho, e⟩, ht⟩
        · rw [Array.getD_eq_getD_getElem?, Array.getD_eq_getD_getElem?, Array.getElem?_eq_none (by omega), Array.getElem?_eq_none (by omega)]
    rw [e']
    exact fin_all _ ops _ a0 hlen2 hd1 (hfin w hb)
  · simp
  · simp [Array.getD_eq_getD_getElem?, Array.getElem?_replicate] at hl
    split at hl <;> simp_all
  · simp [Array.getD_eq_getD_getElem?, Array.getElem?_replicate] at hl
    split at hl <;> simp_all
end
end Go.Proofs.YtebocfbnamcnoaaDoor

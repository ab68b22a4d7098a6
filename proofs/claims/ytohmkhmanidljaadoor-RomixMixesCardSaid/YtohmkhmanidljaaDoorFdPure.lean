/- Bytes cut into blocks of one length, and a rest: there is one way at most; and how one part after the other is cut. Conditions: those typed. -/
import Derived.Test.YtohmkhmanidljaaDoorKit
namespace Go.Proofs.YtohmkhmanidljaaDoor
set_option maxRecDepth 50000

/-- what may be held by a feed of blocks of n bytes -/
def Held (n : Nat) (lz : Bool) (r : List UInt8) : Prop := r.length ≤ n ∧ (r.length = n → lz = true)
/-- these bytes are these blocks, and this rest -/
structure Cut (n : Nat) (lz : Bool) (all : List UInt8) (bs : List (List UInt8)) (r : List UInt8) : Prop where
  whole : all = bs.flatten ++ r
  each : ∀ b ∈ bs, b.length = n
  held : Held n lz r
  more : lz = true → bs ≠ [] → r ≠ []
/-- likewise, where s is still to come -/
structure Mid (n : Nat) (lz : Bool) (all : List UInt8) (bs : List (List UInt8)) (h s : List UInt8) : Prop where
  whole : all = bs.flatten ++ h
  each : ∀ b ∈ bs, b.length = n
  held : Held n lz h
  more : lz = true → bs ≠ [] → h ≠ [] ∨ s ≠ []

theorem flat_len {n : Nat} : ∀ {bs : List (List UInt8)}, (∀ b ∈ bs, b.length = n) → bs.flatten.length = bs.length * n
  | [], _ => by simp
  | b :: bs, h => by
    rw [List.flatten_cons, List.length_append, flat_len (fun x hx => h x (by simp [hx])), h b (by simp), List.length_cons, Nat.succ_mul]
    omega
theorem flat_inj {n : Nat} : ∀ {bs cs : List (List UInt8)}, (∀ b ∈ bs, b.length = n) → (∀ b ∈ cs, b.length = n) → bs.length = cs.length → bs.flatten = cs.flatten → bs = cs
  | [], [], _, _, _, _ => rfl
  | [], _ :: _, _, _, h, _ => by simp at h
  | _ :: _, [], _, _, h, _ => by simp at h
  | b :: bs, c :: cs, h1, h2, h3, h4 => by
    rw [List.flatten_cons, List.flatten_cons] at h4
    obtain ⟨e1, e2⟩ := List.append_inj h4 (by rw [h1 b (by simp), h2 c (by simp)])
    rw [e1, flat_inj (fun x hx => h1 x (by simp [hx])) (fun x hx => h2 x (by simp [hx])) (by simpa using h3) e2]
theorem not_fewer {n k k' a a' : Nat} (h : k * n + a = k' * n + a') (hx : a < n ∨ a ≤ n ∧ (k' ≠ 0 → 1 ≤ a')) : ¬ k < k' := by
  intro hk
  obtain ⟨d, rfl⟩ : ∃ d, k' = k + 1 + d := ⟨k' - (k + 1), by omega⟩
  have e : (k + 1 + d) * n = k * n + n + d * n := by rw [Nat.add_mul, Nat.succ_mul]
  rw [e] at h
  have : 0 ≤ d * n := Nat.zero_le _
  rcases hx with hx | ⟨h1, h2⟩
  · omega
  · have := h2 (by omega); omega
theorem Cut.bounds {n : Nat} {lz : Bool} {all : List UInt8} {bs : List (List UInt8)} {r : List UInt8} (h : Cut n lz all bs r) : r.length < n ∨ r.length ≤ n ∧ (lz = true) := by
  obtain ⟨h1, h2⟩ := h.held
  by_cases e : r.length = n
  · exact .inr ⟨h1, h2 e⟩
  · left; omega
theorem cut_one {n : Nat} {lz : Bool} {all : List UInt8} {bs cs : List (List UInt8)} {r t : List UInt8} (h : Cut n lz all bs r) (k : Cut n lz all cs t) : bs = cs ∧ r = t := by
  have e : bs.length * n + r.length = cs.length * n + t.length := by
    rw [← flat_len h.each, ← flat_len k.each, ← List.length_append, ← List.length_append, ← h.whole, ← k.whole]
  have b1 : r.length < n ∨ r.length ≤ n ∧ (cs.length ≠ 0 → 1 ≤ t.length) := by
    rcases h.bounds with b | ⟨b, l⟩
    · exact .inl b
    · refine .inr ⟨b, fun hc => ?_⟩
      have := k.more l (by intro e; rw [e] at hc; simp at hc)
      exact List.length_pos_iff.2 this
  have b2 : t.length < n ∨ t.length ≤ n ∧ (bs.length ≠ 0 → 1 ≤ r.length) := by
    rcases k.bounds with b | ⟨b, l⟩
    · exact .inl b
    · refine .inr ⟨b, fun hc => ?_⟩
      have := h.more l (by intro e; rw [e] at hc; simp at hc)
      exact List.length_pos_iff.2 this
  have x1 := not_fewer e b1
  have x2 := not_fewer e.symm b2
  have el : bs.length = cs.length := by omega
  have ef := h.whole.symm.trans k.whole
  obtain ⟨e1, e2⟩ := List.append_inj ef (by rw [flat_len h.each, flat_len k.each, el])
  exact ⟨flat_inj h.each k.each el e1, e2⟩
theorem Cut.more_parts {n : Nat} {lz : Bool} {all p : List UInt8} {bs cs : List (List UInt8)} {r t : List UInt8} (h : Cut n lz all bs r) (k : Cut n lz (r ++ p) cs t) : Cut n lz (all ++ p) (bs ++ cs) t := by
  refine ⟨?_, ?_, k.held, ?_⟩
  · rw [h.whole, List.append_assoc, k.whole]; simp
  · intro b hb
    rcases List.mem_append.1 hb with hb | hb
    · exact h.each b hb
    · exact k.each b hb
  · intro hl hne
    by_cases hc : cs = []
    · have hb : bs ≠ [] := by intro e; exact hne (by rw [e, hc]; rfl)
      have hr := h.more hl hb
      have hw := k.whole
      rw [hc, List.flatten_nil, List.nil_append] at hw
      rw [← hw]
      intro e
      exact hr (List.append_eq_nil_iff.1 e).1
    · exact k.more hl hc
theorem Cut.nothing {n : Nat} {lz : Bool} {r : List UInt8} (h : Held n lz r) : Cut n lz r [] r := ⟨by simp, by simp, h, fun _ h => absurd rfl h⟩
theorem Mid.of_cut {n : Nat} {lz : Bool} {all s : List UInt8} {bs : List (List UInt8)} {r : List UInt8} (h : Cut n lz all bs r) : Mid n lz all bs r s := ⟨h.whole, h.each, h.held, fun a b => .inl (h.more a b)⟩
theorem Mid.cut {n : Nat} {lz : Bool} {all : List UInt8} {bs : List (List UInt8)} {r : List UInt8} (h : Mid n lz all bs r []) : Cut n lz all bs r := ⟨h.whole, h.each, h.held, fun a b => (h.more a b).resolve_right (by simp)⟩
/-- a block is whole, and handed on -/
theorem Mid.on {n : Nat} {lz : Bool} {all s : List UInt8} {bs : List (List UInt8)} {h : List UInt8} (hn : 0 < n) (m : Mid n lz all bs h s) {q : Nat} (hq : h.length + (s.take q).length = n) (hw : lz = true → 0 < (s.drop q).length) :
    Mid n lz (all ++ s.take q) (bs ++ [h ++ s.take q]) [] (s.drop q) := by
  refine ⟨?_, ?_, ⟨by simp, fun e => by simp at e; omega⟩, fun l _ => .inr (List.length_pos_iff.1 (hw l))⟩
  · rw [m.whole]; simp
  · intro b hb
    rcases List.mem_append.1 hb with hb | hb
    · exact m.each b hb
    · simp at hb; subst hb; rw [List.length_append]; exact hq
/-- no block is whole, or it is kept -/
theorem Mid.off {n : Nat} {lz : Bool} {all s : List UInt8} {bs : List (List UInt8)} {h : List UInt8} (hs : s ≠ []) (m : Mid n lz all bs h s) {q : Nat} (hq : q = min s.length (n - h.length))
    (hw : ¬ (h.length + (s.take q).length = n ∧ (lz = true → 0 < (s.drop q).length))) : Mid n lz (all ++ s.take q) bs (h ++ s.take q) (s.drop q) := by
  have hh := m.held.1
  have hsl := List.length_pos_iff.2 hs
  have ht : (s.take q).length = q := by rw [List.length_take]; omega
  have hd : (s.drop q).length = s.length - q := List.length_drop
  refine ⟨by rw [m.whole]; simp, m.each, ⟨by rw [List.length_append]; omega, fun e => ?_⟩, fun l hb => .inl ?_⟩
  · rw [List.length_append] at e
    cases hlz : lz with
    | true => rfl
    | false => exact absurd ⟨e, fun c => by rw [hlz] at c; cases c⟩ hw
  · intro e
    have := congrArg List.length e
    rw [List.length_append, ht] at this
    simp at this
    omega
end Go.Proofs.YtohmkhmanidljaaDoor

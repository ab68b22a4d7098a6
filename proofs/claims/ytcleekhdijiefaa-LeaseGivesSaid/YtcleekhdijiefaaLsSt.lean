/- A lease with all its pieces in memory; what each act makes of it, and leaves of others. Conditions: those typed. -/
import Derived.Test.YtcleekhdijiefaaLsTake
namespace Go.Proofs.Ytcleekhdijiefaa
set_option maxRecDepth 50000
open Go.RowKit Bb

structure Pq where
  p : Nat
  g : Nat
  l : List (List Nat)
structure Ls where
  b : Nat
  v : Value
  qs : List Pq
  peak : Nat
  closed : Bool
def hs : List Pq → Nat
  | [] => 0
  | x :: l => x.l.length + hs l
def qp (qs : List Pq) : List Value := qs.map fun x => .pointer (some ⟨x.p, 0, none⟩)
theorem hs_append (a b : List Pq) : hs (a ++ b) = hs a + hs b := by
  induction a with
  | nil => simp [hs]
  | cons x a ih => simp [hs, ih]; omega
theorem take_next' {α : Type} (l : List α) (i : Nat) (h : i < l.length) : l.take (i + 1) = l.take i ++ [l[i]] := by
  rw [List.take_add_one, List.getElem?_eq_getElem h]; rfl
theorem hs_take (l : List Pq) (i : Nat) (h : i < l.length) : hs (l.take (i + 1)) = hs (l.take i) + l[i].l.length := by
  rw [take_next' l i h, hs_append]; simp [hs]
theorem hs_part (l : List Pq) (i : Nat) : hs (l.take i) ≤ hs l := by
  conv => rhs; rw [← List.take_append_drop i l, hs_append]
  omega
theorem qp_length (qs : List Pq) : (qp qs).length = qs.length := by simp [qp]
theorem qp_at (qs : List Pq) (i : Nat) (h : i < qs.length) : (qp qs)[i]'(by rw [qp_length]; exact h) = .pointer (some ⟨qs[i].p, 0, none⟩) := by simp [qp]

structure LeaseIs (w : World) (N a : Nat) (x : Ls) : Prop where
  row : LRow w x.b a x.v (hs x.qs) x.peak x.closed
  own : w.ownsRow N 41 1 x.v x.qs.length (qp x.qs)
  live : ∀ i, (hi : i < x.qs.length) → LiveAt w x.qs[i].p a x.qs[i].g x.qs[i].l
  apart : ∀ i j, (hi : i < x.qs.length) → (hj : j < x.qs.length) → i ≠ j → x.qs[i].p ≠ x.qs[j].p ∧ x.qs[i].g ≠ x.qs[j].g
  sinceB : N ≤ x.b
  since : ∀ i, (hi : i < x.qs.length) → N ≤ x.qs[i].p ∧ N ≤ x.qs[i].g
/-- the blocks that are a lease's -/
def mine (a : Nat) (x : Ls) (k : Nat) : Prop := k = a ∨ k = x.b ∨ x.v.ownBlock = some k ∨ ∃ i, ∃ hi : i < x.qs.length, k = x.qs[i].p ∨ k = x.qs[i].g
/-- two leases share nothing -/
structure Apart (x y : Ls) : Prop where
  b : x.b ≠ y.b
  v : ∀ k, x.v.ownBlock = some k → y.v.ownBlock ≠ some k
  q : ∀ i j, (hi : i < x.qs.length) → (hj : j < y.qs.length) → x.qs[i].p ≠ y.qs[j].p ∧ x.qs[i].g ≠ y.qs[j].g
theorem Apart.symm {x y : Ls} (h : Apart x y) : Apart y x :=
  ⟨h.b.symm, fun k e e' => h.v k e' e, fun i j hi hj => ⟨(h.q j i hj hi).1.symm, (h.q j i hj hi).2.symm⟩⟩

section
variable {w w' : World} {N a B u h c : Nat} {x y : Ls}
theorem LiveAt.step {p g : Nat} {l : List (List Nat)} (h : LiveAt w p a g l) (hb : Below w.heap.size w w') : LiveAt w' p a g l := ⟨RowAt.step h.row hb, RowAt.step h.blk hb, h.ok⟩
theorem LeaseIs.step (H : LeaseIs w N a x) (hb : Below w.heap.size w w') : LeaseIs w' N a x :=
  ⟨RowAt.step H.row hb, own_leaves H.own (.below hb _), fun i hi => (H.live i hi).step hb, H.apart, H.sinceB, H.since⟩
theorem LeaseIs.base {N' : Nat} (H : LeaseIs w N a x) (hN : N' ≤ N) : LeaseIs w N' a x :=
  ⟨H.row, own_base' H.own hN, H.live, H.apart, Nat.le_trans hN H.sinceB, fun i hi => ⟨Nat.le_trans hN (H.since i hi).1, Nat.le_trans hN (H.since i hi).2⟩⟩
/-- rows of other types are none of a lease's blocks -/
theorem LeaseIs.leaves (H : LeaseIs w N a x) (hA : AreAt w a B u h c) (hK : Kept (mine a x) w w') (t : TypeId) (h0 : (t == 55) = false) (h1 : (t == 48) = false) (h2 : (t == 41) = false) (h3 : (t == 58) = false) (h4 : (t == 78) = false) : Leaves w w' t :=
  .kept hK fun k e C hR => by
    rcases e with rfl | rfl | e | ⟨i, hi, rfl | rfl⟩
    · exact RowAt.unlike hR hA h0 rfl
    · exact RowAt.unlike hR H.row h1 rfl
    · exact own_unlike H.own hR (by rw [beq_eq_false_iff_ne] at h2 ⊢; exact fun e => h2 e.symm) e
    · exact RowAt.unlike hR (H.live i hi).row h3 rfl
    · exact RowAt.unlike hR (H.live i hi).blk h4 rfl
theorem LeaseIs.other (H : LeaseIs w N a x) (K : LeaseIs w N a y) (hA : AreAt w a B u h c) (hap : Apart x y) (hK : Kept (mine a x) w w') : LeaseIs w' N a y := by
  refine ⟨RowAt.kept K.row hK ?_, own_kept' K.own hK ?_, fun j hj => ⟨RowAt.kept (K.live j hj).row hK ?_, RowAt.kept (K.live j hj).blk hK ?_, (K.live j hj).ok⟩, K.apart, K.sinceB, K.since⟩
  · rintro (e | e | e | ⟨i, hi, e | e⟩)
    · exact RowAt.unlike K.row hA (by rfl) e
    · exact hap.b e.symm
    · exact own_unlike H.own K.row (by rfl) e
    · exact RowAt.unlike K.row (H.live i hi).row (by rfl) e
    · exact RowAt.unlike K.row (H.live i hi).blk (by rfl) e
  · rintro k hk (e | e | e | ⟨i, hi, e | e⟩)
    · exact own_unlike K.own hA (by rfl) (e ▸ hk)
    · exact own_unlike K.own H.row (by rfl) (e ▸ hk)
    · exact hap.v k e hk
    · exact own_unlike K.own (H.live i hi).row (by rfl) (e ▸ hk)
    · exact own_unlike K.own (H.live i hi).blk (by rfl) (e ▸ hk)
  · rintro (e | e | e | ⟨i, hi, e | e⟩)
    · exact RowAt.unlike (K.live j hj).row hA (by rfl) e
    · exact RowAt.unlike (K.live j hj).row H.row (by rfl) e
    · exact own_unlike H.own (K.live j hj).row (by rfl) e
    · exact (hap.q i j hi hj).1 e.symm
    · exact RowAt.unlike (K.live j hj).row (H.live i hi).blk (by rfl) e
  · rintro (e | e | e | ⟨i, hi, e | e⟩)
    · exact RowAt.unlike (K.live j hj).blk hA (by rfl) e
    · exact RowAt.unlike (K.live j hj).blk H.row (by rfl) e
    · exact own_unlike H.own (K.live j hj).blk (by rfl) e
    · exact RowAt.unlike (K.live j hj).blk (H.live i hi).row (by rfl) e
    · exact (hap.q i j hi hj).2 e.symm
/-- what is a lease's lies since N -/
theorem LeaseIs.under (H : LeaseIs w N a x) (hN : N ≤ a) : ∀ k, mine a x k → N ≤ k := by
  rintro k (rfl | rfl | e | ⟨i, hi, rfl | rfl⟩)
  · exact hN
  · exact H.sinceB
  · rcases H.own.2 with ⟨e', _⟩ | ⟨g, cap, cur, e', hb, _⟩
    · rw [e'] at e; cases e
    · rw [e'] at e; cases e; exact hb
  · exact (H.since i hi).1
  · exact (H.since i hi).2
theorem LeaseIs.new (w : World) (N a : Nat) (hN : N ≤ w.heap.size) : LeaseIs (w.alloc (.cells (lcs a (.slice none 0 0) 0 0 false) 48)) N a ⟨w.heap.size, .slice none 0 0, [], 0, false⟩ :=
  ⟨RowAt.new _ _ _, ⟨rfl, .inl ⟨rfl, rfl⟩⟩, fun i hi => absurd hi (by simp), fun i _ hi => absurd hi (by simp), hN, fun i hi => absurd hi (by simp)⟩
theorem Apart.new (w : World) (N a : Nat) (H : LeaseIs w N a x) : Apart x ⟨w.heap.size, .slice none 0 0, [], 0, false⟩ :=
  ⟨fun e => by have := RowAt.lt H.row; simp only at e; omega, fun _ _ => by simp [Value.ownBlock], fun i j _ hj => absurd hj (by simp)⟩

/-- a piece more -/
def Ls.more (x : Ls) (p g : Nat) (v : Value) (n : Nat) : Ls := { x with v := v, qs := x.qs ++ [⟨p, g, List.replicate n zb⟩], peak := max x.peak (hs x.qs + n) }
theorem more_at {P : Pq → Prop} {qs : List Pq} {q : Pq} (h : ∀ i, (hi : i < qs.length) → P qs[i]) (hq : P q) : ∀ i, (hi : i < (qs ++ [q]).length) → P (qs ++ [q])[i] := fun i hi => by
  by_cases hlt : i < qs.length
  · rw [List.getElem_append_left hlt]; exact h i hlt
  · simp at hi
    obtain rfl : i = qs.length := by omega
    simpa using hq
theorem apart_more {qs : List Pq} {q : Pq} (h : ∀ i j, (hi : i < qs.length) → (hj : j < qs.length) → i ≠ j → qs[i].p ≠ qs[j].p ∧ qs[i].g ≠ qs[j].g) (hq : ∀ i, (hi : i < qs.length) → qs[i].p ≠ q.p ∧ qs[i].g ≠ q.g) :
    ∀ i j, (hi : i < (qs ++ [q]).length) → (hj : j < (qs ++ [q]).length) → i ≠ j → (qs ++ [q])[i].p ≠ (qs ++ [q])[j].p ∧ (qs ++ [q])[i].g ≠ (qs ++ [q])[j].g := by
  intro i j hi hj hne
  have hi' : i < qs.length + 1 := by simpa using hi
  have hj' : j < qs.length + 1 := by simpa using hj
  rcases Nat.lt_or_eq_of_le (Nat.le_of_lt_succ hi') with h1 | h1 <;> rcases Nat.lt_or_eq_of_le (Nat.le_of_lt_succ hj') with h2 | h2
  · rw [List.getElem_append_left h1, List.getElem_append_left h2]; exact h i j h1 h2 hne
  · subst h2
    rw [List.getElem_append_left h1]
    simpa using hq i h1
  · subst h1
    rw [List.getElem_append_left h2]
    have := hq j h2
    simpa using ⟨this.1.symm, this.2.symm⟩
  · omega
theorem hs_more (x : Ls) (p g : Nat) (v : Value) (n : Nat) : hs (x.more p g v n).qs = hs x.qs + n := by simp [Ls.more, hs_append, hs]
theorem ltake_is (H : LeaseIs w N a x) (hx : x.closed = false) (hA : AreAt w a B u h c) (hN : N ≤ w.heap.size) (hl : x.qs.length ≤ 100000) (n : Nat) (hn : u + n ≤ B) (hB : B ≤ 4194304) (hc : c ≤ 4194304) (hh : hs x.qs ≤ 4194304) :
    Calls Try.prog 10 #[.pointer (some ⟨x.b, 0, none⟩), .int .i64 (n : Int)] w fun e w' => ∃ p g v', e = .returned (.tuple #[.pointer (some ⟨p, 0, none⟩), .int .i64 0]) ∧ LeaseIs w' N a (x.more p g v' n) ∧ PceAt w' p a n true (.slice (some ⟨g, 0, none⟩) n n) ∧
      AreAt w' a B (u + n) (max h (u + n)) (c + 1) ∧ Kept (mine a x) w w' ∧ ∀ y, LeaseIs w N a y → Apart x y → Apart (x.more p g v' n) y := by
  have hrow := H.row
  rw [hx] at hrow
  have ho := H.own
  rw [← qp_length x.qs] at ho
  refine (ltake_any hrow hA ho hN (by rw [qp_length]; exact hl) n hn hB hc hh).mono ?_
  rintro e w' ⟨p, g, v', rfl, hP, hp, hg, hA', hL, hO, hv, hK⟩
  have hpl := RowAt.lt hP.row
  have hrl : (List.replicate n zb).length = n := List.length_replicate ..
  have hKm : Kept (mine a x) w w' := hK.mono fun k _ e => by
    rcases e with e | e | e
    · exact .inl e
    · exact .inr (.inl e)
    · exact .inr (.inr (.inl e))
  have hlv : ∀ i, (hi : i < x.qs.length) → x.qs[i].p < w.heap.size ∧ x.qs[i].g < w.heap.size := fun i hi => ⟨RowAt.lt (H.live i hi).row, RowAt.lt (H.live i hi).blk⟩
  have hPc := hP.row
  rw [hrl] at hPc
  refine ⟨p, g, v', rfl, ⟨?_, ?_, ?_, ?_, H.sinceB, ?_⟩, hPc, hA', hKm, ?_⟩
  · have := hs_more x p g v' n
    unfold Ls.more at *
    simp only at *
    rw [this, hx]
    exact hL
  · unfold Ls.more
    simp only [List.length_append, List.length_singleton]
    rw [show qp (x.qs ++ [⟨p, g, List.replicate n zb⟩]) = qp x.qs ++ [.pointer (some ⟨p, 0, none⟩)] by simp [qp]]
    rw [qp_length] at hO
    exact hO
  · refine more_at (P := fun q => LiveAt w' q.p a q.g q.l) (fun i hi => ?_) hP
    refine ⟨RowAt.kept (H.live i hi).row hK ?_, RowAt.kept (H.live i hi).blk hK ?_, (H.live i hi).ok⟩
    · rintro (e | e | e)
      · exact RowAt.unlike (H.live i hi).row hA (by rfl) e
      · exact RowAt.unlike (H.live i hi).row H.row (by rfl) e
      · exact own_unlike H.own (H.live i hi).row (by rfl) e
    · rintro (e | e | e)
      · exact RowAt.unlike (H.live i hi).blk hA (by rfl) e
      · exact RowAt.unlike (H.live i hi).blk H.row (by rfl) e
      · exact own_unlike H.own (H.live i hi).blk (by rfl) e
  · exact apart_more H.apart fun i hi => by
      have := hlv i hi
      exact ⟨by simp only; omega, by simp only; omega⟩
  · refine more_at (P := fun q => N ≤ q.p ∧ N ≤ q.g) H.since ⟨by simp only; omega, by simp only; omega⟩
  · intro y K hap
    have hly : ∀ i, (hi : i < y.qs.length) → y.qs[i].p < w.heap.size ∧ y.qs[i].g < w.heap.size := fun i hi => ⟨RowAt.lt (K.live i hi).row, RowAt.lt (K.live i hi).blk⟩
    refine ⟨hap.b, ?_, ?_⟩
    · intro k hk
      rcases hv with e | ⟨g', e, hg'⟩
      · exact hap.v k (e ▸ hk)
      · have hk' : v'.ownBlock = some k := hk
        rw [e] at hk'
        cases hk'
        intro e2
        rcases K.own.2 with ⟨e', _⟩ | ⟨g2, cap, cur, e', hb, hgg, _⟩
        · rw [e'] at e2; cases e2
        · rw [e'] at e2
          simp only [Value.ownBlock, Option.some.injEq] at e2
          have := (Array.getElem?_eq_some_iff.1 hgg).1
          omega
    · intro i j hi hj
      have := hly j hj
      exact more_at (P := fun q => q.p ≠ y.qs[j].p ∧ q.g ≠ y.qs[j].g) (fun i hi => hap.q i j hi hj) ⟨by simp only; omega, by simp only; omega⟩ i hi
end
end Go.Proofs.Ytcleekhdijiefaa

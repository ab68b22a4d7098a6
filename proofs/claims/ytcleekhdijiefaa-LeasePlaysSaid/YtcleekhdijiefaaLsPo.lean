/- Acts as cells; leases that are opened one by one. Conditions: those typed. -/
import Derived.Test.YtcleekhdijiefaaLsPl
import Derived.Deep.LoopGhost
import Derived.Deep.CutBlock
import Derived.Deep.CutRange
import Derived.WalkMore
import Derived.Deep.RegionWith
namespace Go.Proofs.Ytcleekhdijiefaa
set_option maxRecDepth 50000
open Go.RowKit Bb

/-- acts as cells -/
structure Lc where
  d : Int
  o : Int
  n : Int
def lcell (x : Lc) : List Value := [.int .i64 x.d, .int .i64 x.o, .int .i64 x.n]
def lacs (l : List Lc) : List Value := l.flatMap lcell
theorem lacs_length : ∀ l : List Lc, (lacs l).length = l.length * 3
  | [] => rfl
  | x :: l => by
    have := lacs_length l
    unfold lacs at *
    rw [List.flatMap_cons, List.length_append, this, List.length_cons]
    simp [lcell]
    omega
theorem lacs_at : ∀ (l : List Lc) (i : Nat) (h : i < l.length) (j : Nat), j < 3 → (lacs l)[i * 3 + j]? = (lcell l[i])[j]?
  | x :: l, 0, _, j, hj => by
    rw [show lacs (x :: l) = lcell x ++ lacs l by simp [lacs], List.getElem?_append_left (by simp [lcell]; omega)]; simp
  | x :: l, i + 1, h, j, hj => by
    have := lacs_at l i (by simpa using h) j hj
    rw [show lacs (x :: l) = lcell x ++ lacs l by simp [lacs], List.getElem?_append_right (by simp [lcell]; omega), show (i + 1) * 3 + j - (lcell x).length = i * 3 + j by simp [lcell]; omega, this]
    simp
theorem lact_reads {w : World} {B : Nat} {A : Option Addr} {l : List Lc} (hr : Reads w B A (lacs l)) (i : Nat) (hi : i < l.length) :
    ∃ b off, A = some ⟨b, off, none⟩ ∧ b < B ∧ w.cell? ⟨b, off + i * 3, none⟩ = some (.int .i64 l[i].d) ∧ w.cell? ⟨b, off + i * 3 + 1, none⟩ = some (.int .i64 l[i].o) ∧ w.cell? ⟨b, off + i * 3 + 2, none⟩ = some (.int .i64 l[i].n) := by
  have hl := lacs_length l
  obtain ⟨b, off, e, hb, _⟩ := hr (i * 3) (by omega)
  refine ⟨b, off, e, hb, ?_⟩
  have G : ∀ j, j < 3 → w.cell? ⟨b, off + i * 3 + j, none⟩ = (lcell l[i])[j]? := fun j hj => by
    obtain ⟨b', off', e', _, hc⟩ := hr (i * 3 + j) (by omega)
    rw [e] at e'
    cases e'
    rw [Nat.add_assoc, hc, ← List.getElem?_eq_getElem, lacs_at l i hi j hj]
  exact ⟨G 0 (by decide), G 1 (by decide), G 2 (by decide)⟩

def nilp (n : Nat) : List Value := List.replicate n (.pointer none)
/-- so many leases are open -/
structure Po (W w : World) (a B ob : Nat) (L : List Ls) : Prop where
  le : L.length ≤ 3
  are : AreAt w a B 0 0 0
  ls : ∀ k, (hk : k < L.length) → LeaseIs w W.heap.size a L[k]
  apart : ∀ i j, (hi : i < L.length) → (hj : j < L.length) → i ≠ j → Apart L[i] L[j]
  fresh : ∀ k, (hk : k < L.length) → L[k].qs = [] ∧ L[k].peak = 0 ∧ L[k].closed = false
  own : RowAt w ob 29 (lp L ++ nilp (3 - L.length)).toArray
  below : Below W.heap.size W w
def nl (w : World) : Ls := ⟨w.heap.size, .slice none 0 0, [], 0, false⟩
theorem Po.more {W w w' : World} {a B ob : Nat} {L : List Ls} (H : Po W w a B ob L) (hl : L.length < 3) (hW : W.heap.size ≤ ob) (hw' : w' = (w.alloc (.cells (lcs a (.slice none 0 0) 0 0 false) 48)).setCell ⟨ob, L.length, none⟩ (.pointer (some ⟨w.heap.size, 0, none⟩))) :
    Po W w' a B ob (L ++ [nl w]) := by
  have hs := H.below.size
  obtain ⟨w1, hw1⟩ : ∃ w1, w1 = w.alloc (.cells (lcs a (.slice none 0 0) 0 0 false) 48) := ⟨_, rfl⟩
  rw [← hw1] at hw'
  have hb1 : Below w.heap.size w w1 := by rw [hw1]; exact (Below.refl _ w).alloc (Nat.le_refl _) _
  have O1 := H.own.step hb1
  have K : Kept (fun k => k = ob) w1 w' := by rw [hw']; exact (Kept.refl (fun k => k = ob) w1).set (p := ⟨ob, L.length, none⟩) (.inl rfl) _
  have F : ∀ x, LeaseIs w1 W.heap.size a x → LeaseIs w' W.heap.size a x := fun x hx => hx.far K fun k e => by subst e; exact ⟨_, _, O1, by rfl, by rfl, by rfl, by rfl⟩
  have hn : LeaseIs w1 W.heap.size a (nl w) := by rw [hw1]; exact LeaseIs.new w _ _ hs
  have G : ∀ j, (hj : j < (L ++ [nl w]).length) → (∃ hj' : j < L.length, (L ++ [nl w])[j] = L[j]) ∨ (j = L.length ∧ (L ++ [nl w])[j] = nl w) := fun j hj => by
    by_cases h : j < L.length
    · exact .inl ⟨h, List.getElem_append_left h⟩
    · simp at hj
      obtain rfl : j = L.length := by omega
      exact .inr ⟨rfl, by simp⟩
  refine ⟨by simp; omega, RowAt.kept (RowAt.step H.are hb1) K fun e => RowAt.unlike (RowAt.step H.are hb1) O1 (by rfl) e, fun j hj => ?_, fun i j hi hj hne => ?_, fun j hj => ?_, ?_, ?_⟩
  · rcases G j hj with ⟨hj', e⟩ | ⟨_, e⟩ <;> rw [e]
    · exact F _ ((H.ls j hj').step hb1)
    · exact F _ hn
  · rcases G i hi with ⟨hi', e⟩ | ⟨e0, e⟩ <;> rcases G j hj with ⟨hj', e'⟩ | ⟨e0', e'⟩
    · rw [e, e']; exact H.apart i j hi' hj' hne
    · rw [e, e']; exact Apart.new w _ _ (H.ls i hi')
    · rw [e, e']; exact (Apart.new w _ _ (H.ls j hj')).symm
    · exact absurd (e0.trans e0'.symm) hne
  · rcases G j hj with ⟨hj', e⟩ | ⟨_, e⟩ <;> rw [e]
    · exact H.fresh j hj'
    · exact ⟨rfl, rfl, rfl⟩
  · have := O1.setCell L.length (.pointer (some ⟨w.heap.size, 0, none⟩))
    rw [← hw'] at this
    have e : (lp L ++ nilp (3 - L.length)).toArray.setIfInBounds L.length (.pointer (some ⟨w.heap.size, 0, none⟩)) = (lp (L ++ [nl w]) ++ nilp (3 - (L ++ [nl w]).length)).toArray := by
      rw [List.setIfInBounds_toArray, List.set_append_right _ _ (by simp [lp])]
      congr 1
      obtain ⟨m, hm⟩ : ∃ m, 3 - L.length = m + 1 := ⟨3 - L.length - 1, by omega⟩
      have hm' : 3 - (L ++ [nl w]).length = m := by simp; omega
      rw [hm, hm']
      simp [lp, nilp, List.replicate_succ, nl]
    rw [e] at this
    exact this
  · exact (H.below.trans (hb1.mono hs)).trans (K.under (N := W.heap.size) (fun k e => by rw [e]; exact hW) (Nat.le_trans hs hb1.size))
end Go.Proofs.Ytcleekhdijiefaa

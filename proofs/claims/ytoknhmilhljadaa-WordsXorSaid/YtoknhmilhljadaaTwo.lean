/- Two rows of bytes that a call makes side by side; the document's bytes of one word as an owned row. No condition but those typed. -/
import Derived.Test.YtoknhmilhljadaaOps
import Derived.Test.YtoknhmilhljadaaTurned
namespace Go.Proofs.Ytoknhmilhljadaa
open Go.RowKit

theorem own_below {w w' : World} {base : Nat} {e : TypeId} {n : Nat} {v : Value} {xs : List Value} (h : w.ownsRow base e 1 v n xs) (hb : Below w.heap.size w w') : w'.ownsRow base e 1 v n xs :=
  h.kept (row := none) ⟨hb.os, hb.tape, hb.output, hb.size, fun i hi _ => hb.block i hi⟩ (by cases hv : v.ownBlock with
    | none => exact .inl rfl
    | some b => right; simp)
/-- two rows of bytes of the call's own, that share no block; below block B all is as it was -/
structure Two (w0 w : World) (u : Value) (m : Nat) (xs : List Value) (v : Value) (n : Nat) (ys : List Value) : Prop where
  below : Below w0.heap.size w0 w
  left : w.ownsRow w0.heap.size 5 1 u m xs
  right : w.ownsRow w0.heap.size 5 1 v n ys
  apart : u.ownBlock = none ∨ u.ownBlock ≠ v.ownBlock
section
variable {w0 w w' : World} {u v u' v' : Value} {m n m' n' : Nat} {xs ys xs' ys' : List Value}
theorem Two.start (w : World) : Two w w (.slice none 0 0) 0 [] (.slice none 0 0) 0 [] := ⟨Below.refl _ _, World.ownsRow_nil _ _ _ _, World.ownsRow_nil _ _ _ _, .inl rfl⟩
theorem Two.step (h : Two w0 w u m xs v n ys) (hb : Below w.heap.size w w') : Two w0 w' u m xs v n ys :=
  ⟨step_trans h.below hb, own_below h.left hb, own_below h.right hb, h.apart⟩
theorem Two.grow_left (h : Two w0 w u m xs v n ys) (ho : w'.ownsRow w0.heap.size 5 1 u' m' xs') (hg : w.grownBy w' u.ownBlock) (hat : u'.ownBlock = u.ownBlock ∨ u'.ownBlock = some w.heap.size) : Two w0 w' u' m' xs' v n ys := by
  have hne : v.ownBlock = none ∨ v.ownBlock ≠ u.ownBlock := by
    rcases h.apart with e | e
    · rw [e]; cases v.ownBlock with
      | none => exact .inl rfl
      | some b => right; simp
    · exact .inr fun k => e k.symm
  refine ⟨h.below.grown hg h.below.size (fun k hk => (h.left.lt k hk).1), ho, h.right.kept hg hne, ?_⟩
  rcases hat with e | e
  · rw [e]; exact h.apart
  · right; rw [e]; intro k; have := (h.right.lt _ k.symm).2; omega
theorem Two.grow_right (h : Two w0 w u m xs v n ys) (ho : w'.ownsRow w0.heap.size 5 1 v' n' ys') (hg : w.grownBy w' v.ownBlock) (hat : v'.ownBlock = v.ownBlock ∨ v'.ownBlock = some w.heap.size) : Two w0 w' u m xs v' n' ys' := by
  have hne : u.ownBlock = none ∨ u.ownBlock ≠ v.ownBlock := h.apart
  refine ⟨h.below.grown hg h.below.size (fun k hk => (h.right.lt k hk).1), h.left.kept hg hne, ho, ?_⟩
  rcases hat with e | e
  · rw [e]; exact h.apart
  · cases hu : u.ownBlock with
    | none => exact .inl rfl
    | some b => right; rw [e]; intro k; injection k with k; have := (h.left.lt b hu).2; omega
end
theorem rev_bytes (n x : Nat) : (bytesOf ups n x).reverse = bytesOf (downs n) n x := by
  refine List.ext_getElem (by simp [bytesOf]) fun i h1 h2 => ?_
  simp only [bytesOf, List.length_map, List.length_range] at h2
  simp [bytesOf, List.getElem_reverse, ups, downs]
theorem cells_own {w : World} {base : Nat} {n c : Nat} {g : Nat} {xs : List Value} (h : w.ownsRow base 5 1 (.slice (some ⟨g, 0, none⟩) n c) n xs) : ∀ j u, xs[j]? = some u → w.cell? ((⟨g, 0, none⟩ : Addr).add j) = some u := h.cells rfl
theorem u8s_one (l : List Nat) : ∀ u ∈ u8s l, u.oneCell' = true := by
  intro u hu
  obtain ⟨x, _, rfl⟩ := List.mem_map.1 hu
  rfl

/-- the document's bytes of a word, as a slice value of some cells -/
theorem of32_own (x : Nat) (w : World) (hx : x < 2 ^ 32) : Calls Try.prog 9 #[.int .u32 (x : Int)] w fun e w' => ∃ g c, e = .returned (.slice (some ⟨g, 0, none⟩) 4 c) ∧ w'.ownsRow w.heap.size 5 1 (.slice (some ⟨g, 0, none⟩) 4 c) 4 (u8s (bytesOf ups 4 x)) ∧ Below w.heap.size w w' :=
  (of32_any x w hx).mono fun e w' ⟨v, he, hown, hb⟩ => by
    obtain ⟨A, c, rfl, _, hA, _⟩ := own_form hown
    obtain ⟨g, rfl, _⟩ := hA (by omega)
    exact ⟨g, c, he, hown, hb⟩
theorem of64_own (x : Nat) (w : World) (hx : x < 2 ^ 64) : Calls Try.prog 11 #[.int .u64 (x : Int)] w fun e w' => ∃ g c, e = .returned (.slice (some ⟨g, 0, none⟩) 8 c) ∧ w'.ownsRow w.heap.size 5 1 (.slice (some ⟨g, 0, none⟩) 8 c) 8 (u8s (bytesOf ups 8 x)) ∧ Below w.heap.size w w' :=
  (of64_any x w hx).mono fun e w' ⟨v, he, hown, hb⟩ => by
    obtain ⟨A, c, rfl, _, hA, _⟩ := own_form hown
    obtain ⟨g, rfl, _⟩ := hA (by omega)
    exact ⟨g, c, he, hown, hb⟩
theorem turned_own (n : Nat) (hn : 0 < n ∧ n ≤ 8) (x g c : Nat) (w : World) {B : Nat} (hown : w.ownsRow B 5 1 (.slice (some ⟨g, 0, none⟩) n c) n (u8s (bytesOf ups n x))) :
    Calls Try.prog 10 #[.slice (some ⟨g, 0, none⟩) n c] w fun e w' => ∃ g c, e = .returned (.slice (some ⟨g, 0, none⟩) n c) ∧ w'.ownsRow w.heap.size 5 1 (.slice (some ⟨g, 0, none⟩) n c) n (u8s (bytesOf (downs n) n x)) ∧ Below w.heap.size w w' := by
  have h := turned_any (some ⟨g, 0, none⟩) c (bytesOf ups n x) w (Reads.of_own hown) (by rw [bytesOf_length]; omega)
  rw [bytesOf_length, rev_bytes] at h
  refine h.mono fun e w' ⟨v, he, hown, hb⟩ => ?_
  obtain ⟨A, c, rfl, _, hA, _⟩ := own_form hown
  obtain ⟨g, rfl, _⟩ := hA (by omega)
  exact ⟨g, c, he, hown, hb⟩
end Go.Proofs.Ytoknhmilhljadaa

/- An arena with all its pieces in memory, told by a list; what each act makes of it. Conditions: those typed. -/
import Derived.Test.YtackcboidjmegaaArRrel
import Derived.Test.YtackcboidjmegaaArGet
namespace Go.Proofs.Ytackcboidjmegaa
set_option maxRecDepth 50000
open Go.RowKit Bb

/-- rows of this type are left as they are -/
def Leaves (w w' : World) (t : TypeId) : Prop := ∀ k C, RowAt w k t C → RowAt w' k t C
section
variable {w w' w'' : World} {t : TypeId} {M : Nat → Prop}
theorem Leaves.trans (h : Leaves w w' t) (k : Leaves w' w'' t) : Leaves w w'' t := fun _ _ hr => k _ _ (h _ _ hr)
theorem Leaves.below (h : Below w.heap.size w w') (t : TypeId) : Leaves w w' t := fun _ _ hr => hr.below h hr.lt
theorem Leaves.kept (h : Kept M w w') (hM : ∀ k, M k → ∀ C, ¬ RowAt w k t C) : Leaves w w' t := fun k C hr => RowAt.kept hr h fun m => hM k m C hr
theorem RowAt.not_other {t' : TypeId} {C : Array Value} {b : Nat} (h : RowAt w b t' C) (ht : (t == t') = false) (C' : Array Value) : ¬ RowAt w b t C' := fun k => RowAt.unlike k h ht rfl
theorem own_leaves {base s n : Nat} {e : TypeId} {v : Value} {xs : List Value} (h : w.ownsRow base e s v n xs) (hk : Leaves w w' e) : w'.ownsRow base e s v n xs := by
  refine ⟨h.1, ?_⟩
  rcases h.2 with hn | ⟨g, cap, cur, rfl, hb, hgg, rest⟩
  · exact .inl hn
  · exact .inr ⟨g, cap, cur, rfl, hb, hk _ _ hgg, rest⟩
end

structure Pc where
  p : Nat
  g : Nat
  n : Nat
  live : Bool
  l : List (List Nat)
def pz (ps : List Pc) : Pz := ps.map fun x => (x.n, x.live)
def ptrs (ps : List Pc) : List Value := ps.map fun x => .pointer (some ⟨x.p, 0, none⟩)
def PcIs (w : World) (a : Nat) (x : Pc) : Prop := if x.live = true then LiveAt w x.p a x.g x.l ∧ x.l.length = x.n else OffAt w x.p a x.n

/-- an arena at block a and its pieces; all of it lies since W -/
structure Ar (W w : World) (a B h : Nat) (ps : List Pc) : Prop where
  are : AreAt w a B (usd (pz ps)) h (mny (pz ps))
  pce : ∀ i, (hi : i < ps.length) → PcIs w a ps[i]
  apart : ∀ i j, (hi : i < ps.length) → (hj : j < ps.length) → i ≠ j → ps[i].p ≠ ps[j].p ∧ ps[i].g ≠ ps[j].g
  lt : ∀ i, (hi : i < ps.length) → ps[i].p < w.heap.size ∧ ps[i].g < w.heap.size
  new : ∀ i, (hi : i < ps.length) → W.heap.size ≤ ps[i].p ∧ W.heap.size ≤ ps[i].g
  small : ∀ i, (hi : i < ps.length) → ps[i].n ≤ 100
  newA : W.heap.size ≤ a
  fit : usd (pz ps) ≤ B ∧ B ≤ 4194304 ∧ h ≤ B

section
variable {W w w' : World} {a B h : Nat} {ps : List Pc} {M : Nat → Prop}
theorem PcIs.leaves {x : Pc} (hx : PcIs w a x) (h1 : Leaves w w' 55) (h2 : Leaves w w' 60) : PcIs w' a x := by
  unfold PcIs at *
  split at hx
  · rename_i hl
    rw [if_pos hl]
    exact ⟨⟨h1 _ _ hx.1.row, h2 _ _ hx.1.blk, hx.1.ok⟩, hx.2⟩
  · rename_i hl
    rw [if_neg hl]
    exact h1 _ _ hx
theorem Ar.leaves (H : Ar W w a B h ps) (h0 : Leaves w w' 42) (h1 : Leaves w w' 55) (h2 : Leaves w w' 60) (hs : w.heap.size ≤ w'.heap.size) : Ar W w' a B h ps :=
  ⟨h0 _ _ H.are, fun i hi => (H.pce i hi).leaves h1 h2, H.apart, fun i hi => ⟨Nat.lt_of_lt_of_le (H.lt i hi).1 hs, Nat.lt_of_lt_of_le (H.lt i hi).2 hs⟩, H.new, H.small, H.newA, H.fit⟩
theorem Ar.below (H : Ar W w a B h ps) (hb : Below w.heap.size w w') : Ar W w' a B h ps := H.leaves (.below hb _) (.below hb _) (.below hb _) hb.size
theorem pz_append (a b : List Pc) : pz (a ++ b) = pz a ++ pz b := by simp [pz]
theorem pz_length (a : List Pc) : (pz a).length = a.length := by simp [pz]
theorem ptrs_length (a : List Pc) : (ptrs a).length = a.length := by simp [ptrs]
theorem pz_at (ps : List Pc) (i : Nat) (h : i < (pz ps).length) : (pz ps)[i] = ((ps[i]'(by simpa [pz] using h)).n, (ps[i]'(by simpa [pz] using h)).live) := by simp [pz]
theorem pz_set (ps : List Pc) (i : Nat) (x : Pc) : pz (ps.set i x) = (pz ps).set i (x.n, x.live) := by simp [pz, List.map_set]
theorem ptrs_set (ps : List Pc) (i : Nat) (hi : i < ps.length) (x : Pc) (hx : x.p = ps[i].p) : ptrs (ps.set i x) = ptrs ps := by
  unfold ptrs
  rw [List.map_set, hx]
  exact List.ext_getElem (by simp) fun j h1 h2 => by
    rw [List.getElem_set]
    split
    · rename_i e; subst e; simp
    · rfl
theorem many_le (ps : List Pc) : mny (pz ps) ≤ ps.length := by rw [← pz_length]; exact mny_le _
theorem Ar.live (H : Ar W w a B h ps) (i : Nat) (hi : i < ps.length) (hl : ps[i].live = true) : LiveAt w ps[i].p a ps[i].g ps[i].l ∧ ps[i].l.length = ps[i].n := by
  have := H.pce i hi
  unfold PcIs at this
  rwa [if_pos hl] at this
theorem Ar.off (H : Ar W w a B h ps) (i : Nat) (hi : i < ps.length) (hl : ps[i].live = false) : OffAt w ps[i].p a ps[i].n := by
  have := H.pce i hi
  unfold PcIs at this
  rwa [if_neg (by simp [hl])] at this
theorem Ar.row (H : Ar W w a B h ps) (i : Nat) (hi : i < ps.length) : ∃ v, PceAt w ps[i].p a ps[i].n ps[i].live v := by
  cases hl : ps[i].live with
  | true =>
    obtain ⟨h1, h2⟩ := H.live i hi hl
    have := h1.row
    rw [h2] at this
    exact ⟨_, this⟩
  | false => exact ⟨_, H.off i hi hl⟩

/-- a piece more -/
theorem Ar.reserve (H : Ar W w a B h ps) {p g n h' : Nat} (hn : n ≤ 100) (hu : usd (pz ps) + n ≤ B) (hh : h' = max h (usd (pz ps) + n)) (hA : AreAt w' a B (usd (pz ps) + n) h' (mny (pz ps) + 1)) (hL : LiveAt w' p a g (List.replicate n zb)) (hp : w.heap.size ≤ p) (hg : w.heap.size ≤ g) (hW : W.heap.size ≤ w.heap.size)
    (hK : Kept (fun k => k = a) w w') : Ar W w' a B h' (ps ++ [⟨p, g, n, true, List.replicate n zb⟩]) := by
  have h1 : Leaves w w' 55 := .kept hK fun k e C => by rw [e]; exact RowAt.not_other H.are (by rfl) C
  have h2 : Leaves w w' 60 := .kept hK fun k e C => by rw [e]; exact RowAt.not_other H.are (by rfl) C
  have hpl := RowAt.lt hL.row
  have hgl := RowAt.lt hL.blk
  have hs := hK.size
  have hlast : ∀ i, (hi : i < (ps ++ [(⟨p, g, n, true, List.replicate n zb⟩ : Pc)]).length) → (∃ hi' : i < ps.length, (ps ++ [(⟨p, g, n, true, List.replicate n zb⟩ : Pc)])[i] = ps[i]) ∨ i = ps.length ∧ (ps ++ [(⟨p, g, n, true, List.replicate n zb⟩ : Pc)])[i] = ⟨p, g, n, true, List.replicate n zb⟩ := fun i hi => by
    by_cases hlt : i < ps.length
    · exact .inl ⟨hlt, List.getElem_append_left hlt⟩
    · simp at hi
      obtain rfl : i = ps.length := by omega
      exact .inr ⟨rfl, by simp⟩
  refine ⟨?_, ?_, ?_, ?_, ?_, ?_, H.newA, ?_⟩
  · rw [pz_append, usd_append, mny_append]
    simpa [pz, usd, mny] using hA
  · intro i hi
    rcases hlast i hi with ⟨hi', e⟩ | ⟨_, e⟩
    · rw [e]; exact (H.pce i hi').leaves h1 h2
    · rw [e]
      unfold PcIs
      rw [if_pos rfl]
      exact ⟨hL, List.length_replicate ..⟩
  · intro i j hi hj hne
    rcases hlast i hi with ⟨hi', e⟩ | ⟨e0, e⟩ <;> rcases hlast j hj with ⟨hj', e'⟩ | ⟨e0', e'⟩ <;> rw [e, e']
    · exact H.apart i j hi' hj' hne
    · have := H.lt i hi'
      exact ⟨by simp only; omega, by simp only; omega⟩
    · have := H.lt j hj'
      exact ⟨by simp only; omega, by simp only; omega⟩
    · omega
  · intro i hi
    rcases hlast i hi with ⟨hi', e⟩ | ⟨_, e⟩ <;> rw [e]
    · have := H.lt i hi'
      exact ⟨by omega, by omega⟩
    · exact ⟨hpl, hgl⟩
  · intro i hi
    rcases hlast i hi with ⟨hi', e⟩ | ⟨_, e⟩ <;> rw [e]
    · exact H.new i hi'
    · exact ⟨by simp only; omega, by simp only; omega⟩
  · intro i hi
    rcases hlast i hi with ⟨hi', e⟩ | ⟨_, e⟩ <;> rw [e]
    · exact H.small i hi'
    · exact hn
  · have := H.fit
    rw [pz_append, usd_append]
    refine ⟨by simpa [pz, usd] using hu, this.2.1, by rw [hh]; omega⟩

/-- one piece is turned into another one -/
theorem Ar.turn (H : Ar W w a B h ps) {h' i : Nat} (hi : i < ps.length) (hli : ps[i].live = true) {x : Pc} (hp : x.p = ps[i].p) (hg : x.g = ps[i].g) (hn : x.n = ps[i].n) (hh : h' ≤ B) (hf : usd (pz (ps.set i x)) ≤ B)
    (hA : AreAt w' a B (usd (pz (ps.set i x))) h' (mny (pz (ps.set i x)))) (hX : PcIs w' a x) (hK : Kept (fun k => k = a ∨ k = ps[i].p ∨ k = ps[i].g) w w') : Ar W w' a B h' (ps.set i x) := by
  obtain ⟨v, hv⟩ := H.row i hi
  have G : ∀ j, (hj : j < (ps.set i x).length) → (j = i ∧ (ps.set i x)[j] = x) ∨ (j ≠ i ∧ ∃ hj' : j < ps.length, (ps.set i x)[j] = ps[j]) := fun j hj => by
    by_cases e : j = i
    · subst e; exact .inl ⟨rfl, by simp⟩
    · refine .inr ⟨e, by simpa using hj, ?_⟩
      rw [List.getElem_set_ne (fun h => e h.symm)]
  have hsz := hK.size
  have S : ∀ j, (hj : j < (ps.set i x).length) → ∃ hj' : j < ps.length, (ps.set i x)[j].p = ps[j].p ∧ (ps.set i x)[j].g = ps[j].g ∧ (ps.set i x)[j].n = ps[j].n := fun j hj => by
    rcases G j hj with ⟨rfl, e⟩ | ⟨_, hj', e⟩
    · exact ⟨hi, by rw [e]; exact hp, by rw [e]; exact hg, by rw [e]; exact hn⟩
    · exact ⟨hj', by rw [e], by rw [e], by rw [e]⟩
  refine ⟨hA, ?_, ?_, ?_, ?_, ?_, H.newA, ⟨hf, H.fit.2.1, hh⟩⟩
  · intro j hj
    rcases G j hj with ⟨rfl, e⟩ | ⟨hne, hj', e⟩
    · rw [e]; exact hX
    · rw [e]
      have hap := H.apart j i hj' hi hne
      cases hl : ps[j].live with
      | true =>
        obtain ⟨k1, k2⟩ := H.live j hj' hl
        unfold PcIs
        rw [if_pos hl]
        refine ⟨⟨RowAt.kept k1.row hK ?_, RowAt.kept k1.blk hK ?_, k1.ok⟩, k2⟩
        · rintro (e1 | e1 | e1)
          · exact RowAt.unlike k1.row H.are (by rfl) e1
          · exact hap.1 e1
          · exact RowAt.unlike k1.row (H.live i hi hli).1.blk (by rfl) e1
        · rintro (e1 | e1 | e1)
          · exact RowAt.unlike k1.blk H.are (by rfl) e1
          · exact RowAt.unlike k1.blk hv (by rfl) e1
          · exact hap.2 e1
      | false =>
        have k1 := H.off j hj' hl
        unfold PcIs
        rw [if_neg (by simp [hl])]
        refine RowAt.kept k1 hK ?_
        rintro (e1 | e1 | e1)
        · exact RowAt.unlike k1 H.are (by rfl) e1
        · exact hap.1 e1
        · exact RowAt.unlike k1 (H.live i hi hli).1.blk (by rfl) e1
  · intro j k hj hk hne
    obtain ⟨hj', e1, e2, _⟩ := S j hj
    obtain ⟨hk', e3, e4, _⟩ := S k hk
    rw [e1, e2, e3, e4]
    exact H.apart j k hj' hk' hne
  · intro j hj
    obtain ⟨hj', e1, e2, _⟩ := S j hj
    have := H.lt j hj'
    rw [e1, e2]
    exact ⟨by omega, by omega⟩
  · intro j hj
    obtain ⟨hj', e1, e2, _⟩ := S j hj
    rw [e1, e2]
    exact H.new j hj'
  · intro j hj
    obtain ⟨hj', _, _, e3⟩ := S j hj
    rw [e3]
    exact H.small j hj'

theorem Ar.release (H : Ar W w a B h ps) {i : Nat} (hi : i < ps.length) (hl : ps[i].live = true) (hO : OffAt w' ps[i].p a ps[i].l.length) (hA : AreAt w' a B (usd (pz ps) - ps[i].l.length) h (mny (pz ps) - 1)) (hK : Kept (fun k => k = a ∨ k = ps[i].p ∨ k = ps[i].g) w w') :
    Ar W w' a B h (ps.set i { ps[i] with live := false }) := by
  obtain ⟨h1, h2⟩ := H.live i hi hl
  have hz := usd_set (pz ps) i (by rw [pz_length]; exact hi) (by rw [pz_at]; exact hl)
  rw [pz_at] at hz
  dsimp only at hz
  have hf := H.fit
  have e : pz (ps.set i { ps[i] with live := false }) = (pz ps).set i (ps[i].n, false) := pz_set _ _ _
  refine H.turn hi hl rfl rfl rfl hf.2.2 (by rw [e]; omega) ?_ ?_ hK
  · rw [e]
    rw [h2] at hA
    rw [show usd ((pz ps).set i (ps[i].n, false)) = usd (pz ps) - ps[i].n by omega, show mny ((pz ps).set i (ps[i].n, false)) = mny (pz ps) - 1 by omega]
    exact hA
  · unfold PcIs
    rw [if_neg (by simp)]
    rw [h2] at hO
    exact hO
theorem pz_same (ps : List Pc) {i : Nat} (hi : i < ps.length) {x : Pc} (hn : x.n = ps[i].n) (hl : x.live = ps[i].live) : pz (ps.set i x) = pz ps := by
  rw [pz_set, hn, hl]
  exact List.ext_getElem (by simp) fun j h1 h2 => by
    rw [List.getElem_set]
    split
    · rename_i e; subst e; rw [pz_at]
    · rfl
theorem Ar.set (H : Ar W w a B h ps) {i : Nat} (hi : i < ps.length) (hl : ps[i].live = true) {l' : List (List Nat)} (hL : LiveAt w' ps[i].p a ps[i].g l') (hl' : l'.length = ps[i].l.length) (hK : Kept (fun k => k = ps[i].g) w w') :
    Ar W w' a B h (ps.set i { ps[i] with l := l' }) := by
  obtain ⟨h1, h2⟩ := H.live i hi hl
  have e : pz (ps.set i { ps[i] with l := l' }) = pz ps := pz_same ps hi rfl rfl
  refine H.turn hi hl rfl rfl rfl H.fit.2.2 (by rw [e]; exact H.fit.1) ?_ ?_ (hK.mono fun _ _ e => .inr (.inr e))
  · rw [e]
    exact RowAt.kept H.are hK fun e => RowAt.unlike H.are h1.blk (by rfl) e
  · unfold PcIs
    rw [if_pos hl]
    exact ⟨hL, hl'.trans h2⟩
/-- what an act on an arena leaves -/
theorem Ar.leaves_of (H : Ar W w a B h ps) {i : Nat} (hi : i < ps.length) (hl : ps[i].live = true) (hK : Kept (fun k => k = a ∨ k = ps[i].p ∨ k = ps[i].g) w w') (t : TypeId) (ht : (t == 42) = false ∧ (t == 55) = false ∧ (t == 60) = false) : Leaves w w' t := by
  obtain ⟨h1, _⟩ := H.live i hi hl
  refine .kept hK fun k e C => ?_
  rcases e with e | e | e <;> rw [e]
  · exact RowAt.not_other H.are ht.1 C
  · exact RowAt.not_other h1.row ht.2.1 C
  · exact RowAt.not_other h1.blk ht.2.2 C
theorem Ar.leaves_are (H : Ar W w a B h ps) (hK : Kept (fun k => k = a) w w') (t : TypeId) (ht : (t == 42) = false) : Leaves w w' t :=
  .kept hK fun k e C => by rw [e]; exact RowAt.not_other H.are ht C
theorem Ar.high (H : Ar W w a B h ps) {h' : Nat} (hh : h' ≤ B) (hA : AreAt w' a B (usd (pz ps)) h' (mny (pz ps))) (hK : Kept (fun k => k = a) w w') : Ar W w' a B h' ps := by
  have h1 := H.leaves_are hK 55 (by rfl)
  have h2 := H.leaves_are hK 60 (by rfl)
  have hs := hK.size
  exact ⟨hA, fun i hi => (H.pce i hi).leaves h1 h2, H.apart, fun i hi => ⟨Nat.lt_of_lt_of_le (H.lt i hi).1 hs, Nat.lt_of_lt_of_le (H.lt i hi).2 hs⟩, H.new, H.small, H.newA, H.fit.1, H.fit.2.1, hh⟩
end
end Go.Proofs.Ytackcboidjmegaa

/- The state of a play: the arena and its pieces, the row of pieces, the document's arena. Conditions: those typed. -/
import Derived.Test.YtackcboidjmegaaArSet
import Derived.Test.YtackcboidjmegaaArRres
namespace Go.Proofs.Ytackcboidjmegaa
set_option maxRecDepth 50000
open Go.RowKit Bb

/-- the arena has ps, the law's row ss, the document's arena lies at block mb as m -/
structure Pr (W w : World) (mb a B h : Nat) (ps : List Pc) (sv : Value) (ss : List Pc) (m : Array Value) : Prop where
  ar : Ar W w a B h ps
  own : w.ownsRow W.heap.size 33 1 sv ss.length (ptrs ss)
  row : RowAt w mb 32 m
  below : Below W.heap.size W w
  newM : W.heap.size ≤ mb
section
variable {W w w' : World} {mb a B h : Nat} {ps ss : List Pc} {sv mv : Value} {m : Array Value}
theorem Pr.step (H : Pr W w mb a B h ps sv ss m) (hb : Below w.heap.size w w') : Pr W w' mb a B h ps sv ss m :=
  ⟨H.ar.below hb, own_leaves H.own (.below hb _), H.row.step hb, H.below.trans (hb.mono H.below.size), H.newM⟩
theorem Pr.drewN (H : Pr W w mb a B h ps sv ss m) (q : Nat) : Pr W (w.drewN q) mb a B h ps sv ss m := H.step (below_drewN (Below.refl _ _) q)
theorem OwnP.step {N : Nat} {l : Pz} (H : OwnP w N mv l) (hb : Below w.heap.size w w') : OwnP w' N mv l := own_leaves H (.below hb _)
theorem OwnP.base {N N' : Nat} {l : Pz} (H : OwnP w N mv l) (h : N' ≤ N) : OwnP w N' mv l := own_base' H h
/-- the document's arena is set -/
theorem Pr.setm (H : Pr W w mb a B h ps sv ss m) (hm : ∃ B0 v0 h0, m = mcells B0 v0 h0) (mv' : Value) (h' : Nat) : Pr W (((w.setCell ⟨mb, 0, none⟩ (.int .i64 (B : Int))).setCell ⟨mb, 1, none⟩ mv').setCell ⟨mb, 2, none⟩ (.int .i64 (h' : Int))) mb a B h ps sv ss (mcells B mv' h') ∧
    ∀ t, (t == 32) = false → Leaves w (((w.setCell ⟨mb, 0, none⟩ (.int .i64 (B : Int))).setCell ⟨mb, 1, none⟩ mv').setCell ⟨mb, 2, none⟩ (.int .i64 (h' : Int))) t := by
  obtain ⟨B0, v0, h0, rfl⟩ := hm
  have hK : Kept (fun k => k = mb) w (((w.setCell ⟨mb, 0, none⟩ (.int .i64 (B : Int))).setCell ⟨mb, 1, none⟩ mv').setCell ⟨mb, 2, none⟩ (.int .i64 (h' : Int))) :=
    (((Kept.refl (fun k => k = mb) w).set (p := ⟨mb, 0, none⟩) (.inl rfl) _).set (p := ⟨mb, 1, none⟩) (.inl rfl) _).set (p := ⟨mb, 2, none⟩) (.inl rfl) _
  have hL : ∀ t, (t == 32) = false → Leaves w _ t := fun t ht => .kept hK fun k e C => by rw [e]; exact RowAt.not_other H.row ht C
  refine ⟨⟨H.ar.leaves (hL _ (by rfl)) (hL _ (by rfl)) (hL _ (by rfl)) hK.size, own_leaves H.own (hL _ (by rfl)), ((H.row.setCell 0 _).setCell 1 _).setCell 2 _, ?_, H.newM⟩, hL⟩
  exact H.below.trans (hK.under (fun k e => by rw [e]; exact H.newM) H.below.size)
/-- what is turned of an arena leaves all else -/
theorem Pr.turned (H : Pr W w mb a B h ps sv ss m) {h' : Nat} {ps' : List Pc} (hA : Ar W w' a B h' ps') (hL : ∀ t, (t == 42) = false ∧ (t == 55) = false ∧ (t == 60) = false → Leaves w w' t) (hb : Below W.heap.size w w') : Pr W w' mb a B h' ps' sv ss m :=
  ⟨hA, own_leaves H.own (hL _ ⟨by rfl, by rfl, by rfl⟩), hL _ ⟨by rfl, by rfl, by rfl⟩ _ _ H.row, H.below.trans hb, H.newM⟩
/-- a piece is put behind the law's row -/
theorem ptr_info : (Try.prog.info? 33).map (fun i => (i.zero, i.size, i.bytes)) = some (some (.pointer none), 1, 8) := by kernel_rfl
theorem Pr.more (H : Pr W w mb a B h ps sv ss m) (x : Pc) (hl : ss.length ≤ 100000) : ∃ v' w', (Builtin.append_ #[46, 46] 46 #[sv, .slice (some ⟨w.heap.size, 0, none⟩) 1 1]).run Try.prog (w.alloc (.cells #[.pointer (some ⟨x.p, 0, none⟩)] 33)) = .ok v' w' ∧
    Pr W w' mb a B h ps v' (ss ++ [x]) m ∧ ∀ t, (t == 33) = false → Leaves w w' t := by
  obtain ⟨i, hi, hz, hs, hby⟩ := info_parts ptr_info
  have hWs := H.below.size
  have hb1 : Below w.heap.size w (w.alloc (.cells #[.pointer (some ⟨x.p, 0, none⟩)] 33)) := (Below.refl _ w).alloc (Nat.le_refl _) _
  have H1 := H.step hb1
  obtain ⟨v', w', hr, ho, hg, _, _⟩ := run_append_own_at (P := Try.prog) (w.alloc (.cells #[.pointer (some ⟨x.p, 0, none⟩)] 33)) W.heap.size 46 46 33 i _ 1 8 Try.underlying46 hi hz hs hby rfl (by decide) sv ss.length (ptrs ss) H1.own ⟨w.heap.size, 0, none⟩ 1 1 [.pointer (some ⟨x.p, 0, none⟩)] rfl
    (one_new w _ _) (one_cell _ rfl) (by unfold maxLen; omega) (by omega) (by simp; omega)
  have hL : ∀ t, (t == 33) = false → Leaves (w.alloc (.cells #[.pointer (some ⟨x.p, 0, none⟩)] 33)) w' t := fun t ht k C hR => by
    refine (hg.block k hR.lt fun e => ?_).trans hR
    have := own_unlike H1.own hR (by rw [beq_eq_false_iff_ne] at ht ⊢; exact fun e => ht e.symm)
    exact this e.symm
  refine ⟨v', w', hr, ⟨H1.ar.leaves (hL _ (by rfl)) (hL _ (by rfl)) (hL _ (by rfl)) hg.size, ?_, hL _ (by rfl) _ _ H1.row, ?_, H.newM⟩, fun t ht => (Leaves.below hb1 t).trans (hL t ht)⟩
  · have e : ptrs (ss ++ [x]) = ptrs ss ++ [.pointer (some ⟨x.p, 0, none⟩)] := by simp [ptrs]
    rw [e, List.length_append]
    exact ho
  · exact H1.below.trans ((Below.refl W.heap.size _).grown hg (by simp; omega) fun k hk => (H1.own.lt k hk).1)
theorem Pr.swap (H : Pr W w mb a B h ps sv ss m) {ss' : List Pc} (he : ptrs ss' = ptrs ss) : Pr W w mb a B h ps sv ss' m :=
  ⟨H.ar, by rw [he, show ss'.length = ss.length by rw [← ptrs_length, he, ptrs_length]]; exact H.own, H.row, H.below, H.newM⟩
end
end Go.Proofs.Ytackcboidjmegaa

/- Lists of rows of words: a list of one's own, put behind, stored into, read. Conditions: those typed. -/
import Derived.Test.YtohmkhmanidljaaDoorRmMix
import Derived.Maps.AppendAt
namespace Go.Proofs.YtohmkhmanidljaaDoor
set_option maxRecDepth 50000
open Go.RowKit Bb Sl Sf Rm

theorem own_unlike {w : World} {N s n b : Nat} {e t : TypeId} {v : Value} {xs : List Value} {C : Array Value} (h : w.ownsRow N e s v n xs) (hr : RowAt w b t C) (ht : (e == t) = false) : v.ownBlock ≠ some b := by
  rcases h.2 with ⟨rfl, _⟩ | ⟨g, cap, cur, rfl, _, hg, _⟩
  · simp [Value.ownBlock]
  · intro e'
    simp only [Value.ownBlock, Option.some.injEq] at e'
    exact RowAt.unlike hg hr ht e'
theorem own_apart {w : World} {N N' s s' n n' b : Nat} {e t : TypeId} {v v' : Value} {xs xs' : List Value} (h : w.ownsRow N e s v n xs) (h' : w.ownsRow N' t s' v' n' xs') (ht : (e == t) = false) (hb : v'.ownBlock = some b) : v.ownBlock ≠ some b := by
  rcases h'.2 with ⟨rfl, _⟩ | ⟨g, cap, cur, rfl, _, hg, _⟩
  · simp [Value.ownBlock] at hb
  · simp only [Value.ownBlock, Option.some.injEq] at hb
    subst hb
    exact own_unlike h (show RowAt w g t cur from hg) ht
theorem wpList_append_of {P : Program} {ops : Array Oper} {rest : List Oper} {o : Oper} {a : Act} {w w' : World} {Q : Exit → Act → World → Prop} (hgd : o.guard = none) (x y : Operand) (t : TypeId) (ho : o.op = .call { callee := .builtin .append, args := #[x, y], argTypes := #[t, t] }) (vx vy v' : Value) (hx : a.eval x = vx) (hy : a.eval y = vy)
    (hr : (Builtin.append_ #[t, t] o.type #[vx, vy]).run P w = .ok v' w') (h : wpList P ops Q rest (a.put o.dst v') w') : wpList P ops Q (o :: rest) a w := wpList_plain hgd fun _ hK => by
  unfold Oper.wp execOp
  simp only [ho, resolve, invoke, builtin, Sem.run_bind, Sem.run_pure, Result.andThen_ok, List.map_toArray, List.map_cons, List.map_nil, hx, hy, hr]
  exact hK _ _ h
theorem append_empty {P : Program} (w : World) (base : Nat) (t ty e : TypeId) (i : TypeInfo) (size : Nat) (ht : P.underlying t = some (.slice e)) (hi : P.info? e = some i)
    (v : Value) (n : Nat) (xs : List Value) (hown : w.ownsRow base e size v n xs) (A : Option Addr) (c : Nat) :
    (Builtin.append_ #[t, t] ty #[v, .slice A 0 c]).run P w = .ok v w := by
  rcases hown.2 with ⟨rfl, rfl⟩ | ⟨g, cap, cur, rfl, _, _, hnc, _⟩
  · cases A <;> simp [Builtin.append_, run_underlying ht, sizeOf, typeInfo, hi, Builtin.lenOf, Builtin.firstCells, loadCells, loadCellsFrom]
  · cases A <;> simp [Builtin.append_, run_underlying ht, sizeOf, typeInfo, hi, Builtin.lenOf, Builtin.firstCells, hnc, storeCells, loadCells, loadCellsFrom]

theorem sl_info : (Tryd.prog.info? 22).map (fun i => (i.zero, i.size, i.bytes)) = some (some (.slice none 0 0), 1, 24) := by kernel_rfl

/-- a list that reads as rows of words, all of it below block B -/
def Rws (w : World) (B : Nat) (v : Value) (X : List (List Nat)) : Prop := ∃ A c, v = .slice A X.length c ∧ ∀ i, i < X.length → ∃ b off a c', A = some ⟨b, off, none⟩ ∧ b < B ∧ w.cell? ⟨b, off + i, none⟩ = some (.slice a (X.getD i []).length c') ∧ Reads w B a (u32s (X.getD i []))
/-- a list of one's own, of rows of words -/
structure Lst (w : World) (N B : Nat) (v : Value) (X : List (List Nat)) (cs : List Value) : Prop where
  own : w.ownsRow N 22 1 v X.length cs
  lt : ∀ b, v.ownBlock = some b → b < B
  row : ∀ i, i < X.length → ∃ a c, cs[i]? = some (.slice a (X.getD i []).length c) ∧ Reads w B a (u32s (X.getD i [])) ∧ ∀ b o, a = some ⟨b, o, none⟩ → 0 < (X.getD i []).length → v.ownBlock ≠ some b
section
variable {w w' : World} {N B B' : Nat} {v : Value} {X : List (List Nat)} {cs : List Value}
theorem Rws.below (h : Rws w B v X) (hb : Below B w w') : Rws w' B v X := by
  obtain ⟨A, c, rfl, H⟩ := h
  refine ⟨A, c, rfl, fun i hi => ?_⟩
  obtain ⟨b, off, a, c', e, hl, hc, hr⟩ := H i hi
  exact ⟨b, off, a, c', e, hl, (hb.cell (p := ⟨b, off + i, none⟩) hl).trans hc, hr.below hb⟩
theorem Rws.more (h : Rws w B v X) (hB : B ≤ B') : Rws w B' v X := by
  obtain ⟨A, c, rfl, H⟩ := h
  refine ⟨A, c, rfl, fun i hi => ?_⟩
  obtain ⟨b, off, a, c', e, hl, hc, hr⟩ := H i hi
  exact ⟨b, off, a, c', e, by omega, hc, hr.more hB⟩
theorem Lst.nil (w : World) (N B : Nat) : Lst w N B (.slice none 0 0) [] [] := ⟨World.ownsRow_nil _ _ _ _, fun b h => by simp [Value.ownBlock] at h, fun i hi => absurd hi (by simp)⟩
theorem Lst.below (h : Lst w N B v X cs) (hb : Below B w w') : Lst w' N B v X cs := by
  refine ⟨?_, h.lt, fun i hi => ?_⟩
  · refine ⟨h.own.1, ?_⟩
    have hl := h.lt
    rcases h.own.2 with hn | ⟨g, cap, cur, rfl, hN, hg, rest⟩
    · exact .inl hn
    · exact .inr ⟨g, cap, cur, rfl, hN, (hb.block g (hl g rfl)).trans hg, rest⟩
  · obtain ⟨a, c, e, hr, hn⟩ := h.row i hi
    exact ⟨a, c, e, hr.below hb, hn⟩
theorem Lst.more (h : Lst w N B v X cs) (hB : B ≤ B') : Lst w N B' v X cs :=
  ⟨h.own, fun b hb => Nat.lt_of_lt_of_le (h.lt b hb) hB, fun i hi => by
    obtain ⟨a, c, e, hr, hn⟩ := h.row i hi
    exact ⟨a, c, e, hr.more hB, hn⟩⟩
theorem Lst.form (h : Lst w N B v X cs) : ∃ A c, v = .slice A X.length c ∧ cs.length = X.length ∧ (0 < X.length → ∃ g, A = some ⟨g, 0, none⟩ ∧ N ≤ g ∧ g < B) := by
  obtain ⟨A, c, e, hl, hA, _⟩ := own_form h.own
  refine ⟨A, c, e, hl.symm, fun h0 => ?_⟩
  obtain ⟨g, rfl, hg⟩ := hA h0
  exact ⟨g, rfl, hg, h.lt g (by rw [e]; rfl)⟩
theorem Lst.reads (h : Lst w N B v X cs) : Rws w B v X := by
  obtain ⟨A, c, rfl, hl, hA⟩ := h.form
  refine ⟨A, c, rfl, fun i hi => ?_⟩
  obtain ⟨g, rfl, hN, hg⟩ := hA (by omega)
  obtain ⟨a, c', e, hr, hn⟩ := h.row i hi
  exact ⟨g, 0, a, c', rfl, hg, by rw [Nat.zero_add, h.own.cellAt i (by omega)]; exact e, hr⟩
/-- one row is put behind -/
theorem Lst.app (h : Lst w N B v X cs) (hN : N ≤ w.heap.size) (hB : B ≤ w.heap.size) {g : Nat} {a : Option Addr} {l : List Nat} {c : Nat} (hg : RowAt w g 22 #[.slice a l.length c]) (hr : Reads w w.heap.size a (u32s l)) (hne : ∀ b o, a = some ⟨b, o, none⟩ → v.ownBlock ≠ some b) (hX : X.length ≤ 1000000) (ty : TypeId) :
    ∃ v' w', (Builtin.append_ #[30, 30] ty #[v, .slice (some ⟨g, 0, none⟩) 1 1]).run Tryd.prog w = .ok v' w' ∧ Lst w' N w'.heap.size v' (X ++ [l]) (cs ++ [.slice a l.length c]) ∧ w.grownBy w' v.ownBlock := by
  obtain ⟨i, hi, hz, hs, hby⟩ := info_parts sl_info
  obtain ⟨v', w', hrun, ho, hgr, _, hb⟩ := run_append_own_at (P := Tryd.prog) w N 30 ty 22 i _ 1 24 Tryd.underlying30 hi hz hs hby rfl (by decide) v X.length cs h.own ⟨g, 0, none⟩ 1 1 [.slice a l.length c] rfl
    (fun j u hj => by
      rw [Go.WideShapes.add_plain, Nat.zero_add, hg.cell j]
      simpa using hj) (fun u hu => by simp at hu; subst hu; rfl) (by unfold maxLen; omega) (by omega) hN
  have hlt := ho.lt
  have hcs : cs.length = X.length := by have := h.own.1; omega
  have hkeep : ∀ {a : Option Addr} {ys : List Nat} {B : Nat}, B ≤ w.heap.size → Reads w B a (u32s ys) → (∀ b o, a = some ⟨b, o, none⟩ → 0 < ys.length → v.ownBlock ≠ some b) → Reads w' w'.heap.size a (u32s ys) ∧ ∀ b o, a = some ⟨b, o, none⟩ → 0 < ys.length → v'.ownBlock ≠ some b := fun {a ys B} hB hr hn => by
    refine ⟨fun k hk => ?_, fun b o e h0 => ?_⟩
    · obtain ⟨b, o, e, hl, hc⟩ := hr k hk
      have hk' : k < ys.length := by rwa [u32s_length] at hk
      exact ⟨b, o, e, by have := hgr.size; omega, (World.cell?_of_block (w := w) (a := ⟨b, o + k, none⟩) (hgr.block b (by omega) (fun e2 => hn b o e (by omega) e2.symm))).trans hc⟩
    · obtain ⟨b', o', e', hl, _⟩ := hr 0 (by rw [u32s_length]; exact h0)
      rw [e] at e'
      cases e'
      rcases hb with hb | hb
      · rw [hb]; exact hn b o e h0
      · rw [hb]; simp; omega
  refine ⟨v', w', hrun, ⟨by rw [List.length_append]; exact ho, fun b hb => (hlt b hb).2, fun i hi => ?_⟩, hgr⟩
  rw [List.length_append, List.length_singleton] at hi
  by_cases h1 : i < X.length
  · obtain ⟨a', c', e, hr', hn⟩ := h.row i h1
    have eX : (X ++ [l]).getD i [] = X.getD i [] := by rw [List.getD_eq_getElem?_getD, List.getElem?_append_left h1, ← List.getD_eq_getElem?_getD]
    rw [eX]
    obtain ⟨k1, k2⟩ := hkeep hB hr' hn
    exact ⟨a', c', by rw [List.getElem?_append_left (by omega)]; exact e, k1, k2⟩
  · obtain rfl : i = X.length := by omega
    have eX : (X ++ [l]).getD X.length [] = l := by rw [List.getD_eq_getElem?_getD, List.getElem?_append_right (Nat.le_refl _)]; simp
    rw [eX]
    obtain ⟨k1, k2⟩ := hkeep (Nat.le_refl _) hr fun b o e _ => hne b o e
    exact ⟨a, c, by rw [List.getElem?_append_right (by omega), hcs]; simp, k1, k2⟩
/-- one row is stored -/
theorem Lst.set {g n c : Nat} (h : Lst w N B (.slice (some ⟨g, 0, none⟩) n c) X cs) (hB : B ≤ B') {a : Option Addr} {l : List Nat} {c' : Nat} (hr : Reads w B' a (u32s l)) (hne : ∀ b o, a = some ⟨b, o, none⟩ → 0 < l.length → g ≠ b) (j : Nat) (hj : j < X.length) :
    Lst (w.setCell ⟨g, j, none⟩ (.slice a l.length c')) N B' (.slice (some ⟨g, 0, none⟩) n c) (X.set j l) (cs.set j (.slice a l.length c')) := by
  have hn : n = X.length := by
    obtain ⟨A, c, e, _⟩ := h.form
    injection e
  subst hn
  have hcs : cs.length = X.length := by have := h.own.1; omega
  have hkeep : ∀ {x : Option Addr} {ys : List Nat} {B : Nat}, Reads w B x (u32s ys) → (∀ b o, x = some ⟨b, o, none⟩ → 0 < ys.length → g ≠ b) → Reads (w.setCell ⟨g, j, none⟩ (.slice a l.length c')) B x (u32s ys) := fun {x ys B} hr hn k hk => by
    obtain ⟨b, o, e, hl, hc⟩ := hr k hk
    have hk' : k < ys.length := by rwa [u32s_length] at hk
    exact ⟨b, o, e, hl, by
      rw [World.cell?_of_block (w := w) (a := ⟨b, o + k, none⟩) (Below.heap_setCell _ _ _ _ fun e2 => hn b o e (by omega) e2.symm)]
      exact hc⟩
  refine ⟨by rw [List.length_set]; exact (h.own.stored j _).1, fun b hb => Nat.lt_of_lt_of_le (h.lt b hb) hB, fun i hi => ?_⟩
  rw [List.length_set] at hi
  rw [setl_at _ _ _ _ _ hj]
  by_cases e : j = i
  · subst e
    rw [if_pos rfl]
    exact ⟨a, c', by rw [List.getElem?_set_self (by omega)], hkeep hr hne, fun b o e h0 => by simp only [Value.ownBlock, ne_eq, Option.some.injEq]; exact hne b o e h0⟩
  · rw [if_neg e]
    obtain ⟨a2, c2, e2, hr2, hn2⟩ := h.row i hi
    exact ⟨a2, c2, by rw [List.getElem?_set_ne e]; exact e2, (hkeep hr2 fun b o e h0 => by have := hn2 b o e h0; simpa [Value.ownBlock] using this).more hB, hn2⟩
/-- a row that is copied -/
theorem app_copy {A : Option Addr} {l : List Nat} {c : Nat} (hr : Reads w w.heap.size A (u32s l)) (hl : l.length ≤ 1000000) (ty : TypeId) :
    ∃ v' w', (Builtin.append_ #[22, 22] ty #[.slice (some ⟨w.heap.size, 0, none⟩) 0 0, .slice A l.length c]).run Tryd.prog (w.alloc (.cells #[] 50)) = .ok v' w' ∧ w'.ownsRow w.heap.size 50 1 v' l.length (u32s l) ∧ Below w.heap.size w w' := by
  obtain ⟨i, hi, hz, hs, hby⟩ := info_parts u32_info
  have hb1 := (Below.refl w.heap.size w).alloc (Nat.le_refl _) (.cells #[] 50)
  have h0 : (w.alloc (.cells #[] 50)).ownsRow w.heap.size 50 1 (.slice (some ⟨w.heap.size, 0, none⟩) 0 0) 0 [] := ⟨rfl, .inr ⟨_, 0, #[], rfl, Nat.le_refl _, heap_alloc_last w _, Nat.le_refl _, Nat.zero_le _, rfl, rfl⟩⟩
  cases l with
  | nil => exact ⟨_, _, append_empty _ _ _ _ _ _ 1 Tryd.underlying22 hi _ 0 [] h0 A c, h0, hb1⟩
  | cons y ys =>
    obtain ⟨b, o, e, hlt, _⟩ := hr 0 (by simp [u32s])
    subst e
    obtain ⟨v', w', hrun, ho, hgr, _, _⟩ := run_append_own_at (P := Tryd.prog) (w.alloc (.cells #[] 50)) w.heap.size 22 ty 50 i _ 1 4 Tryd.underlying22 hi hz hs hby rfl (by decide) _ 0 [] h0 ⟨b, o, none⟩ (y :: ys).length c (u32s (y :: ys)) (by rw [u32s_length, Nat.mul_one])
      (fun j u hj => by
        obtain ⟨hj', rfl⟩ := List.getElem?_eq_some_iff.1 hj
        obtain ⟨b', o', e', hl', hc⟩ := hr j hj'
        cases e'
        rw [Go.WideShapes.add_plain]
        exact (hb1.cell (p := ⟨b, o + j, none⟩) hl').trans hc) (fun u hu => by simp only [u32s, List.mem_map] at hu; obtain ⟨x, _, rfl⟩ := hu; rfl) (by unfold maxLen; omega) (by omega) (by simp)
    rw [Nat.zero_add, List.nil_append] at ho
    exact ⟨v', w', hrun, ho, hb1.grown hgr (by simp) (by simp [Value.ownBlock])⟩
end
end Go.Proofs.YtohmkhmanidljaaDoor

/- What Put keeps while it goes on: the feed, its held row, the blocks that were handed on, and all other memory. No condition but those typed. -/
import Derived.Test.YtebocfbnamcnoaaDoorFdSmall
namespace Go.Proofs.YtebocfbnamcnoaaDoor
set_option maxRecDepth 50000
open Go.RowKit

/-- the blocks of memory that a feed may turn -/
def Mine (F : Nat) (v : Value) : Nat → Prop := fun k => k = F ∨ v.ownBlock = some k
/-- block g of memory begins with these bytes -/
def Row (w : World) (g : Nat) (b : List UInt8) : Prop := ∃ cur fz, w.heap[g]? = some (.cells cur 5 fz) ∧ cur.toList.take b.length = cs b
theorem Row.lt {w : World} {g : Nat} {b : List UInt8} (h : Row w g b) : g < w.heap.size := by
  obtain ⟨cur, fz, hg, _⟩ := h
  exact (Array.getElem?_eq_some_iff.1 hg).1
theorem Row.of_eq {w w' : World} {g : Nat} {b : List UInt8} (h : Row w g b) (e : w'.heap[g]? = w.heap[g]?) : Row w' g b := by
  obtain ⟨cur, fz, hg, h2⟩ := h
  exact ⟨cur, fz, e.trans hg, h2⟩
theorem Row.reads {w : World} {g : Nat} {b : List UInt8} (h : Row w g b) : Reads w w.heap.size (some ⟨g, 0, none⟩) (cs b) := fun k hk => by
  refine ⟨g, 0, rfl, h.lt, ?_⟩
  obtain ⟨cur, fz, hg, h2⟩ := h
  rw [Nat.zero_add, cell_of_row w g k cur _ fz hg]
  have e : cur.toList[k]? = (cur.toList.take b.length)[k]? := by rw [List.getElem?_take, if_pos (by rw [cs_length] at hk; exact hk)]
  rw [← Array.getElem?_toList, e, h2, List.getElem?_eq_getElem hk]
theorem Row.own {w : World} {B g c : Nat} {b : List UInt8} (h : w.ownsRow B 5 1 (.slice (some ⟨g, 0, none⟩) b.length c) b.length (cs b)) : Row w g b := by
  rcases h.2 with ⟨e, _⟩ | ⟨g', cap, cur, e, _, hg, _, _, _, h4⟩
  · cases e
  · injection e with e1 _ _
    injection e1 with e1
    injection e1 with e1 _ _
    subst e1
    exact ⟨cur, (0, 0), hg, by rw [Nat.mul_one] at h4; exact h4⟩
/-- these blocks of memory begin with these texts -/
def Outs (w : World) (gs : List Nat) (bs : List (List UInt8)) : Prop := gs.length = bs.length ∧ ∀ i, (h : i < gs.length) → (h2 : i < bs.length) → Row w gs[i] bs[i]
theorem Outs.keep {w w' : World} {gs : List Nat} {bs : List (List UInt8)} (h : Outs w gs bs) (hk : ∀ g ∈ gs, g < w.heap.size → w'.heap[g]? = w.heap[g]?) : Outs w' gs bs :=
  ⟨h.1, fun i h1 h2 => (h.2 i h1 h2).of_eq (hk _ (List.getElem_mem h1) (h.2 i h1 h2).lt)⟩
theorem Outs.lt {w : World} {gs : List Nat} {bs : List (List UInt8)} (h : Outs w gs bs) : ∀ g ∈ gs, g < w.heap.size := by
  intro g hg
  obtain ⟨i, hi, rfl⟩ := List.getElem_of_mem hg
  exact (h.2 i hi (by rw [← h.1]; exact hi)).lt
theorem Outs.snoc {w : World} {gs : List Nat} {bs : List (List UInt8)} (h : Outs w gs bs) {g : Nat} {b : List UInt8} (hr : Row w g b) : Outs w (gs ++ [g]) (bs ++ [b]) := by
  refine ⟨by simp [h.1], fun i h1 h2 => ?_⟩
  by_cases hi : i < gs.length
  · rw [List.getElem_append_left hi, List.getElem_append_left (by rw [← h.1]; exact hi)]
    exact h.2 i hi _
  · have e : i = gs.length := by simp at h1; omega
    subst e
    have e2 := h.1
    have e3 : (gs ++ [g])[gs.length]'h1 = g := by simp
    have e4 : (bs ++ [b])[gs.length]'h2 = b := by rw [List.getElem_append_right (by omega)]; simp [e2]
    rw [e3, e4]
    exact hr
def sls (n : Nat) (gs : List Nat) : List Value := gs.map fun g => Value.slice (some ⟨g, 0, none⟩) n n

structure Put1 (w0 w : World) (B F n : Nat) (lz : Bool) (v0 vb v : Value) (h : List UInt8) (t : Nat) (gs : List Nat) (bs : List (List UInt8)) : Prop where
  row : FeedRow w F n lz v t
  held : w.ownsRow B 5 1 v h.length (cs h)
  vF : ∀ k, v.ownBlock = some k → k ≠ F
  vat : ∀ k, v.ownBlock = some k → v0.ownBlock = some k ∨ w0.heap.size ≤ k
  list : w.ownsRow w0.heap.size 48 1 vb gs.length (sls n gs)
  apart : ∀ k, v.ownBlock = some k → ∀ j, vb.ownBlock = some j → k ≠ j
  outs : Outs w gs bs
  gat : ∀ g ∈ gs, v0.ownBlock = some g ∨ w0.heap.size ≤ g
  gF : ∀ g ∈ gs, g ≠ F
  gv : ∀ g ∈ gs, ∀ k, v.ownBlock = some k → g ≠ k
  gl : ∀ g ∈ gs, ∀ k, vb.ownBlock = some k → g ≠ k
  kept : Kept (Mine F v0) w0 w
  old : F < w0.heap.size
section
variable {w0 w w' : World} {B F n g c : Nat} {lz : Bool} {v0 vb v : Value} {h : List UInt8} {t : Nat} {gs : List Nat} {bs : List (List UInt8)}
theorem Put1.start (hr : FeedRow w F n lz v t) (hh : w.ownsRow B 5 1 v h.length (cs h)) (hv : ∀ k, v.ownBlock = some k → k ≠ F) : Put1 w w B F n lz v (.slice none 0 0) v h t [] [] :=
  ⟨hr, hh, hv, fun k hk => .inl hk, World.ownsRow_nil _ _ _ _, fun _ _ j hj => (by simp [Value.ownBlock] at hj), ⟨rfl, fun i h1 => absurd h1 (by simp)⟩, fun g hg => (by cases hg), fun g hg => (by cases hg), fun g hg => (by cases hg), fun g hg => (by cases hg), Kept.refl _ _, hr.lt⟩
theorem Put1.step (p : Put1 w0 w B F n lz v0 vb v h t gs bs) (hb : Below w.heap.size w w') : Put1 w0 w' B F n lz v0 vb v h t gs bs :=
  ⟨p.row.below hb, own_kept p.held (Kept.of_below (M := fun _ => False) hb) (fun _ _ => id), p.vF, p.vat, own_kept p.list (Kept.of_below (M := fun _ => False) hb) (fun _ _ => id), p.apart,
    p.outs.keep fun g _ hl => hb.block g hl, p.gat, p.gF, p.gv, p.gl, p.kept.trans (Kept.of_below (M := fun _ => False) hb) fun _ _ => False.elim, p.old⟩
theorem Put1.drew (p : Put1 w0 w B F n lz v0 vb v h t gs bs) : Put1 w0 w.drew B F n lz v0 vb v h t gs bs := p.step (Below.refl _ _).drew
theorem Put1.drewN (p : Put1 w0 w B F n lz v0 vb v h t gs bs) (q : Nat) : Put1 w0 (w.drewN q) B F n lz v0 vb v h t gs bs := p.step ⟨rfl, rfl, rfl, Nat.le_refl _, fun _ _ => rfl⟩
theorem Kept.at_set (w : World) (F o : Nat) (u : Value) : Kept (fun k => k = F) w (w.setCell ⟨F, o, none⟩ u) := ⟨rfl, rfl, rfl, by simp [World.setCell], fun k _ hk => Below.heap_setCell _ _ _ k (by simpa using hk)⟩
/-- a store into the feed itself -/
theorem Put1.stored (p : Put1 w0 w B F n lz v0 vb v h t gs bs) {o : Nat} {u : Value} {t' : Nat} (hr : FeedRow (w.setCell ⟨F, o, none⟩ u) F n lz v t') : Put1 w0 (w.setCell ⟨F, o, none⟩ u) B F n lz v0 vb v h t' gs bs := by
  have hk := Kept.at_set w F o u
  refine ⟨hr, own_kept p.held hk fun k e => p.vF k e, p.vF, p.vat, own_kept p.list hk fun k e => ?_, p.apart, p.outs.keep fun g hg hl => hk.block g hl (p.gF g hg), p.gat, p.gF, p.gv, p.gl, p.kept.trans hk fun x _ hx => .inl hx, p.old⟩
  have := (p.list.lt k e).1
  have := p.old
  omega
theorem Put1.total (p : Put1 w0 w B F n lz v0 vb v h t gs bs) (t' : Nat) : Put1 w0 (w.setCell ⟨F, 3, none⟩ (.int .i64 (t' : Int))) B F n lz v0 vb v h t' gs bs := p.stored (p.row.set3 t')
/-- bytes are put behind what is held -/
theorem Put1.more (p : Put1 w0 w B F n lz v0 vb v h t gs bs) {v' : Value} {m : List UInt8} (ho : w'.ownsRow B 5 1 v' (h ++ m).length (cs (h ++ m))) (hg : w.grownBy w' v.ownBlock) (hat : v'.ownBlock = v.ownBlock ∨ ∃ g, v'.ownBlock = some g ∧ w.heap.size ≤ g) :
    Put1 w0 (w'.setCell ⟨F, 2, none⟩ v') B F n lz v0 vb v' (h ++ m) t gs bs := by
  have hsz := p.kept.size
  have hold := p.old
  have hv' : ∀ k, v'.ownBlock = some k → v.ownBlock = some k ∨ w.heap.size ≤ k := fun k hk => by
    rcases hat with e | ⟨g, e, hl⟩
    · exact .inl (by rw [← e]; exact hk)
    · rw [e] at hk; injection hk with hk; exact .inr (by omega)
  have hvF : ∀ k, v'.ownBlock = some k → k ≠ F := fun k hk => by
    rcases hv' k hk with e | e
    · exact p.vF k e
    · omega
  have hk := Kept.at_set w' F 2 v'
  refine ⟨(p.row.grown hg fun e => p.vF F e rfl).set2 v', own_kept ho hk fun k e => hvF k e, hvF, fun k e => ?_, own_kept (p.list.kept hg ?_) hk fun k e => ?_, fun k e j ej => ?_, (p.outs.keep fun g hm hl => hg.block g hl fun e => p.gv g hm g e.symm rfl).keep fun g hm _ => hk.block g (Nat.lt_of_lt_of_le (p.outs.lt g hm) hg.size) (p.gF g hm), p.gat, p.gF, fun g hm k e => ?_, p.gl, ?_, hold⟩
  · rcases hv' k e with e | e
    · exact p.vat k e
    · exact .inr (by omega)
  · cases hvb : vb.ownBlock with
    | none => exact .inl rfl
    | some j => exact .inr fun e => p.apart j e.symm j hvb rfl
  · have := (p.list.lt k e).1; omega
  · rcases hv' k e with e | e
    · exact p.apart k e j ej
    · have := (p.list.lt j ej).2; omega
  · rcases hv' k e with e | e
    · exact p.gv g hm k e
    · have := p.outs.lt g hm; omega
  · refine (p.kept.grown hg fun k e => ?_).set (.inl (.inl rfl)) _
    rcases p.vat k e with e | e
    · exact .inl (.inr e)
    · exact .inr e
/-- what is held is handed on -/
theorem Put1.on (p : Put1 w0 w B F n lz v0 vb (.slice (some ⟨g, 0, none⟩) n c) h t gs bs) (hh : h.length = n) {vb' : Value} {o : Obj} (ho : w'.ownsRow w0.heap.size 48 1 vb' (gs.length + 1) (sls n gs ++ [.slice (some ⟨g, 0, none⟩) n n])) (hg : (w.alloc o).grownBy w' vb.ownBlock) (hat : vb'.ownBlock = vb.ownBlock ∨ vb'.ownBlock = some (w.alloc o).heap.size) :
    Put1 w0 (w'.setCell ⟨F, 2, none⟩ (.slice none 0 0)) B F n lz v0 vb' (.slice none 0 0) [] t (gs ++ [g]) (bs ++ [h]) := by
  have hsz := p.kept.size
  have hold := p.old
  have q := p.step ((Below.refl w.heap.size w).alloc (Nat.le_refl _) o)
  have hk := Kept.at_set w' F 2 (.slice none 0 0)
  have hvb : ∀ k, vb'.ownBlock = some k → vb.ownBlock = some k ∨ (w.alloc o).heap.size ≤ k := fun k hk => by
    rcases hat with e | e
    · exact .inl (by rw [← e]; exact hk)
    · rw [e] at hk; injection hk with hk; exact .inr (by omega)
  have hgF : g ≠ F := p.vF g rfl
  have hgl : g < w.heap.size := (p.held.lt g rfl).2
  have hpick : ∀ x ∈ gs ++ [g], x ∈ gs ∨ x = g := fun x hx => by
    rcases List.mem_append.1 hx with hx | hx
    · exact .inl hx
    · exact .inr (by simpa using hx)
  have hrow : Row w g h := by
    have := p.held
    rw [← hh] at this
    exact Row.own this
  have hone : ∀ k, (.slice none 0 0 : Value).ownBlock = some k → False := fun k hk => by simp [Value.ownBlock] at hk
  have hasz : (w.alloc o).heap.size = w.heap.size + 1 := by simp
  refine ⟨(q.row.grown hg fun e => ?_).set2 _, World.ownsRow_nil _ _ _ _, fun k e => (hone k e).elim, fun k e => (hone k e).elim, own_kept (by rw [List.length_append]; simpa [sls] using ho) hk fun k e => ?_, fun k e => (hone k e).elim, ?_, fun x hx => ?_, fun x hx => ?_, fun _ _ k e => (hone k e).elim, fun x hx k e => ?_, ?_, hold⟩
  · have := (p.list.lt F e).1; omega
  · have := (ho.lt k e).1; omega
  · refine Outs.snoc ?_ ?_
    · exact (q.outs.keep fun x hm hl => hg.block x hl fun e => q.gl x hm x e.symm rfl).keep fun x hm _ => hk.block x (Nat.lt_of_lt_of_le (q.outs.lt x hm) hg.size) (q.gF x hm)
    · refine (hrow.of_eq (Below.heap_alloc w o g hgl)).of_eq ?_ |>.of_eq (hk.block g ?_ hgF)
      · exact hg.block g (by omega) fun e => p.apart g rfl g e.symm rfl
      · have := hg.size; omega
  · rcases hpick x hx with hx | rfl
    · exact p.gat x hx
    · exact p.vat x rfl
  · rcases hpick x hx with hx | rfl
    · exact p.gF x hx
    · exact hgF
  · rcases hpick x hx with hx | rfl
    · rcases hvb k e with e | e
      · exact p.gl x hx k e
      · have := q.outs.lt x hx; omega
    · rcases hvb k e with e | e
      · exact p.apart x rfl k e
      · omega
  · refine (q.kept.grown hg fun k e => ?_).set (.inl (.inl rfl)) _
    exact .inr (p.list.lt k e).1
end
end Go.Proofs.YtebocfbnamcnoaaDoor

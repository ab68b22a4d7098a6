/- Xor and Clean of package block, and the document's Xor, by their contracts. Conditions: those typed. -/
import Derived.Test.YtohmkhmanidljaaDoorRmHalf
import Derived.LoopTactic
import Derived.RegionTactic
namespace Go.Proofs.YtohmkhmanidljaaDoor
set_option maxRecDepth 50000
open Go.RowKit Bb

/-- blocks one behind the other, as cells -/
def bcs (l : List (List Nat)) : List Value := l.flatMap u64s
theorem bcs_append (a b : List (List Nat)) : bcs (a ++ b) = bcs a ++ bcs b := by simp [bcs]
theorem bcs_length : ∀ {l : List (List Nat)}, (∀ b ∈ l, okb b) → (bcs l).length = l.length * 128
  | [], _ => rfl
  | b :: l, h => by
    have := bcs_length (l := l) fun x hx => h x (by simp [hx])
    have h1 := (h b (by simp)).1
    unfold bcs at *
    rw [List.flatMap_cons, List.length_append, this, u64s_length, h1, List.length_cons]
    omega
theorem bcs_at : ∀ {l : List (List Nat)}, (∀ b ∈ l, okb b) → ∀ i k, i < l.length → k < 128 → (bcs l)[i * 128 + k]? = some (.int .u64 (((l.getD i []).getD k 0 : Nat) : Int))
  | [], _, _, _, hi, _ => by simp at hi
  | b :: l, h, i, k, hi, hk => by
    have h1 := (h b (by simp)).1
    have e : bcs (b :: l) = u64s b ++ bcs l := by simp [bcs]
    rw [e]
    cases i with
    | zero =>
      rw [Nat.zero_mul, Nat.zero_add, List.getElem?_append_left (by rw [u64s_length, h1]; exact hk)]
      simp [u64s, List.getD_eq_getElem?_getD, List.getElem?_eq_getElem (show k < b.length by omega)]
    | succ i =>
      rw [List.getElem?_append_right (by rw [u64s_length, h1]; omega), u64s_length, h1, show (i + 1) * 128 + k - 128 = i * 128 + k by omega,
        bcs_at (fun x hx => h x (by simp [hx])) i k (by simpa using hi) hk]
      simp
theorem reads_b {w : World} {B : Nat} {A : Option Addr} {l : List (List Nat)} (hr : Reads w B A (bcs l)) (ho : ∀ b ∈ l, okb b) (i : Nat) (hi : i < l.length) :
    ∃ b off, A = some ⟨b, off, none⟩ ∧ b < B ∧ ∀ k, k < 128 → w.cell? ⟨b, off + i * 128 + k, none⟩ = some (.int .u64 (((l.getD i []).getD k 0 : Nat) : Int)) := by
  have hl := bcs_length ho
  obtain ⟨b, off, e, hb, _⟩ := hr 0 (by omega)
  refine ⟨b, off, e, hb, fun k hk => ?_⟩
  obtain ⟨b', off', e', _, hc⟩ := hr (i * 128 + k) (by omega)
  rw [e] at e'
  cases e'
  rw [Nat.add_assoc, hc, ← List.getElem?_eq_getElem, bcs_at ho i k hi hk]

/-- a row for the answer, and one that is worked on -/
structure Xx (w wr : World) (x : List Nat) : Prop where
  rz : RowAt wr w.heap.size 95 (wq zb)
  rx : RowAt wr (w.heap.size + 1) 95 (wq x)
  below : Below w.heap.size w wr
section
variable {w wr wr' : World} {x : List Nat}
theorem Xx.new (w : World) : Xx w ((w.alloc (.cells (wq zb) 95)).alloc (.cells (wq zb) 95)) zb := by
  refine ⟨(RowAt.new w _ _).alloc _, ?_, ((Below.refl _ w).alloc (Nat.le_refl _) _).alloc (by simp) _⟩
  have h := RowAt.new (w.alloc (.cells (wq zb) 95)) 95 (wq zb)
  rw [World.size_alloc] at h; exact h
theorem Xx.drewN (h : Xx w wr x) (k : Nat) : Xx w (wr.drewN k) x := ⟨h.rz, h.rx, below_drewN h.below k⟩
theorem Xx.drew (h : Xx w wr x) : Xx w wr.drew x := h.drewN 1
theorem Xx.set (h : Xx w wr x) (i v : Nat) : Xx w (wr.setCell ⟨w.heap.size + 1, i, none⟩ (.int .u64 (v : Int))) (x.set i v) :=
  ⟨h.rz.setOther _ (by simp) _, by rw [← wq_set]; exact h.rx.setCell i _, h.below.setCell (by simp) _⟩
end

/-- a block loaded out of a row -/
theorem load_b {w : World} {b o : Nat} {L : List Nat} (hL : L.length = 128) (h : ∀ k, k < 128 → w.cell? ⟨b, o + k, none⟩ = some (.int .u64 (L.getD k 0 : Nat))) : (loadVar 95 ⟨b, o, none⟩).run Tryd.prog w = .ok (.agg (wq L)) w := by
  have hl : (loadCells ⟨b, o, none⟩ (u64s L).length).run Tryd.prog w = .ok (u64s L).toArray w :=
    run_loadCells_list (P := Tryd.prog) w ⟨b, o, none⟩ _ (fun j v hv => by
      have hj : j < 128 := by
        have := (List.getElem?_eq_some_iff.1 hv).1
        rwa [u64s_length, hL] at this
      rw [Go.WideShapes.add_plain, h j hj, ← hv]
      unfold u64s
      rw [List.getElem?_map, List.getElem?_eq_getElem (by omega), List.getD_eq_getElem?_getD, List.getElem?_eq_getElem (by omega)]
      rfl)
  rw [u64s_length, hL] at hl
  have hz := b_size
  cases hq : Tryd.prog.info? 95 with
  | none => rw [hq] at hz; simp at hz
  | some i =>
    have hsz : i.size = 128 := by rw [hq] at hz; simpa using hz
    simp [loadVar, Sem.run_bind, sizeOf, typeInfo, hq, hsz, hl, wq]

end Go.Proofs.YtohmkhmanidljaaDoor

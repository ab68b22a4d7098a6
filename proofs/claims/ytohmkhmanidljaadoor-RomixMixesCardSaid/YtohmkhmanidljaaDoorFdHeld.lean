/- A feed in memory: its four fields, and the row of bytes that it holds; memory that is kept but for some blocks; a text's bytes put behind a row of one's own, and where the row lies then. No condition but those typed. -/
import Derived.Test.YtohmkhmanidljaaDoorFdPure
import Derived.Lib.AppendStr
import Derived.Lib.Hide
import Derived.Laws.BytesArg
import Derived.Lib.BufferRead
import Derived.Deep.AppendLies
import Derived.IntWalk
import Derived.LoopTactic
import Derived.Outline
import Derived.RegionTactic
import Derived.ChangeAlike
import Derived.Deep.QuietTactic
import Derived.BigQuiet
import Derived.Deep.RegionLaw
namespace Go.Proofs.YtohmkhmanidljaaDoor
set_option maxRecDepth 50000
open Go.RowKit

/-- bytes as cells, as a text, and a text's bytes -/
def cs (l : List UInt8) : List Value := l.map fun b => Value.int .u8 b.toNat
def tx (l : List UInt8) : ByteArray := ⟨l.toArray⟩
def tl (s : ByteArray) : List UInt8 := s.data.toList
theorem cs_tl (s : ByteArray) : Lib.strCells s = cs (tl s) := rfl
theorem cs_append (a b : List UInt8) : cs (a ++ b) = cs a ++ cs b := by simp [cs]
theorem cs_length (a : List UInt8) : (cs a).length = a.length := by simp [cs]
theorem tl_tx (l : List UInt8) : tl (tx l) = l := by simp [tl, tx]
theorem tx_tl (s : ByteArray) : tx (tl s) = s := by unfold tx tl; rw [Array.toArray_toList]
theorem tl_length (s : ByteArray) : (tl s).length = s.size := by unfold tl; rw [Array.length_toList]; rfl
theorem tx_size (l : List UInt8) : (tx l).size = l.length := by rw [← tl_length, tl_tx]
theorem tx_inj {a b : List UInt8} (h : tx a = tx b) : a = b := by rw [← tl_tx a, h, tl_tx]
theorem tl_inj {a b : ByteArray} (h : tl a = tl b) : a = b := by rw [← tx_tl a, h, tx_tl]
theorem cs_at (l : List UInt8) (k : Nat) (h : k < (cs l).length) : (cs l)[k] = .int .u8 ((l[k]'(by simpa [cs] using h)).toNat : Int) := by simp [cs]
theorem cs_one (l : List UInt8) : ∀ u ∈ cs l, u.oneCell' = true := by
  intro u hu
  obtain ⟨x, _, rfl⟩ := List.mem_map.1 hu
  rfl

theorem fd_info_u8 : (Tryd.prog.info? 5).map (fun i => (i.zero, i.size, i.bytes)) = some (some (.int .u8 0), 1, 1) := by kernel_rfl

theorem below_step {a b c : World} (h : Below a.heap.size a b) (k : Below b.heap.size b c) : Below a.heap.size a c := h.trans (k.mono h.size)

/-- memory is as it was, but for the blocks of M and new ones -/
structure Kept (M : Nat → Prop) (w w' : World) : Prop where
  os : w'.os = w.os
  tape : w'.tape = w.tape
  output : w'.output = w.output
  size : w.heap.size ≤ w'.heap.size
  block : ∀ k, k < w.heap.size → ¬ M k → w'.heap[k]? = w.heap[k]?
section
variable {M M' : Nat → Prop} {a b c w w' : World}
theorem Kept.refl (M : Nat → Prop) (w : World) : Kept M w w := ⟨rfl, rfl, rfl, Nat.le_refl _, fun _ _ _ => rfl⟩
theorem Kept.trans (h : Kept M a b) (k : Kept M' b c) (hM : ∀ x, x < a.heap.size → M' x → M x) : Kept M a c :=
  ⟨k.os.trans h.os, k.tape.trans h.tape, k.output.trans h.output, Nat.le_trans h.size k.size, fun i hi hn => (k.block i (Nat.lt_of_lt_of_le hi h.size) fun x => hn (hM i hi x)).trans (h.block i hi hn)⟩
theorem Kept.mono (h : Kept M w w') (hM : ∀ x, x < w.heap.size → M x → M' x) : Kept M' w w' := ⟨h.os, h.tape, h.output, h.size, fun i hi hn => h.block i hi fun x => hn (hM i hi x)⟩
theorem Kept.of_below (h : Below w.heap.size w w') : Kept M w w' := ⟨h.os, h.tape, h.output, h.size, fun i hi _ => h.block i hi⟩
theorem Kept.below {B : Nat} (h : Kept M w w') (hB : B ≤ w.heap.size) (hM : ∀ x, M x → B ≤ x) : Below B w w' :=
  ⟨h.os, h.tape, h.output, h.size, fun i hi => h.block i (by omega) fun x => by have := hM i x; omega⟩
theorem Kept.drew (h : Kept M w w') : Kept M w w'.drew := ⟨h.os, h.tape, h.output, h.size, h.block⟩
theorem Kept.set (h : Kept M w w') {p : Addr} (hp : M p.block ∨ w.heap.size ≤ p.block) (u : Value) : Kept M w (w'.setCell p u) :=
  ⟨h.os, h.tape, h.output, by simpa [World.setCell] using h.size, fun i hi hn => (Below.heap_setCell w' p u i (fun e => by subst e; rcases hp with hp | hp; exact hn hp; omega)).trans (h.block i hi hn)⟩
theorem Kept.alloc (h : Kept M w w') (o : Obj) : Kept M w (w'.alloc o) :=
  ⟨h.os, h.tape, h.output, Nat.le_trans h.size (by simp), fun i hi hn => (Below.heap_alloc w' o i (Nat.lt_of_lt_of_le hi h.size)).trans (h.block i hi hn)⟩
theorem Kept.grown (h : Kept M a w) {row : Option Nat} (hg : w.grownBy w' row) (hr : ∀ k, row = some k → M k ∨ a.heap.size ≤ k) : Kept M a w' :=
  ⟨hg.os.trans h.os, hg.tape.trans h.tape, hg.output.trans h.output, Nat.le_trans h.size hg.size, fun i hi hn => (hg.block i (Nat.lt_of_lt_of_le hi h.size) (fun e => by rcases hr i e.symm with x | x; exact hn x; omega)).trans (h.block i hi hn)⟩
theorem Kept.grownBy (h : Kept (fun _ => False) w w') (row : Option Nat) : w.grownBy w' row := ⟨h.os, h.tape, h.output, h.size, fun i hi _ => h.block i hi id⟩
theorem own_kept {base : Nat} {e : TypeId} {n : Nat} {v : Value} {xs : List Value} (h : w.ownsRow base e 1 v n xs) (hk : Kept M w w') (hM : ∀ k, v.ownBlock = some k → ¬ M k) : w'.ownsRow base e 1 v n xs := by
  refine ⟨h.1, ?_⟩
  rcases h.2 with hn | ⟨g, cap, cur, rfl, hb, hgg, rest⟩
  · exact .inl hn
  · refine .inr ⟨g, cap, cur, rfl, hb, ?_, rest⟩
    rw [hk.block g (Array.getElem?_eq_some_iff.1 hgg).1 (hM g rfl)]
    exact hgg
theorem own_base {base base' : Nat} {e : TypeId} {n : Nat} {v : Value} {xs : List Value} (h : w.ownsRow base e 1 v n xs) (hM : ∀ k, v.ownBlock = some k → base' ≤ k) : w.ownsRow base' e 1 v n xs := by
  refine ⟨h.1, ?_⟩
  rcases h.2 with hn | ⟨g, cap, cur, rfl, hb, rest⟩
  · exact .inl hn
  · exact .inr ⟨g, cap, cur, rfl, hM g rfl, rest⟩
end

section
variable {w w' : World} {F n : Nat} {lz : Bool} {v : Value} {t : Nat}
end

end Go.Proofs.YtohmkhmanidljaaDoor

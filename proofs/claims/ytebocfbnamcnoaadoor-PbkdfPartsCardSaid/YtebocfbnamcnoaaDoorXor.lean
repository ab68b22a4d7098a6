/- words.Xor and the document's Xor, by their contracts. Conditions: the list is of at most 1000 texts, each of at most 1000 bytes. -/
import Derived.Test.YtebocfbnamcnoaaDoorMixed
import Derived.Test.YtebocfbnamcnoaaDoorStrOf
import Derived.Lib.ConvBytes
import Derived.StillTailTactics
namespace Go.Proofs.YtebocfbnamcnoaaDoor
set_option maxRecDepth 50000
open Go.RowKit

def nb (s : ByteArray) : List Nat := s.data.toList.map UInt8.toNat
theorem nb_length (s : ByteArray) : (nb s).length = s.size := by unfold nb; rw [List.length_map, Array.length_toList]; rfl
theorem nb_lt (s : ByteArray) : ∀ x ∈ nb s, x < 256 := by
  intro x hx
  obtain ⟨u, _, rfl⟩ := List.mem_map.1 hx
  exact u.toNat_lt
def xorL (xs ys : List Nat) : List Nat := List.zipWith (· ^^^ ·) xs ys
theorem xorL_length (xs ys : List Nat) (h : ys.length = xs.length) : (xorL xs ys).length = xs.length := by simp [xorL, h]
theorem xorL_lt (xs ys : List Nat) (hx : ∀ x ∈ xs, x < 256) (hy : ∀ y ∈ ys, y < 256) : ∀ z ∈ xorL xs ys, z < 256 := by
  intro z hz
  obtain ⟨i, hi⟩ := List.getElem?_of_mem hz
  unfold xorL at hi
  rw [List.getElem?_zipWith] at hi
  cases h1 : xs[i]? with
  | none => rw [h1] at hi; simp at hi
  | some x =>
    cases h2 : ys[i]? with
    | none => rw [h1, h2] at hi; simp at hi
    | some y =>
      rw [h1, h2] at hi
      simp at hi
      rw [← hi]
      exact xor_lt x y (hx x (List.mem_of_getElem? h1)) (hy y (List.mem_of_getElem? h2))
/-- what the list of texts comes to -/
def xorOf : List ByteArray → List Nat × Int
  | [] => ([], 0)
  | s :: rest => if rest.all (fun t => t.size == s.size) then (rest.foldl (fun a t => xorL a (nb t)) (nb s), 0) else ([], 9)

/-- block g begins with the bytes xs, and may be written there -/
structure Buf (w : World) (g : Nat) (xs : List Nat) : Prop where
  cell : ∀ j, (h : j < xs.length) → w.cell? ⟨g, j, none⟩ = some (.int .u8 (xs[j] : Int))
  free : ∀ j, j < xs.length → w.frozen? ⟨g, j, none⟩ = false
theorem Buf.set {w : World} {g : Nat} {xs : List Nat} (h : Buf w g xs) (j v : Nat) (hj : j < xs.length) : Buf (w.setCell ⟨g, j, none⟩ (.int .u8 (v : Int))) g (xs.set j v) := by
  refine ⟨fun i hi => ?_, fun i hi => ?_⟩
  · rw [List.getElem_set]
    by_cases e : j = i
    · subst e
      rw [World.cell?_setCell_same _ _ _ (h.cell j hj)]; simp
    · rw [World.cell?_setCell_other _ _ _ _ (fun h => e (by injection h))]
      simp only [e, if_false]
      exact h.cell i (by simpa using hi)
  · rw [World.frozen?_setCell]
    exact h.free i (by simpa using hi)
theorem Buf.drew {w : World} {g : Nat} {xs : List Nat} (h : Buf w g xs) : Buf w.drew g xs := ⟨fun j hj => h.cell j hj, fun j hj => h.free j hj⟩
theorem Buf.reads {w : World} {g B : Nat} {xs : List Nat} (h : Buf w g xs) (hg : g < B) : Reads w B (some ⟨g, 0, none⟩) (u8s xs) := fun k hk => by
  rw [u8s_length] at hk
  exact ⟨g, 0, rfl, hg, by rw [Nat.zero_add, h.cell k hk, u8_at]⟩

theorem bytes_of_text (w : World) (s : ByteArray) : ∃ W c, (convert 9 48 (.string s)).run Tryd.prog w = .ok (.slice (some ⟨w.heap.size, 0, none⟩) s.size c) W ∧ Below w.heap.size w W ∧ Buf W w.heap.size (nb s) ∧ W.heap.size = w.heap.size + 1 := by
  refine ⟨_, _, Lib.run_convert_string_bytes w 9 48 5 s Tryd.underlying9 Tryd.underlying48 Tryd.underlying5, ⟨rfl, rfl, rfl, by rw [Lib.bytesWorld_size]; omega, fun k hk => Lib.bytesWorld_at_old w 5 s k hk⟩, ⟨fun j hj => ?_, fun j hj => ?_⟩, Lib.bytesWorld_size w 5 s⟩
  · rw [nb_length] at hj
    rw [Lib.bytesWorld_cell w 5 s j hj]
    have hj2 : j < s.data.toList.length := by rw [Array.length_toList]; exact hj
    simp [nb, List.getD, List.getElem?_eq_getElem hj2]
  · rw [nb_length] at hj
    have h := Lib.bytesWorld_at_new w 5 s
    have hsz : j < (Lib.bytesCells w 5 s).size := by simp [Lib.bytesCells]; omega
    simp [World.frozen?, h]
    omega
def sv (l : List ByteArray) : List Value := l.map Value.string
theorem sv_length (l : List ByteArray) : (sv l).length = l.length := by simp [sv]
theorem sv_at (l : List ByteArray) (k : Nat) (h : k < (sv l).length) : (sv l)[k] = .string (l[k]'(by simpa [sv] using h)) := by simp [sv]
end Go.Proofs.YtebocfbnamcnoaaDoor

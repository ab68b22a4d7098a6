/- A text's bytes as they lie behind []byte(s). No condition but those typed. -/
import Derived.Test.YtnolgjbehnjomaaLaid
import Derived.Lib.ConvBytes
namespace Go.Proofs.Ytnolgjbehnjomaa
set_option maxRecDepth 50000
open Go.RowKit

def nb (s : ByteArray) : List Nat := s.data.toList.map UInt8.toNat
theorem nb_length (s : ByteArray) : (nb s).length = s.size := by unfold nb; rw [List.length_map, Array.length_toList]; rfl
theorem nb_lt (s : ByteArray) : ∀ x ∈ nb s, x < 256 := by
  intro x hx
  obtain ⟨u, _, rfl⟩ := List.mem_map.1 hx
  exact u.toNat_lt
/-- block g begins with the bytes xs, and may be written there -/
structure Buf (w : World) (g : Nat) (xs : List Nat) : Prop where
  cell : ∀ j, (h : j < xs.length) → w.cell? ⟨g, j, none⟩ = some (.int .u8 (xs[j] : Int))
  free : ∀ j, j < xs.length → w.frozen? ⟨g, j, none⟩ = false
theorem Buf.set {w : World} {g : Nat} {xs : List Nat} (h : Buf w g xs) (j v : Nat) (hj : j < xs.length) : Buf (w.setCell ⟨g, j, none⟩ (.int .u8 (v : Int))) g (xs.set j v) := by
  refine ⟨fun i hi => ?_, fun i hi => ?_⟩
  · rw [List.getElem_set]
    by_cases e : j = i
    · subst e
      rw [World.cell?_setCell_same _ _ _ (h.cell j hj)]; simp
    · rw [World.cell?_setCell_other _ _ _ _ (fun h => e (by injection h))]
      simp only [e, if_false]
      exact h.cell i (by simpa using hi)
  · rw [World.frozen?_setCell]
    exact h.free i (by simpa using hi)
theorem Buf.drew {w : World} {g : Nat} {xs : List Nat} (h : Buf w g xs) : Buf w.drew g xs := ⟨fun j hj => h.cell j hj, fun j hj => h.free j hj⟩
theorem Buf.reads {w : World} {g B : Nat} {xs : List Nat} (h : Buf w g xs) (hg : g < B) : Reads w B (some ⟨g, 0, none⟩) (u8s xs) := fun k hk => by
  rw [u8s_length] at hk
  exact ⟨g, 0, rfl, hg, by rw [Nat.zero_add, h.cell k hk, u8_at]⟩

theorem bytes_of_text (w : World) (s : ByteArray) : ∃ W c, (convert 9 44 (.string s)).run Try.prog w = .ok (.slice (some ⟨w.heap.size, 0, none⟩) s.size c) W ∧ Below w.heap.size w W ∧ Buf W w.heap.size (nb s) ∧ W.heap.size = w.heap.size + 1 := by
  refine ⟨_, _, Lib.run_convert_string_bytes w 9 44 5 s Try.underlying9 Try.underlying44 Try.underlying5, ⟨rfl, rfl, rfl, by rw [Lib.bytesWorld_size]; omega, fun k hk => Lib.bytesWorld_at_old w 5 s k hk⟩, ⟨fun j hj => ?_, fun j hj => ?_⟩, Lib.bytesWorld_size w 5 s⟩
  · rw [nb_length] at hj
    rw [Lib.bytesWorld_cell w 5 s j hj]
    have hj2 : j < s.data.toList.length := by rw [Array.length_toList]; exact hj
    simp [nb, List.getD, List.getElem?_eq_getElem hj2]
  · rw [nb_length] at hj
    have h := Lib.bytesWorld_at_new w 5 s
    have hsz : j < (Lib.bytesCells w 5 s).size := by simp [Lib.bytesCells]; omega
    simp [World.frozen?, h]
    omega
end Go.Proofs.Ytnolgjbehnjomaa

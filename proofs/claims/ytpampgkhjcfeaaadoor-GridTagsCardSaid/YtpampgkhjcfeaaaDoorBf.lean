/- A row of bytes, told as numbers, as a text. No condition. A text's bytes as they lie behind []byte(s). No condition but those typed. -/
import Derived.Test.YtpampgkhjcfeaaaDoorLaid
import Derived.Laws.BytesArg
import Derived.Lib.BufferRead
import Derived.Lib.ConvBytes
namespace Go.Proofs.YtpampgkhjcfeaaaDoor
set_option maxRecDepth 50000
open Go.RowKit

/-- a text of numbers below 256 -/
def strOf (l : List Nat) : ByteArray := strOfNums (l.map fun x : Nat => (x : Int))
theorem conv_str (w : World) {B : Nat} {A : Option Addr} {c : Nat} (l : List Nat) (hr : Reads w B A (u8s l)) : (convert 80 9 (.slice A l.length c)).run Tryd.prog w = .ok (.string (strOf l)) w := by
  rcases A with _ | ad
  · have hl : l = [] := by
      cases l with
      | nil => rfl
      | cons x l => obtain ⟨b, off, h, _⟩ := hr 0 (by simp [u8s]); cases h
    subst hl
    exact Lib.run_convert_nil_bytes w 80 9 5 c Tryd.underlying80 Tryd.underlying5 Tryd.underlying9
  · cases l with
    | nil =>
      rw [run_convert_bytes_string w 80 9 5 _ _ c Tryd.underlying80 Tryd.underlying5 Tryd.underlying9, run_bytesToString w _ _ c [] (by simpa using run_loadCells_list (P := Tryd.prog) w ad [] (by simp))]
      rfl
    | cons x l =>
      obtain ⟨b, off, h, _⟩ := hr 0 (by simp [u8s])
      injection h with h
      subst h
      have hl : ((x :: l).map fun x : Nat => (x : Int)).length = (x :: l).length := by simp
      refine run_convert_bytes_arg w 80 5 Tryd.underlying80 Tryd.underlying5 b off _ c _ hl (fun i hi => ?_) 9 Tryd.underlying9
      obtain ⟨b', off', h', _, hc⟩ := hr i (by simpa [u8s] using hi)
      injection h' with h'
      injection h' with h1 h2
      subst h1; subst h2
      have e : ((x :: l).map fun x : Nat => (x : Int)).getD i 0 = (((x :: l)[i] : Nat) : Int) := by
        rw [List.getD, List.getElem?_map, List.getElem?_eq_getElem hi]; rfl
      rw [hc, u8_at, e]
end Go.Proofs.YtpampgkhjcfeaaaDoor

namespace Go.Proofs.YtpampgkhjcfeaaaDoor
set_option maxRecDepth 50000
open Go.RowKit

def nb (s : ByteArray) : List Nat := s.data.toList.map UInt8.toNat
theorem nb_length (s : ByteArray) : (nb s).length = s.size := by unfold nb; rw [List.length_map, Array.length_toList]; rfl
theorem nb_lt (s : ByteArray) : ∀ x ∈ nb s, x < 256 := by
  intro x hx
  obtain ⟨u, _, rfl⟩ := List.mem_map.1 hx
  exact u.toNat_lt
/-- block g begins with the bytes xs, and may be written there -/
structure Buf (w : World) (g : Nat) (xs : List Nat) : Prop where
  cell : ∀ j, (h : j < xs.length) → w.cell? ⟨g, j, none⟩ = some (.int .u8 (xs[j] : Int))
  free : ∀ j, j < xs.length → w.frozen? ⟨g, j, none⟩ = false
theorem Buf.set {w : World} {g : Nat} {xs : List Nat} (h : Buf w g xs) (j v : Nat) (hj : j < xs.length) : Buf (w.setCell ⟨g, j, none⟩ (.int .u8 (v : Int))) g (xs.set j v) := by
  refine ⟨fun i hi => ?_, fun i hi => ?_⟩
  · rw [List.getElem_set]
    by_cases e : j = i
    · subst e
      rw [World.cell?_setCell_same _ _ _ (h.cell j hj)]; simp
    · rw [World.cell?_setCell_other _ _ _ _ (fun h => e (by injection h))]
      simp only [e, if_false]
      exact h.cell i (by simpa using hi)
  · rw [World.frozen?_setCell]
    exact h.free i (by simpa using hi)
theorem Buf.drew {w : World} {g : Nat} {xs : List Nat} (h : Buf w g xs) : Buf w.drew g xs := ⟨fun j hj => h.cell j hj, fun j hj => h.free j hj⟩
theorem Buf.reads {w : World} {g B : Nat} {xs : List Nat} (h : Buf w g xs) (hg : g < B) : Reads w B (some ⟨g, 0, none⟩) (u8s xs) := fun k hk => by
  rw [u8s_length] at hk
  exact ⟨g, 0, rfl, hg, by rw [Nat.zero_add, h.cell k hk, u8_at]⟩

theorem bytes_of_text (w : World) (s : ByteArray) : ∃ W c, (convert 9 80 (.string s)).run Tryd.prog w = .ok (.slice (some ⟨w.heap.size, 0, none⟩) s.size c) W ∧ Below w.heap.size w W ∧ Buf W w.heap.size (nb s) ∧ W.heap.size = w.heap.size + 1 := by
  refine ⟨_, _, Lib.run_convert_string_bytes w 9 80 5 s Tryd.underlying9 Tryd.underlying80 Tryd.underlying5, ⟨rfl, rfl, rfl, by rw [Lib.bytesWorld_size]; omega, fun k hk => Lib.bytesWorld_at_old w 5 s k hk⟩, ⟨fun j hj => ?_, fun j hj => ?_⟩, Lib.bytesWorld_size w 5 s⟩
  · rw [nb_length] at hj
    rw [Lib.bytesWorld_cell w 5 s j hj]
    have hj2 : j < s.data.toList.length := by rw [Array.length_toList]; exact hj
    simp [nb, List.getD, List.getElem?_eq_getElem hj2]
  · rw [nb_length] at hj
    have h := Lib.bytesWorld_at_new w 5 s
    have hsz : j < (Lib.bytesCells w 5 s).size := by simp [Lib.bytesCells]; omega
    simp [World.frozen?, h]
    omega
end Go.Proofs.YtpampgkhjcfeaaaDoor

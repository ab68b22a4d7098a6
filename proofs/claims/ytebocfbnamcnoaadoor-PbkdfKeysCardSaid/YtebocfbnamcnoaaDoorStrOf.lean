/- A row of bytes, told as numbers, as a text. No condition. -/
import Derived.Test.YtebocfbnamcnoaaDoorLaid
import Derived.Laws.BytesArg
import Derived.Lib.BufferRead
namespace Go.Proofs.YtebocfbnamcnoaaDoor
set_option maxRecDepth 50000
open Go.RowKit

/-- a text of numbers below 256 -/
def strOf (l : List Nat) : ByteArray := strOfNums (l.map fun x : Nat => (x : Int))
theorem conv_str (w : World) {B : Nat} {A : Option Addr} {c : Nat} (l : List Nat) (hr : Reads w B A (u8s l)) : (convert 48 9 (.slice A l.length c)).run Tryd.prog w = .ok (.string (strOf l)) w := by
  rcases A with _ | ad
  · have hl : l = [] := by
      cases l with
      | nil => rfl
      | cons x l => obtain ⟨b, off, h, _⟩ := hr 0 (by simp [u8s]); cases h
    subst hl
    exact Lib.run_convert_nil_bytes w 48 9 5 c Tryd.underlying48 Tryd.underlying5 Tryd.underlying9
  · cases l with
    | nil =>
      rw [run_convert_bytes_string w 48 9 5 _ _ c Tryd.underlying48 Tryd.underlying5 Tryd.underlying9, run_bytesToString w _ _ c [] (by simpa using run_loadCells_list (P := Tryd.prog) w ad [] (by simp))]
      rfl
    | cons x l =>
      obtain ⟨b, off, h, _⟩ := hr 0 (by simp [u8s])
      injection h with h
      subst h
      have hl : ((x :: l).map fun x : Nat => (x : Int)).length = (x :: l).length := by simp
      refine run_convert_bytes_arg w 48 5 Tryd.underlying48 Tryd.underlying5 b off _ c _ hl (fun i hi => ?_) 9 Tryd.underlying9
      obtain ⟨b', off', h', _, hc⟩ := hr i (by simpa [u8s] using hi)
      injection h' with h'
      injection h' with h1 h2
      subst h1; subst h2
      have e : ((x :: l).map fun x : Nat => (x : Int)).getD i 0 = (((x :: l)[i] : Nat) : Int) := by
        rw [List.getD, List.getElem?_map, List.getElem?_eq_getElem hi]; rfl
      rw [hc, u8_at, e]
end Go.Proofs.YtebocfbnamcnoaaDoor

/- The letters of chapter 15's example, and that example; Encode of one text. Conditions: those typed. -/
import Derived.Test.YtjknpbaegnkdnaaSxRdec
namespace Go.Proofs.Ytjknpbaegnkdnaa
set_option maxRecDepth 50000
open Go.RowKit Sx

def plainS : ByteArray := ⟨#[65, 66, 67, 68, 69, 70, 71, 72, 73, 74, 75, 76, 77, 78, 79, 80, 81, 82, 83, 84, 85, 86, 87, 88, 89, 90, 97, 98, 99, 100, 101, 102, 103, 104, 105, 106, 107, 108, 109, 110, 111, 112, 113, 114, 115, 116, 117, 118, 119, 120, 121, 122, 48, 49, 50, 51, 52, 53, 54, 55, 56, 57, 43, 47]⟩
theorem plain_good : lettE (tl plainS) = 0 := by decide +kernel
theorem plain_fine : Fine (tl plainS) := lettE_fine plain_good
theorem plain_bad : decE (tl plainS) [89, 82] = 5 := by decide +kernel
theorem plain_one : enc (tl plainS) [97] = [89, 81] := by decide +kernel

theorem one_text (w : World) (s : ByteArray) : Reads (w.alloc (.cells #[.string s] 9)) (w.alloc (.cells #[.string s] 9)).heap.size (some ⟨w.heap.size, 0, none⟩) (stv [s]) := fun k hk => by
  refine ⟨w.heap.size, 0, rfl, by simp, ?_⟩
  rw [cell_of_row _ w.heap.size (0 + k) _ _ _ (heap_alloc_new w _)]
  match k, hk with
  | 0, _ => rfl
theorem jn_one (s1 : ByteArray) : jn [s1] = tl s1 := by simp [jn]
/-- Encode of one text, in the world in which its list was just made -/
theorem encode_one (b : Nat) (L : List UInt8) (s : ByteArray) (w : World) (hC : Cdr w b L) (hs : s.size ≤ 140737488351232) :
    Calls Try.prog 12 #[.pointer (some ⟨b, 0, none⟩), .slice (some ⟨w.heap.size, 0, none⟩) 1 1] (w.alloc (.cells #[.string s] 9)) fun e w' => e = .returned (.string (tx (enc L (tl s)))) ∧ Below w.heap.size w w' := by
  refine (encode_any b L (some ⟨w.heap.size, 0, none⟩) 1 [s] (by simp) _ (hC.alloc _) (one_text w s) (by rw [jn_one, tl_length]; exact hs)).mono ?_
  rintro e w' ⟨rfl, hb⟩
  exact ⟨by rw [jn_one], ((Below.refl w.heap.size w).alloc (Nat.le_refl _) _).trans (hb.mono (by simp))⟩
/-- New of letters that are a coder's -/
theorem new_good (s : ByteArray) (h : lettE (tl s) = 0) (w : World) : Calls Try.prog 11 #[.string s] w fun e w' => e = .returned (.tuple #[.pointer (some ⟨w.heap.size, 0, none⟩), .int .i64 0]) ∧ Cdr w' w.heap.size (tl s) ∧ Below w.heap.size w w' := by
  refine (new_any s w).mono ?_
  rintro e w' ⟨h1 | h1, hb⟩
  · exact absurd h h1.1
  · refine ⟨?_, h1.2.2, hb⟩
    rw [h1.2.1, h]
theorem new_wrong (s : ByteArray) (h : lettE (tl s) ≠ 0) (w : World) : Calls Try.prog 11 #[.string s] w fun e w' => e = .returned (.tuple #[.pointer none, .int .i64 (lettE (tl s))]) ∧ Below w.heap.size w w' := by
  refine (new_any s w).mono ?_
  rintro e w' ⟨h1 | h1, hb⟩
  · exact ⟨h1.2, hb⟩
  · exact absurd h1.1 h

end Go.Proofs.Ytjknpbaegnkdnaa

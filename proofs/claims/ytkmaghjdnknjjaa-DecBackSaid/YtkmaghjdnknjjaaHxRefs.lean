/- Texts one behind the other; the document's Bytes and Joined by their contracts. Conditions: those typed. -/
import Derived.Test.YtkmaghjdnknjjaaFdHeld
import Derived.LoopTactic
import Derived.WalkMore
import Derived.Lib.IndexBytes
namespace Go.Proofs.Ytkmaghjdnknjjaa
set_option maxRecDepth 50000
open Go.RowKit

def stv (l : List ByteArray) : List Value := l.map Value.string
theorem stv_length (l : List ByteArray) : (stv l).length = l.length := by simp [stv]
theorem stv_at (l : List ByteArray) (k : Nat) (h : k < (stv l).length) : (stv l)[k] = .string (l[k]'(by simpa [stv] using h)) := by simp [stv]
/-- all texts' bytes, one text behind the other -/
def jn (l : List ByteArray) : List UInt8 := l.flatMap tl
theorem jn_snoc (l : List ByteArray) (k : Nat) (h : k < l.length) : jn (l.take (k + 1)) = jn (l.take k) ++ tl l[k] := by
  unfold jn; rw [List.take_succ_eq_append_getElem h, List.flatMap_append]; simp
theorem jn_take_le (l : List ByteArray) (k : Nat) : (jn (l.take k)).length ≤ (jn l).length := by
  have e : jn l = jn (l.take k) ++ jn (l.drop k) := by unfold jn; rw [← List.flatMap_append, List.take_append_drop]
  rw [e, List.length_append]; omega
theorem jn_le_one (l : List ByteArray) (M : Nat) (h : ∀ s ∈ l, s.size ≤ M) : ∀ k, k ≤ l.length → (jn (l.take k)).length ≤ k * M
  | 0, _ => by simp [jn]
  | k + 1, hk => by
    rw [jn_snoc l k hk, List.length_append, tl_length, Nat.succ_mul]
    have := jn_le_one l M h k (by omega)
    have := h l[k] (List.getElem_mem hk)
    omega

theorem tx_append (a b : List UInt8) : tx (a ++ b) = tx a ++ tx b := by
  apply tl_inj
  rw [tl_tx]
  unfold tl tx
  rw [ByteArray.data_append]
  simp
end Go.Proofs.Ytkmaghjdnknjjaa

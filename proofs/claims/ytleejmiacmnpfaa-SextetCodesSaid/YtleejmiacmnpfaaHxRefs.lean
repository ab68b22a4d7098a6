/- Texts one behind the other; the document's Bytes and Joined by their contracts. Conditions: those typed. -/
import Derived.Test.YtleejmiacmnpfaaFdHeld
import Derived.LoopTactic
import Derived.WalkMore
import Derived.Lib.IndexBytes
namespace Go.Proofs.Ytleejmiacmnpfaa
set_option maxRecDepth 50000
open Go.RowKit

def stv (l : List ByteArray) : List Value := l.map Value.string
theorem stv_length (l : List ByteArray) : (stv l).length = l.length := by simp [stv]
theorem stv_at (l : List ByteArray) (k : Nat) (h : k < (stv l).length) : (stv l)[k] = .string (l[k]'(by simpa [stv] using h)) := by simp [stv]
/-- all texts' bytes, one text behind the other -/
def jn (l : List ByteArray) : List UInt8 := l.flatMap tl
theorem jn_snoc (l : List ByteArray) (k : Nat) (h : k < l.length) : jn (l.take (k + 1)) = jn (l.take k) ++ tl l[k] := by
  unfold jn; rw [List.take_succ_eq_append_getElem h, List.flatMap_append]; simp
theorem jn_take_le (l : List ByteArray) (k : Nat) : (jn (l.take k)).length ≤ (jn l).length := by
  have e : jn l = jn (l.take k) ++ jn (l.drop k) := by unfold jn; rw [← List.flatMap_append, List.take_append_drop]
  rw [e, List.length_append]; omega
theorem jn_le_one (l : List ByteArray) (M : Nat) (h : ∀ s ∈ l, s.size ≤ M) : ∀ k, k ≤ l.length → (jn (l.take k)).length ≤ k * M
  | 0, _ => by simp [jn]
  | k + 1, hk => by
    rw [jn_snoc l k hk, List.length_append, tl_length, Nat.succ_mul]
    have := jn_le_one l M h k (by omega)
    have := h l[k] (List.getElem_mem hk)
    omega

theorem bytes_any (A : Option Addr) (c : Nat) (ps : List ByteArray) (w : World) (hr : Reads w w.heap.size A (stv ps)) (hn : ps.length ≤ 50) (hs : ∀ s ∈ ps, s.size ≤ 140737488351232) :
    Calls Try.prog 7 #[.slice A ps.length c] w fun e w' => e = .returned (.int .i64 ((jn ps).length : Int)) ∧ w = w' := by
  have HR := Lib.hid hr
  have HB := Lib.hid fun k hk => jn_le_one ps 140737488351232 hs k hk
  have HS := Lib.hid hs
  clear hr hs
  go_enter Try.func7, Try.ntmps7
  go_wp2
  go_loop [3, 4] (fun n i => ∃ k : Nat, k ≤ ps.length ∧ i = .int .i64 k ∧ n = .int .i64 ((jn (ps.take k)).length : Int)) (fun _ i => ps.length - (intOf i).toNat)
  case atStart => exact ⟨0, Nat.zero_le _, rfl, rfl⟩
  case round =>
    obtain ⟨k, hk, rfl, rfl⟩ := hrel
    by_cases hlt : k < ps.length
    · obtain ⟨b, off, rfl, hbB, hcell⟩ := HR.out k (by rw [stv_length]; exact hlt)
      rw [stv_at] at hcell
      have h1 := HB.out k hk
      have h2 := HS.out ps[k] (List.getElem_mem hlt)
      have h3 : (jn (ps.take k)).length ≤ 50 * 140737488351232 := Nat.le_trans h1 (Nat.mul_le_mul_right _ (by omega))
      have Hsn : Hid ((jn (ps.take (k + 1))).length = (jn (ps.take k)).length + ps[k].size) := Lib.hid (by rw [jn_snoc ps k hlt, List.length_append, tl_length])
      clear h1
      generalize (jn (ps.take k)).length = J at *
      generalize ps[k] = s at *
      go_wp2
      go_round
      case rel => exact ⟨k + 1, by omega, by go_num, by rw [Hsn.out]; go_num⟩
      case measure => simp [intOf]; omega
    · obtain rfl : k = ps.length := by omega
      rw [List.take_length]
      go_wp2
      go_ret
      exact ⟨rfl, rfl⟩

theorem tx_append (a b : List UInt8) : tx (a ++ b) = tx a ++ tx b := by
  apply tl_inj
  rw [tl_tx]
  unfold tl tx
  rw [ByteArray.data_append]
  simp
theorem joined_any (A : Option Addr) (c : Nat) (ps : List ByteArray) (w : World) (hr : Reads w w.heap.size A (stv ps)) (hn : ps.length ≤ 50) (hs : (jn ps).length ≤ 1000000) :
    Calls Try.prog 14 #[.slice A ps.length c] w fun e w' => e = .returned (.string (tx (jn ps))) ∧ w = w' := by
  have HR := Lib.hid hr
  clear hr
  go_enter Try.func14, Try.ntmps14
  go_wp2
  go_loop [3, 4] (fun n i => ∃ k : Nat, k ≤ ps.length ∧ i = .int .i64 k ∧ n = .string (tx (jn (ps.take k)))) (fun _ i => ps.length - (intOf i).toNat)
  case atStart => exact ⟨0, Nat.zero_le _, rfl, rfl⟩
  case round =>
    obtain ⟨k, hk, rfl, rfl⟩ := hrel
    by_cases hlt : k < ps.length
    · obtain ⟨b, off, rfl, hbB, hcell⟩ := HR.out k (by rw [stv_length]; exact hlt)
      rw [stv_at] at hcell
      have hle := jn_take_le ps (k + 1)
      have hsn := jn_snoc ps k hlt
      rw [hsn, List.length_append, tl_length] at hle
      have Hsn := Lib.hid hsn
      have hsz : (tx (jn (ps.take k))).size + ps[k].size ≤ 1000000 := by rw [tx_size]; omega
      have hts := tx_size (jn (ps.take k))
      have Hts := Lib.hid hts
      clear hsn hts hle
      generalize hT : tx (jn (ps.take k)) = T at *
      have HT := Lib.hid hT
      clear hT
      generalize ps[k] = s at *
      go_wp2
      go_round
      case rel => exact ⟨k + 1, by omega, by go_num, by rw [Hsn.out, tx_append, HT.out, tx_tl]⟩
      case measure => simp [intOf]; omega
    · obtain rfl : k = ps.length := by omega
      rw [List.take_length]
      go_wp2
      go_ret
      exact ⟨rfl, rfl⟩

end Go.Proofs.Ytleejmiacmnpfaa

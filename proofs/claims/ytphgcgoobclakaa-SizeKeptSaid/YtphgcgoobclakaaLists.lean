/- reckoned of package size and the document's held, over any list, by their contracts. No condition but a length below 2^40. -/
import Derived.Test.YtphgcgoobclakaaPure
namespace Go.Proofs.Ytphgcgoobclakaa
open Go.RowKit

theorem ret_bool {a b : Bool} (h : a = b) : Ending.returned (.bool a) = .returned (.bool b) := by rw [h]
/-- are all from 0 to 2^62? -/
def allIn (zs : List Int) : Bool := zs.all fun z => inB z 0 4611686018427387904
def i64s (zs : List Int) : List Value := zs.map (Value.int .i64)
theorem i64s_length (zs : List Int) : (i64s zs).length = zs.length := by simp [i64s]
theorem i64_at (zs : List Int) (k : Nat) (h : k < (i64s zs).length) : (i64s zs)[k] = .int .i64 (zs[k]'(by simpa [i64s] using h)) := by simp [i64s]
theorem allIn_snoc (zs : List Int) (k : Nat) (h : k < zs.length) (h1 : allIn (zs.take k) = true) (h2 : inB zs[k] 0 4611686018427387904 = true) : allIn (zs.take (k + 1)) = true := by
  rw [List.take_succ_eq_append_getElem h]
  unfold allIn at *
  rw [List.all_append, h1]
  simp [h2]
theorem allIn_no (zs : List Int) (k : Nat) (h : k < zs.length) (h2 : inB zs[k] 0 4611686018427387904 = false) : allIn zs = false := by
  unfold allIn
  rw [List.all_eq_false]
  exact ⟨zs[k], List.getElem_mem h, by simp [h2]⟩
theorem in_true (x a b : Int) (h : inB x a b = true) : a ≤ x ∧ x ≤ b := by unfold inB at h; simpa using h
theorem in_false (x a b : Int) (h : inB x a b = false) : ¬ (a ≤ x ∧ x ≤ b) := by unfold inB at h; simp at h; omega

set_option maxHeartbeats 800000 in
theorem reckoned_any (A : Option Addr) (c : Nat) (zs : List Int) (w : World) {B : Nat} (hr : Reads w B A (i64s zs)) (hlen : zs.length ≤ 1000000000000) :
    Calls Try.prog 20 #[.slice A zs.length c] w fun e w' => e = .returned (.bool (allIn zs)) ∧ w = w' := by
  have Hr := Lib.hid hr
  clear hr
  go_enter Try.func20, Try.ntmps20
  go_wp2
  go_loop [7] (fun i => ∃ k : Nat, k ≤ zs.length ∧ i = .int .i64 k ∧ Hid (allIn (zs.take k) = true)) (fun i => zs.length - (intOf i).toNat)
  case atStart => exact ⟨0, Nat.zero_le _, rfl, Lib.hid rfl⟩
  case round =>
    obtain ⟨k, hk, rfl, hok⟩ := hrel
    by_cases hlt : k < zs.length
    · obtain ⟨b, off, rfl, hbB, hcell⟩ := Hr.out k (by rw [i64s_length]; exact hlt)
      rw [i64_at] at hcell
      cases hin : inB zs[k] 0 4611686018427387904
      · have hno := Lib.hid (allIn_no zs k hlt hin)
        generalize zs[k] = x at *
        go_wp2_with (go_at_call 19; refine (within_any _ _ _ _).mono ?_; rintro e w' ⟨rfl, rfl⟩)
        go_ret
        exact ⟨ret_bool hno.out.symm, rfl⟩
      · have hs := Lib.hid (allIn_snoc zs k hlt hok.out hin)
        generalize zs[k] = x at *
        go_wp2_with (go_at_call 19; refine (within_any _ _ _ _).mono ?_; rintro e w' ⟨rfl, rfl⟩)
        go_round
        case rel => exact ⟨k + 1, by omega, by go_num, hs⟩
        case measure => simp [intOf]; omega
    · obtain rfl : k = zs.length := by omega
      rw [List.take_length] at hok
      go_wp2
      go_ret
      exact ⟨ret_bool hok.out.symm, rfl⟩

set_option maxHeartbeats 800000 in
theorem held_any (A : Option Addr) (c : Nat) (zs : List Int) (w : World) {B : Nat} (hr : Reads w B A (i64s zs)) (hlen : zs.length ≤ 1000000000000) :
    Calls Try.prog 21 #[.slice A zs.length c] w fun e w' => e = .returned (.bool (allIn zs)) ∧ w = w' := by
  have Hr := Lib.hid hr
  clear hr
  go_enter Try.func21, Try.ntmps21
  go_wp2
  go_loop [3] (fun i => ∃ k : Nat, k ≤ zs.length ∧ i = .int .i64 k ∧ Hid (allIn (zs.take k) = true)) (fun i => zs.length - (intOf i).toNat)
  case atStart => exact ⟨0, Nat.zero_le _, rfl, Lib.hid rfl⟩
  case round =>
    obtain ⟨k, hk, rfl, hok⟩ := hrel
    by_cases hlt : k < zs.length
    · obtain ⟨b, off, rfl, hbB, hcell⟩ := Hr.out k (by rw [i64s_length]; exact hlt)
      rw [i64_at] at hcell
      cases hin : inB zs[k] 0 4611686018427387904
      · have hno := Lib.hid (allIn_no zs k hlt hin)
        have hin2 := in_false _ _ _ hin
        clear hin
        generalize zs[k] = x at *
        by_cases hx : x < 0
        all_goals
          go_wp2
          go_ret
          exact ⟨ret_bool hno.out.symm, rfl⟩
      · have hs := Lib.hid (allIn_snoc zs k hlt hok.out hin)
        obtain ⟨h1, h2⟩ := in_true _ _ _ hin
        clear hin
        generalize zs[k] = x at *
        go_wp2
        go_round
        case rel => exact ⟨k + 1, by omega, by go_num, hs⟩
        case measure => simp [intOf]; omega
    · obtain rfl : k = zs.length := by omega
      rw [List.take_length] at hok
      go_wp2
      go_ret
      exact ⟨ret_bool hok.out.symm, rfl⟩
end Go.Proofs.Ytphgcgoobclakaa

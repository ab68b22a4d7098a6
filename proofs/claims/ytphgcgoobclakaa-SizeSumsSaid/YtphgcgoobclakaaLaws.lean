/- The bodies of the four laws of package size: they return true, and old memory is as it was. Conditions: the ints are ints; the lists read as lists of ints. -/
import Derived.Test.YtphgcgoobclakaaAwake
namespace Go.Proofs.Ytphgcgoobclakaa
open Go.ChangeShapes Go.WideShapes Go.ChangeAt Go.RowKit

theorem step_trans {a b c : World} (h : Below a.heap.size a b) (k : Below b.heap.size b c) : Below a.heap.size a c := h.trans (k.mono h.size)

set_option maxHeartbeats 800000 in
theorem sums_any (A : Option Addr) (c : Nat) (zs : List Int) (w : World) (hr : Reads w w.heap.size A (i64s zs)) (hlen : zs.length ≤ maxLen) :
    Calls Try.prog 3 #[.slice A zs.length c] w fun e w' => e = .returned (.bool true) ∧ Below w.heap.size w w' := by
  unfold maxLen at hlen
  have Hr := Lib.hid hr
  clear hr
  by_cases hl : zs.length ≤ 500
  · go_enter Try.func3, Try.ntmps3
    go_wp2_with (go_at_call 7; refine (awake_any _).mono ?_; rintro e w1 ⟨rfl, hb⟩)
    have R := Lib.hid (Hr.out.below hb)
    refine (add_any A c zs _ R.out (by omega)).mono ?_
    rintro e w' ⟨rfl, rfl⟩
    go_wp2_with fail
    refine (refadd_any A c zs _ R.out (by omega)).mono ?_
    rintro e w' ⟨rfl, rfl⟩
    go_wp2_with fail
    refine (mul_any A c zs _ R.out (by omega)).mono ?_
    rintro e w' ⟨rfl, rfl⟩
    go_wp2_with fail
    refine (refmul_any A c zs _ R.out (by omega)).mono ?_
    rintro e w' ⟨rfl, rfl⟩
    go_wp2
    go_ret
    exact ⟨rfl, hb⟩
  · go_enter Try.func3, Try.ntmps3
    go_wp2_with (go_at_call 7; refine (awake_any _).mono ?_; rintro e w1 ⟨rfl, hb⟩)
    go_ret
    exact ⟨rfl, hb⟩

set_option maxHeartbeats 800000 in
theorem parts_any (n u : Int) (hu : u ≤ 9223372036854775807) (w : World) :
    Calls Try.prog 4 #[.int .i64 n, .int .i64 u] w fun e w' => e = .returned (.bool true) ∧ Below w.heap.size w w' := by
  have U := Lib.hid fun w => up_any n u hu w
  have V := Lib.hid fun w => refup_any n u hu w
  have D := Lib.hid fun w => down_any n u w
  have E := Lib.hid fun w => refdown_any n u hu w
  have K := Lib.hid fun w => blocks_any n w
  have L := Lib.hid fun w => refup_any n 1024 (by omega) w
  go_enter Try.func4, Try.ntmps4
  go_wp2_with (go_at_call 7; refine (awake_any _).mono ?_; rintro e w1 ⟨rfl, hb⟩)
  refine (U.out _).mono ?_
  rintro e w2 ⟨rfl, hb2⟩
  have hb3 := step_trans hb hb2
  clear hb hb2
  go_wp2_with fail
  refine (V.out _).mono ?_
  rintro e w' ⟨rfl, rfl⟩
  go_wp2_with fail
  refine (D.out _).mono ?_
  rintro e w3 ⟨rfl, hb⟩
  have hb2 := step_trans hb3 hb
  clear hb hb3
  go_wp2_with fail
  refine (E.out _).mono ?_
  rintro e w' ⟨rfl, rfl⟩
  go_wp2_with fail
  refine (K.out _).mono ?_
  rintro e w4 ⟨rfl, hb⟩
  have hb3 := step_trans hb2 hb
  clear hb hb2
  go_wp2_with fail
  refine (L.out _).mono ?_
  rintro e w' ⟨rfl, rfl⟩
  go_wp2
  go_ret
  exact ⟨rfl, hb3⟩

set_option maxHeartbeats 800000 in
theorem powers_any (n a b : Int) (w : World) :
    Calls Try.prog 5 #[.int .i64 n, .int .i64 a, .int .i64 b] w fun e w' => e = .returned (.bool true) ∧ Below w.heap.size w w' := by
  have U := Lib.hid fun w => power_any n w
  have V := Lib.hid fun w => refpower_any n w
  have K := within_any n a b
  by_cases h1 : a ≤ n
  · by_cases h2 : n ≤ b
    · have e : inB n a b = true := by simp [inB, h1, h2]
      rw [e] at K
      have H := Lib.hid K
      clear K e
      go_enter Try.func5, Try.ntmps5
      go_wp2_with (go_at_call 7; refine (awake_any _).mono ?_; rintro e w1 ⟨rfl, hb⟩)
      refine (U.out _).mono ?_
      rintro e w' ⟨rfl, rfl⟩
      go_wp2_with fail
      refine (V.out _).mono ?_
      rintro e w' ⟨rfl, rfl⟩
      go_wp2_with fail
      refine (H.out _).mono ?_
      rintro e w' ⟨rfl, rfl⟩
      go_wp2
      go_ret
      exact ⟨rfl, hb⟩
    · have e : inB n a b = false := by simp [inB, h1, h2]
      have h3 : decide (n ≤ b) = false := by simp [h2]
      clear h2
      rw [e] at K
      have H := Lib.hid K
      clear K e
      go_enter Try.func5, Try.ntmps5
      go_wp2_with (go_at_call 7; refine (awake_any _).mono ?_; rintro e w1 ⟨rfl, hb⟩)
      refine (U.out _).mono ?_
      rintro e w' ⟨rfl, rfl⟩
      go_wp2_with fail
      refine (V.out _).mono ?_
      rintro e w' ⟨rfl, rfl⟩
      go_wp2_with fail
      refine (H.out _).mono ?_
      rintro e w' ⟨rfl, rfl⟩
      go_wp2
      go_ret
      exact ⟨rfl, hb⟩
  · have e : inB n a b = false := by simp [inB, h1]
    rw [e] at K
    have H := Lib.hid K
    clear K e
    go_enter Try.func5, Try.ntmps5
    go_wp2_with (go_at_call 7; refine (awake_any _).mono ?_; rintro e w1 ⟨rfl, hb⟩)
    refine (U.out _).mono ?_
    rintro e w' ⟨rfl, rfl⟩
    go_wp2_with fail
    refine (V.out _).mono ?_
    rintro e w' ⟨rfl, rfl⟩
    go_wp2_with fail
    refine (H.out _).mono ?_
    rintro e w' ⟨rfl, rfl⟩
    go_wp2
    go_ret
    exact ⟨rfl, hb⟩
end Go.Proofs.Ytphgcgoobclakaa

/- The law file's awake: the chapter's example holds. Power of package size and the document's Power. Condition: ints are ints. -/
import Derived.Test.YtphgcgoobclakaaProds
import Derived.Test.YtphgcgoobclakaaParts
namespace Go.Proofs.Ytphgcgoobclakaa
open Go.RowKit

theorem cells_read (zs : List Int) (w : World) : Reads (w.alloc (.cells (i64s zs).toArray 3)) (w.heap.size + 1) (some ⟨w.heap.size, 0, none⟩) (i64s zs) := fun k hk =>
  ⟨w.heap.size, 0, rfl, by omega, by
    have : (i64s zs).toArray[k]? = some (i64s zs)[k] := by simp [hk]
    simp [this]⟩

set_option maxHeartbeats 800000 in
theorem awake_any (w : World) : Calls Try.prog 7 #[] w fun e w' => e = .returned (.bool true) ∧ Below w.heap.size w w' := by
  have C : ∀ w : World, Calls Try.prog 10 #[.slice (some ⟨w.heap.size, 0, none⟩) 2 2] (w.alloc (.cells #[.int .i64 2147483648, .int .i64 2147483648] 3)) fun e w' => e = .returned (.tuple #[.int .i64 4611686018427387904, .int .i64 0]) ∧ w.alloc (.cells #[.int .i64 2147483648, .int .i64 2147483648] 3) = w' := fun w => by
    have h := mul_any (some ⟨w.heap.size, 0, none⟩) 2 [2147483648, 2147483648] (w.alloc (.cells #[.int .i64 2147483648, .int .i64 2147483648] 3)) (cells_read [2147483648, 2147483648] w) (by simp)
    rw [show proN [2147483648, 2147483648] = 4611686018427387904 from by decide +kernel, show proE [2147483648, 2147483648] = 0 from by decide +kernel] at h
    exact h
  have D : Calls Try.prog 10 #[.slice (some ⟨w.heap.size + 1, 0, none⟩) 3 3] ((w.alloc (.cells #[.int .i64 2147483648, .int .i64 2147483648] 3)).alloc (.cells #[.int .i64 2147483648, .int .i64 2147483648, .int .i64 2] 3)) fun e w' => e = .returned (.tuple #[.int .i64 0, .int .i64 10]) ∧ (w.alloc (.cells #[.int .i64 2147483648, .int .i64 2147483648] 3)).alloc (.cells #[.int .i64 2147483648, .int .i64 2147483648, .int .i64 2] 3) = w' := by
    have r := cells_read [2147483648, 2147483648, 2] (w.alloc (.cells #[.int .i64 2147483648, .int .i64 2147483648] 3))
    have e : (w.alloc (.cells #[.int .i64 2147483648, .int .i64 2147483648] 3)).heap.size = w.heap.size + 1 := by simp
    rw [e] at r
    have h := mul_any (some ⟨w.heap.size + 1, 0, none⟩) 3 [2147483648, 2147483648, 2] ((w.alloc (.cells #[.int .i64 2147483648, .int .i64 2147483648] 3)).alloc (.cells #[.int .i64 2147483648, .int .i64 2147483648, .int .i64 2] 3)) r (by simp)
    rw [show proN [2147483648, 2147483648, 2] = 0 from by decide +kernel, show proE [2147483648, 2147483648, 2] = 10 from by decide +kernel] at h
    exact h
  have U : ∀ w : World, Calls Try.prog 12 #[.int .i64 1025, .int .i64 1024] w fun e w' => e = .returned (.tuple #[.int .i64 2, .int .i64 0]) ∧ Below w.heap.size w w' := fun w => by
    have h := up_any 1025 1024 (by omega) w
    rw [show upN 1025 1024 = 2 from by decide +kernel, show partE 1025 1024 = 0 from by decide +kernel] at h
    exact h
  have HC := Lib.hid C
  have HD := Lib.hid D
  have HU := Lib.hid U
  clear C D U
  go_enter Try.func7, Try.ntmps7
  go_wp2_with fail
  refine (HC.out w).mono ?_
  rintro e w' ⟨rfl, rfl⟩
  go_wp2_with fail
  refine (HD.out).mono ?_
  rintro e w' ⟨rfl, rfl⟩
  go_wp2_with fail
  refine (HU.out _).mono ?_
  rintro e w' ⟨rfl, hb⟩
  have hb2 : Below w.heap.size w w' := (((Below.refl _ _).alloc (Nat.le_refl _) _).alloc (by simp) _).trans (hb.mono (by simp; omega))
  clear hb
  go_wp2
  go_ret
  exact ⟨rfl, hb2⟩

def powN (n : Int) : Int := if 0 ≤ n ∧ n ≤ 62 then ((2 ^ n.toNat : Nat) : Int) else 0
def powE (n : Int) : Int := if n < 0 then 1 else if 62 < n then 10 else 0
theorem pow_low {n : Int} (h : n < 0) : powN n = 0 ∧ powE n = 1 := ⟨if_neg (by omega), if_pos h⟩
theorem pow_high {n : Int} (h : 62 < n) : powN n = 0 ∧ powE n = 10 := ⟨if_neg (by omega), by unfold powE; rw [if_neg (by omega), if_pos h]⟩
theorem pow_mid {n : Nat} (h : n ≤ 62) : powN n = ((2 ^ n : Nat) : Int) ∧ powE n = 0 := ⟨by unfold powN; rw [if_pos (by omega)]; rfl, by unfold powE; rw [if_neg (by omega), if_neg (by omega)]⟩
theorem pow_le (k n : Nat) (h : k ≤ n) : 2 ^ k ≤ 2 ^ n := Nat.pow_le_pow_right (by omega) h

set_option maxHeartbeats 800000 in
theorem power_any (n : Int) (w : World) : Calls Try.prog 17 #[.int .i64 n] w fun e w' => e = .returned (.tuple #[.int .i64 (powN n), .int .i64 (powE n)]) ∧ w = w' := by
  by_cases h : n < 0
  · have E := Lib.hid (pow_low h)
    go_enter Try.func17, Try.ntmps17
    go_wp2
    go_ret2
    exact ⟨ret_two E.out.1.symm E.out.2.symm, rfl⟩
  · by_cases h2 : 62 < n
    · have E := Lib.hid (pow_high h2)
      go_enter Try.func17, Try.ntmps17
      go_wp2
      go_ret2
      exact ⟨ret_two E.out.1.symm E.out.2.symm, rfl⟩
    · obtain ⟨m, rfl⟩ := Int.eq_ofNat_of_zero_le (show 0 ≤ n by omega)
      have E := Lib.hid (pow_mid (n := m) (by omega))
      have hp : (1 : Int) * 2 ^ m = ((2 ^ m : Nat) : Int) := by rw [Int.one_mul, Int.natCast_pow]; rfl
      have hb := pow_le m 62 (by omega)
      have hm : m ≤ 62 := by omega
      have Hp := Lib.hid hp
      clear h h2 hp
      go_enter Try.func17, Try.ntmps17
      go_wp2
      go_ret2
      refine ⟨ret_two ?_ E.out.2.symm, rfl⟩
      rw [E.out.1]
      have hz : (2 : Int) ^ m = ((2 ^ m : Nat) : Int) := by simp
      have hb2 : 2 ^ m ≤ 4611686018427387904 := hb
      rw [hz]
      generalize 2 ^ m = P at *
      unfold wrap64
      omega

set_option maxHeartbeats 800000 in
theorem refpower_any (n : Int) (w : World) : Calls Try.prog 18 #[.int .i64 n] w fun e w' => e = .returned (.tuple #[.int .i64 (powN n), .int .i64 (powE n)]) ∧ w = w' := by
  by_cases h : n < 0
  · have E := Lib.hid (pow_low h)
    go_enter Try.func18, Try.ntmps18
    go_wp2
    go_ret2
    exact ⟨ret_two E.out.1.symm E.out.2.symm, rfl⟩
  · by_cases h2 : 62 < n
    · have E := Lib.hid (pow_high h2)
      go_enter Try.func18, Try.ntmps18
      go_wp2
      go_ret2
      exact ⟨ret_two E.out.1.symm E.out.2.symm, rfl⟩
    · obtain ⟨m, rfl⟩ := Int.eq_ofNat_of_zero_le (show 0 ≤ n by omega)
      have hm : m ≤ 62 := by omega
      have E := Lib.hid (pow_mid hm)
      clear h h2
      go_enter Try.func18, Try.ntmps18
      go_wp2
      go_loop [4, 5] (fun p i => ∃ k : Nat, k ≤ m ∧ i = .int .i64 k ∧ p = .int .i64 (2 ^ k : Nat)) (fun _ i => m - (intOf i).toNat)
      case atStart => exact ⟨0, Nat.zero_le _, rfl, rfl⟩
      case round =>
        obtain ⟨k, hk, rfl, rfl⟩ := hrel
        by_cases hlt : k < m
        · have hb := pow_le k 61 (by omega)
          have hn := Lib.hid (show 2 ^ (k + 1) = 2 ^ k * 2 from rfl)
          generalize 2 ^ k = P at *
          have hb2 : P ≤ 2305843009213693952 := hb
          clear hb
          go_wp2
          go_round
          case rel => exact ⟨k + 1, by omega, by go_num, by rw [hn.out]; go_num⟩
          case measure => simp [intOf]; omega
        · obtain rfl : k = m := by omega
          go_wp2
          go_ret2
          exact ⟨ret_two E.out.1.symm E.out.2.symm, rfl⟩
end Go.Proofs.Ytphgcgoobclakaa

/- split, Up, Blocks, Down of package size and the document's Up and Down, by their contracts. Condition: ints are ints. -/
import Derived.Test.YtphgcgoobclakaaLists
import Derived.Deep.QuietTactic
import Derived.BigQuiet
import Derived.WalkSmall
namespace Go.Proofs.Ytphgcgoobclakaa
open Go.RowKit

def partOK (n u : Int) : Bool := inB n 0 4611686018427387904 && decide (1 ≤ u)
def upN (n u : Int) : Int := if partOK n u = true then (if n % u = 0 then n / u else n / u + 1) else 0
def downN (n u : Int) : Int := if partOK n u = true then n / u * u else 0
def partE (n u : Int) : Int := if partOK n u = true then 0 else 1
theorem part_no {n u : Int} (h : partOK n u = false) : upN n u = 0 ∧ downN n u = 0 ∧ partE n u = 1 := ⟨if_neg (by simp [h]), if_neg (by simp [h]), if_neg (by simp [h])⟩
theorem part_yes {n u : Int} (h : partOK n u = true) : ∃ m v : Nat, n = (m : Int) ∧ u = (v : Int) ∧ m ≤ 4611686018427387904 ∧ 1 ≤ v := by
  unfold partOK at h
  rw [Bool.and_eq_true] at h
  obtain ⟨h1, h2⟩ := in_true _ _ _ h.1
  have h3 : 1 ≤ u := by simpa using h.2
  exact ⟨n.toNat, u.toNat, by omega, by omega, by omega, by omega⟩
theorem partE_yes {n u : Int} (h : partOK n u = true) : partE n u = 0 := if_pos h
theorem upN_yes {n u : Nat} (h : partOK n u = true) : upN n u = ((if n % u = 0 then n / u else n / u + 1 : Nat) : Int) := by
  unfold upN
  rw [if_pos h]
  by_cases hz : n % u = 0
  · rw [if_pos hz, if_pos (by rw [← Int.natCast_emod, hz]; rfl)]; exact (Int.natCast_ediv n u).symm
  · rw [if_neg hz, if_neg (by rw [← Int.natCast_emod]; omega), ← Int.natCast_ediv]; rfl
theorem downN_yes {n u : Nat} (h : partOK n u = true) : downN n u = ((n / u * u : Nat) : Int) := by
  unfold downN
  rw [if_pos h, ← Int.natCast_ediv]; exact (Int.natCast_mul _ _).symm
theorem ceil_nat (n u : Nat) (hn : 0 < n) (hu : 0 < u) : (n - 1) / u + 1 = if n % u = 0 then n / u else n / u + 1 := by
  have e := Nat.div_add_mod n u
  have lt := Nat.mod_lt n hu
  generalize n / u = q at *
  generalize n % u = r at *
  subst e
  by_cases hr : r = 0
  · subst hr
    rw [if_pos rfl]
    cases q with
    | zero => simp at hn
    | succ p =>
      rw [Nat.mul_add, show u * p + u * 1 + 0 - 1 = u * p + (u - 1) from by omega, Nat.mul_add_div hu, Nat.div_eq_of_lt (by omega)]
  · rw [if_neg hr, show u * q + r - 1 = u * q + (r - 1) from by omega, Nat.mul_add_div hu, Nat.div_eq_of_lt (by omega)]
theorem ret_two {a b c d : Int} (h1 : a = c) (h2 : b = d) : Ending.returned (.tuple #[.int .i64 a, .int .i64 b]) = .returned (.tuple #[.int .i64 c, .int .i64 d]) := by rw [h1, h2]

theorem ret_triple {a b c x y z : Int} (h1 : a = x) (h2 : b = y) (h3 : c = z) : Ending.returned (.tuple #[.int .i64 a, .int .i64 b, .int .i64 c]) = .returned (.tuple #[.int .i64 x, .int .i64 y, .int .i64 z]) := by rw [h1, h2, h3]
theorem one_read (n : Int) (w : World) : Reads (w.alloc (.cells #[.int .i64 n] 3)) (w.heap.size + 1) (some ⟨w.heap.size, 0, none⟩) (i64s [n]) := fun k hk =>
  ⟨w.heap.size, 0, rfl, by omega, by
    match k, hk with
    | 0, _ => simp [i64s]⟩

set_option maxHeartbeats 800000 in
theorem split_bad (n u : Int) (h : partOK n u = false) (w : World) : Calls Try.prog 23 #[.int .i64 n, .int .i64 u] w fun e w' => e = .returned (.tuple #[.int .i64 0, .int .i64 0, .int .i64 1]) ∧ Below w.heap.size w w' := by
  have C := reckoned_any (some ⟨w.heap.size, 0, none⟩) 1 [n] (w.alloc (.cells #[.int .i64 n] 3)) (one_read n w) (by simp)
  have e : allIn [n] = inB n 0 4611686018427387904 := by simp [allIn]
  rw [e] at C
  cases hin : inB n 0 4611686018427387904
  · rw [hin] at C
    have H := Lib.hid C
    clear C e h hin
    go_enter Try.func23, Try.ntmps23
    go_wp2_with fail
    refine (H.out).mono ?_
    rintro e w' ⟨rfl, rfl⟩
    go_wp2
    go_ret3
    exact ⟨rfl, (Below.refl _ _).alloc (Nat.le_refl _) _⟩
  · rw [hin] at C
    have hu : u < 1 := by
      unfold partOK at h
      rw [hin] at h
      simp at h
      omega
    have H := Lib.hid C
    clear C e h hin
    go_enter Try.func23, Try.ntmps23
    go_wp2_with fail
    refine (H.out).mono ?_
    rintro e w' ⟨rfl, rfl⟩
    go_wp2
    go_ret3
    exact ⟨rfl, (Below.refl _ _).alloc (Nat.le_refl _) _⟩

set_option maxHeartbeats 800000 in
theorem split_good (n u : Nat) (hn : n ≤ 4611686018427387904) (hu : 1 ≤ u) (w : World) : Calls Try.prog 23 #[.int .i64 (n : Int), .int .i64 (u : Int)] w fun e w' => e = .returned (.tuple #[.int .i64 ((n / u : Nat) : Int), .int .i64 ((n % u : Nat) : Int), .int .i64 0]) ∧ Below w.heap.size w w' := by
  have C := reckoned_any (some ⟨w.heap.size, 0, none⟩) 1 [(n : Int)] (w.alloc (.cells #[.int .i64 n] 3)) (one_read n w) (by simp)
  have e : allIn [(n : Int)] = true := by simp [allIn, inB]; omega
  rw [e] at C
  have H := Lib.hid C
  clear C e
  have hq : (n : Int) / (u : Int) = ((n / u : Nat) : Int) := rfl
  have hm : (n : Int) % (u : Int) = ((n % u : Nat) : Int) := rfl
  have hqb : n / u ≤ 4611686018427387904 := Nat.le_trans (Nat.div_le_self _ _) hn
  generalize n / u = q at *
  generalize n % u = r at *
  have hu0 : ((u : Int) == 0) = false := by simp; omega
  go_enter Try.func23, Try.ntmps23
  go_wp2_with fail
  refine (H.out).mono ?_
  rintro e w' ⟨rfl, rfl⟩
  go_wp2
  go_quiet (fail)
  go_wp2
  go_ret3
  exact ⟨ret_triple rfl hm rfl, below_drewN ((Below.refl _ _).alloc (Nat.le_refl _) _) _⟩

set_option maxHeartbeats 800000 in
theorem up_any (n u : Int) (hu : u ≤ 9223372036854775807) (w : World) : Calls Try.prog 12 #[.int .i64 n, .int .i64 u] w fun e w' => e = .returned (.tuple #[.int .i64 (upN n u), .int .i64 (partE n u)]) ∧ Below w.heap.size w w' := by
  cases h : partOK n u
  · have C := Lib.hid (split_bad n u h w)
    have E := Lib.hid (part_no h)
    clear h
    go_enter Try.func12, Try.ntmps12
    go_wp2_with fail
    refine (C.out).mono ?_
    rintro e w' ⟨rfl, hb⟩
    go_wp2
    go_ret2
    exact ⟨ret_two E.out.1.symm E.out.2.2.symm, hb⟩
  · obtain ⟨m, v, rfl, rfl, hm, hv⟩ := part_yes h
    have C := Lib.hid (split_good m v hm hv w)
    have E1 := Lib.hid (partE_yes h)
    have E2 := upN_yes h
    have hqb : m / v ≤ 4611686018427387904 := Nat.le_trans (Nat.div_le_self _ _) hm
    have hrb : m % v < v := Nat.mod_lt _ hv
    clear h
    generalize m / v = q at *
    generalize m % v = r at *
    by_cases hr : r = 0
    · subst hr
      rw [if_pos rfl] at E2
      have E := Lib.hid E2
      clear E2
      go_enter Try.func12, Try.ntmps12
      go_wp2_with fail
      refine (C.out).mono ?_
      rintro e w' ⟨rfl, hb⟩
      go_wp2
      go_ret2
      exact ⟨ret_two E.out.symm E1.out.symm, hb⟩
    · rw [if_neg hr] at E2
      have E := Lib.hid E2
      have hr1 : 1 ≤ r := by omega
      clear E2 hr
      go_enter Try.func12, Try.ntmps12
      go_wp2_with fail
      refine (C.out).mono ?_
      rintro e w' ⟨rfl, hb⟩
      go_wp2
      go_ret2
      exact ⟨ret_two (by rw [E.out]; go_num) E1.out.symm, hb⟩

theorem blocks_any (n : Int) (w : World) : Calls Try.prog 16 #[.int .i64 n] w fun e w' => e = .returned (.tuple #[.int .i64 (upN n 1024), .int .i64 (partE n 1024)]) ∧ Below w.heap.size w w' := by
  have C := Lib.hid (up_any n 1024 (by omega) w)
  go_enter Try.func16, Try.ntmps16
  go_wp2_with fail
  refine (C.out).mono ?_
  rintro e w' ⟨rfl, hb⟩
  go_wp2
  go_ret2
  exact ⟨rfl, hb⟩

set_option maxHeartbeats 800000 in
theorem down_any (n u : Int) (w : World) : Calls Try.prog 14 #[.int .i64 n, .int .i64 u] w fun e w' => e = .returned (.tuple #[.int .i64 (downN n u), .int .i64 (partE n u)]) ∧ Below w.heap.size w w' := by
  cases h : partOK n u
  · have C := Lib.hid (split_bad n u h w)
    have E := Lib.hid (part_no h)
    clear h
    go_enter Try.func14, Try.ntmps14
    go_wp2_with fail
    refine (C.out).mono ?_
    rintro e w' ⟨rfl, hb⟩
    go_wp2
    go_ret2
    exact ⟨ret_two E.out.2.1.symm E.out.2.2.symm, hb⟩
  · obtain ⟨m, v, rfl, rfl, hm, hv⟩ := part_yes h
    have C := Lib.hid (split_good m v hm hv w)
    have E1 := Lib.hid (partE_yes h)
    have E2 := downN_yes h
    have e := Nat.div_add_mod m v
    rw [Nat.mul_comm] at e
    have e2 : ((m / v * v : Nat) : Int) = (m : Int) - ((m % v : Nat) : Int) := by omega
    have hrb : m % v ≤ m := Nat.mod_le _ _
    rw [e2] at E2
    have E := Lib.hid E2
    clear h E2 e e2
    generalize m / v = q at *
    generalize m % v = r at *
    go_enter Try.func14, Try.ntmps14
    go_wp2_with fail
    refine (C.out).mono ?_
    rintro e w' ⟨rfl, hb⟩
    go_wp2
    go_ret2
    exact ⟨ret_two E.out.symm E1.out.symm, hb⟩

theorem part_false {n u : Int} (h : partOK n u = false) : n < 0 ∨ (0 ≤ n ∧ 4611686018427387904 < n) ∨ (0 ≤ n ∧ n ≤ 4611686018427387904 ∧ u < 1) := by
  unfold partOK inB at h
  simp at h
  omega

set_option maxHeartbeats 800000 in
theorem refup_any (n u : Int) (hu : u ≤ 9223372036854775807) (w : World) : Calls Try.prog 13 #[.int .i64 n, .int .i64 u] w fun e w' => e = .returned (.tuple #[.int .i64 (upN n u), .int .i64 (partE n u)]) ∧ w = w' := by
  cases h : partOK n u
  · have E := Lib.hid (part_no h)
    have hf := part_false h
    clear h
    rcases hf with hf | ⟨hf1, hf2⟩ | ⟨hf1, hf2, hf3⟩
    all_goals
      go_enter Try.func13, Try.ntmps13
      go_wp2
      go_ret2
      exact ⟨ret_two E.out.1.symm E.out.2.2.symm, rfl⟩
  · obtain ⟨m, v, rfl, rfl, hm, hv⟩ := part_yes h
    have E1 := Lib.hid (partE_yes h)
    have E2 := upN_yes h
    clear h
    by_cases hz : m = 0
    · subst hz
      rw [Nat.zero_mod, if_pos rfl, Nat.zero_div] at E2
      have E := Lib.hid E2
      clear E2
      go_enter Try.func13, Try.ntmps13
      go_wp2
      go_ret2
      exact ⟨ret_two E.out.symm E1.out.symm, rfl⟩
    · have hm1 : 1 ≤ m := by omega
      rw [← ceil_nat m v (by omega) hv] at E2
      have hq : ((m : Int) - 1) / (v : Int) = (((m - 1) / v : Nat) : Int) := by rw [Int.natCast_ediv, Int.natCast_sub hm1]; rfl
      have hqb : (m - 1) / v ≤ 4611686018427387904 := Nat.le_trans (Nat.div_le_self _ _) (by omega)
      generalize (m - 1) / v = q at *
      have E := Lib.hid E2
      clear E2 hz
      go_enter Try.func13, Try.ntmps13
      go_wp2
      go_ret2
      exact ⟨ret_two (by rw [E.out]; go_num) E1.out.symm, rfl⟩

set_option maxHeartbeats 800000 in
theorem refdown_any (n u : Int) (hu : u ≤ 9223372036854775807) (w : World) : Calls Try.prog 15 #[.int .i64 n, .int .i64 u] w fun e w' => e = .returned (.tuple #[.int .i64 (downN n u), .int .i64 (partE n u)]) ∧ w = w' := by
  cases h : partOK n u
  · have E := Lib.hid (part_no h)
    have hf := part_false h
    clear h
    rcases hf with hf | ⟨hf1, hf2⟩ | ⟨hf1, hf2, hf3⟩
    all_goals
      go_enter Try.func15, Try.ntmps15
      go_wp2
      go_ret2
      exact ⟨ret_two E.out.2.1.symm E.out.2.2.symm, rfl⟩
  · obtain ⟨m, v, rfl, rfl, hm, hv⟩ := part_yes h
    have E1 := Lib.hid (partE_yes h)
    have E2 := downN_yes h
    clear h
    have hR : m / v * v ≤ m := Nat.div_mul_le_self m v
    have hq : (m : Int) / (v : Int) = ((m / v : Nat) : Int) := rfl
    have hmul : ((m / v : Nat) : Int) * (v : Int) = ((m / v * v : Nat) : Int) := (Int.natCast_mul _ _).symm
    have hqb : m / v ≤ 4611686018427387904 := Nat.le_trans (Nat.div_le_self _ _) hm
    generalize m / v * v = R at *
    generalize m / v = q at *
    have E := Lib.hid E2
    clear E2
    go_enter Try.func15, Try.ntmps15
    go_wp2
    go_ret2
    exact ⟨ret_two E.out.symm E1.out.symm, rfl⟩
end Go.Proofs.Ytphgcgoobclakaa

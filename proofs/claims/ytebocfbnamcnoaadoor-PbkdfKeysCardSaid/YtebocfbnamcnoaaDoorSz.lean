/- Within of package size by its contract. Condition: ints are ints. reckoned of package size and the document's held, over any list, by their contracts. No condition but a length below 2^40. split, Up, Blocks, Down of package size and the document's Up and Down, by their contracts. Condition: ints are ints. -/
import Derived.Test.YtebocfbnamcnoaaDoorKit
import Derived.LoopTactic
import Derived.IntWalk
import Derived.Lib.Hide
import Derived.Deep.QuietTactic
import Derived.BigQuiet
import Derived.WalkSmall
namespace Go.Proofs.YtebocfbnamcnoaaDoor
set_option maxRecDepth 50000
open Go.RowKit

/-- is n from a to b? -/
def inB (n a b : Int) : Bool := decide (a ≤ n) && decide (n ≤ b)

theorem within_any (n a b : Int) (w : World) : Calls Tryd.prog 18 #[.int .i64 n, .int .i64 a, .int .i64 b] w fun e w' => e = .returned (.bool (inB n a b)) ∧ w = w' := by
  have h : inB n a b = (decide (a ≤ n) && decide (n ≤ b)) := rfl
  have H := Lib.hid h
  clear h
  by_cases h : a ≤ n
  all_goals
    go_enter Tryd.func18, Tryd.ntmps18
    go_wp2
    go_ret
    refine ⟨?_, rfl⟩
    rw [H.out]
    first
      | (simp [h]; done)
      | (simp; intro _; omega)
end Go.Proofs.YtebocfbnamcnoaaDoor

namespace Go.Proofs.YtebocfbnamcnoaaDoor
set_option maxRecDepth 50000
open Go.RowKit

theorem ret_bool {a b : Bool} (h : a = b) : Ending.returned (.bool a) = .returned (.bool b) := by rw [h]
/-- are all from 0 to 2^62? -/
def allIn (zs : List Int) : Bool := zs.all fun z => inB z 0 4611686018427387904
def i64s (zs : List Int) : List Value := zs.map (Value.int .i64)
theorem i64s_length (zs : List Int) : (i64s zs).length = zs.length := by simp [i64s]
theorem i64_at (zs : List Int) (k : Nat) (h : k < (i64s zs).length) : (i64s zs)[k] = .int .i64 (zs[k]'(by simpa [i64s] using h)) := by simp [i64s]
theorem allIn_snoc (zs : List Int) (k : Nat) (h : k < zs.length) (h1 : allIn (zs.take k) = true) (h2 : inB zs[k] 0 4611686018427387904 = true) : allIn (zs.take (k + 1)) = true := by
  rw [List.take_succ_eq_append_getElem h]
  unfold allIn at *
  rw [List.all_append, h1]
  simp [h2]
theorem allIn_no (zs : List Int) (k : Nat) (h : k < zs.length) (h2 : inB zs[k] 0 4611686018427387904 = false) : allIn zs = false := by
  unfold allIn
  rw [List.all_eq_false]
  exact ⟨zs[k], List.getElem_mem h, by simp [h2]⟩
theorem in_true (x a b : Int) (h : inB x a b = true) : a ≤ x ∧ x ≤ b := by unfold inB at h; simpa using h
theorem in_false (x a b : Int) (h : inB x a b = false) : ¬ (a ≤ x ∧ x ≤ b) := by unfold inB at h; simp at h; omega

set_option maxHeartbeats 800000 in
theorem reckoned_any (A : Option Addr) (c : Nat) (zs : List Int) (w : World) {B : Nat} (hr : Reads w B A (i64s zs)) (hlen : zs.length ≤ 1000000000000) :
    Calls Tryd.prog 38 #[.slice A zs.length c] w fun e w' => e = .returned (.bool (allIn zs)) ∧ w = w' := by
  have Hr := Lib.hid hr
  clear hr
  go_enter Tryd.func38, Tryd.ntmps38
  go_wp2
  go_loop [7] (fun i => ∃ k : Nat, k ≤ zs.length ∧ i = .int .i64 k ∧ Hid (allIn (zs.take k) = true)) (fun i => zs.length - (intOf i).toNat)
  case atStart => exact ⟨0, Nat.zero_le _, rfl, Lib.hid rfl⟩
  case round =>
    obtain ⟨k, hk, rfl, hok⟩ := hrel
    by_cases hlt : k < zs.length
    · obtain ⟨b, off, rfl, hbB, hcell⟩ := Hr.out k (by rw [i64s_length]; exact hlt)
      rw [i64_at] at hcell
      cases hin : inB zs[k] 0 4611686018427387904
      · have hno := Lib.hid (allIn_no zs k hlt hin)
        generalize zs[k] = x at *
        go_wp2_with (go_at_call 18; refine (within_any _ _ _ _).mono ?_; rintro e w' ⟨rfl, rfl⟩)
        go_ret
        exact ⟨ret_bool hno.out.symm, rfl⟩
      · have hs := Lib.hid (allIn_snoc zs k hlt hok.out hin)
        generalize zs[k] = x at *
        go_wp2_with (go_at_call 18; refine (within_any _ _ _ _).mono ?_; rintro e w' ⟨rfl, rfl⟩)
        go_round
        case rel => exact ⟨k + 1, by omega, by go_num, hs⟩
        case measure => simp [intOf]; omega
    · obtain rfl : k = zs.length := by omega
      rw [List.take_length] at hok
      go_wp2
      go_ret
      exact ⟨ret_bool hok.out.symm, rfl⟩

end Go.Proofs.YtebocfbnamcnoaaDoor

namespace Go.Proofs.YtebocfbnamcnoaaDoor
set_option maxRecDepth 50000
open Go.RowKit

def partOK (n u : Int) : Bool := inB n 0 4611686018427387904 && decide (1 ≤ u)
def upN (n u : Int) : Int := if partOK n u = true then (if n % u = 0 then n / u else n / u + 1) else 0
def downN (n u : Int) : Int := if partOK n u = true then n / u * u else 0
def partE (n u : Int) : Int := if partOK n u = true then 0 else 1
theorem part_no {n u : Int} (h : partOK n u = false) : upN n u = 0 ∧ downN n u = 0 ∧ partE n u = 1 := ⟨if_neg (by simp [h]), if_neg (by simp [h]), if_neg (by simp [h])⟩
theorem part_yes {n u : Int} (h : partOK n u = true) : ∃ m v : Nat, n = (m : Int) ∧ u = (v : Int) ∧ m ≤ 4611686018427387904 ∧ 1 ≤ v := by
  unfold partOK at h
  rw [Bool.and_eq_true] at h
  obtain ⟨h1, h2⟩ := in_true _ _ _ h.1
  have h3 : 1 ≤ u := by simpa using h.2
  exact ⟨n.toNat, u.toNat, by omega, by omega, by omega, by omega⟩
theorem partE_yes {n u : Int} (h : partOK n u = true) : partE n u = 0 := if_pos h
theorem upN_yes {n u : Nat} (h : partOK n u = true) : upN n u = ((if n % u = 0 then n / u else n / u + 1 : Nat) : Int) := by
  unfold upN
  rw [if_pos h]
  by_cases hz : n % u = 0
  · rw [if_pos hz, if_pos (by rw [← Int.natCast_emod, hz]; rfl)]; exact (Int.natCast_ediv n u).symm
  · rw [if_neg hz, if_neg (by rw [← Int.natCast_emod]; omega), ← Int.natCast_ediv]; rfl
theorem downN_yes {n u : Nat} (h : partOK n u = true) : downN n u = ((n / u * u : Nat) : Int) := by
  unfold downN
  rw [if_pos h, ← Int.natCast_ediv]; exact (Int.natCast_mul _ _).symm
theorem ceil_nat (n u : Nat) (hn : 0 < n) (hu : 0 < u) : (n - 1) / u + 1 = if n % u = 0 then n / u else n / u + 1 := by
  have e := Nat.div_add_mod n u
  have lt := Nat.mod_lt n hu
  generalize n / u = q at *
  generalize n % u = r at *
  subst e
  by_cases hr : r = 0
  · subst hr
    rw [if_pos rfl]
    cases q with
    | zero => simp at hn
    | succ p =>
      rw [Nat.mul_add, show u * p + u * 1 + 0 - 1 = u * p + (u - 1) from by omega, Nat.mul_add_div hu, Nat.div_eq_of_lt (by omega)]
  · rw [if_neg hr, show u * q + r - 1 = u * q + (r - 1) from by omega, Nat.mul_add_div hu, Nat.div_eq_of_lt (by omega)]
theorem ret_two {a b c d : Int} (h1 : a = c) (h2 : b = d) : Ending.returned (.tuple #[.int .i64 a, .int .i64 b]) = .returned (.tuple #[.int .i64 c, .int .i64 d]) := by rw [h1, h2]

theorem ret_triple {a b c x y z : Int} (h1 : a = x) (h2 : b = y) (h3 : c = z) : Ending.returned (.tuple #[.int .i64 a, .int .i64 b, .int .i64 c]) = .returned (.tuple #[.int .i64 x, .int .i64 y, .int .i64 z]) := by rw [h1, h2, h3]
theorem one_read (n : Int) (w : World) : Reads (w.alloc (.cells #[.int .i64 n] 3)) (w.heap.size + 1) (some ⟨w.heap.size, 0, none⟩) (i64s [n]) := fun k hk =>
  ⟨w.heap.size, 0, rfl, by omega, by
    match k, hk with
    | 0, _ => simp [i64s]⟩

set_option maxHeartbeats 800000 in
theorem split_bad (n u : Int) (h : partOK n u = false) (w : World) : Calls Tryd.prog 26 #[.int .i64 n, .int .i64 u] w fun e w' => e = .returned (.tuple #[.int .i64 0, .int .i64 0, .int .i64 1]) ∧ Below w.heap.size w w' := by
  have C := reckoned_any (some ⟨w.heap.size, 0, none⟩) 1 [n] (w.alloc (.cells #[.int .i64 n] 3)) (one_read n w) (by simp)
  have e : allIn [n] = inB n 0 4611686018427387904 := by simp [allIn]
  rw [e] at C
  cases hin : inB n 0 4611686018427387904
  · rw [hin] at C
    have H := Lib.hid C
    clear C e h hin
    go_enter Tryd.func26, Tryd.ntmps26
    go_wp2_with fail
    refine (H.out).mono ?_
    rintro e w' ⟨rfl, rfl⟩
    go_wp2
    go_ret3
    exact ⟨rfl, (Below.refl _ _).alloc (Nat.le_refl _) _⟩
  · rw [hin] at C
    have hu : u < 1 := by
      unfold partOK at h
      rw [hin] at h
      simp at h
      omega
    have H := Lib.hid C
    clear C e h hin
    go_enter Tryd.func26, Tryd.ntmps26
    go_wp2_with fail
    refine (H.out).mono ?_
    rintro e w' ⟨rfl, rfl⟩
    go_wp2
    go_ret3
    exact ⟨rfl, (Below.refl _ _).alloc (Nat.le_refl _) _⟩

set_option maxHeartbeats 800000 in
theorem split_good (n u : Nat) (hn : n ≤ 4611686018427387904) (hu : 1 ≤ u) (w : World) : Calls Tryd.prog 26 #[.int .i64 (n : Int), .int .i64 (u : Int)] w fun e w' => e = .returned (.tuple #[.int .i64 ((n / u : Nat) : Int), .int .i64 ((n % u : Nat) : Int), .int .i64 0]) ∧ Below w.heap.size w w' := by
  have C := reckoned_any (some ⟨w.heap.size, 0, none⟩) 1 [(n : Int)] (w.alloc (.cells #[.int .i64 n] 3)) (one_read n w) (by simp)
  have e : allIn [(n : Int)] = true := by simp [allIn, inB]; omega
  rw [e] at C
  have H := Lib.hid C
  clear C e
  have hq : (n : Int) / (u : Int) = ((n / u : Nat) : Int) := rfl
  have hm : (n : Int) % (u : Int) = ((n % u : Nat) : Int) := rfl
  have hqb : n / u ≤ 4611686018427387904 := Nat.le_trans (Nat.div_le_self _ _) hn
  generalize n / u = q at *
  generalize n % u = r at *
  have hu0 : ((u : Int) == 0) = false := by simp; omega
  go_enter Tryd.func26, Tryd.ntmps26
  go_wp2_with fail
  refine (H.out).mono ?_
  rintro e w' ⟨rfl, rfl⟩
  go_wp2
  go_quiet (fail)
  go_wp2
  go_ret3
  exact ⟨ret_triple rfl hm rfl, below_drewN ((Below.refl _ _).alloc (Nat.le_refl _) _) _⟩

set_option maxHeartbeats 800000 in
theorem up_any (n u : Int) (hu : u ≤ 9223372036854775807) (w : World) : Calls Tryd.prog 15 #[.int .i64 n, .int .i64 u] w fun e w' => e = .returned (.tuple #[.int .i64 (upN n u), .int .i64 (partE n u)]) ∧ Below w.heap.size w w' := by
  cases h : partOK n u
  · have C := Lib.hid (split_bad n u h w)
    have E := Lib.hid (part_no h)
    clear h
    go_enter Tryd.func15, Tryd.ntmps15
    go_wp2_with fail
    refine (C.out).mono ?_
    rintro e w' ⟨rfl, hb⟩
    go_wp2
    go_ret2
    exact ⟨ret_two E.out.1.symm E.out.2.2.symm, hb⟩
  · obtain ⟨m, v, rfl, rfl, hm, hv⟩ := part_yes h
    have C := Lib.hid (split_good m v hm hv w)
    have E1 := Lib.hid (partE_yes h)
    have E2 := upN_yes h
    have hqb : m / v ≤ 4611686018427387904 := Nat.le_trans (Nat.div_le_self _ _) hm
    have hrb : m % v < v := Nat.mod_lt _ hv
    clear h
    generalize m / v = q at *
    generalize m % v = r at *
    by_cases hr : r = 0
    · subst hr
      rw [if_pos rfl] at E2
      have E := Lib.hid E2
      clear E2
      go_enter Tryd.func15, Tryd.ntmps15
      go_wp2_with fail
      refine (C.out).mono ?_
      rintro e w' ⟨rfl, hb⟩
      go_wp2
      go_ret2
      exact ⟨ret_two E.out.symm E1.out.symm, hb⟩
    · rw [if_neg hr] at E2
      have E := Lib.hid E2
      have hr1 : 1 ≤ r := by omega
      clear E2 hr
      go_enter Tryd.func15, Tryd.ntmps15
      go_wp2_with fail
      refine (C.out).mono ?_
      rintro e w' ⟨rfl, hb⟩
      go_wp2
      go_ret2
      exact ⟨ret_two (by rw [E.out]; go_num) E1.out.symm, hb⟩

theorem part_false {n u : Int} (h : partOK n u = false) : n < 0 ∨ (0 ≤ n ∧ 4611686018427387904 < n) ∨ (0 ≤ n ∧ n ≤ 4611686018427387904 ∧ u < 1) := by
  unfold partOK inB at h
  simp at h
  omega

end Go.Proofs.YtebocfbnamcnoaaDoor

/- Within, math/bits.Mul64, times, Power of package size, and the document's Power, Up and Down, by their contracts. Conditions: ints are ints; the factors of times are from 0 to 2^62. reckoned of package size and the document's held, over any list, by their contracts. No condition but a length below 2^40. Add of package size and the document's Add, over any list: the sum, or why there is none. Condition: a length below 2^40. Mul of package size and the document's Mul, over any list: the product, or why there is none. Condition: a length below 2^40. split, Up, Blocks, Down of package size and the document's Up and Down, by their contracts. Condition: ints are ints. Power of package size and the document's Power. Condition: ints are ints. -/
import Derived.Test.YtpampgkhjcfeaaaDoorKit
import Derived.LoopTactic
import Derived.IntWalk
import Derived.Lib.Hide
import Derived.Lib.Mul64
import Derived.Laws.Bits64b
import Derived.Deep.QuietTactic
import Derived.BigQuiet
import Derived.WalkSmall
namespace Go.Proofs.YtpampgkhjcfeaaaDoor
set_option maxRecDepth 50000
open Go.RowKit

/-- is n from a to b? -/
def inB (n a b : Int) : Bool := decide (a ≤ n) && decide (n ≤ b)

theorem within_any (n a b : Int) (w : World) : Calls Tryd.prog 40 #[.int .i64 n, .int .i64 a, .int .i64 b] w fun e w' => e = .returned (.bool (inB n a b)) ∧ w = w' := by
  have h : inB n a b = (decide (a ≤ n) && decide (n ≤ b)) := rfl
  have H := Lib.hid h
  clear h
  by_cases h : a ≤ n
  all_goals
    go_enter Tryd.func40, Tryd.ntmps40
    go_wp2
    go_ret
    refine ⟨?_, rfl⟩
    rw [H.out]
    first
      | (simp [h]; done)
      | (simp; intro _; omega)

theorem maskN (a : Nat) (ha : a < 18446744073709551616) : bits .and .u64 (a : Int) 4294967295 = ((a % 4294967296 : Nat) : Int) := by
  have h := bits_and_u64_nat a 4294967295 ha (by omega)
  have e : a &&& 4294967295 = a % 4294967296 := Nat.and_two_pow_sub_one_eq_mod a 32
  rw [e] at h
  exact h
theorem divN (a : Nat) : (a : Int) / 4294967296 = ((a / 4294967296 : Nat) : Int) := by omega
theorem mulN (a b : Nat) : (a : Int) * (b : Int) = ((a * b : Nat) : Int) := (Int.natCast_mul a b).symm
theorem addN (a b : Nat) : (a : Int) + (b : Int) = ((a + b : Nat) : Int) := (Int.natCast_add a b).symm
theorem wrapN (a : Nat) (ha : a < 18446744073709551616) : IntKind.u64.wrap (a : Int) = (a : Int) := by rw [IntKind.wrap_u64]; omega
theorem wrapM (a : Nat) : IntKind.u64.wrap (a : Int) = ((a % 18446744073709551616 : Nat) : Int) := by rw [IntKind.wrap_u64]; omega

set_option maxHeartbeats 1000000 in
theorem mul64_any (x y : Nat) (hx : x < 18446744073709551616) (hy : y < 18446744073709551616) (w : World) :
    Calls Tryd.prog 67 #[.int .u64 (x : Int), .int .u64 (y : Int)] w fun e w' => e = .returned (.tuple #[.int .u64 ((x * y / 18446744073709551616 : Nat) : Int), .int .u64 ((x * y % 18446744073709551616 : Nat) : Int)]) ∧ w = w' := by
  obtain ⟨bd, bt, bw, hhi⟩ := Lib.mul64_hi x y hx hy
  have ba := Lib.half_mul_le (a := x / 4294967296) (b := y / 4294967296) (by omega) (by omega)
  have bb := Lib.half_mul_le (a := x / 4294967296) (b := y % 4294967296) (by omega) (by omega)
  have bc := Lib.half_mul_le (a := x % 4294967296) (b := y / 4294967296) (by omega) (by omega)
  have ba' : x / 4294967296 * (y / 4294967296) < 18446744073709551616 := by omega
  have bb' : x / 4294967296 * (y % 4294967296) < 18446744073709551616 := by omega
  have bc' : x % 4294967296 * (y / 4294967296) < 18446744073709551616 := by omega
  have bh1 : x / 4294967296 * (y / 4294967296) + (x / 4294967296 * (y % 4294967296) + x % 4294967296 * (y % 4294967296) / 4294967296) / 4294967296 < 18446744073709551616 := by omega
  have bh : x / 4294967296 * (y / 4294967296) + (x / 4294967296 * (y % 4294967296) + x % 4294967296 * (y % 4294967296) / 4294967296) / 4294967296 + ((x / 4294967296 * (y % 4294967296) + x % 4294967296 * (y % 4294967296) / 4294967296) % 4294967296 + x % 4294967296 * (y / 4294967296)) / 4294967296 < 18446744073709551616 := by omega
  go_enter Tryd.func67, Tryd.ntmps67
  go_wp2
  simp only [maskN x hx, maskN y hy, divN, mulN, addN, wrapN _ bd, wrapN _ bb', wrapN _ bt, maskN _ bt, wrapN _ bc', wrapN _ bw, wrapN _ ba', wrapN _ bh1, wrapN _ bh, wrapM (x * y)]
  rw [hhi]
  go_ret2
  exact ⟨rfl, rfl⟩

/-- the product of two, or that it is too great -/
theorem times_small (x y : Nat) (hx : x ≤ 4611686018427387904) (hy : y ≤ 4611686018427387904) (h : x * y ≤ 4611686018427387904) (w : World) :
    Calls Tryd.prog 55 #[.int .i64 (x : Int), .int .i64 (y : Int)] w fun e w' => e = .returned (.tuple #[.int .i64 ((x * y : Nat) : Int), .int .i64 0]) ∧ w = w' := by
  have C := mul64_any x y (by omega) (by omega) w
  rw [Nat.div_eq_of_lt (by omega), Nat.mod_eq_of_lt (by omega)] at C
  generalize x * y = p at *
  have H := Lib.hid C
  clear C
  go_enter Tryd.func55, Tryd.ntmps55
  go_wp2_with fail
  refine (H.out).mono ?_
  rintro e w' ⟨rfl, rfl⟩
  go_wp2
  go_ret2
  exact ⟨rfl, rfl⟩
theorem times_great (x y : Nat) (hx : x ≤ 4611686018427387904) (hy : y ≤ 4611686018427387904) (h : 4611686018427387904 < x * y) (w : World) :
    Calls Tryd.prog 55 #[.int .i64 (x : Int), .int .i64 (y : Int)] w fun e w' => e = .returned (.tuple #[.int .i64 0, .int .i64 10]) ∧ w = w' := by
  have C := mul64_any x y (by omega) (by omega) w
  have hh : x * y / 18446744073709551616 = 0 ∧ x * y % 18446744073709551616 = x * y ∨ 1 ≤ x * y / 18446744073709551616 := by omega
  have hb : x * y % 18446744073709551616 < 18446744073709551616 := by omega
  have hc : x * y / 18446744073709551616 < 18446744073709551616 := by
    have := Nat.mul_le_mul hx hy
    omega
  rcases hh with ⟨h1, h2⟩ | h1
  · rw [h1, h2] at C
    rw [h2] at hb
    clear hc h1 h2
    generalize x * y = p at *
    have H := Lib.hid C
    clear C
    go_enter Tryd.func55, Tryd.ntmps55
    go_wp2_with fail
    refine (H.out).mono ?_
    rintro e w' ⟨rfl, rfl⟩
    go_wp2
    go_ret2
    exact ⟨rfl, rfl⟩
  · clear h
    generalize x * y / 18446744073709551616 = p at *
    generalize x * y % 18446744073709551616 = q at *
    have H := Lib.hid C
    clear C
    go_enter Tryd.func55, Tryd.ntmps55
    go_wp2_with fail
    refine (H.out).mono ?_
    rintro e w' ⟨rfl, rfl⟩
    go_wp2
    go_ret2
    exact ⟨rfl, rfl⟩
end Go.Proofs.YtpampgkhjcfeaaaDoor

namespace Go.Proofs.YtpampgkhjcfeaaaDoor
set_option maxRecDepth 50000
open Go.RowKit

theorem ret_bool {a b : Bool} (h : a = b) : Ending.returned (.bool a) = .returned (.bool b) := by rw [h]
/-- are all from 0 to 2^62? -/
def allIn (zs : List Int) : Bool := zs.all fun z => inB z 0 4611686018427387904
def i64s (zs : List Int) : List Value := zs.map (Value.int .i64)
theorem i64s_length (zs : List Int) : (i64s zs).length = zs.length := by simp [i64s]
theorem i64_at (zs : List Int) (k : Nat) (h : k < (i64s zs).length) : (i64s zs)[k] = .int .i64 (zs[k]'(by simpa [i64s] using h)) := by simp [i64s]
theorem allIn_snoc (zs : List Int) (k : Nat) (h : k < zs.length) (h1 : allIn (zs.take k) = true) (h2 : inB zs[k] 0 4611686018427387904 = true) : allIn (zs.take (k + 1)) = true := by
  rw [List.take_succ_eq_append_getElem h]
  unfold allIn at *
  rw [List.all_append, h1]
  simp [h2]
theorem allIn_no (zs : List Int) (k : Nat) (h : k < zs.length) (h2 : inB zs[k] 0 4611686018427387904 = false) : allIn zs = false := by
  unfold allIn
  rw [List.all_eq_false]
  exact ⟨zs[k], List.getElem_mem h, by simp [h2]⟩
theorem in_true (x a b : Int) (h : inB x a b = true) : a ≤ x ∧ x ≤ b := by unfold inB at h; simpa using h
theorem in_false (x a b : Int) (h : inB x a b = false) : ¬ (a ≤ x ∧ x ≤ b) := by unfold inB at h; simp at h; omega

set_option maxHeartbeats 800000 in
theorem reckoned_any (A : Option Addr) (c : Nat) (zs : List Int) (w : World) {B : Nat} (hr : Reads w B A (i64s zs)) (hlen : zs.length ≤ 1000000000000) :
    Calls Tryd.prog 54 #[.slice A zs.length c] w fun e w' => e = .returned (.bool (allIn zs)) ∧ w = w' := by
  have Hr := Lib.hid hr
  clear hr
  go_enter Tryd.func54, Tryd.ntmps54
  go_wp2
  go_loop [7] (fun i => ∃ k : Nat, k ≤ zs.length ∧ i = .int .i64 k ∧ Hid (allIn (zs.take k) = true)) (fun i => zs.length - (intOf i).toNat)
  case atStart => exact ⟨0, Nat.zero_le _, rfl, Lib.hid rfl⟩
  case round =>
    obtain ⟨k, hk, rfl, hok⟩ := hrel
    by_cases hlt : k < zs.length
    · obtain ⟨b, off, rfl, hbB, hcell⟩ := Hr.out k (by rw [i64s_length]; exact hlt)
      rw [i64_at] at hcell
      cases hin : inB zs[k] 0 4611686018427387904
      · have hno := Lib.hid (allIn_no zs k hlt hin)
        generalize zs[k] = x at *
        go_wp2_with (go_at_call 40; refine (within_any _ _ _ _).mono ?_; rintro e w' ⟨rfl, rfl⟩)
        go_ret
        exact ⟨ret_bool hno.out.symm, rfl⟩
      · have hs := Lib.hid (allIn_snoc zs k hlt hok.out hin)
        generalize zs[k] = x at *
        go_wp2_with (go_at_call 40; refine (within_any _ _ _ _).mono ?_; rintro e w' ⟨rfl, rfl⟩)
        go_round
        case rel => exact ⟨k + 1, by omega, by go_num, hs⟩
        case measure => simp [intOf]; omega
    · obtain rfl : k = zs.length := by omega
      rw [List.take_length] at hok
      go_wp2
      go_ret
      exact ⟨ret_bool hok.out.symm, rfl⟩

end Go.Proofs.YtpampgkhjcfeaaaDoor

namespace Go.Proofs.YtpampgkhjcfeaaaDoor
set_option maxRecDepth 50000
open Go.RowKit

def natsOf (zs : List Int) : List Nat := zs.map Int.toNat
def prodOf : List Nat → Nat
  | [] => 1
  | x :: l => x * prodOf l
/-- a number, if it is not too great -/
def fitN (p : Nat) : Int := if p ≤ 4611686018427387904 then (p : Int) else 0
def fitE (p : Nat) : Int := if p ≤ 4611686018427387904 then 0 else 10
def sumN (zs : List Int) : Int := if allIn zs = true then fitN (natsOf zs).sum else 0
def sumE (zs : List Int) : Int := if allIn zs = true then fitE (natsOf zs).sum else 1
def proN (zs : List Int) : Int := if allIn zs = true then fitN (prodOf (natsOf zs)) else 0
def proE (zs : List Int) : Int := if allIn zs = true then fitE (prodOf (natsOf zs)) else 1

theorem good_nats (zs : List Int) (h : allIn zs = true) : ∃ xs : List Nat, zs = xs.map (fun x : Nat => (x : Int)) ∧ natsOf zs = xs ∧ ∀ x ∈ xs, x ≤ 4611686018427387904 := by
  unfold allIn at h
  rw [List.all_eq_true] at h
  refine ⟨natsOf zs, ?_, rfl, ?_⟩
  · unfold natsOf
    rw [List.map_map]
    conv => lhs; rw [← List.map_id zs]
    exact List.map_congr_left fun n hn => by
      have := in_true _ _ _ (h n hn)
      simp only [id_eq, Function.comp_apply]; omega
  · intro x hx
    obtain ⟨n, hn, rfl⟩ := List.mem_map.1 hx
    have := in_true _ _ _ (h n hn)
    omega
theorem sum_snoc (xs : List Nat) (k : Nat) (h : k < xs.length) : (xs.take (k + 1)).sum = (xs.take k).sum + xs[k] := by
  rw [List.take_succ_eq_append_getElem h, List.sum_append, List.sum_singleton]
theorem sum_take (xs : List Nat) (k : Nat) : (xs.take k).sum ≤ xs.sum := by
  have h := congrArg List.sum (List.take_append_drop k xs)
  rw [List.sum_append] at h
  omega
theorem fitN_yes {p : Nat} (h : p ≤ 4611686018427387904) : fitN p = (p : Int) := if_pos h
theorem fitE_yes {p : Nat} (h : p ≤ 4611686018427387904) : fitE p = 0 := if_pos h
theorem fitN_no {p : Nat} (h : 4611686018427387904 < p) : fitN p = 0 := if_neg (by omega)
theorem fitE_no {p : Nat} (h : 4611686018427387904 < p) : fitE p = 10 := if_neg (by omega)
theorem sumN_no {zs : List Int} (h : allIn zs = false) : sumN zs = 0 := if_neg (by simp [h])
theorem sumE_no {zs : List Int} (h : allIn zs = false) : sumE zs = 1 := if_neg (by simp [h])
theorem proN_no {zs : List Int} (h : allIn zs = false) : proN zs = 0 := if_neg (by simp [h])
theorem proE_no {zs : List Int} (h : allIn zs = false) : proE zs = 1 := if_neg (by simp [h])
theorem sumN_yes {zs : List Int} {xs : List Nat} (h : allIn zs = true) (e : natsOf zs = xs) : sumN zs = fitN xs.sum := by rw [← e]; exact if_pos h
theorem sumE_yes {zs : List Int} {xs : List Nat} (h : allIn zs = true) (e : natsOf zs = xs) : sumE zs = fitE xs.sum := by rw [← e]; exact if_pos h
theorem proN_yes {zs : List Int} {xs : List Nat} (h : allIn zs = true) (e : natsOf zs = xs) : proN zs = fitN (prodOf xs) := by rw [← e]; exact if_pos h
theorem proE_yes {zs : List Int} {xs : List Nat} (h : allIn zs = true) (e : natsOf zs = xs) : proE zs = fitE (prodOf xs) := by rw [← e]; exact if_pos h
theorem ret_pair {a b c d : Int} (h1 : a = c) (h2 : b = d) : Ending.returned (.tuple #[.int .i64 a, .int .i64 b]) = .returned (.tuple #[.int .i64 c, .int .i64 d]) := by rw [h1, h2]
theorem nat_at (xs : List Nat) (k : Nat) (h : k < (i64s (xs.map fun x : Nat => (x : Int))).length) : (i64s (xs.map fun x : Nat => (x : Int)))[k] = .int .i64 ((xs[k]'(by simpa [i64s] using h) : Nat) : Int) := by simp [i64s]
theorem sznats_length (xs : List Nat) : (i64s (xs.map fun x : Nat => (x : Int))).length = xs.length := by simp [i64s]

end Go.Proofs.YtpampgkhjcfeaaaDoor

namespace Go.Proofs.YtpampgkhjcfeaaaDoor
set_option maxRecDepth 50000
open Go.RowKit

theorem prod_append : ∀ a b : List Nat, prodOf (a ++ b) = prodOf a * prodOf b
  | [], b => (Nat.one_mul _).symm
  | x :: a, b => by show x * prodOf (a ++ b) = x * prodOf a * prodOf b; rw [prod_append a b, Nat.mul_assoc]
theorem prod_snoc (xs : List Nat) (k : Nat) (h : k < xs.length) : prodOf (xs.take (k + 1)) = prodOf (xs.take k) * xs[k] := by
  rw [List.take_succ_eq_append_getElem h, prod_append]
  show _ * (xs[k] * 1) = _
  rw [Nat.mul_one]
theorem prod_pos : ∀ xs : List Nat, (∀ x ∈ xs, 0 < x) → 0 < prodOf xs
  | [], _ => Nat.one_pos
  | x :: xs, h => Nat.mul_pos (h x (by simp)) (prod_pos xs fun y hy => h y (by simp [hy]))
theorem prod_zero : ∀ xs : List Nat, 0 ∈ xs → prodOf xs = 0
  | x :: xs, h => by
    show x * prodOf xs = 0
    rcases List.mem_cons.1 h with h | h
    · rw [← h, Nat.zero_mul]
    · rw [prod_zero xs h, Nat.mul_zero]
theorem prod_take (xs : List Nat) (h : ∀ x ∈ xs, 0 < x) (k : Nat) : prodOf (xs.take k) ≤ prodOf xs := by
  have e := congrArg prodOf (List.take_append_drop k xs)
  rw [prod_append] at e
  have hp := prod_pos (xs.drop k) fun x hx => h x (List.mem_of_mem_drop hx)
  rw [← e]
  exact Nat.le_mul_of_pos_right _ hp

set_option maxHeartbeats 1600000 in
theorem mul_any (A : Option Addr) (c : Nat) (zs : List Int) (w : World) {B : Nat} (hr : Reads w B A (i64s zs)) (hlen : zs.length ≤ 1000000000000) :
    Calls Tryd.prog 37 #[.slice A zs.length c] w fun e w' => e = .returned (.tuple #[.int .i64 (proN zs), .int .i64 (proE zs)]) ∧ w = w' := by
  have C := reckoned_any A c zs w hr hlen
  cases h : allIn zs
  · rw [h] at C
    have e1 := Lib.hid (proN_no h)
    have e2 := Lib.hid (proE_no h)
    have H := Lib.hid C
    clear C h hr
    go_enter Tryd.func37, Tryd.ntmps37
    go_wp2_with fail
    refine (H.out).mono ?_
    rintro e w' ⟨rfl, rfl⟩
    go_wp2
    go_ret2
    exact ⟨ret_pair e1.out.symm e2.out.symm, rfl⟩
  · rw [h] at C
    obtain ⟨xs, rfl, hn, hx⟩ := good_nats zs h
    have e1 := Lib.hid (proN_yes h hn)
    have e2 := Lib.hid (proE_yes h hn)
    rw [List.length_map] at *
    have H := Lib.hid C
    have Hr := Lib.hid hr
    have Hx := Lib.hid hx
    clear C h hr hn hx
    go_enter Tryd.func37, Tryd.ntmps37
    go_wp2_with fail
    refine (H.out).mono ?_
    rintro e w' ⟨rfl, rfl⟩
    go_wp2
    go_loop [4, 5, 13] (fun p o i => ∃ k : Nat, k ≤ xs.length ∧ i = .int .i64 k ∧ 0 < prodOf (xs.take k) ∧
      (prodOf (xs.take k) ≤ 4611686018427387904 ∧ p = .int .i64 (prodOf (xs.take k) : Nat) ∧ o = .int .i64 0 ∨ 4611686018427387904 < prodOf (xs.take k) ∧ p = .int .i64 0 ∧ o = .int .i64 10)) (fun _ _ i => xs.length - (intOf i).toNat)
    case atStart => exact ⟨0, Nat.zero_le _, rfl, Nat.one_pos, .inl ⟨by show 1 ≤ _; omega, rfl, rfl⟩⟩
    case round =>
      obtain ⟨k, hk, rfl, hpos, hs⟩ := hrel
      by_cases hlt : k < xs.length
      · obtain ⟨b, off, rfl, hbB, hcell⟩ := Hr.out k (by rw [sznats_length]; exact hlt)
        rw [nat_at] at hcell
        have hx0 := Hx.out xs[k] (List.getElem_mem hlt)
        have Hsn := Lib.hid (prod_snoc xs k hlt)
        have Hz := Lib.hid fun h : xs[k] = 0 => prod_zero xs (h ▸ List.getElem_mem hlt)
        generalize xs[k] = x at *
        generalize prodOf (xs.take k) = P at *
        by_cases hxz : x = 0
        · have hz := Lib.hid (Hz.out hxz)
          subst hxz
          clear Hz Hsn
          rcases hs with ⟨hP, rfl, rfl⟩ | ⟨hP, rfl, rfl⟩
          all_goals
            go_wp2
            go_ret2
            exact ⟨ret_pair (by rw [e1.out, hz.out]; rfl) (by rw [e2.out, hz.out]; rfl), rfl⟩
        · clear Hz
          have hx1 : 1 ≤ x := by omega
          have hpos2 : 0 < P * x := Nat.mul_pos hpos (by omega)
          rcases hs with ⟨hP, rfl, rfl⟩ | ⟨hP, rfl, rfl⟩
          · by_cases hfit : P * x ≤ 4611686018427387904
            · have T := Lib.hid (times_small P x hP hx0 hfit)
              go_wp2_with fail
              refine (T.out _).mono ?_
              rintro e w' ⟨rfl, rfl⟩
              generalize P * x = Q at *
              go_wp2
              go_round
              case rel => exact ⟨k + 1, by omega, by go_num, by rw [Hsn.out]; exact hpos2, by rw [Hsn.out]; exact .inl ⟨hfit, rfl, rfl⟩⟩
              case measure => simp [intOf]; omega
            · have T := Lib.hid (times_great P x hP hx0 (by omega))
              have hfit2 : 4611686018427387904 < P * x := by omega
              clear hfit
              go_wp2_with fail
              refine (T.out _).mono ?_
              rintro e w' ⟨rfl, rfl⟩
              generalize P * x = Q at *
              go_wp2
              go_round
              case rel => exact ⟨k + 1, by omega, by go_num, by rw [Hsn.out]; exact hpos2, by rw [Hsn.out]; exact .inr ⟨hfit2, rfl, rfl⟩⟩
              case measure => simp [intOf]; omega
          · have hfit2 : 4611686018427387904 < P * x := by
              have := Nat.mul_le_mul_left P hx1
              omega
            generalize P * x = Q at *
            go_wp2
            go_round
            case rel => exact ⟨k + 1, by omega, by go_num, by rw [Hsn.out]; exact hpos2, by rw [Hsn.out]; exact .inr ⟨hfit2, rfl, rfl⟩⟩
            case measure => simp [intOf]; omega
      · obtain rfl : k = xs.length := by omega
        rw [List.take_length] at *
        rcases hs with ⟨hP, rfl, rfl⟩ | ⟨hP, rfl, rfl⟩
        · have f1 := Lib.hid (fitN_yes hP)
          have f2 := Lib.hid (fitE_yes hP)
          go_wp2
          go_ret2
          exact ⟨ret_pair (by rw [e1.out, f1.out]) (by rw [e2.out, f2.out]), rfl⟩
        · have f1 := Lib.hid (fitN_no hP)
          have f2 := Lib.hid (fitE_no hP)
          go_wp2
          go_ret2
          exact ⟨ret_pair (by rw [e1.out, f1.out]) (by rw [e2.out, f2.out]), rfl⟩

end Go.Proofs.YtpampgkhjcfeaaaDoor

namespace Go.Proofs.YtpampgkhjcfeaaaDoor
set_option maxRecDepth 50000
open Go.RowKit

def partOK (n u : Int) : Bool := inB n 0 4611686018427387904 && decide (1 ≤ u)
def upN (n u : Int) : Int := if partOK n u = true then (if n % u = 0 then n / u else n / u + 1) else 0
def downN (n u : Int) : Int := if partOK n u = true then n / u * u else 0
def partE (n u : Int) : Int := if partOK n u = true then 0 else 1
theorem part_no {n u : Int} (h : partOK n u = false) : upN n u = 0 ∧ downN n u = 0 ∧ partE n u = 1 := ⟨if_neg (by simp [h]), if_neg (by simp [h]), if_neg (by simp [h])⟩
theorem part_yes {n u : Int} (h : partOK n u = true) : ∃ m v : Nat, n = (m : Int) ∧ u = (v : Int) ∧ m ≤ 4611686018427387904 ∧ 1 ≤ v := by
  unfold partOK at h
  rw [Bool.and_eq_true] at h
  obtain ⟨h1, h2⟩ := in_true _ _ _ h.1
  have h3 : 1 ≤ u := by simpa using h.2
  exact ⟨n.toNat, u.toNat, by omega, by omega, by omega, by omega⟩
theorem partE_yes {n u : Int} (h : partOK n u = true) : partE n u = 0 := if_pos h
theorem upN_yes {n u : Nat} (h : partOK n u = true) : upN n u = ((if n % u = 0 then n / u else n / u + 1 : Nat) : Int) := by
  unfold upN
  rw [if_pos h]
  by_cases hz : n % u = 0
  · rw [if_pos hz, if_pos (by rw [← Int.natCast_emod, hz]; rfl)]; exact (Int.natCast_ediv n u).symm
  · rw [if_neg hz, if_neg (by rw [← Int.natCast_emod]; omega), ← Int.natCast_ediv]; rfl
theorem downN_yes {n u : Nat} (h : partOK n u = true) : downN n u = ((n / u * u : Nat) : Int) := by
  unfold downN
  rw [if_pos h, ← Int.natCast_ediv]; exact (Int.natCast_mul _ _).symm
theorem ceil_nat (n u : Nat) (hn : 0 < n) (hu : 0 < u) : (n - 1) / u + 1 = if n % u = 0 then n / u else n / u + 1 := by
  have e := Nat.div_add_mod n u
  have lt := Nat.mod_lt n hu
  generalize n / u = q at *
  generalize n % u = r at *
  subst e
  by_cases hr : r = 0
  · subst hr
    rw [if_pos rfl]
    cases q with
    | zero => simp at hn
    | succ p =>
      rw [Nat.mul_add, show u * p + u * 1 + 0 - 1 = u * p + (u - 1) from by omega, Nat.mul_add_div hu, Nat.div_eq_of_lt (by omega)]
  · rw [if_neg hr, show u * q + r - 1 = u * q + (r - 1) from by omega, Nat.mul_add_div hu, Nat.div_eq_of_lt (by omega)]
theorem ret_two {a b c d : Int} (h1 : a = c) (h2 : b = d) : Ending.returned (.tuple #[.int .i64 a, .int .i64 b]) = .returned (.tuple #[.int .i64 c, .int .i64 d]) := by rw [h1, h2]

theorem ret_triple {a b c x y z : Int} (h1 : a = x) (h2 : b = y) (h3 : c = z) : Ending.returned (.tuple #[.int .i64 a, .int .i64 b, .int .i64 c]) = .returned (.tuple #[.int .i64 x, .int .i64 y, .int .i64 z]) := by rw [h1, h2, h3]
theorem one_read (n : Int) (w : World) : Reads (w.alloc (.cells #[.int .i64 n] 3)) (w.heap.size + 1) (some ⟨w.heap.size, 0, none⟩) (i64s [n]) := fun k hk =>
  ⟨w.heap.size, 0, rfl, by omega, by
    match k, hk with
    | 0, _ => simp [i64s]⟩

set_option maxHeartbeats 800000 in
theorem split_bad (n u : Int) (h : partOK n u = false) (w : World) : Calls Tryd.prog 56 #[.int .i64 n, .int .i64 u] w fun e w' => e = .returned (.tuple #[.int .i64 0, .int .i64 0, .int .i64 1]) ∧ Below w.heap.size w w' := by
  have C := reckoned_any (some ⟨w.heap.size, 0, none⟩) 1 [n] (w.alloc (.cells #[.int .i64 n] 3)) (one_read n w) (by simp)
  have e : allIn [n] = inB n 0 4611686018427387904 := by simp [allIn]
  rw [e] at C
  cases hin : inB n 0 4611686018427387904
  · rw [hin] at C
    have H := Lib.hid C
    clear C e h hin
    go_enter Tryd.func56, Tryd.ntmps56
    go_wp2_with fail
    refine (H.out).mono ?_
    rintro e w' ⟨rfl, rfl⟩
    go_wp2
    go_ret3
    exact ⟨rfl, (Below.refl _ _).alloc (Nat.le_refl _) _⟩
  · rw [hin] at C
    have hu : u < 1 := by
      unfold partOK at h
      rw [hin] at h
      simp at h
      omega
    have H := Lib.hid C
    clear C e h hin
    go_enter Tryd.func56, Tryd.ntmps56
    go_wp2_with fail
    refine (H.out).mono ?_
    rintro e w' ⟨rfl, rfl⟩
    go_wp2
    go_ret3
    exact ⟨rfl, (Below.refl _ _).alloc (Nat.le_refl _) _⟩

set_option maxHeartbeats 800000 in
theorem split_good (n u : Nat) (hn : n ≤ 4611686018427387904) (hu : 1 ≤ u) (w : World) : Calls Tryd.prog 56 #[.int .i64 (n : Int), .int .i64 (u : Int)] w fun e w' => e = .returned (.tuple #[.int .i64 ((n / u : Nat) : Int), .int .i64 ((n % u : Nat) : Int), .int .i64 0]) ∧ Below w.heap.size w w' := by
  have C := reckoned_any (some ⟨w.heap.size, 0, none⟩) 1 [(n : Int)] (w.alloc (.cells #[.int .i64 n] 3)) (one_read n w) (by simp)
  have e : allIn [(n : Int)] = true := by simp [allIn, inB]; omega
  rw [e] at C
  have H := Lib.hid C
  clear C e
  have hq : (n : Int) / (u : Int) = ((n / u : Nat) : Int) := rfl
  have hm : (n : Int) % (u : Int) = ((n % u : Nat) : Int) := rfl
  have hqb : n / u ≤ 4611686018427387904 := Nat.le_trans (Nat.div_le_self _ _) hn
  generalize n / u = q at *
  generalize n % u = r at *
  have hu0 : ((u : Int) == 0) = false := by simp; omega
  go_enter Tryd.func56, Tryd.ntmps56
  go_wp2_with fail
  refine (H.out).mono ?_
  rintro e w' ⟨rfl, rfl⟩
  go_wp2
  go_quiet (fail)
  go_wp2
  go_ret3
  exact ⟨ret_triple rfl hm rfl, below_drewN ((Below.refl _ _).alloc (Nat.le_refl _) _) _⟩

set_option maxHeartbeats 800000 in
theorem szdown_any (n u : Int) (w : World) : Calls Tryd.prog 38 #[.int .i64 n, .int .i64 u] w fun e w' => e = .returned (.tuple #[.int .i64 (downN n u), .int .i64 (partE n u)]) ∧ Below w.heap.size w w' := by
  cases h : partOK n u
  · have C := Lib.hid (split_bad n u h w)
    have E := Lib.hid (part_no h)
    clear h
    go_enter Tryd.func38, Tryd.ntmps38
    go_wp2_with fail
    refine (C.out).mono ?_
    rintro e w' ⟨rfl, hb⟩
    go_wp2
    go_ret2
    exact ⟨ret_two E.out.2.1.symm E.out.2.2.symm, hb⟩
  · obtain ⟨m, v, rfl, rfl, hm, hv⟩ := part_yes h
    have C := Lib.hid (split_good m v hm hv w)
    have E1 := Lib.hid (partE_yes h)
    have E2 := downN_yes h
    have e := Nat.div_add_mod m v
    rw [Nat.mul_comm] at e
    have e2 : ((m / v * v : Nat) : Int) = (m : Int) - ((m % v : Nat) : Int) := by omega
    have hrb : m % v ≤ m := Nat.mod_le _ _
    rw [e2] at E2
    have E := Lib.hid E2
    clear h E2 e e2
    generalize m / v = q at *
    generalize m % v = r at *
    go_enter Tryd.func38, Tryd.ntmps38
    go_wp2_with fail
    refine (C.out).mono ?_
    rintro e w' ⟨rfl, hb⟩
    go_wp2
    go_ret2
    exact ⟨ret_two E.out.symm E1.out.symm, hb⟩

theorem part_false {n u : Int} (h : partOK n u = false) : n < 0 ∨ (0 ≤ n ∧ 4611686018427387904 < n) ∨ (0 ≤ n ∧ n ≤ 4611686018427387904 ∧ u < 1) := by
  unfold partOK inB at h
  simp at h
  omega

end Go.Proofs.YtpampgkhjcfeaaaDoor

namespace Go.Proofs.YtpampgkhjcfeaaaDoor
set_option maxRecDepth 50000
open Go.RowKit

def powN (n : Int) : Int := if 0 ≤ n ∧ n ≤ 62 then ((2 ^ n.toNat : Nat) : Int) else 0
def powE (n : Int) : Int := if n < 0 then 1 else if 62 < n then 10 else 0
theorem pow_low {n : Int} (h : n < 0) : powN n = 0 ∧ powE n = 1 := ⟨if_neg (by omega), if_pos h⟩
theorem pow_high {n : Int} (h : 62 < n) : powN n = 0 ∧ powE n = 10 := ⟨if_neg (by omega), by unfold powE; rw [if_neg (by omega), if_pos h]⟩
theorem pow_mid {n : Nat} (h : n ≤ 62) : powN n = ((2 ^ n : Nat) : Int) ∧ powE n = 0 := ⟨by unfold powN; rw [if_pos (by omega)]; rfl, by unfold powE; rw [if_neg (by omega), if_neg (by omega)]⟩
theorem pow_le (k n : Nat) (h : k ≤ n) : 2 ^ k ≤ 2 ^ n := Nat.pow_le_pow_right (by omega) h

end Go.Proofs.YtpampgkhjcfeaaaDoor

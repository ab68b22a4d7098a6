/- Within, math/bits.Mul64, times, Power of package size, and the document's Power, Up and Down, by their contracts. Conditions: ints are ints; the factors of times are from 0 to 2^62. reckoned of package size and the document's held, over any list, by their contracts. No condition but a length below 2^40. Add of package size and the document's Add, over any list: the sum, or why there is none. Condition: a length below 2^40. Mul of package size and the document's Mul, over any list: the product, or why there is none. Condition: a length below 2^40. split, Up, Blocks, Down of package size and the document's Up and Down, by their contracts. Condition: ints are ints. Power of package size and the document's Power. Condition: ints are ints. Which parameters of Argon2 may be, and their shape, by the contracts of may and Of of package shape. Conditions: the parameters are ints. Parameters, shapes and turns as rows of memory: loaded and stored whole. No condition but those typed. The shape of any parameters of Argon2: package shape's Of by its contract. Conditions: the parameters are ints. A shape's methods by their contracts: First, Column, Before, Place, Has. Conditions: those typed. A shape's Fills and Next by their contracts. Conditions: those typed. The shapes that Of answers; the chapter's example. Conditions: those typed. Parameters that came in. No condition. Operations on shapes, turns and ints in memory, in statements whose order is open. No condition but those typed. Turns held against each other; what stands in memory while turns are gone through; the next turn by its number. Conditions: those typed. -/
import Derived.Test.YtfoodaobiknihaaGreatDoorKi
import Derived.LoopTactic
import Derived.IntWalk
import Derived.Lib.Hide
import Derived.Lib.Mul64
import Derived.Laws.Bits64b
import Derived.Deep.QuietTactic
import Derived.BigQuiet
import Derived.WalkSmall
import Derived.StillTailTactics
import Derived.Test.YtfoodaobiknihaaGreatDoorGen
import Derived.Laws.StructEq
import Derived.DeepKeys
namespace Go.Proofs.YtfoodaobiknihaaGreatDoor
set_option maxRecDepth 50000
open Go.RowKit
def inB (n a b : Int) : Bool := decide (a ≤ n) && decide (n ≤ b)
theorem within_any (n a b : Int) (w : World) : Calls Tryz.prog 68 #[.int .i64 n, .int .i64 a, .int .i64 b] w fun e w' => e = .returned (.bool (inB n a b)) ∧ w = w' := by
  have h : inB n a b = (decide (a ≤ n) && decide (n ≤ b)) := rfl
  have H := Lib.hid h
  clear h
  by_cases h : a ≤ n
  all_goals
    go_enter Tryz.func68, Tryz.ntmps68
    go_wp2
    go_ret
    refine ⟨?_, rfl⟩
    rw [H.out]
    first
      | (simp [h]; done)
      | (simp; intro _; omega)
theorem maskN (a : Nat) (ha : a < 18446744073709551616) : bits .and .u64 (a : Int) 4294967295 = ((a % 4294967296 : Nat) : Int) := by
  have h := bits_and_u64_nat a 4294967295 ha (by omega)
  have e : a &&& 4294967295 = a % 4294967296 := Nat.and_two_pow_sub_one_eq_mod a 32
  rw [e] at h
  exact h
theorem divN (a : Nat) : (a : Int) / 4294967296 = ((a / 4294967296 : Nat) : Int) := by omega
theorem mulN (a b : Nat) : (a : Int) * (b : Int) = ((a * b : Nat) : Int) := (Int.natCast_mul a b).symm
theorem addN (a b : Nat) : (a : Int) + (b : Int) = ((a + b : Nat) : Int) := (Int.natCast_add a b).symm
theorem wrapN (a : Nat) (ha : a < 18446744073709551616) : IntKind.u64.wrap (a : Int) = (a : Int) := by rw [IntKind.wrap_u64]; omega
theorem wrapM (a : Nat) : IntKind.u64.wrap (a : Int) = ((a % 18446744073709551616 : Nat) : Int) := by rw [IntKind.wrap_u64]; omega
set_option maxHeartbeats 1000000 in
theorem mul64_any (x y : Nat) (hx : x < 18446744073709551616) (hy : y < 18446744073709551616) (w : World) :
    Calls Tryz.prog 96 #[.int .u64 (x : Int), .int .u64 (y : Int)] w fun e w' => e = .returned (.tuple #[.int .u64 ((x * y / 18446744073709551616 : Nat) : Int), .int .u64 ((x * y % 18446744073709551616 : Nat) : Int)]) ∧ w = w' := by
  obtain ⟨bd, bt, bw, hhi⟩ := Lib.mul64_hi x y hx hy
  have ba := Lib.half_mul_le (a := x / 4294967296) (b := y / 4294967296) (by omega) (by omega)
  have bb := Lib.half_mul_le (a := x / 4294967296) (b := y % 4294967296) (by omega) (by omega)
  have bc := Lib.half_mul_le (a := x % 4294967296) (b := y / 4294967296) (by omega) (by omega)
  have ba' : x / 4294967296 * (y / 4294967296) < 18446744073709551616 := by omega
  have bb' : x / 4294967296 * (y % 4294967296) < 18446744073709551616 := by omega
  have bc' : x % 4294967296 * (y / 4294967296) < 18446744073709551616 := by omega
  have bh1 : x / 4294967296 * (y / 4294967296) + (x / 4294967296 * (y % 4294967296) + x % 4294967296 * (y % 4294967296) / 4294967296) / 4294967296 < 18446744073709551616 := by omega
  have bh : x / 4294967296 * (y / 4294967296) + (x / 4294967296 * (y % 4294967296) + x % 4294967296 * (y % 4294967296) / 4294967296) / 4294967296 + ((x / 4294967296 * (y % 4294967296) + x % 4294967296 * (y % 4294967296) / 4294967296) % 4294967296 + x % 4294967296 * (y / 4294967296)) / 4294967296 < 18446744073709551616 := by omega
  go_enter Tryz.func96, Tryz.ntmps96
  go_wp2
  simp only [maskN x hx, maskN y hy, divN, mulN, addN, wrapN _ bd, wrapN _ bb', wrapN _ bt, maskN _ bt, wrapN _ bc', wrapN _ bw, wrapN _ ba', wrapN _ bh1, wrapN _ bh, wrapM (x * y)]
  rw [hhi]
  go_ret2
  exact ⟨rfl, rfl⟩
theorem times_small (x y : Nat) (hx : x ≤ 4611686018427387904) (hy : y ≤ 4611686018427387904) (h : x * y ≤ 4611686018427387904) (w : World) :
    Calls Tryz.prog 70 #[.int .i64 (x : Int), .int .i64 (y : Int)] w fun e w' => e = .returned (.tuple #[.int .i64 ((x * y : Nat) : Int), .int .i64 0]) ∧ w = w' := by
  have C := mul64_any x y (by omega) (by omega) w
  rw [Nat.div_eq_of_lt (by omega), Nat.mod_eq_of_lt (by omega)] at C
  generalize x * y = p at *
  have H := Lib.hid C
  clear C
  go_enter Tryz.func70, Tryz.ntmps70
  go_wp2_with fail
  refine (H.out).mono ?_
  rintro e w' ⟨rfl, rfl⟩
  go_wp2
  go_ret2
  exact ⟨rfl, rfl⟩
theorem times_great (x y : Nat) (hx : x ≤ 4611686018427387904) (hy : y ≤ 4611686018427387904) (h : 4611686018427387904 < x * y) (w : World) :
    Calls Tryz.prog 70 #[.int .i64 (x : Int), .int .i64 (y : Int)] w fun e w' => e = .returned (.tuple #[.int .i64 0, .int .i64 10]) ∧ w = w' := by
  have C := mul64_any x y (by omega) (by omega) w
  have hh : x * y / 18446744073709551616 = 0 ∧ x * y % 18446744073709551616 = x * y ∨ 1 ≤ x * y / 18446744073709551616 := by omega
  have hb : x * y % 18446744073709551616 < 18446744073709551616 := by omega
  have hc : x * y / 18446744073709551616 < 18446744073709551616 := by
    have := Nat.mul_le_mul hx hy
    omega
  rcases hh with ⟨h1, h2⟩ | h1
  · rw [h1, h2] at C
    rw [h2] at hb
    clear hc h1 h2
    generalize x * y = p at *
    have H := Lib.hid C
    clear C
    go_enter Tryz.func70, Tryz.ntmps70
    go_wp2_with fail
    refine (H.out).mono ?_
    rintro e w' ⟨rfl, rfl⟩
    go_wp2
    go_ret2
    exact ⟨rfl, rfl⟩
  · clear h
    generalize x * y / 18446744073709551616 = p at *
    generalize x * y % 18446744073709551616 = q at *
    have H := Lib.hid C
    clear C
    go_enter Tryz.func70, Tryz.ntmps70
    go_wp2_with fail
    refine (H.out).mono ?_
    rintro e w' ⟨rfl, rfl⟩
    go_wp2
    go_ret2
    exact ⟨rfl, rfl⟩
open Go.RowKit
theorem ret_bool {a b : Bool} (h : a = b) : Ending.returned (.bool a) = .returned (.bool b) := by rw [h]
def allIn (zs : List Int) : Bool := zs.all fun z => inB z 0 4611686018427387904
def i64s (zs : List Int) : List Value := zs.map (Value.int .i64)
theorem i64s_length (zs : List Int) : (i64s zs).length = zs.length := by simp [i64s]
theorem i64_at (zs : List Int) (k : Nat) (h : k < (i64s zs).length) : (i64s zs)[k] = .int .i64 (zs[k]'(by simpa [i64s] using h)) := by simp [i64s]
theorem allIn_snoc (zs : List Int) (k : Nat) (h : k < zs.length) (h1 : allIn (zs.take k) = true) (h2 : inB zs[k] 0 4611686018427387904 = true) : allIn (zs.take (k + 1)) = true := by
  rw [List.take_succ_eq_append_getElem h]
  unfold allIn at *
  rw [List.all_append, h1]
  simp [h2]
theorem allIn_no (zs : List Int) (k : Nat) (h : k < zs.length) (h2 : inB zs[k] 0 4611686018427387904 = false) : allIn zs = false := by
  unfold allIn
  rw [List.all_eq_false]
  exact ⟨zs[k], List.getElem_mem h, by simp [h2]⟩
theorem in_true (x a b : Int) (h : inB x a b = true) : a ≤ x ∧ x ≤ b := by unfold inB at h; simpa using h
set_option maxHeartbeats 800000 in
theorem reckoned_any (A : Option Addr) (c : Nat) (zs : List Int) (w : World) {B : Nat} (hr : Reads w B A (i64s zs)) (hlen : zs.length ≤ 1000000000000) :
    Calls Tryz.prog 69 #[.slice A zs.length c] w fun e w' => e = .returned (.bool (allIn zs)) ∧ w = w' := by
  have Hr := Lib.hid hr
  clear hr
  go_enter Tryz.func69, Tryz.ntmps69
  go_wp2
  go_loop [7] (fun i => ∃ k : Nat, k ≤ zs.length ∧ i = .int .i64 k ∧ Hid (allIn (zs.take k) = true)) (fun i => zs.length - (intOf i).toNat)
  case atStart => exact ⟨0, Nat.zero_le _, rfl, Lib.hid rfl⟩
  case round =>
    obtain ⟨k, hk, rfl, hok⟩ := hrel
    by_cases hlt : k < zs.length
    · obtain ⟨b, off, rfl, hbB, hcell⟩ := Hr.out k (by rw [i64s_length]; exact hlt)
      rw [i64_at] at hcell
      cases hin : inB zs[k] 0 4611686018427387904
      · have hno := Lib.hid (allIn_no zs k hlt hin)
        generalize zs[k] = x at *
        go_wp2_with (go_at_call 68; refine (within_any _ _ _ _).mono ?_; rintro e w' ⟨rfl, rfl⟩)
        go_ret
        exact ⟨ret_bool hno.out.symm, rfl⟩
      · have hs := Lib.hid (allIn_snoc zs k hlt hok.out hin)
        generalize zs[k] = x at *
        go_wp2_with (go_at_call 68; refine (within_any _ _ _ _).mono ?_; rintro e w' ⟨rfl, rfl⟩)
        go_round
        case rel => exact ⟨k + 1, by omega, by go_num, hs⟩
        case measure => simp [intOf]; omega
    · obtain rfl : k = zs.length := by omega
      rw [List.take_length] at hok
      go_wp2
      go_ret
      exact ⟨ret_bool hok.out.symm, rfl⟩
open Go.RowKit
def natsOf (zs : List Int) : List Nat := zs.map Int.toNat
def prodOf : List Nat → Nat
  | [] => 1
  | x :: l => x * prodOf l
def fitN (p : Nat) : Int := if p ≤ 4611686018427387904 then (p : Int) else 0
def fitE (p : Nat) : Int := if p ≤ 4611686018427387904 then 0 else 10
def proN (zs : List Int) : Int := if allIn zs = true then fitN (prodOf (natsOf zs)) else 0
def proE (zs : List Int) : Int := if allIn zs = true then fitE (prodOf (natsOf zs)) else 1
theorem good_nats (zs : List Int) (h : allIn zs = true) : ∃ xs : List Nat, zs = xs.map (fun x : Nat => (x : Int)) ∧ natsOf zs = xs ∧ ∀ x ∈ xs, x ≤ 4611686018427387904 := by
  unfold allIn at h
  rw [List.all_eq_true] at h
  refine ⟨natsOf zs, ?_, rfl, ?_⟩
  · unfold natsOf
    rw [List.map_map]
    conv => lhs; rw [← List.map_id zs]
    exact List.map_congr_left fun n hn => by
      have := in_true _ _ _ (h n hn)
      simp only [id_eq, Function.comp_apply]; omega
  · intro x hx
    obtain ⟨n, hn, rfl⟩ := List.mem_map.1 hx
    have := in_true _ _ _ (h n hn)
    omega
theorem fitN_yes {p : Nat} (h : p ≤ 4611686018427387904) : fitN p = (p : Int) := if_pos h
theorem fitE_yes {p : Nat} (h : p ≤ 4611686018427387904) : fitE p = 0 := if_pos h
theorem fitN_no {p : Nat} (h : 4611686018427387904 < p) : fitN p = 0 := if_neg (by omega)
theorem fitE_no {p : Nat} (h : 4611686018427387904 < p) : fitE p = 10 := if_neg (by omega)
theorem proN_no {zs : List Int} (h : allIn zs = false) : proN zs = 0 := if_neg (by simp [h])
theorem proE_no {zs : List Int} (h : allIn zs = false) : proE zs = 1 := if_neg (by simp [h])
theorem proN_yes {zs : List Int} {xs : List Nat} (h : allIn zs = true) (e : natsOf zs = xs) : proN zs = fitN (prodOf xs) := by rw [← e]; exact if_pos h
theorem proE_yes {zs : List Int} {xs : List Nat} (h : allIn zs = true) (e : natsOf zs = xs) : proE zs = fitE (prodOf xs) := by rw [← e]; exact if_pos h
theorem ret_pair {a b c d : Int} (h1 : a = c) (h2 : b = d) : Ending.returned (.tuple #[.int .i64 a, .int .i64 b]) = .returned (.tuple #[.int .i64 c, .int .i64 d]) := by rw [h1, h2]
theorem nat_at (xs : List Nat) (k : Nat) (h : k < (i64s (xs.map fun x : Nat => (x : Int))).length) : (i64s (xs.map fun x : Nat => (x : Int)))[k] = .int .i64 ((xs[k]'(by simpa [i64s] using h) : Nat) : Int) := by simp [i64s]
theorem sznats_length (xs : List Nat) : (i64s (xs.map fun x : Nat => (x : Int))).length = xs.length := by simp [i64s]
open Go.RowKit
theorem prod_append : ∀ a b : List Nat, prodOf (a ++ b) = prodOf a * prodOf b
  | [], b => (Nat.one_mul _).symm
  | x :: a, b => by show x * prodOf (a ++ b) = x * prodOf a * prodOf b; rw [prod_append a b, Nat.mul_assoc]
theorem prod_snoc (xs : List Nat) (k : Nat) (h : k < xs.length) : prodOf (xs.take (k + 1)) = prodOf (xs.take k) * xs[k] := by
  rw [List.take_succ_eq_append_getElem h, prod_append]
  show _ * (xs[k] * 1) = _
  rw [Nat.mul_one]
theorem prod_zero : ∀ xs : List Nat, 0 ∈ xs → prodOf xs = 0
  | x :: xs, h => by
    show x * prodOf xs = 0
    rcases List.mem_cons.1 h with h | h
    · rw [← h, Nat.zero_mul]
    · rw [prod_zero xs h, Nat.mul_zero]
set_option maxHeartbeats 1600000 in
theorem mul_any (A : Option Addr) (c : Nat) (zs : List Int) (w : World) {B : Nat} (hr : Reads w B A (i64s zs)) (hlen : zs.length ≤ 1000000000000) :
    Calls Tryz.prog 46 #[.slice A zs.length c] w fun e w' => e = .returned (.tuple #[.int .i64 (proN zs), .int .i64 (proE zs)]) ∧ w = w' := by
  have C := reckoned_any A c zs w hr hlen
  cases h : allIn zs
  · rw [h] at C
    have e1 := Lib.hid (proN_no h)
    have e2 := Lib.hid (proE_no h)
    have H := Lib.hid C
    clear C h hr
    go_enter Tryz.func46, Tryz.ntmps46
    go_wp2_with fail
    refine (H.out).mono ?_
    rintro e w' ⟨rfl, rfl⟩
    go_wp2
    go_ret2
    exact ⟨ret_pair e1.out.symm e2.out.symm, rfl⟩
  · rw [h] at C
    obtain ⟨xs, rfl, hn, hx⟩ := good_nats zs h
    have e1 := Lib.hid (proN_yes h hn)
    have e2 := Lib.hid (proE_yes h hn)
    rw [List.length_map] at *
    have H := Lib.hid C
    have Hr := Lib.hid hr
    have Hx := Lib.hid hx
    clear C h hr hn hx
    go_enter Tryz.func46, Tryz.ntmps46
    go_wp2_with fail
    refine (H.out).mono ?_
    rintro e w' ⟨rfl, rfl⟩
    go_wp2
    go_loop [4, 5, 13] (fun p o i => ∃ k : Nat, k ≤ xs.length ∧ i = .int .i64 k ∧ 0 < prodOf (xs.take k) ∧
      (prodOf (xs.take k) ≤ 4611686018427387904 ∧ p = .int .i64 (prodOf (xs.take k) : Nat) ∧ o = .int .i64 0 ∨ 4611686018427387904 < prodOf (xs.take k) ∧ p = .int .i64 0 ∧ o = .int .i64 10)) (fun _ _ i => xs.length - (intOf i).toNat)
    case atStart => exact ⟨0, Nat.zero_le _, rfl, Nat.one_pos, .inl ⟨by show 1 ≤ _; omega, rfl, rfl⟩⟩
    case round =>
      obtain ⟨k, hk, rfl, hpos, hs⟩ := hrel
      by_cases hlt : k < xs.length
      · obtain ⟨b, off, rfl, hbB, hcell⟩ := Hr.out k (by rw [sznats_length]; exact hlt)
        rw [nat_at] at hcell
        have hx0 := Hx.out xs[k] (List.getElem_mem hlt)
        have Hsn := Lib.hid (prod_snoc xs k hlt)
        have Hz := Lib.hid fun h : xs[k] = 0 => prod_zero xs (h ▸ List.getElem_mem hlt)
        generalize xs[k] = x at *
        generalize prodOf (xs.take k) = P at *
        by_cases hxz : x = 0
        · have hz := Lib.hid (Hz.out hxz)
          subst hxz
          clear Hz Hsn
          rcases hs with ⟨hP, rfl, rfl⟩ | ⟨hP, rfl, rfl⟩
          all_goals
            go_wp2
            go_ret2
            exact ⟨ret_pair (by rw [e1.out, hz.out]; rfl) (by rw [e2.out, hz.out]; rfl), rfl⟩
        · clear Hz
          have hx1 : 1 ≤ x := by omega
          have hpos2 : 0 < P * x := Nat.mul_pos hpos (by omega)
          rcases hs with ⟨hP, rfl, rfl⟩ | ⟨hP, rfl, rfl⟩
          · by_cases hfit : P * x ≤ 4611686018427387904
            · have T := Lib.hid (times_small P x hP hx0 hfit)
              go_wp2_with fail
              refine (T.out _).mono ?_
              rintro e w' ⟨rfl, rfl⟩
              generalize P * x = Q at *
              go_wp2
              go_round
              case rel => exact ⟨k + 1, by omega, by go_num, by rw [Hsn.out]; exact hpos2, by rw [Hsn.out]; exact .inl ⟨hfit, rfl, rfl⟩⟩
              case measure => simp [intOf]; omega
            · have T := Lib.hid (times_great P x hP hx0 (by omega))
              have hfit2 : 4611686018427387904 < P * x := by omega
              clear hfit
              go_wp2_with fail
              refine (T.out _).mono ?_
              rintro e w' ⟨rfl, rfl⟩
              generalize P * x = Q at *
              go_wp2
              go_round
              case rel => exact ⟨k + 1, by omega, by go_num, by rw [Hsn.out]; exact hpos2, by rw [Hsn.out]; exact .inr ⟨hfit2, rfl, rfl⟩⟩
              case measure => simp [intOf]; omega
          · have hfit2 : 4611686018427387904 < P * x := by
              have := Nat.mul_le_mul_left P hx1
              omega
            generalize P * x = Q at *
            go_wp2
            go_round
            case rel => exact ⟨k + 1, by omega, by go_num, by rw [Hsn.out]; exact hpos2, by rw [Hsn.out]; exact .inr ⟨hfit2, rfl, rfl⟩⟩
            case measure => simp [intOf]; omega
      · obtain rfl : k = xs.length := by omega
        rw [List.take_length] at *
        rcases hs with ⟨hP, rfl, rfl⟩ | ⟨hP, rfl, rfl⟩
        · have f1 := Lib.hid (fitN_yes hP)
          have f2 := Lib.hid (fitE_yes hP)
          go_wp2
          go_ret2
          exact ⟨ret_pair (by rw [e1.out, f1.out]) (by rw [e2.out, f2.out]), rfl⟩
        · have f1 := Lib.hid (fitN_no hP)
          have f2 := Lib.hid (fitE_no hP)
          go_wp2
          go_ret2
          exact ⟨ret_pair (by rw [e1.out, f1.out]) (by rw [e2.out, f2.out]), rfl⟩
open Go.RowKit
def partOK (n u : Int) : Bool := inB n 0 4611686018427387904 && decide (1 ≤ u)
def upN (n u : Int) : Int := if partOK n u = true then (if n % u = 0 then n / u else n / u + 1) else 0
def downN (n u : Int) : Int := if partOK n u = true then n / u * u else 0
def partE (n u : Int) : Int := if partOK n u = true then 0 else 1
theorem part_no {n u : Int} (h : partOK n u = false) : upN n u = 0 ∧ downN n u = 0 ∧ partE n u = 1 := ⟨if_neg (by simp [h]), if_neg (by simp [h]), if_neg (by simp [h])⟩
theorem part_yes {n u : Int} (h : partOK n u = true) : ∃ m v : Nat, n = (m : Int) ∧ u = (v : Int) ∧ m ≤ 4611686018427387904 ∧ 1 ≤ v := by
  unfold partOK at h
  rw [Bool.and_eq_true] at h
  obtain ⟨h1, h2⟩ := in_true _ _ _ h.1
  have h3 : 1 ≤ u := by simpa using h.2
  exact ⟨n.toNat, u.toNat, by omega, by omega, by omega, by omega⟩
theorem partE_yes {n u : Int} (h : partOK n u = true) : partE n u = 0 := if_pos h
theorem downN_yes {n u : Nat} (h : partOK n u = true) : downN n u = ((n / u * u : Nat) : Int) := by
  unfold downN
  rw [if_pos h, ← Int.natCast_ediv]; exact (Int.natCast_mul _ _).symm
theorem ret_two {a b c d : Int} (h1 : a = c) (h2 : b = d) : Ending.returned (.tuple #[.int .i64 a, .int .i64 b]) = .returned (.tuple #[.int .i64 c, .int .i64 d]) := by rw [h1, h2]
theorem ret_triple {a b c x y z : Int} (h1 : a = x) (h2 : b = y) (h3 : c = z) : Ending.returned (.tuple #[.int .i64 a, .int .i64 b, .int .i64 c]) = .returned (.tuple #[.int .i64 x, .int .i64 y, .int .i64 z]) := by rw [h1, h2, h3]
theorem one_read (n : Int) (w : World) : Reads (w.alloc (.cells #[.int .i64 n] 3)) (w.heap.size + 1) (some ⟨w.heap.size, 0, none⟩) (i64s [n]) := fun k hk =>
  ⟨w.heap.size, 0, rfl, by omega, by
    match k, hk with
    | 0, _ => simp [i64s]⟩
set_option maxHeartbeats 800000 in
theorem split_bad (n u : Int) (h : partOK n u = false) (w : World) : Calls Tryz.prog 71 #[.int .i64 n, .int .i64 u] w fun e w' => e = .returned (.tuple #[.int .i64 0, .int .i64 0, .int .i64 1]) ∧ Below w.heap.size w w' := by
  have C := reckoned_any (some ⟨w.heap.size, 0, none⟩) 1 [n] (w.alloc (.cells #[.int .i64 n] 3)) (one_read n w) (by simp)
  have e : allIn [n] = inB n 0 4611686018427387904 := by simp [allIn]
  rw [e] at C
  cases hin : inB n 0 4611686018427387904
  · rw [hin] at C
    have H := Lib.hid C
    clear C e h hin
    go_enter Tryz.func71, Tryz.ntmps71
    go_wp2_with fail
    refine (H.out).mono ?_
    rintro e w' ⟨rfl, rfl⟩
    go_wp2
    go_ret3
    exact ⟨rfl, (Below.refl _ _).alloc (Nat.le_refl _) _⟩
  · rw [hin] at C
    have hu : u < 1 := by
      unfold partOK at h
      rw [hin] at h
      simp at h
      omega
    have H := Lib.hid C
    clear C e h hin
    go_enter Tryz.func71, Tryz.ntmps71
    go_wp2_with fail
    refine (H.out).mono ?_
    rintro e w' ⟨rfl, rfl⟩
    go_wp2
    go_ret3
    exact ⟨rfl, (Below.refl _ _).alloc (Nat.le_refl _) _⟩
set_option maxHeartbeats 800000 in
theorem split_good (n u : Nat) (hn : n ≤ 4611686018427387904) (hu : 1 ≤ u) (w : World) : Calls Tryz.prog 71 #[.int .i64 (n : Int), .int .i64 (u : Int)] w fun e w' => e = .returned (.tuple #[.int .i64 ((n / u : Nat) : Int), .int .i64 ((n % u : Nat) : Int), .int .i64 0]) ∧ Below w.heap.size w w' := by
  have C := reckoned_any (some ⟨w.heap.size, 0, none⟩) 1 [(n : Int)] (w.alloc (.cells #[.int .i64 n] 3)) (one_read n w) (by simp)
  have e : allIn [(n : Int)] = true := by simp [allIn, inB]; omega
  rw [e] at C
  have H := Lib.hid C
  clear C e
  have hq : (n : Int) / (u : Int) = ((n / u : Nat) : Int) := rfl
  have hm : (n : Int) % (u : Int) = ((n % u : Nat) : Int) := rfl
  have hqb : n / u ≤ 4611686018427387904 := Nat.le_trans (Nat.div_le_self _ _) hn
  generalize n / u = q at *
  generalize n % u = r at *
  have hu0 : ((u : Int) == 0) = false := by simp; omega
  go_enter Tryz.func71, Tryz.ntmps71
  go_wp2_with fail
  refine (H.out).mono ?_
  rintro e w' ⟨rfl, rfl⟩
  go_wp2
  go_quiet (fail)
  go_wp2
  go_ret3
  exact ⟨ret_triple rfl hm rfl, below_drewN ((Below.refl _ _).alloc (Nat.le_refl _) _) _⟩
set_option maxHeartbeats 800000 in
theorem szdown_any (n u : Int) (w : World) : Calls Tryz.prog 47 #[.int .i64 n, .int .i64 u] w fun e w' => e = .returned (.tuple #[.int .i64 (downN n u), .int .i64 (partE n u)]) ∧ Below w.heap.size w w' := by
  cases h : partOK n u
  · have C := Lib.hid (split_bad n u h w)
    have E := Lib.hid (part_no h)
    clear h
    go_enter Tryz.func47, Tryz.ntmps47
    go_wp2_with fail
    refine (C.out).mono ?_
    rintro e w' ⟨rfl, hb⟩
    go_wp2
    go_ret2
    exact ⟨ret_two E.out.2.1.symm E.out.2.2.symm, hb⟩
  · obtain ⟨m, v, rfl, rfl, hm, hv⟩ := part_yes h
    have C := Lib.hid (split_good m v hm hv w)
    have E1 := Lib.hid (partE_yes h)
    have E2 := downN_yes h
    have e := Nat.div_add_mod m v
    rw [Nat.mul_comm] at e
    have e2 : ((m / v * v : Nat) : Int) = (m : Int) - ((m % v : Nat) : Int) := by omega
    have hrb : m % v ≤ m := Nat.mod_le _ _
    rw [e2] at E2
    have E := Lib.hid E2
    clear h E2 e e2
    generalize m / v = q at *
    generalize m % v = r at *
    go_enter Tryz.func47, Tryz.ntmps47
    go_wp2_with fail
    refine (C.out).mono ?_
    rintro e w' ⟨rfl, hb⟩
    go_wp2
    go_ret2
    exact ⟨ret_two E.out.symm E1.out.symm, hb⟩
open Go.RowKit
open Go.RowKit
abbrev pav (a t m l z : Int) : Value := .agg #[.int .i64 a, .int .i64 t, .int .i64 m, .int .i64 l, .int .i64 z]
abbrev spv (a t l m b c g z : Nat) : Value := .agg #[.int .i64 (a : Int), .int .i64 (t : Int), .int .i64 (l : Int), .int .i64 (m : Int), .int .i64 (b : Int), .int .i64 (c : Int), .int .i64 (g : Int), .int .i64 (z : Int)]
abbrev spz : Value := .agg #[.int .i64 0, .int .i64 0, .int .i64 0, .int .i64 0, .int .i64 0, .int .i64 0, .int .i64 0, .int .i64 0]
abbrev tuv (p s : Int) : Value := .agg #[.int .i64 p, .int .i64 s]
def mayB (a t m l z : Int) : Bool := (a == 1 || (a == 2 || a == 3)) && (inB t 1 4294967295 && (inB l 1 16777215 && (inB m (8 * l) 4294967295 && inB z 4 1024)))
theorem may_yes {a t m l z : Int} (h : mayB a t m l z = true) : (a = 1 ∨ a = 2 ∨ a = 3) ∧ inB t 1 4294967295 = true ∧ inB l 1 16777215 = true ∧ inB m (8 * l) 4294967295 = true ∧ inB z 4 1024 = true := by
  unfold mayB at h
  simp only [Bool.and_eq_true, Bool.or_eq_true, beq_iff_eq] at h
  exact h
theorem two_read (a b : Int) (w : World) : Reads (w.alloc (.cells #[.int .i64 a, .int .i64 b] 3)) (w.heap.size + 1) (some ⟨w.heap.size, 0, none⟩) (i64s [a, b]) := fun k hk =>
  ⟨w.heap.size, 0, rfl, by omega, by
    match k, hk with
    | 0, _ => simp [i64s]
    | 1, _ => simp [i64s]⟩
theorem may_kind (a t m l z : Int) (h : ¬ (a = 1 ∨ a = 2 ∨ a = 3)) (w : World) : Calls Tryz.prog 45 #[pav a t m l z] w fun e w' => e = .returned (.bool (mayB a t m l z)) ∧ Below w.heap.size w w' := by
  have H := Lib.hid (show mayB a t m l z = false by
    unfold mayB
    have : (a == 1 || (a == 2 || a == 3)) = false := by simp; omega
    rw [this]; rfl)
  have h1 : ¬ a = 1 := by omega
  have h2 : ¬ a = 2 := by omega
  have h3 : ¬ a = 3 := by omega
  clear h
  go_enter Tryz.func45, Tryz.ntmps45
  go_wp2
  go_ret
  exact ⟨by rw [H.out]; rfl, (Below.refl _ _).alloc (Nat.le_refl _) _⟩
theorem within_at {n a b : Int} {r : Bool} (h : inB n a b = r) (w : World) : Calls Tryz.prog 68 #[.int .i64 n, .int .i64 a, .int .i64 b] w fun e w' => e = .returned (.bool r) ∧ w = w' := h ▸ within_any n a b w
set_option maxHeartbeats 1600000 in
theorem may_fits (a t m l z : Int) (h : a = 1 ∨ a = 2 ∨ a = 3) (w : World) : Calls Tryz.prog 45 #[pav a t m l z] w fun e w' => e = .returned (.bool (mayB a t m l z)) ∧ Below w.heap.size w w' := by
  have H : mayB a t m l z = (inB t 1 4294967295 && (inB l 1 16777215 && (inB m (8 * l) 4294967295 && inB z 4 1024))) := by
    unfold mayB
    have : (a == 1 || (a == 2 || a == 3)) = true := by simp; omega
    rw [this, Bool.true_and]
  rw [H]
  clear H
  have HB := Lib.hid ((Below.refl w.heap.size w).alloc (Nat.le_refl _) (.cells #[.int .i64 a, .int .i64 t, .int .i64 m, .int .i64 l, .int .i64 z] 23))
  have C1 := Lib.hid (@within_at t 1 4294967295 _ rfl)
  have C2 := Lib.hid (@within_at l 1 16777215 _ rfl)
  have C3 := Lib.hid (@within_at m (8 * l) 4294967295 _ rfl)
  have C4 := Lib.hid (@within_at z 4 1024 _ rfl)
  have hl : inB l 1 16777215 = true → 1 ≤ l ∧ l ≤ 16777215 := in_true _ _ _
  generalize inB t 1 4294967295 = b1 at *
  generalize inB l 1 16777215 = b2 at *
  generalize inB m (8 * l) 4294967295 = b3 at *
  generalize inB z 4 1024 = b4 at *
  rcases h with rfl | rfl | rfl
  all_goals
    cases b1
    · clear hl
      go_enter Tryz.func45, Tryz.ntmps45
      go_wp2_with fail
      refine (C1.out _).mono ?_
      rintro e w' ⟨rfl, rfl⟩
      go_wp2
      go_ret
      exact ⟨rfl, HB.out⟩
    · cases b2
      · clear hl
        go_enter Tryz.func45, Tryz.ntmps45
        go_wp2_with fail
        refine (C1.out _).mono ?_
        rintro e w' ⟨rfl, rfl⟩
        go_wp2_with fail
        refine (C2.out _).mono ?_
        rintro e w' ⟨rfl, rfl⟩
        go_wp2
        go_ret
        exact ⟨rfl, HB.out⟩
      · obtain ⟨hl1, hl2⟩ := hl rfl
        clear hl
        cases b3
        · go_enter Tryz.func45, Tryz.ntmps45
          go_wp2_with fail
          refine (C1.out _).mono ?_
          rintro e w' ⟨rfl, rfl⟩
          go_wp2_with fail
          refine (C2.out _).mono ?_
          rintro e w' ⟨rfl, rfl⟩
          go_wp2_with fail
          refine (C3.out _).mono ?_
          rintro e w' ⟨rfl, rfl⟩
          go_wp2
          go_ret
          exact ⟨rfl, HB.out⟩
        · go_enter Tryz.func45, Tryz.ntmps45
          go_wp2_with fail
          refine (C1.out _).mono ?_
          rintro e w' ⟨rfl, rfl⟩
          go_wp2_with fail
          refine (C2.out _).mono ?_
          rintro e w' ⟨rfl, rfl⟩
          go_wp2_with fail
          refine (C3.out _).mono ?_
          rintro e w' ⟨rfl, rfl⟩
          go_wp2_with fail
          refine (C4.out _).mono ?_
          rintro e w' ⟨rfl, rfl⟩
          go_wp2
          go_ret
          exact ⟨rfl, HB.out⟩
theorem may_any (a t m l z : Int) (w : World) : Calls Tryz.prog 45 #[pav a t m l z] w fun e w' => e = .returned (.bool (mayB a t m l z)) ∧ Below w.heap.size w w' := by
  by_cases h : a = 1 ∨ a = 2 ∨ a = 3
  · exact may_fits a t m l z h w
  · exact may_kind a t m l z h w
open Go.RowKit
abbrev pac (a t m l z : Int) : Array Value := #[.int .i64 a, .int .i64 t, .int .i64 m, .int .i64 l, .int .i64 z]
abbrev spc (a t l m b c g z : Nat) : Array Value := #[.int .i64 (a : Int), .int .i64 (t : Int), .int .i64 (l : Int), .int .i64 (m : Int), .int .i64 (b : Int), .int .i64 (c : Int), .int .i64 (g : Int), .int .i64 (z : Int)]
abbrev spzc : Array Value := #[.int .i64 0, .int .i64 0, .int .i64 0, .int .i64 0, .int .i64 0, .int .i64 0, .int .i64 0, .int .i64 0]
abbrev tuc (p s : Int) : Array Value := #[.int .i64 p, .int .i64 s]
theorem pa_agg (w : World) : (isAgg 23).run Tryz.prog w = .ok true w := by
  unfold isAgg
  rw [Sem.run_bind, run_underlying Tryz.underlying23 w]
  rfl
theorem sp_agg (w : World) : (isAgg 44).run Tryz.prog w = .ok true w := by
  unfold isAgg
  rw [Sem.run_bind, run_underlying Tryz.underlying44 w]
  rfl
theorem tu_agg (w : World) : (isAgg 28).run Tryz.prog w = .ok true w := by
  unfold isAgg
  rw [Sem.run_bind, run_underlying Tryz.underlying28 w]
  rfl
theorem pa_size : (Tryz.prog.info? 23).map (·.size) = some 5 := by kernel_rfl
theorem sp_size : (Tryz.prog.info? 44).map (·.size) = some 8 := by kernel_rfl
theorem tu_size : (Tryz.prog.info? 28).map (·.size) = some 2 := by kernel_rfl
theorem pa_load {w : World} {k : Nat} {a t m l z : Int} (h : RowAt w k 23 (pac a t m l z)) : (loadVar 23 ⟨k, 0, none⟩).run Tryz.prog w = .ok (pav a t m l z) w :=
  sub_load h pa_agg pa_size 0 [.int .i64 a, .int .i64 t, .int .i64 m, .int .i64 l, .int .i64 z] rfl fun j v h => by simpa using h
theorem sp_load {w : World} {k : Nat} {a t l m b c g z : Nat} (h : RowAt w k 44 (spc a t l m b c g z)) : (loadVar 44 ⟨k, 0, none⟩).run Tryz.prog w = .ok (spv a t l m b c g z) w :=
  sub_load h sp_agg sp_size 0 (spc a t l m b c g z).toList rfl fun j v h => by simpa using h
theorem tu_load {w : World} {k : Nat} {p s : Int} (h : RowAt w k 28 (tuc p s)) : (loadVar 28 ⟨k, 0, none⟩).run Tryz.prog w = .ok (tuv p s) w :=
  sub_load h tu_agg tu_size 0 [.int .i64 p, .int .i64 s] rfl fun j v h => by simpa using h
theorem sp_store {w : World} {k : Nat} {C : Array Value} (hC : C.size = 8) {a t l m b c g z : Nat} (h : RowAt w k 44 C) : (storeVar 44 ⟨k, 0, none⟩ (spv a t l m b c g z)).run Tryz.prog w = .ok () (w.setRow k (spc a t l m b c g z)) :=
  h.store sp_size hC (by simp [Value.oneCell'])
theorem sp_clear {w : World} {k : Nat} {C : Array Value} (hC : C.size = 8) (h : RowAt w k 44 C) : (storeVar 44 ⟨k, 0, none⟩ spz).run Tryz.prog w = .ok () (w.setRow k spzc) :=
  h.store sp_size hC (by simp [Value.oneCell'])
theorem tu_store {w : World} {k : Nat} {C : Array Value} (hC : C.size = 2) {p s : Int} (h : RowAt w k 28 C) : (storeVar 28 ⟨k, 0, none⟩ (tuv p s)).run Tryz.prog w = .ok () (w.setRow k (tuc p s)) :=
  h.store tu_size hC (by simp [Value.oneCell'])
theorem pa_cells {w : World} {k : Nat} {a t m l z : Int} (h : RowAt w k 23 (pac a t m l z)) :
    w.cell? ⟨k, 0, none⟩ = some (.int .i64 a) ∧ w.cell? ⟨k, 1, none⟩ = some (.int .i64 t) ∧ w.cell? ⟨k, 2, none⟩ = some (.int .i64 m) ∧ w.cell? ⟨k, 3, none⟩ = some (.int .i64 l) ∧ w.cell? ⟨k, 4, none⟩ = some (.int .i64 z) :=
  ⟨(h.cell 0).trans rfl, (h.cell 1).trans rfl, (h.cell 2).trans rfl, (h.cell 3).trans rfl, (h.cell 4).trans rfl⟩
theorem tu_cells {w : World} {k : Nat} {p s : Int} (h : RowAt w k 28 (tuc p s)) : w.cell? ⟨k, 0, none⟩ = some (.int .i64 p) ∧ w.cell? ⟨k, 1, none⟩ = some (.int .i64 s) :=
  ⟨(h.cell 0).trans rfl, (h.cell 1).trans rfl⟩
open Go.RowKit
theorem mul_four (l : Nat) (h : l ≤ 16777215) : proN [4, (l : Int)] = ((4 * l : Nat) : Int) ∧ proE [4, (l : Int)] = 0 := by
  have ha : allIn [4, (l : Int)] = true := by simp [allIn, inB]; omega
  have hn : natsOf [4, (l : Int)] = [4, l] := by simp [natsOf]
  have hp : prodOf [4, l] = 4 * l := by simp [prodOf]
  rw [proN_yes ha hn, proE_yes ha hn, hp]
  exact ⟨fitN_yes (by omega), fitE_yes (by omega)⟩
theorem mul_lanes (l : Nat) (h : l ≤ 16777215) (w : World) : Calls Tryz.prog 46 #[.slice (some ⟨w.heap.size, 0, none⟩) 2 2] (w.alloc (.cells #[.int .i64 4, .int .i64 (l : Int)] 3)) fun e w' => e = .returned (.tuple #[.int .i64 ((4 * l : Nat) : Int), .int .i64 0]) ∧ Below w.heap.size w w' := by
  have C := mul_any _ 2 _ _ (two_read 4 (l : Int) w) (by simp)
  rw [(mul_four l h).1, (mul_four l h).2] at C
  refine C.mono ?_
  rintro e w' ⟨rfl, rfl⟩
  exact ⟨rfl, (Below.refl _ _).alloc (Nat.le_refl _) _⟩
theorem down_lanes (m u : Nat) (hm : m ≤ 4294967295) (hu : 1 ≤ u) (w : World) : Calls Tryz.prog 47 #[.int .i64 (m : Int), .int .i64 (u : Int)] w fun e w' => e = .returned (.tuple #[.int .i64 ((m / u * u : Nat) : Int), .int .i64 0]) ∧ Below w.heap.size w w' := by
  have h : partOK (m : Int) (u : Int) = true := by simp [partOK, inB]; omega
  have C := szdown_any (m : Int) (u : Int) w
  rw [downN_yes h, partE_yes h] at C
  exact C
theorem of_rows (a t m l z : Int) (w : World) {w1 : World} (hb : Below ((w.alloc (.cells (pac a t m l z) 23)).alloc (.cells spzc 44)).heap.size ((w.alloc (.cells (pac a t m l z) 23)).alloc (.cells spzc 44)) w1) :
    RowAt w1 w.heap.size 23 (pac a t m l z) ∧ RowAt w1 (w.heap.size + 1) 44 spzc ∧ Below w.heap.size w w1 ∧ w.heap.size + 2 ≤ w1.heap.size := by
  have s1 : (w.alloc (.cells (pac a t m l z) 23)).heap.size = w.heap.size + 1 := World.size_alloc _ _
  refine ⟨((RowAt.new w _ _).alloc _).step hb, ?_, ?_, ?_⟩
  · have := (RowAt.new (w.alloc (.cells (pac a t m l z) 23)) 44 spzc).step hb
    rwa [s1] at this
  · have b1 : Below w.heap.size w ((w.alloc (.cells (pac a t m l z) 23)).alloc (.cells spzc 44)) := ((Below.refl _ _).alloc (Nat.le_refl _) _).alloc (by rw [s1]; omega) _
    exact b1.trans (hb.mono b1.size)
  · have := hb.size
    rw [World.size_alloc, s1] at this
    omega
set_option maxHeartbeats 800000 in
theorem of_bad (a t m l z : Int) (h : mayB a t m l z = false) (w : World) : Calls Tryz.prog 25 #[pav a t m l z] w fun e w' => e = .returned (.tuple #[spz, .int .i64 2]) ∧ Below w.heap.size w w' := by
  have C : ∀ w, Calls Tryz.prog 45 #[pav a t m l z] w fun e w' => e = .returned (.bool false) ∧ Below w.heap.size w w' := fun w => h ▸ may_any a t m l z w
  have H := Lib.hid C
  clear C h
  go_enter Tryz.func25, Tryz.ntmps25
  go_wp2_with fail
  refine (H.out _).mono ?_
  rintro e w1 ⟨rfl, hb⟩
  have HR := Lib.hid (of_rows a t m l z w hb)
  clear hb
  go_wp2_with (refine wpList_store_of rfl _ _ _ rfl ⟨w.heap.size + 1, 0, none⟩ _ rfl rfl (sp_clear rfl HR.out.2.1) ?_)
  refine bodyPost_ret (results_row_tmp (fn := Tryz.f25) (p := 2) (u := 3) (b := w.heap.size + 1) (t := 44) (C := spzc) rfl _ rfl (HR.out.2.1.setRow _) Tryz.underlying44 rfl sp_size) rfl ⟨rfl, ?_⟩
  exact below_setRow HR.out.2.2.1 (by omega) _
def Mok (a t m l z : Nat) : Prop := (a = 1 ∨ a = 2 ∨ a = 3) ∧ 1 ≤ t ∧ t ≤ 4294967295 ∧ 1 ≤ l ∧ l ≤ 16777215 ∧ 8 * l ≤ m ∧ m ≤ 4294967295 ∧ 4 ≤ z ∧ z ≤ 1024
theorem may_nats {a t m l z : Int} (h : mayB a t m l z = true) : ∃ a' t' m' l' z' : Nat, a = (a' : Int) ∧ t = (t' : Int) ∧ m = (m' : Int) ∧ l = (l' : Int) ∧ z = (z' : Int) ∧ Mok a' t' m' l' z' := by
  obtain ⟨h1, h2, h3, h4, h5⟩ := may_yes h
  have h2 := in_true _ _ _ h2
  have h3 := in_true _ _ _ h3
  have h4 := in_true _ _ _ h4
  have h5 := in_true _ _ _ h5
  exact ⟨a.toNat, t.toNat, m.toNat, l.toNat, z.toNat, by omega, by omega, by omega, by omega, by omega, by unfold Mok; omega⟩
set_option maxHeartbeats 1600000 in
theorem of_walk (a t m l z u b c g : Nat) (hM : Mok a t m l z) (hu : 4 * l = u) (hb : m / u * u = b) (hc : b / l = c) (hg : b / u = g) (w : World) :
    Calls Tryz.prog 25 #[pav a t m l z] w fun e w' => e = .returned (.tuple #[spv a t l m b c g z, .int .i64 0]) ∧ Below w.heap.size w w' := by
  have hy : mayB a t m l z = true := by
    unfold Mok at hM
    simp [mayB, inB]
    omega
  have C : ∀ w, Calls Tryz.prog 45 #[pav a t m l z] w fun e w' => e = .returned (.bool true) ∧ Below w.heap.size w w' := fun w => hy ▸ may_any a t m l z w
  have C1 := Lib.hid C
  obtain ⟨ha, ht1, ht2, hl1, hl2, hm1, hm2, hz1, hz2⟩ := hM
  have C2 := Lib.hid (mul_lanes l hl2)
  have C3 := Lib.hid (down_lanes m u hm2 (by omega))
  rw [hu] at C2
  rw [hb] at C3
  have hbm : b ≤ m := by rw [← hb]; exact Nat.div_mul_le_self _ _
  have e1 : (b : Int) / (l : Int) = (c : Int) := by rw [← hc]; rfl
  have e2 : (b : Int) / (u : Int) = (g : Int) := by rw [← hg]; rfl
  have hcb : c ≤ b := by rw [← hc]; exact Nat.div_le_self _ _
  have hgb : g ≤ b := by rw [← hg]; exact Nat.div_le_self _ _
  have hl0 : ((l : Int) == 0) = false := by simp; omega
  have hu0 : ((u : Int) == 0) = false := by simp; omega
  have hbn : b ≤ 4294967295 := by omega
  have hub : 1 ≤ u := by omega
  clear C hy ha hb hc hg hu
  go_enter Tryz.func25, Tryz.ntmps25
  go_wp2_with fail
  refine (C1.out _).mono ?_
  rintro e w1 ⟨rfl, hb⟩
  obtain ⟨R1, R2, B1, s1⟩ := of_rows a t m l z w hb
  obtain ⟨-, -, -, k3, -⟩ := pa_cells R1
  have HR := Lib.hid R1
  have HS := Lib.hid R2
  have HB := Lib.hid B1
  clear hb C1 R1 R2 B1
  go_wp2_with fail
  refine (C2.out _).mono ?_
  rintro e w2 ⟨rfl, hb⟩
  have s2 := hb.size
  have HR2 := Lib.hid (HR.out.step hb)
  have HS2 := Lib.hid (HS.out.step hb)
  have HB2 := Lib.hid (HB.out.trans (hb.mono HB.out.size))
  obtain ⟨-, -, k2, -, -⟩ := pa_cells HR2.out
  clear hb C2 HR HS HB k3
  go_wp2_with fail
  refine (C3.out _).mono ?_
  rintro e w3 ⟨rfl, hb⟩
  have s3 := hb.size
  have HR3 := Lib.hid (HR2.out.step hb)
  have HS3 := Lib.hid (HS2.out.step hb)
  have HB3 := Lib.hid (HB2.out.trans (hb.mono HB2.out.size))
  obtain ⟨k0, k1, k2', k3, k4⟩ := pa_cells HR3.out
  clear hb C3 HR2 HB2 k2 HS2
  go_wp2_with fail
  have w1' : IntKind.i64.wrap (b : Int) = (b : Int) := by rw [IntKind.wrap_i64]; omega
  have w2' : IntKind.i64.wrap (c : Int) = (c : Int) := by rw [IntKind.wrap_i64]; omega
  have w3' : IntKind.i64.wrap (g : Int) = (g : Int) := by rw [IntKind.wrap_i64]; omega
  have l0 : ¬ l = 0 := by omega
  have u0 : ¬ u = 0 := by omega
  have q1 : Int.tdiv (b : Int) (l : Int) = (c : Int) := by rw [Int.tdiv_eq_ediv_of_nonneg (by omega)]; exact e1
  have q2 : Int.tdiv (b : Int) (u : Int) = (g : Int) := by rw [Int.tdiv_eq_ediv_of_nonneg (by omega)]; exact e2
  refine wp_region_still_tail 19 (by kernel_rfl) (by kernel_rfl) ?_
  simp only [List.take_succ_cons, List.take_zero, List.drop_succ_cons, List.drop_zero]
  repeat still_step
  refine wpStill_nil ?_
  change wpList _ _ _ _ _ w3.drew
  have HS4 := Lib.hid HS3.out.drew
  have HB4 := Lib.hid (below_drewN HB3.out 1)
  have s4 : w3.drew.heap.size = w3.heap.size := rfl
  change Hid (Below w.heap.size w w3.drew) at HB4
  have HST := Lib.hid (sp_store (a := a) (t := t) (l := l) (m := m) (b := b) (c := c) (g := g) (z := z) rfl HS4.out)
  clear HS3 HB3 HR3 k0 k1 k2' k3 k4
  generalize w3.drew = w4 at *
  go_wp2_with (refine wpList_store_of rfl _ _ _ rfl ⟨w.heap.size + 1, 0, none⟩ _ rfl rfl HST.out ?_)
  refine bodyPost_ret (results_row_tmp (fn := Tryz.f25) (p := 2) (u := 3) (b := w.heap.size + 1) (t := 44) (C := spc a t l m b c g z) rfl _ rfl (HS4.out.setRow _) Tryz.underlying44 rfl sp_size) rfl ⟨rfl, ?_⟩
  exact below_setRow HB4.out (by omega) _
open Go.RowKit
def firN (p s : Int) : Int := if p = 0 ∧ s = 0 then 2 else 0
theorem one_box (w : World) (o : Obj) : Below w.heap.size w (w.alloc o) := (Below.refl _ _).alloc (Nat.le_refl _) _
theorem two_box (w : World) (o o' : Obj) : Below w.heap.size w ((w.alloc o).alloc o') := (one_box w o).alloc (by rw [World.size_alloc]; omega) _
theorem spfirst_any (a t l m b c g z : Nat) (p s : Int) (w : World) : Calls Tryz.prog 43 #[spv a t l m b c g z, .int .i64 p, .int .i64 s] w fun e w' => e = .returned (.int .i64 (firN p s)) ∧ Below w.heap.size w w' := by
  have HB := Lib.hid (one_box w (.cells (spc a t l m b c g z) 44))
  by_cases h1 : p = 0
  · by_cases h2 : s = 0
    · have H := Lib.hid (show firN p s = 2 from if_pos ⟨h1, h2⟩)
      go_enter Tryz.func43, Tryz.ntmps43
      go_wp2
      go_ret
      exact ⟨by rw [H.out]; rfl, HB.out⟩
    · have H := Lib.hid (show firN p s = 0 from if_neg fun h => h2 h.2)
      go_enter Tryz.func43, Tryz.ntmps43
      go_wp2
      go_ret
      exact ⟨by rw [H.out]; rfl, HB.out⟩
  · have H := Lib.hid (show firN p s = 0 from if_neg fun h => h1 h.1)
    go_enter Tryz.func43, Tryz.ntmps43
    go_wp2
    go_ret
    exact ⟨by rw [H.out]; rfl, HB.out⟩
theorem spplace_any (a t l m b c g z k j : Nat) (h : k * c + j ≤ 4611686018427387904) (w : World) : Calls Tryz.prog 51 #[spv a t l m b c g z, .int .i64 (k : Int), .int .i64 (j : Int)] w fun e w' => e = .returned (.int .i64 ((k * c + j : Nat) : Int)) ∧ Below w.heap.size w w' := by
  have HB := Lib.hid (one_box w (.cells (spc a t l m b c g z) 44))
  have e1 : (k : Int) * (c : Int) = ((k * c : Nat) : Int) := (Int.natCast_mul _ _).symm
  generalize k * c = q at *
  go_enter Tryz.func51, Tryz.ntmps51
  go_wp2
  go_ret
  exact ⟨by go_num, HB.out⟩
theorem spcolumn_any (a t l m b c g z k j : Nat) (h : k * g + j ≤ 4611686018427387904) (w : World) : Calls Tryz.prog 92 #[spv a t l m b c g z, .int .i64 (k : Int), .int .i64 (j : Int)] w fun e w' => e = .returned (.int .i64 ((k * g + j : Nat) : Int)) ∧ Below w.heap.size w w' := by
  have HB := Lib.hid (one_box w (.cells (spc a t l m b c g z) 44))
  have e1 : (k : Int) * (g : Int) = ((k * g : Nat) : Int) := (Int.natCast_mul _ _).symm
  generalize k * g = q at *
  go_enter Tryz.func92, Tryz.ntmps92
  go_wp2
  go_ret
  exact ⟨by go_num, HB.out⟩
def befN (c j : Nat) : Int := if j = 0 then (c : Int) - 1 else (j : Int) - 1
theorem spbefore_any (a t l m b c g z j : Nat) (hc : c ≤ 4611686018427387904) (hj : j ≤ 4611686018427387904) (w : World) : Calls Tryz.prog 93 #[spv a t l m b c g z, .int .i64 (j : Int)] w fun e w' => e = .returned (.int .i64 (befN c j)) ∧ Below w.heap.size w w' := by
  have HB := Lib.hid (one_box w (.cells (spc a t l m b c g z) 44))
  by_cases h1 : j = 0
  · have H := Lib.hid (show befN c j = (c : Int) - 1 from if_pos h1)
    go_enter Tryz.func93, Tryz.ntmps93
    go_wp2
    go_ret
    exact ⟨by rw [H.out]; rfl, HB.out⟩
  · have H := Lib.hid (show befN c j = (j : Int) - 1 from if_neg h1)
    go_enter Tryz.func93, Tryz.ntmps93
    go_wp2
    go_ret
    exact ⟨by rw [H.out]; rfl, HB.out⟩
def hasB (t : Nat) (p s : Int) : Bool := inB p 0 ((t : Int) - 1) && inB s 0 3
theorem sphas_any (a t l m b c g z : Nat) (ht : t ≤ 4294967295) (p s : Int) (w : World) : Calls Tryz.prog 42 #[spv a t l m b c g z, tuv p s] w fun e w' => e = .returned (.bool (hasB t p s)) ∧ Below w.heap.size w w' := by
  have HB := Lib.hid (two_box w (.cells (spc a t l m b c g z) 44) (.cells (tuc p s) 28))
  have C1 := Lib.hid (@within_at p 0 ((t : Int) - 1) _ rfl)
  have C2 := Lib.hid (@within_at s 0 3 _ rfl)
  unfold hasB
  generalize inB p 0 ((t : Int) - 1) = b1 at *
  generalize inB s 0 3 = b2 at *
  cases b1
  · go_enter Tryz.func42, Tryz.ntmps42
    go_wp2_with fail
    refine (C1.out _).mono ?_
    rintro e w' ⟨rfl, rfl⟩
    go_wp2
    go_ret
    exact ⟨rfl, HB.out⟩
  · go_enter Tryz.func42, Tryz.ntmps42
    go_wp2_with fail
    refine (C1.out _).mono ?_
    rintro e w' ⟨rfl, rfl⟩
    go_wp2_with fail
    refine (C2.out _).mono ?_
    rintro e w' ⟨rfl, rfl⟩
    go_wp2
    go_ret
    exact ⟨rfl, HB.out⟩
open Go.RowKit
theorem has_at (a t l m b c g z : Nat) (ht : t ≤ 4294967295) {p s : Int} {r : Bool} (h : hasB t p s = r) (w : World) : Calls Tryz.prog 42 #[spv a t l m b c g z, tuv p s] w fun e w' => e = .returned (.bool r) ∧ Below w.heap.size w w' := h ▸ sphas_any a t l m b c g z ht p s w
abbrev nexW (w : World) (a t l m b c g z : Nat) (p s : Int) (p' s' : Int) : World := (((w.alloc (.cells (spc a t l m b c g z) 44)).alloc (.cells (tuc p s) 28)).alloc (.cells (tuc 0 0) 28)).alloc (.cells (tuc p' s') 28)
theorem nexW_rows (w : World) (a t l m b c g z : Nat) (p s p' s' : Int) (w1 : World) (hb : Below (w.heap.size + 1 + 1 + 1 + 1) (nexW w a t l m b c g z p s p' s') w1) :
    RowAt w1 w.heap.size 44 (spc a t l m b c g z) ∧ RowAt w1 (w.heap.size + 1 + 1) 28 (tuc 0 0) ∧ RowAt w1 (w.heap.size + 1 + 1 + 1) 28 (tuc p' s') ∧ Below w.heap.size w w1 ∧ w.heap.size + 1 + 1 + 1 + 1 ≤ w1.heap.size := by
  have b1 := one_box w (.cells (spc a t l m b c g z) 44)
  have r1 := RowAt.new w 44 (spc a t l m b c g z)
  have s1 : (w.alloc (.cells (spc a t l m b c g z) 44)).heap.size = w.heap.size + 1 := World.size_alloc _ _
  unfold nexW at hb
  generalize w.alloc (.cells (spc a t l m b c g z) 44) = x1 at *
  have b2 := b1.alloc (by omega) (.cells (tuc p s) 28)
  have r12 := r1.alloc (.cells (tuc p s) 28)
  have s2 : (x1.alloc (.cells (tuc p s) 28)).heap.size = w.heap.size + 1 + 1 := by rw [World.size_alloc, s1]
  generalize x1.alloc (.cells (tuc p s) 28) = x2 at *
  have b3 := b2.alloc (by omega) (.cells (tuc 0 0) 28)
  have r13 := r12.alloc (.cells (tuc 0 0) 28)
  have r3 := RowAt.new x2 28 (tuc 0 0)
  have s3 : (x2.alloc (.cells (tuc 0 0) 28)).heap.size = w.heap.size + 1 + 1 + 1 := by rw [World.size_alloc, s2]
  rw [s2] at r3
  generalize x2.alloc (.cells (tuc 0 0) 28) = x3 at *
  have b4 := b3.alloc (by omega) (.cells (tuc p' s') 28)
  have r14 := r13.alloc (.cells (tuc p' s') 28)
  have r34 := r3.alloc (.cells (tuc p' s') 28)
  have r4 := RowAt.new x3 28 (tuc p' s')
  have s4 : (x3.alloc (.cells (tuc p' s') 28)).heap.size = w.heap.size + 1 + 1 + 1 + 1 := by rw [World.size_alloc, s3]
  rw [s3] at r4
  generalize x3.alloc (.cells (tuc p' s') 28) = x4 at *
  have hs := hb.size
  exact ⟨r14.below hb (by omega), r34.below hb (by omega), r4.below hb (by omega), b4.trans (hb.mono (by omega)), by omega⟩
theorem has_nexW (w : World) (a t l m b c g z : Nat) (p s p' s' : Int) (ht : t ≤ 4294967295) {r : Bool} (h : hasB t p s = r) : Calls Tryz.prog 42 #[spv a t l m b c g z, tuv p s] (nexW w a t l m b c g z p s p' s') fun e w' => e = .returned (.bool r) ∧ Below (w.heap.size + 1 + 1 + 1 + 1) (nexW w a t l m b c g z p s p' s') w' := by
  have C := has_at a t l m b c g z ht h (nexW w a t l m b c g z p s p' s')
  have e : (nexW w a t l m b c g z p s p' s').heap.size = w.heap.size + 1 + 1 + 1 + 1 := by simp only [nexW, World.size_alloc]
  rw [e] at C
  exact C
set_option maxHeartbeats 1600000 in
theorem spnext_four1 (a t l m b c g z : Nat) (ht : t ≤ 4294967295) (p : Nat) (hp : p ≤ 4611686018427387904) (h1 : hasB t p 3 = true) (h2 : hasB t ((p : Int) + 1) 0 = false) (w : World) :
    Calls Tryz.prog 23 #[spv a t l m b c g z, tuv p 3] w fun e w' => e = .returned (.tuple #[tuv 0 0, .bool false]) ∧ Below w.heap.size w w' := by
  have C1 := Lib.hid (has_nexW w a t l m b c g z p 3 ((p : Int) + 1) 0 ht h1)
  have C2 := Lib.hid (has_at a t l m b c g z ht h2)
  have HW := Lib.hid (@nexW_rows w a t l m b c g z p 3 ((p : Int) + 1) 0)
  clear h1 h2
  go_enter Tryz.func23, Tryz.ntmps23
  go_wp2_with fail
  refine C1.out.mono ?_
  rintro e w1 ⟨rfl, hb⟩
  obtain ⟨R1, R2, R3, B, s1⟩ := HW.out w1 hb
  have H1 := Lib.hid R1
  have H2 := Lib.hid R2
  have H3 := Lib.hid R3
  have HB := Lib.hid B
  clear hb R1 R2 R3 B C1 HW
  go_wp2_with (first | (refine wpList_load_want rfl 44 _ rfl _ _ rfl (sp_load H1.out) ?_) | (refine wpList_load_want rfl 28 _ rfl _ _ rfl (tu_load H3.out) ?_))
  refine (C2.out _).mono ?_
  rintro e w2 ⟨rfl, hb⟩
  have s2 := hb.size
  have H4 := Lib.hid (H2.out.step hb)
  have H5 := Lib.hid (H3.out.step hb)
  have HB2 := Lib.hid (HB.out.trans (hb.mono HB.out.size))
  clear hb C2 H1 H2 H3 HB
  go_wp2_with (refine wpList_store_of rfl _ _ _ rfl ⟨w.heap.size + 1 + 1, 0, none⟩ _ rfl rfl (tu_store (p := 0) (s := 0) rfl H4.out) ?_)
  refine bodyPost_ret (results_row_tmp (fn := Tryz.f23) (p := 4) (u := 5) (b := w.heap.size + 1 + 1) (t := 28) (C := tuc 0 0) rfl _ rfl (H4.out.setRow _) Tryz.underlying28 rfl tu_size) rfl ⟨rfl, ?_⟩
  exact below_setRow HB2.out (by omega) _
set_option maxHeartbeats 1600000 in
theorem spnext_four2 (a t l m b c g z : Nat) (ht : t ≤ 4294967295) (p : Nat) (hp : p ≤ 4611686018427387904) (h1 : hasB t p 3 = true) (h2 : hasB t ((p : Int) + 1) 0 = true) (w : World) :
    Calls Tryz.prog 23 #[spv a t l m b c g z, tuv p 3] w fun e w' => e = .returned (.tuple #[tuv ((p : Int) + 1) 0, .bool true]) ∧ Below w.heap.size w w' := by
  have C1 := Lib.hid (has_nexW w a t l m b c g z p 3 ((p : Int) + 1) 0 ht h1)
  have C2 := Lib.hid (has_at a t l m b c g z ht h2)
  have HW := Lib.hid (@nexW_rows w a t l m b c g z p 3 ((p : Int) + 1) 0)
  clear h1 h2
  go_enter Tryz.func23, Tryz.ntmps23
  go_wp2_with fail
  refine C1.out.mono ?_
  rintro e w1 ⟨rfl, hb⟩
  obtain ⟨R1, R2, R3, B, s1⟩ := HW.out w1 hb
  have H1 := Lib.hid R1
  have H2 := Lib.hid R2
  have H3 := Lib.hid R3
  have HB := Lib.hid B
  clear hb R1 R2 R3 B C1 HW
  go_wp2_with (first | (refine wpList_load_want rfl 44 _ rfl _ _ rfl (sp_load H1.out) ?_) | (refine wpList_load_want rfl 28 _ rfl _ _ rfl (tu_load H3.out) ?_))
  refine (C2.out _).mono ?_
  rintro e w2 ⟨rfl, hb⟩
  have s2 := hb.size
  have H4 := Lib.hid (H2.out.step hb)
  have H5 := Lib.hid (H3.out.step hb)
  have HB2 := Lib.hid (HB.out.trans (hb.mono HB.out.size))
  clear hb C2 H1 H2 H3 HB
  go_wp2_with (first | (refine wpList_load_want rfl _ _ rfl _ _ rfl (tu_load H5.out) ?_) | (refine wpList_store_of rfl _ _ _ rfl ⟨w.heap.size + 1 + 1, 0, none⟩ _ rfl rfl (tu_store rfl H4.out) ?_))
  refine bodyPost_ret (results_row_tmp (fn := Tryz.f23) (p := 4) (u := 5) (b := w.heap.size + 1 + 1) (t := 28) (C := tuc ((p : Int) + 1) 0) rfl _ rfl (H4.out.setRow _) Tryz.underlying28 rfl tu_size) rfl ⟨rfl, ?_⟩
  exact below_setRow HB2.out (by omega) _
set_option maxHeartbeats 1600000 in
theorem spnext_more2 (a t l m b c g z : Nat) (ht : t ≤ 4294967295) (p s : Nat) (hs : s ≤ 4611686018427387904) (h4 : ¬ s = 3) (h1 : hasB t p (s : Int) = true) (h2 : hasB t (p : Int) ((s : Int) + 1) = true) (w : World) :
    Calls Tryz.prog 23 #[spv a t l m b c g z, tuv p (s : Int)] w fun e w' => e = .returned (.tuple #[tuv (p : Int) ((s : Int) + 1), .bool true]) ∧ Below w.heap.size w w' := by
  have C1 := Lib.hid (has_nexW w a t l m b c g z p (s : Int) (p : Int) ((s : Int) + 1) ht h1)
  have C2 := Lib.hid (has_at a t l m b c g z ht h2)
  have HW := Lib.hid (@nexW_rows w a t l m b c g z p (s : Int) (p : Int) ((s : Int) + 1))
  clear h1 h2
  have h5 : ¬ (s : Int) + 1 = 4 := by omega
  go_enter Tryz.func23, Tryz.ntmps23
  go_wp2_with fail
  refine C1.out.mono ?_
  rintro e w1 ⟨rfl, hb⟩
  obtain ⟨R1, R2, R3, B, s1⟩ := HW.out w1 hb
  have H1 := Lib.hid R1
  have H2 := Lib.hid R2
  have H3 := Lib.hid R3
  have HB := Lib.hid B
  clear hb R1 R2 R3 B C1 HW
  go_wp2_with (first | (refine wpList_load_want rfl 44 _ rfl _ _ rfl (sp_load H1.out) ?_) | (refine wpList_load_want rfl 28 _ rfl _ _ rfl (tu_load H3.out) ?_))
  refine (C2.out _).mono ?_
  rintro e w2 ⟨rfl, hb⟩
  have s2 := hb.size
  have H4 := Lib.hid (H2.out.step hb)
  have H5 := Lib.hid (H3.out.step hb)
  have HB2 := Lib.hid (HB.out.trans (hb.mono HB.out.size))
  clear hb C2 H1 H2 H3 HB
  go_wp2_with (first | (refine wpList_load_want rfl _ _ rfl _ _ rfl (tu_load H5.out) ?_) | (refine wpList_store_of rfl _ _ _ rfl ⟨w.heap.size + 1 + 1, 0, none⟩ _ rfl rfl (tu_store rfl H4.out) ?_))
  refine bodyPost_ret (results_row_tmp (fn := Tryz.f23) (p := 4) (u := 5) (b := w.heap.size + 1 + 1) (t := 28) (C := tuc (p : Int) ((s : Int) + 1)) rfl _ rfl (H4.out.setRow _) Tryz.underlying28 rfl tu_size) rfl ⟨rfl, ?_⟩
  exact below_setRow HB2.out (by omega) _
open Go.RowKit
theorem of_good {a t m l z : Nat} (hM : Mok a t m l z) : ∃ b c g : Nat, 2 ≤ g ∧ c = 4 * g ∧ b = l * c ∧ b ≤ m ∧ g = m / (4 * l) ∧ ∀ w : World, Calls Tryz.prog 25 #[pav a t m l z] w fun e w' => e = .returned (.tuple #[spv a t l m b c g z, .int .i64 0]) ∧ Below w.heap.size w w' := by
  have hl : 1 ≤ l := hM.2.2.2.1
  have hm : 8 * l ≤ m := hM.2.2.2.2.2.1
  have hg : 2 ≤ m / (4 * l) := (Nat.le_div_iff_mul_le (by omega)).2 (by omega)
  have hb : m / (4 * l) * (4 * l) = l * (4 * (m / (4 * l))) := by
    rw [Nat.mul_comm, Nat.mul_comm 4 l, Nat.mul_assoc]
  have hbm : l * (4 * (m / (4 * l))) ≤ m := by rw [← hb]; exact Nat.div_mul_le_self _ _
  refine ⟨l * (4 * (m / (4 * l))), 4 * (m / (4 * l)), m / (4 * l), hg, rfl, rfl, hbm, rfl, fun w => ?_⟩
  refine of_walk a t m l z (4 * l) _ _ _ hM rfl hb ?_ ?_ w
  · exact Nat.mul_div_cancel_left _ (by omega)
  · rw [← hb]; exact Nat.mul_div_cancel _ (by omega)
open Go.ChangeShapes Go.WideShapes Go.ChangeAt Go.RowKit
theorem pa_cellsOf : Tryz.prog.cellsOf 23 = 5 := by kernel_rfl
theorem int_cellsOf : Tryz.prog.cellsOf 3 = 1 := by kernel_rfl
theorem open_pa {H : Type} {enc : TypeId × Value → H} {W : World} {r : Reach} {b0 base : Nat} {spare : Nat → Bool} {held : Bool} {v : Value} {d : DataW H} {ps : List MemPlace}
    (hval : Value.okWide Tryz.prog W r b0 23 v) (hd : DataW.Trod enc Tryz.prog W base spare held 23 v d ps) : ∃ a t m l z : Int, v = pav a t m l z := by
  obtain ⟨cs, rfl, _⟩ : ∃ cs, v = .agg cs ∧ cs.size = Tryz.prog.cellsOf 23 ∧ Row.okWide Tryz.prog W r b0 23 cs := by
    have := hval
    simpa [Value.okWide, Tryz.underlying23] using this
  obtain ⟨fuel, hf⟩ := hd
  obtain ⟨xs, m, _, _, hl, hxl, hall⟩ := DataW.trod_struct Tryz.underlying23 hf
  rw [pa_cellsOf] at hl
  have hxl : xs.length = 5 := hxl
  have E : ∀ i : Nat, i < 5 → ∃ z : Int, (Value.cells (.agg cs)).toList[i]? = some (.int .i64 z) := fun i hi => by
    have e : DataW.trod enc Tryz.prog W base spare held m 3 (((Value.cells (.agg cs)).toList.drop i).take (Tryz.prog.cellsOf 3)) = xs[i]? := by
      rcases (show i = 0 ∨ i = 1 ∨ i = 2 ∨ i = 3 ∨ i = 4 by omega) with rfl | rfl | rfl | rfl | rfl
      · exact hall 0 _ rfl
      · exact hall 1 _ rfl
      · exact hall 2 _ rfl
      · exact hall 3 _ rfl
      · exact hall 4 _ rfl
    rw [int_cellsOf, List.getElem?_eq_getElem (by omega)] at e
    obtain ⟨z, c, _, _⟩ := DataW.trod_int Tryz.underlying3 e
    have := congrArg (fun l : List Value => l[0]?) c
    exact ⟨z, by simpa [List.getElem?_take, List.getElem?_drop] using this⟩
  obtain ⟨z0, g0⟩ := E 0 (by decide)
  obtain ⟨z1, g1⟩ := E 1 (by decide)
  obtain ⟨z2, g2⟩ := E 2 (by decide)
  obtain ⟨z3, g3⟩ := E 3 (by decide)
  obtain ⟨z4, g4⟩ := E 4 (by decide)
  refine ⟨z0, z1, z2, z3, z4, ?_⟩
  have hcs : (Value.cells (.agg cs)).toList = [.int .i64 z0, .int .i64 z1, .int .i64 z2, .int .i64 z3, .int .i64 z4] := by
    refine List.ext_getElem? fun i => ?_
    rcases (show i = 0 ∨ i = 1 ∨ i = 2 ∨ i = 3 ∨ i = 4 ∨ 5 ≤ i by omega) with rfl | rfl | rfl | rfl | rfl | h
    · exact g0
    · exact g1
    · exact g2
    · exact g3
    · exact g4
    · rw [List.getElem?_eq_none (by omega), List.getElem?_eq_none (by simp; omega)]
  have h2 : cs.toList = [.int .i64 z0, .int .i64 z1, .int .i64 z2, .int .i64 z3, .int .i64 z4] := hcs
  show Value.agg cs = _
  rw [show cs = (cs.toList).toArray by simp, h2]
open Go.RowKit
section
variable {w : World} {b : Nat} {v : Value} {ev : Operand → Value} {x : Operand} {o : Oper}
theorem int_runS {ad : Addr} (hop : o.op = .load 3 x) (hx : ev x = .pointer (some ad)) (hc : w.cell? ad = some v) : (execOp ev o).run Tryz.prog w = .ok (.value v) w := by
  simp [execOp, hop, hx, hc, go_sem]
theorem spf_run {off : Nat} {k : Nat} (hop : o.op = .fieldAddr 44 x k) (hk : k = 2 ∨ k = 4 ∨ k = 5 ∨ k = 6) (hx : ev x = .pointer (some ⟨b, off, none⟩)) : (execOp ev o).run Tryz.prog w = .ok (.value (.pointer (some ⟨b, off + k, none⟩))) w := by
  rcases hk with rfl | rfl | rfl | rfl
  all_goals
    simp [execOp, hop, hx, go_sem]
theorem tuf_run {off : Nat} {k : Nat} (hop : o.op = .fieldAddr 28 x k) (hk : k = 0 ∨ k = 1) (hx : ev x = .pointer (some ⟨b, off, none⟩)) : (execOp ev o).run Tryz.prog w = .ok (.value (.pointer (some ⟨b, off + k, none⟩))) w := by
  rcases hk with rfl | rfl
  all_goals
    simp [execOp, hop, hx, go_sem]
theorem load_runS {ad : Addr} {ty : TypeId} (hop : o.op = .load ty x) (hx : ev x = .pointer (some ad)) (hl : (loadVar ty ad).run Tryz.prog w = .ok v w) : (execOp ev o).run Tryz.prog w = .ok (.value v) w := by
  simp only [execOp, hop, hx, Instr.loadAt, Instr.sureAddr, Sem.run_bind, Sem.run_pure, Result.andThen_ok, hl]
end
theorem op_call3S {P : Program} {o : Oper} {a : Act} {w : World} {Q : Exit → Act → World → Prop} {p : Value → World → Prop} {f : FuncId} {x y z : Operand} {ts : Array TypeId} {v1 v2 v3 : Value} (ho : o.op = .call { callee := .value (.func f), args := #[x, y, z], argTypes := ts }) (he : ∀ (args : Array Value) (w : World), (callFunc f args).run P w = .ok (.enter f args) w)
    (hx : a.eval x = v1) (hy : a.eval y = v2) (hz : a.eval z = v3) (hc : Calls P f #[v1, v2, v3] w fun e w' => ∃ v, e = .returned v ∧ p v w' ∧ Below w.heap.size w w') : Does P p o a w Q := by
  subst hx; subst hy; subst hz
  exact op_call ho he hc
section
variable (w : World)
theorem add_run (x y z : Int) (h : x + y = z) (h1 : -4611686018427387904 ≤ z) (h2 : z ≤ 4611686018427387904) : (binOp .add 3 (.int .i64 x) (.int .i64 y)).run Tryz.prog w = .ok (.int .i64 z) w := by
  have e3 : IntKind.i64.wrap z = z := by rw [IntKind.wrap_i64]; omega
  simp [go_sem, h, e3]
theorem sub_runS (x y z : Int) (h : x - y = z) (h1 : -4611686018427387904 ≤ z) (h2 : z ≤ 4611686018427387904) : (binOp .sub 3 (.int .i64 x) (.int .i64 y)).run Tryz.prog w = .ok (.int .i64 z) w := by
  have e3 : IntKind.i64.wrap z = z := by rw [IntKind.wrap_i64]; omega
  simp [go_sem, h, e3]
end
open Go.RowKit
theorem ktu_wf (i : Nat) (h : i ≤ 140737488351232) : (Lit.int .i64 (i : Int)).wf = true := by
  have e1 : IntKind.i64.min = -9223372036854775808 := rfl
  have e2 : IntKind.i64.max = 9223372036854775807 := rfl
  simp [Lit.wf, e1, e2]
  omega
theorem ktu_int (d i : Nat) (h : i ≤ 140737488351232) : Tryz.prog.keyLits (d + 1) 3 [.int .i64 (i : Int)] = some [.int .i64 (i : Int)] := by
  unfold Program.keyLits
  simp only [Tryz.underlying3]
  simp [ktu_wf i h]
theorem ktu (d p s : Nat) (hp : p ≤ 140737488351232) (hs : s ≤ 140737488351232) : Tryz.prog.keyLits (d + 2) 28 [.int .i64 (p : Int), .int .i64 (s : Int)] = some [.int .i64 (p : Int), .int .i64 (s : Int)] := by
  have k1 := ktu_int d p hp
  have k2 := ktu_int d s hs
  unfold Program.keyLits
  simp only [Tryz.underlying28]
  have c1 : Tryz.prog.cellsOf 28 = 2 := by kernel_rfl
  have c2 : Tryz.prog.cellsOf 3 = 1 := by kernel_rfl
  simp [c1, c2, k1, k2]
theorem tu_same (p s : Nat) (hp : p ≤ 140737488351232) (hs : s ≤ 140737488351232) (w : World) : (Op.equalIn 10000 28 (tuv p s) (tuv p s)).run Tryz.prog w = .ok true w := by
  obtain ⟨r, q1, q2⟩ := run_equalIn_deep (P := Tryz.prog) 9990 10 28 (by kernel_rfl) w 10 10 (tuv p s) (tuv p s) _ _ (by kernel_rfl) (by kernel_rfl) (ktu 8 p s hp hs) (ktu 8 p s hp hs)
  have hr : r = true := q2.2 rfl
  subst hr
  exact q1
theorem tu_neq (p s : Nat) (hp : p ≤ 140737488351232) (hs : s ≤ 140737488351232) (w : World) : (binOp .neq 28 (tuv p s) (tuv p s)).run Tryz.prog w = .ok (.bool false) w := by
  rw [run_neq_struct, tu_same p s hp hs]; rfl
theorem g_tu : Tryz.prog.eqGuardType Tryz.prog.depth 28 = false := by kernel_rfl
theorem cmp_runS (w : World) {xs ys : Array Value} {k : Bool} {c : BinOp} (ev : Operand → Value) (x y : Operand) {t ty : TypeId} {o : Oper} (hop : o.op = .binOp c t x y ty) (hx : ev x = .agg xs) (hy : ev y = .agg ys) (hm : Tryz.prog.eqGuardType Tryz.prog.depth t = false) (hr : (binOp c t (.agg xs) (.agg ys)).run Tryz.prog w = .ok (.bool k) w) : (execOp ev o).run Tryz.prog w = .ok (.value (.bool k)) w := by
  have hg := run_eqGuard_agg (P := Tryz.prog) w c t x y xs ys hm
  simp only [execOp, hop, hx, hy, Sem.run_bind, hg, Result.andThen_ok, hr, Sem.run_pure]
theorem wpList_value_wantS {P : Program} {ops : Array Oper} {rest : List Oper} {o : Oper} {a : Act} {w w' : World} {Q : Exit → Act → World → Prop} (hw : Region.wanted o (yielded ops a.tmps) = true) (v : Value) (hr : (execOp a.eval o).run P w = .ok (.value v) w') (h : wpList P ops Q rest (a.put o.dst v) w') : wpList P ops Q (o :: rest) a w := wpList_step fun K hK => by
  rw [if_pos hw]
  unfold Oper.wp
  rw [hr]
  exact hK _ _ h
section
variable {w wr w' : World} {q r a t l m b c g z : Nat} {p s : Int}
end
def tuA (t n : Nat) : Nat := if n < 4 * t then n / 4 else 0
def tuB (t n : Nat) : Nat := if n < 4 * t then n % 4 else 0
theorem hasB_yes {t p s : Nat} (hp : p < t) (hs : s ≤ 3) : hasB t p s = true := by
  simp [hasB, inB]; omega
theorem hasB_late {t p : Nat} (s : Int) (hp : t ≤ p) : hasB t p s = false := by
  simp [hasB, inB]; omega
theorem next_at (a t l m b c g z n : Nat) (ht : t ≤ 4294967295) (hn : n < 4 * t) (w : World) :
    Calls Tryz.prog 23 #[spv a t l m b c g z, tuv (n / 4 : Nat) (n % 4 : Nat)] w fun e w' => e = .returned (.tuple #[tuv (tuA t (n + 1)) (tuB t (n + 1)), .bool (decide (n + 1 < 4 * t))]) ∧ Below w.heap.size w w' := by
  have h1 : hasB t (n / 4 : Nat) (n % 4 : Nat) = true := hasB_yes (by omega) (by omega)
  have hp : n / 4 ≤ 4611686018427387904 := by omega
  have hs : n % 4 ≤ 4611686018427387904 := by omega
  by_cases hlt : n + 1 < 4 * t
  · rw [decide_eq_true hlt, show tuA t (n + 1) = (n + 1) / 4 from if_pos hlt, show tuB t (n + 1) = (n + 1) % 4 from if_pos hlt]
    by_cases h3 : n % 4 = 3
    · rw [h3] at h1 ⊢
      rw [show (n + 1) / 4 = n / 4 + 1 by omega, show (n + 1) % 4 = 0 by omega]
      exact spnext_four2 a t l m b c g z ht (n / 4) hp h1 (hasB_yes (p := n / 4 + 1) (s := 0) (by omega) (by omega)) w
    · rw [show (n + 1) / 4 = n / 4 by omega, show (n + 1) % 4 = n % 4 + 1 by omega]
      exact spnext_more2 a t l m b c g z ht (n / 4) (n % 4) hs h3 h1 (hasB_yes (p := n / 4) (s := n % 4 + 1) (by omega) (by omega)) w
  · rw [decide_eq_false hlt, show tuA t (n + 1) = 0 from if_neg hlt, show tuB t (n + 1) = 0 from if_neg hlt]
    have h3 : n % 4 = 3 := by omega
    rw [h3] at h1 ⊢
    exact spnext_four1 a t l m b c g z ht (n / 4) hp h1 (hasB_late (p := n / 4 + 1) 0 (by omega)) w
end Go.Proofs.YtfoodaobiknihaaGreatDoor

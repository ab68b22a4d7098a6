/- Add of package size and the document's Add, over any list: the sum, or why there is none. Condition: a length below 2^40. -/
import Derived.Test.YtphgcgoobclakaaLists
namespace Go.Proofs.Ytphgcgoobclakaa
open Go.RowKit

def natsOf (zs : List Int) : List Nat := zs.map Int.toNat
def prodOf : List Nat → Nat
  | [] => 1
  | x :: l => x * prodOf l
/-- a number, if it is not too great -/
def fitN (p : Nat) : Int := if p ≤ 4611686018427387904 then (p : Int) else 0
def fitE (p : Nat) : Int := if p ≤ 4611686018427387904 then 0 else 10
def sumN (zs : List Int) : Int := if allIn zs = true then fitN (natsOf zs).sum else 0
def sumE (zs : List Int) : Int := if allIn zs = true then fitE (natsOf zs).sum else 1
def proN (zs : List Int) : Int := if allIn zs = true then fitN (prodOf (natsOf zs)) else 0
def proE (zs : List Int) : Int := if allIn zs = true then fitE (prodOf (natsOf zs)) else 1

theorem good_nats (zs : List Int) (h : allIn zs = true) : ∃ xs : List Nat, zs = xs.map (fun x : Nat => (x : Int)) ∧ natsOf zs = xs ∧ ∀ x ∈ xs, x ≤ 4611686018427387904 := by
  unfold allIn at h
  rw [List.all_eq_true] at h
  refine ⟨natsOf zs, ?_, rfl, ?_⟩
  · unfold natsOf
    rw [List.map_map]
    conv => lhs; rw [← List.map_id zs]
    exact List.map_congr_left fun n hn => by
      have := in_true _ _ _ (h n hn)
      simp only [id_eq, Function.comp_apply]; omega
  · intro x hx
    obtain ⟨n, hn, rfl⟩ := List.mem_map.1 hx
    have := in_true _ _ _ (h n hn)
    omega
theorem sum_snoc (xs : List Nat) (k : Nat) (h : k < xs.length) : (xs.take (k + 1)).sum = (xs.take k).sum + xs[k] := by
  rw [List.take_succ_eq_append_getElem h, List.sum_append, List.sum_singleton]
theorem sum_take (xs : List Nat) (k : Nat) : (xs.take k).sum ≤ xs.sum := by
  have h := congrArg List.sum (List.take_append_drop k xs)
  rw [List.sum_append] at h
  omega
theorem fitN_yes {p : Nat} (h : p ≤ 4611686018427387904) : fitN p = (p : Int) := if_pos h
theorem fitE_yes {p : Nat} (h : p ≤ 4611686018427387904) : fitE p = 0 := if_pos h
theorem fitN_no {p : Nat} (h : 4611686018427387904 < p) : fitN p = 0 := if_neg (by omega)
theorem fitE_no {p : Nat} (h : 4611686018427387904 < p) : fitE p = 10 := if_neg (by omega)
theorem sumN_no {zs : List Int} (h : allIn zs = false) : sumN zs = 0 := if_neg (by simp [h])
theorem sumE_no {zs : List Int} (h : allIn zs = false) : sumE zs = 1 := if_neg (by simp [h])
theorem proN_no {zs : List Int} (h : allIn zs = false) : proN zs = 0 := if_neg (by simp [h])
theorem proE_no {zs : List Int} (h : allIn zs = false) : proE zs = 1 := if_neg (by simp [h])
theorem sumN_yes {zs : List Int} {xs : List Nat} (h : allIn zs = true) (e : natsOf zs = xs) : sumN zs = fitN xs.sum := by rw [← e]; exact if_pos h
theorem sumE_yes {zs : List Int} {xs : List Nat} (h : allIn zs = true) (e : natsOf zs = xs) : sumE zs = fitE xs.sum := by rw [← e]; exact if_pos h
theorem proN_yes {zs : List Int} {xs : List Nat} (h : allIn zs = true) (e : natsOf zs = xs) : proN zs = fitN (prodOf xs) := by rw [← e]; exact if_pos h
theorem proE_yes {zs : List Int} {xs : List Nat} (h : allIn zs = true) (e : natsOf zs = xs) : proE zs = fitE (prodOf xs) := by rw [← e]; exact if_pos h
theorem ret_pair {a b c d : Int} (h1 : a = c) (h2 : b = d) : Ending.returned (.tuple #[.int .i64 a, .int .i64 b]) = .returned (.tuple #[.int .i64 c, .int .i64 d]) := by rw [h1, h2]
theorem nat_at (xs : List Nat) (k : Nat) (h : k < (i64s (xs.map fun x : Nat => (x : Int))).length) : (i64s (xs.map fun x : Nat => (x : Int)))[k] = .int .i64 ((xs[k]'(by simpa [i64s] using h) : Nat) : Int) := by simp [i64s]
theorem nats_length (xs : List Nat) : (i64s (xs.map fun x : Nat => (x : Int))).length = xs.length := by simp [i64s]

set_option maxHeartbeats 1600000 in
theorem add_any (A : Option Addr) (c : Nat) (zs : List Int) (w : World) {B : Nat} (hr : Reads w B A (i64s zs)) (hlen : zs.length ≤ 1000000000000) :
    Calls Try.prog 8 #[.slice A zs.length c] w fun e w' => e = .returned (.tuple #[.int .i64 (sumN zs), .int .i64 (sumE zs)]) ∧ w = w' := by
  have C := reckoned_any A c zs w hr hlen
  cases h : allIn zs
  · rw [h] at C
    have e1 := Lib.hid (sumN_no h)
    have e2 := Lib.hid (sumE_no h)
    have H := Lib.hid C
    clear C h hr
    go_enter Try.func8, Try.ntmps8
    go_wp2_with fail
    refine (H.out).mono ?_
    rintro e w' ⟨rfl, rfl⟩
    go_wp2
    go_ret2
    exact ⟨ret_pair e1.out.symm e2.out.symm, rfl⟩
  · rw [h] at C
    obtain ⟨xs, rfl, hn, hx⟩ := good_nats zs h
    have e1 := Lib.hid (sumN_yes h hn)
    have e2 := Lib.hid (sumE_yes h hn)
    rw [List.length_map] at *
    have H := Lib.hid C
    have Hr := Lib.hid hr
    have Hx := Lib.hid hx
    clear C h hr hn hx
    go_enter Try.func8, Try.ntmps8
    go_wp2_with fail
    refine (H.out).mono ?_
    rintro e w' ⟨rfl, rfl⟩
    go_wp2
    go_loop [4, 12] (fun s i => ∃ k : Nat, k ≤ xs.length ∧ i = .int .i64 k ∧ s = .int .i64 ((xs.take k).sum : Nat) ∧ (xs.take k).sum ≤ 4611686018427387904) (fun _ i => xs.length - (intOf i).toNat)
    case atStart => exact ⟨0, Nat.zero_le _, rfl, rfl, by simp⟩
    case round =>
      obtain ⟨k, hk, rfl, rfl, hs⟩ := hrel
      by_cases hlt : k < xs.length
      · obtain ⟨b, off, rfl, hbB, hcell⟩ := Hr.out k (by rw [nats_length]; exact hlt)
        rw [nat_at] at hcell
        have hx0 := Hx.out xs[k] (List.getElem_mem hlt)
        have hsn := sum_snoc xs k hlt
        have hst := sum_take xs (k + 1)
        have Hsn := Lib.hid hsn
        generalize xs[k] = x at *
        generalize (xs.take k).sum = S at *
        by_cases hgt : S + x ≤ 4611686018427387904
        · clear hsn
          go_wp2
          go_round
          case rel => exact ⟨k + 1, by omega, by go_num, by rw [Hsn.out]; go_num, by rw [Hsn.out]; exact hgt⟩
          case measure => simp [intOf]; omega
        · have f1 := Lib.hid (fitN_no (p := xs.sum) (by omega))
          have f2 := Lib.hid (fitE_no (p := xs.sum) (by omega))
          clear hsn hst
          go_wp2
          go_ret2
          exact ⟨ret_pair (by rw [e1.out, f1.out]) (by rw [e2.out, f2.out]), rfl⟩
      · obtain rfl : k = xs.length := by omega
        rw [List.take_length] at *
        have f1 := Lib.hid (fitN_yes hs)
        have f2 := Lib.hid (fitE_yes hs)
        go_wp2
        go_ret2
        exact ⟨ret_pair (by rw [e1.out, f1.out]) (by rw [e2.out, f2.out]), rfl⟩

set_option maxHeartbeats 1600000 in
theorem refadd_any (A : Option Addr) (c : Nat) (zs : List Int) (w : World) {B : Nat} (hr : Reads w B A (i64s zs)) (hlen : zs.length ≤ 1000000000000) :
    Calls Try.prog 9 #[.slice A zs.length c] w fun e w' => e = .returned (.tuple #[.int .i64 (sumN zs), .int .i64 (sumE zs)]) ∧ w = w' := by
  have C := held_any A c zs w hr hlen
  cases h : allIn zs
  · rw [h] at C
    have e1 := Lib.hid (sumN_no h)
    have e2 := Lib.hid (sumE_no h)
    have H := Lib.hid C
    clear C h hr
    go_enter Try.func9, Try.ntmps9
    go_wp2_with fail
    refine (H.out).mono ?_
    rintro e w' ⟨rfl, rfl⟩
    go_wp2
    go_ret2
    exact ⟨ret_pair e1.out.symm e2.out.symm, rfl⟩
  · rw [h] at C
    obtain ⟨xs, rfl, hn, hx⟩ := good_nats zs h
    have e1 := Lib.hid (sumN_yes h hn)
    have e2 := Lib.hid (sumE_yes h hn)
    rw [List.length_map] at *
    have H := Lib.hid C
    have Hr := Lib.hid hr
    have Hx := Lib.hid hx
    clear C h hr hn hx
    go_enter Try.func9, Try.ntmps9
    go_wp2_with fail
    refine (H.out).mono ?_
    rintro e w' ⟨rfl, rfl⟩
    go_wp2
    go_loop [4, 5] (fun s i => ∃ k : Nat, k ≤ xs.length ∧ i = .int .i64 k ∧ s = .int .i64 ((xs.take k).sum : Nat) ∧ (xs.take k).sum ≤ 4611686018427387904) (fun _ i => xs.length - (intOf i).toNat)
    case atStart => exact ⟨0, Nat.zero_le _, rfl, rfl, by simp⟩
    case round =>
      obtain ⟨k, hk, rfl, rfl, hs⟩ := hrel
      by_cases hlt : k < xs.length
      · obtain ⟨b, off, rfl, hbB, hcell⟩ := Hr.out k (by rw [nats_length]; exact hlt)
        rw [nat_at] at hcell
        have hx0 := Hx.out xs[k] (List.getElem_mem hlt)
        have hsn := sum_snoc xs k hlt
        have hst := sum_take xs (k + 1)
        have Hsn := Lib.hid hsn
        generalize xs[k] = x at *
        generalize (xs.take k).sum = S at *
        by_cases hgt : S + x ≤ 4611686018427387904
        · clear hsn
          go_wp2
          go_round
          case rel => exact ⟨k + 1, by omega, by go_num, by rw [Hsn.out]; go_num, by rw [Hsn.out]; exact hgt⟩
          case measure => simp [intOf]; omega
        · have f1 := Lib.hid (fitN_no (p := xs.sum) (by omega))
          have f2 := Lib.hid (fitE_no (p := xs.sum) (by omega))
          clear hsn hst
          go_wp2
          go_ret2
          exact ⟨ret_pair (by rw [e1.out, f1.out]) (by rw [e2.out, f2.out]), rfl⟩
      · obtain rfl : k = xs.length := by omega
        rw [List.take_length] at *
        have f1 := Lib.hid (fitN_yes hs)
        have f2 := Lib.hid (fitE_yes hs)
        go_wp2
        go_ret2
        exact ⟨ret_pair (by rw [e1.out, f1.out]) (by rw [e2.out, f2.out]), rfl⟩
end Go.Proofs.Ytphgcgoobclakaa

/- Mul of package size and the document's Mul, over any list: the product, or why there is none. Condition: a length below 2^40. -/
import Derived.Test.YtphgcgoobclakaaSums
namespace Go.Proofs.Ytphgcgoobclakaa
open Go.RowKit

theorem prod_append : ∀ a b : List Nat, prodOf (a ++ b) = prodOf a * prodOf b
  | [], b => (Nat.one_mul _).symm
  | x :: a, b => by show x * prodOf (a ++ b) = x * prodOf a * prodOf b; rw [prod_append a b, Nat.mul_assoc]
theorem prod_snoc (xs : List Nat) (k : Nat) (h : k < xs.length) : prodOf (xs.take (k + 1)) = prodOf (xs.take k) * xs[k] := by
  rw [List.take_succ_eq_append_getElem h, prod_append]
  show _ * (xs[k] * 1) = _
  rw [Nat.mul_one]
theorem prod_pos : ∀ xs : List Nat, (∀ x ∈ xs, 0 < x) → 0 < prodOf xs
  | [], _ => Nat.one_pos
  | x :: xs, h => Nat.mul_pos (h x (by simp)) (prod_pos xs fun y hy => h y (by simp [hy]))
theorem prod_zero : ∀ xs : List Nat, 0 ∈ xs → prodOf xs = 0
  | x :: xs, h => by
    show x * prodOf xs = 0
    rcases List.mem_cons.1 h with h | h
    · rw [← h, Nat.zero_mul]
    · rw [prod_zero xs h, Nat.mul_zero]
theorem prod_take (xs : List Nat) (h : ∀ x ∈ xs, 0 < x) (k : Nat) : prodOf (xs.take k) ≤ prodOf xs := by
  have e := congrArg prodOf (List.take_append_drop k xs)
  rw [prod_append] at e
  have hp := prod_pos (xs.drop k) fun x hx => h x (List.mem_of_mem_drop hx)
  rw [← e]
  exact Nat.le_mul_of_pos_right _ hp

set_option maxHeartbeats 1600000 in
theorem mul_any (A : Option Addr) (c : Nat) (zs : List Int) (w : World) {B : Nat} (hr : Reads w B A (i64s zs)) (hlen : zs.length ≤ 1000000000000) :
    Calls Try.prog 10 #[.slice A zs.length c] w fun e w' => e = .returned (.tuple #[.int .i64 (proN zs), .int .i64 (proE zs)]) ∧ w = w' := by
  have C := reckoned_any A c zs w hr hlen
  cases h : allIn zs
  · rw [h] at C
    have e1 := Lib.hid (proN_no h)
    have e2 := Lib.hid (proE_no h)
    have H := Lib.hid C
    clear C h hr
    go_enter Try.func10, Try.ntmps10
    go_wp2_with fail
    refine (H.out).mono ?_
    rintro e w' ⟨rfl, rfl⟩
    go_wp2
    go_ret2
    exact ⟨ret_pair e1.out.symm e2.out.symm, rfl⟩
  · rw [h] at C
    obtain ⟨xs, rfl, hn, hx⟩ := good_nats zs h
    have e1 := Lib.hid (proN_yes h hn)
    have e2 := Lib.hid (proE_yes h hn)
    rw [List.length_map] at *
    have H := Lib.hid C
    have Hr := Lib.hid hr
    have Hx := Lib.hid hx
    clear C h hr hn hx
    go_enter Try.func10, Try.ntmps10
    go_wp2_with fail
    refine (H.out).mono ?_
    rintro e w' ⟨rfl, rfl⟩
    go_wp2
    go_loop [4, 5, 13] (fun p o i => ∃ k : Nat, k ≤ xs.length ∧ i = .int .i64 k ∧ 0 < prodOf (xs.take k) ∧
      (prodOf (xs.take k) ≤ 4611686018427387904 ∧ p = .int .i64 (prodOf (xs.take k) : Nat) ∧ o = .int .i64 0 ∨ 4611686018427387904 < prodOf (xs.take k) ∧ p = .int .i64 0 ∧ o = .int .i64 10)) (fun _ _ i => xs.length - (intOf i).toNat)
    case atStart => exact ⟨0, Nat.zero_le _, rfl, Nat.one_pos, .inl ⟨by show 1 ≤ _; omega, rfl, rfl⟩⟩
    case round =>
      obtain ⟨k, hk, rfl, hpos, hs⟩ := hrel
      by_cases hlt : k < xs.length
      · obtain ⟨b, off, rfl, hbB, hcell⟩ := Hr.out k (by rw [nats_length]; exact hlt)
        rw [nat_at] at hcell
        have hx0 := Hx.out xs[k] (List.getElem_mem hlt)
        have Hsn := Lib.hid (prod_snoc xs k hlt)
        have Hz := Lib.hid fun h : xs[k] = 0 => prod_zero xs (h ▸ List.getElem_mem hlt)
        generalize xs[k] = x at *
        generalize prodOf (xs.take k) = P at *
        by_cases hxz : x = 0
        · have hz := Lib.hid (Hz.out hxz)
          subst hxz
          clear Hz Hsn
          rcases hs with ⟨hP, rfl, rfl⟩ | ⟨hP, rfl, rfl⟩
          all_goals
            go_wp2
            go_ret2
            exact ⟨ret_pair (by rw [e1.out, hz.out]; rfl) (by rw [e2.out, hz.out]; rfl), rfl⟩
        · clear Hz
          have hx1 : 1 ≤ x := by omega
          have hpos2 : 0 < P * x := Nat.mul_pos hpos (by omega)
          rcases hs with ⟨hP, rfl, rfl⟩ | ⟨hP, rfl, rfl⟩
          · by_cases hfit : P * x ≤ 4611686018427387904
            · have T := Lib.hid (times_small P x hP hx0 hfit)
              go_wp2_with fail
              refine (T.out _).mono ?_
              rintro e w' ⟨rfl, rfl⟩
              generalize P * x = Q at *
              go_wp2
              go_round
              case rel => exact ⟨k + 1, by omega, by go_num, by rw [Hsn.out]; exact hpos2, by rw [Hsn.out]; exact .inl ⟨hfit, rfl, rfl⟩⟩
              case measure => simp [intOf]; omega
            · have T := Lib.hid (times_great P x hP hx0 (by omega))
              have hfit2 : 4611686018427387904 < P * x := by omega
              clear hfit
              go_wp2_with fail
              refine (T.out _).mono ?_
              rintro e w' ⟨rfl, rfl⟩
              generalize P * x = Q at *
              go_wp2
              go_round
              case rel => exact ⟨k + 1, by omega, by go_num, by rw [Hsn.out]; exact hpos2, by rw [Hsn.out]; exact .inr ⟨hfit2, rfl, rfl⟩⟩
              case measure => simp [intOf]; omega
          · have hfit2 : 4611686018427387904 < P * x := by
              have := Nat.mul_le_mul_left P hx1
              omega
            generalize P * x = Q at *
            go_wp2
            go_round
            case rel => exact ⟨k + 1, by omega, by go_num, by rw [Hsn.out]; exact hpos2, by rw [Hsn.out]; exact .inr ⟨hfit2, rfl, rfl⟩⟩
            case measure => simp [intOf]; omega
      · obtain rfl : k = xs.length := by omega
        rw [List.take_length] at *
        rcases hs with ⟨hP, rfl, rfl⟩ | ⟨hP, rfl, rfl⟩
        · have f1 := Lib.hid (fitN_yes hP)
          have f2 := Lib.hid (fitE_yes hP)
          go_wp2
          go_ret2
          exact ⟨ret_pair (by rw [e1.out, f1.out]) (by rw [e2.out, f2.out]), rfl⟩
        · have f1 := Lib.hid (fitN_no hP)
          have f2 := Lib.hid (fitE_no hP)
          go_wp2
          go_ret2
          exact ⟨ret_pair (by rw [e1.out, f1.out]) (by rw [e2.out, f2.out]), rfl⟩

set_option maxHeartbeats 1600000 in
theorem refmul_any (A : Option Addr) (c : Nat) (zs : List Int) (w : World) {B : Nat} (hr : Reads w B A (i64s zs)) (hlen : zs.length ≤ 1000000000000) :
    Calls Try.prog 11 #[.slice A zs.length c] w fun e w' => e = .returned (.tuple #[.int .i64 (proN zs), .int .i64 (proE zs)]) ∧ w = w' := by
  have C := held_any A c zs w hr hlen
  cases h : allIn zs
  · rw [h] at C
    have e1 := Lib.hid (proN_no h)
    have e2 := Lib.hid (proE_no h)
    have H := Lib.hid C
    clear C h hr
    go_enter Try.func11, Try.ntmps11
    go_wp2_with fail
    refine (H.out).mono ?_
    rintro e w' ⟨rfl, rfl⟩
    go_wp2
    go_ret2
    exact ⟨ret_pair e1.out.symm e2.out.symm, rfl⟩
  · rw [h] at C
    obtain ⟨xs, rfl, hn, hx⟩ := good_nats zs h
    have e1 := Lib.hid (proN_yes h hn)
    have e2 := Lib.hid (proE_yes h hn)
    rw [List.length_map] at *
    have H := Lib.hid C
    have Hr := Lib.hid hr
    have Hx := Lib.hid hx
    clear C h hr hn hx
    go_enter Try.func11, Try.ntmps11
    go_wp2_with fail
    refine (H.out).mono ?_
    rintro e w' ⟨rfl, rfl⟩
    go_wp2
    go_loop [4] (fun i => ∃ k : Nat, k ≤ xs.length ∧ i = .int .i64 k ∧ Hid (∀ j, (hj : j < k) → (hl : j < xs.length) → 0 < xs[j])) (fun i => xs.length - (intOf i).toNat)
    case atStart => exact ⟨0, Nat.zero_le _, rfl, Lib.hid fun j hj => absurd hj (by omega)⟩
    case round =>
      obtain ⟨k, hk, rfl, hno⟩ := hrel
      by_cases hlt : k < xs.length
      · obtain ⟨b, off, rfl, hbB, hcell⟩ := Hr.out k (by rw [nats_length]; exact hlt)
        rw [nat_at] at hcell
        have hx0 := Hx.out xs[k] (List.getElem_mem hlt)
        by_cases hxz : xs[k] = 0
        · have hz := Lib.hid (prod_zero xs (hxz ▸ List.getElem_mem hlt))
          rw [hxz] at hcell
          clear hxz hx0
          go_wp2
          go_ret2
          exact ⟨ret_pair (by rw [e1.out, hz.out]; rfl) (by rw [e2.out, hz.out]; rfl), rfl⟩
        · have hno2 : Hid (∀ j, (hj : j < k + 1) → (hl : j < xs.length) → 0 < xs[j]) := Lib.hid fun j hj hl => by
            by_cases e : j = k
            · subst e; omega
            · exact hno.out j (by omega) hl
          clear hno
          have hx1 : 1 ≤ xs[k] := by omega
          clear hxz
          generalize xs[k] = x at *
          go_wp2
          go_round
          case rel => exact ⟨k + 1, by omega, by go_num, hno2⟩
          case measure => simp [intOf]; omega
      · obtain rfl : k = xs.length := by omega
        have hall : ∀ x ∈ xs, 0 < x := fun x hx => by
          obtain ⟨j, hj, rfl⟩ := List.getElem_of_mem hx
          exact hno.out j hj hj
        have Hall := Lib.hid hall
        clear hall hno
        go_wp2
        go_loop [5, 6] (fun p i => ∃ k : Nat, k ≤ xs.length ∧ i = .int .i64 k ∧ p = .int .i64 (prodOf (xs.take k) : Nat) ∧ prodOf (xs.take k) ≤ 4611686018427387904) (fun _ i => xs.length - (intOf i).toNat)
        case atStart => exact ⟨0, Nat.zero_le _, rfl, rfl, by show 1 ≤ _; omega⟩
        case round =>
          obtain ⟨k, hk, rfl, rfl, hP⟩ := hrel
          by_cases hlt : k < xs.length
          · obtain ⟨b, off, rfl, hbB, hcell⟩ := Hr.out k (by rw [nats_length]; exact hlt)
            rw [nat_at] at hcell
            have hx0 := Hx.out xs[k] (List.getElem_mem hlt)
            have hx1 := Hall.out xs[k] (List.getElem_mem hlt)
            have hsn := prod_snoc xs k hlt
            have hst := prod_take xs Hall.out (k + 1)
            rw [hsn] at hst
            have Hsn := Lib.hid hsn
            clear hsn
            generalize xs[k] = x at *
            generalize prodOf (xs.take k) = P at *
            have hdm := Nat.le_div_iff_mul_le (x := P) (y := 4611686018427387904) hx1
            obtain ⟨q, hq⟩ : ∃ q, q = 4611686018427387904 / x := ⟨_, rfl⟩
            have hqi : (4611686018427387904 : Int) / (x : Int) = (q : Int) := by rw [hq]; rfl
            have hqb : q ≤ 4611686018427387904 := by rw [hq]; exact Nat.div_le_self _ _
            rw [← hq] at hdm
            clear hq
            obtain ⟨R, hR⟩ : ∃ R, R = P * x := ⟨_, rfl⟩
            rw [← hR] at hdm hst Hsn
            by_cases hfit : R ≤ 4611686018427387904
            · have hPq : P ≤ q := hdm.2 hfit
              have hmul : (P : Int) * (x : Int) = (R : Int) := by rw [hR]; exact (Int.natCast_mul P x).symm
              clear hR hdm hst
              go_wp2
              go_round
              case rel => exact ⟨k + 1, by omega, by go_num, by rw [Hsn.out], by rw [Hsn.out]; exact hfit⟩
              case measure => simp [intOf]; omega
            · have hPq : q < P := by
                rcases Nat.lt_or_ge q P with h | h
                · exact h
                · exact absurd (hdm.1 h) hfit
              have f1 := Lib.hid (fitN_no (p := prodOf xs) (by omega))
              have f2 := Lib.hid (fitE_no (p := prodOf xs) (by omega))
              clear hR hdm hst hfit
              go_wp2
              go_ret2
              exact ⟨ret_pair (by rw [e1.out, f1.out]) (by rw [e2.out, f2.out]), rfl⟩
          · obtain rfl : k = xs.length := by omega
            rw [List.take_length] at *
            have f1 := Lib.hid (fitN_yes hP)
            have f2 := Lib.hid (fitE_yes hP)
            go_wp2
            go_ret2
            exact ⟨ret_pair (by rw [e1.out, f1.out]) (by rw [e2.out, f2.out]), rfl⟩
end Go.Proofs.Ytphgcgoobclakaa

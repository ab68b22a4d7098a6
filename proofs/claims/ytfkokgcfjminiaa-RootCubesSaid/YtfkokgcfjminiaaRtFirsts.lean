/- Primes of package root, by its contract: the first n primes, n at most 200; or that n is too small or too great. No condition but those typed. -/
import Derived.Test.YtfkokgcfjminiaaRtPrimes
import Derived.Deep.LoopGhost
import Derived.WalkMore
namespace Go.Proofs.Ytfkokgcfjminiaa
open Go.RowKit

theorem primes_bad (n : Int) (h : n < 0 ∨ 0 ≤ n ∧ 1000 < n) (w : World) : Calls Try.prog 8 #[.int .i64 n] w fun e w' => e = .returned (.tuple #[.slice none 0 0, .int .i64 1]) ∧ w = w' := by
  rcases h with h | ⟨h1, h2⟩
  all_goals
    go_enter Try.func8, Try.ntmps8
    go_wp2
    go_step3
    go_wp2
    try rw [Exit.noGoto_ret]
    go_ret2
    exact ⟨rfl, rfl⟩

set_option maxHeartbeats 1600000 in
theorem primes_good (n : Nat) (hn : n ≤ 200) (w : World) : Calls Try.prog 8 #[.int .i64 (n : Int)] w fun e w' => ∃ v, e = .returned (.tuple #[v, .int .i64 0]) ∧ w'.ownsRow w.heap.size 3 1 v n (ints (firstP n)) ∧ Below w.heap.size w w' := by
  obtain ⟨i0, hi, hz0, hz1, hz2⟩ := info_parts Try.info3
  go_enter Try.func8, Try.ntmps8
  go_wp2
  go_step3
  go_wp2_with (at_make; refine wpList_make_own _ rfl _ _ 23 rfl w.heap.size 3 i0 (.int .i64 0) 1 Try.underlying23 hi hz0 hz1 _ _ _ n rfl rfl (by omega) ?c1 ?c2 ?c3 ?_)
  case c1 => simp [hz2]; omega
  case c2 => unfold maxLen; omega
  case c3 => exact Nat.le_refl _
  intro w1 hown1 hg1
  have hb1 : Below w.heap.size w w1 := (Below.refl _ _).grown hg1 (Nat.le_refl _) (by simp)
  clear hg1
  go_wp2
  go_step3
  go_wp2
  go_loopg [4, 5] 1222 (fun g v i wr => ∃ x : Nat, 2 ≤ x ∧ x + g = 1224 ∧ i = .int .i64 x ∧ (primesTo x).length ≤ n ∧ wr.ownsRow w.heap.size 3 1 v (primesTo x).length (ints (primesTo x)) ∧ Below w.heap.size w wr)
  case atStart => exact ⟨2, by omega, by omega, rfl, by rw [primesTo_two]; simp, by rw [primesTo_two]; exact hown1, hb1⟩
  case round =>
    obtain ⟨x, hx, hxg, rfl, hlen, hown, hb⟩ := hrel
    clear hown1 hb1
    have hx2 : x ≤ 1224 := by omega
    obtain ⟨A, c, rfl, ho1, ho2, ho3⟩ := own_form hown
    clear ho1 ho2
    by_cases hlt : (primesTo x).length < n
    · have hx3 := below_many hx2 hn hlt
      obtain ⟨g, rfl⟩ : ∃ g, gk = g + 1 := ⟨gk - 1, by omega⟩
      have hsz := hb.size
      have hR := Lib.hid (Reads.of_own hown)
      go_wp2
      go_loopg [7, 24] (primesTo x).length (fun g2 p i wy => ∃ k : Nat, k + g2 = (primesTo x).length ∧ i = .int .i64 k ∧ Hid (∀ j, (hj : j < (primesTo x).length) → j < k → x % (primesTo x)[j] ≠ 0) ∧ wr = wy)
      case atStart => exact ⟨0, by omega, rfl, Lib.hid (fun j _ h => by omega), rfl⟩
      case round =>
        obtain ⟨k, hkg, rfl, hno, rfl⟩ := hrel
        have hend : ∀ (h : Hid (isP x = true)), Hid (primesTo (x + 1) = primesTo x ++ [x]) := fun h => Lib.hid (primesTo_yes h.out)
        by_cases hkl : k < (primesTo x).length
        · obtain ⟨g2, rfl⟩ : ∃ g2, gk = g2 + 1 := ⟨gk - 1, by omega⟩
          obtain ⟨b, off, rfl, hbB, hcell⟩ := hR.out k (by rw [ints_length]; exact hkl)
          rw [int_at] at hcell
          obtain ⟨hp1, hp2, hp3⟩ := prime_at hkl
          have Hp := Lib.hid hp1
          have Hby : Hid (x < (primesTo x)[k] * (primesTo x)[k] → isP x = true) := Lib.hid fun h => prime_by hx (fun j hj h1 => hno.out j hj h1) (fun _ => h)
          have Hnx : Hid (x % (primesTo x)[k] ≠ 0 → ∀ j, (hj : j < (primesTo x).length) → j < k + 1 → x % (primesTo x)[j] ≠ 0) := Lib.hid fun h j hj h1 => by
            by_cases hjk : j = k
            · subst hjk; exact h
            · exact hno.out j hj (by omega)
          clear hp1 hno
          generalize (primesTo x)[k] = p at *
          have hpp : (p : Int) * (p : Int) = ((p * p : Nat) : Int) := (Int.natCast_mul _ _).symm
          have hpp2 : p * p ≤ 1224 * 1224 := Nat.mul_le_mul (by omega) (by omega)
          have hm2 : (x : Int).tmod (p : Int) = ((x % p : Nat) : Int) := by rw [Int.tmod_eq_emod_of_nonneg (by omega)]; rfl
          have hrb : x % p < p := Nat.mod_lt _ (by omega)
          by_cases hgt : x < p * p
          · have Hs := hend (Lib.hid (Hby.out hgt))
            clear Hby Hnx hend hm2 hrb
            generalize p * p = q at *
            generalize primesTo x = F at *
            go_wp2_with (at_builtin; refine wpList_append_own _ rfl (.tmp 38) (.tmp 40) 23 rfl w.heap.size 3 i0 (.int .i64 0) 1 8 Try.underlying23 hi hz0 hz1 hz2 rfl (by decide) _ _ _ rfl (hown.alloc _) ⟨wr.heap.size, 0, none⟩ 1 1 [.int .i64 x] rfl rfl ?c1 ?c2 ?c3 ?c4 ?c5 ?_)
            case c1 => exact one_new _ _ _
            case c2 => exact one_cell _ rfl
            case c3 => unfold maxLen; omega
            case c4 => omega
            case c5 => simp; omega
            intro v' w2 hown2 hg2 _
            have R := rel_step hb hsz hown hown2 hg2
            clear hown2 hg2 hown hb
            go_wp2
            go_roundg g
            case measure => omega
            case rel => exact ⟨x + 1, by omega, by omega, by go_num, by rw [Hs.out]; simp; omega, by rw [Hs.out, ints_append, List.length_append]; exact R.1, R.2⟩
          · by_cases hz : x % p = 0
            · have Hs := Lib.hid (primesTo_no (isP_no hp2 (by omega) hz))
              clear Hby Hnx hend
              rw [hz] at hm2
              clear hz hrb
              generalize p * p = q at *
              generalize primesTo x = F at *
              go_wp2
              go_roundg g
              case measure => omega
              case rel => exact ⟨x + 1, by omega, by omega, by go_num, by rw [Hs.out]; exact hlen, by rw [Hs.out]; exact hown, hb⟩
            · have Hn2 := Lib.hid (Hnx.out hz)
              have hr1 : 1 ≤ x % p := by omega
              clear Hby Hnx hend hz
              generalize p * p = q at *
              generalize x % p = r at *
              go_wp2
              go_roundg g2
              case measure => omega
              case rel => exact ⟨k + 1, by omega, by go_num, Hn2, rfl⟩
        · obtain rfl : k = (primesTo x).length := by omega
          have Hs := hend (Lib.hid (prime_by hx (fun j hj h1 => hno.out j hj h1) (fun h => absurd h hkl)))
          clear hno hend
          generalize primesTo x = F at *
          go_wp2_with (at_builtin; refine wpList_append_own _ rfl (.tmp 38) (.tmp 40) 23 rfl w.heap.size 3 i0 (.int .i64 0) 1 8 Try.underlying23 hi hz0 hz1 hz2 rfl (by decide) _ _ _ rfl (hown.alloc _) ⟨wr.heap.size, 0, none⟩ 1 1 [.int .i64 x] rfl rfl ?c1 ?c2 ?c3 ?c4 ?c5 ?_)
          case c1 => exact one_new _ _ _
          case c2 => exact one_cell _ rfl
          case c3 => unfold maxLen; omega
          case c4 => omega
          case c5 => simp; omega
          intro v' w2 hown2 hg2 _
          have R := rel_step hb hsz hown hown2 hg2
          clear hown2 hg2 hown hb
          go_wp2
          go_roundg g
          case measure => omega
          case rel => exact ⟨x + 1, by omega, by omega, by go_num, by rw [Hs.out]; simp; omega, by rw [Hs.out, ints_append, List.length_append]; exact R.1, R.2⟩
    · have he : (primesTo x).length = n := by omega
      have Hf := Lib.hid (first_is hx2 he)
      generalize primesTo x = F at *
      subst he
      go_wp2
      try rw [Exit.noGoto_ret]
      go_ret2
      exact ⟨_, rfl, by rw [← Hf.out]; exact hown, hb⟩
end Go.Proofs.Ytfkokgcfjminiaa

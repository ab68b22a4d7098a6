/- known, value, Digit of package pi by their contracts. Conditions: those typed. -/
import Derived.Test.YtglmfagmlfjceaaPiTab
import Derived.Test.YtglmfagmlfjceaaPiLaw
import Derived.Laws.BitsAllLaws
namespace Go.Proofs.Ytglmfagmlfjceaa
set_option maxRecDepth 50000
open Go.RowKit Pi16

set_option maxHeartbeats 1600000 in
theorem value_any (i : Nat) (hi : i < 8336) (w : World) : Calls Try.prog 37 #[.int .i64 (i : Int)] w fun e w' => e = .returned (.int .i64 (piD i : Int)) ∧ w' = w := by
  obtain ⟨d, hd⟩ : ∃ d, d = piD i := ⟨_, rfl⟩
  rw [← hd]
  go_enter Try.func37, Try.ntmps37
  generalize hS : ByteArray.mk _ = S
  have hck : chk S = true := by rw [← hS]; kernel_rfl
  clear hS
  obtain ⟨hs, hsp⟩ := chk_spec S hck
  have hi2 : i < S.size := by omega
  obtain ⟨q1, q2, q3, q4⟩ := hsp i hi2
  rw [← hd] at q1
  clear hsp hck hd
  have i2 : (i : Int) < (S.size : Int) := by omega
  obtain ⟨n, hn⟩ : ∃ n : Nat, n = (S[i]'hi2).toNat := ⟨_, rfl⟩
  have q0 : ((S[i]'hi2).toNat : Int) = (n : Int) := by rw [hn]
  have q2 : n < 103 := by rw [hn]; exact q2
  have q3 : 48 ≤ n := by rw [hn]; exact q3
  have q4 : n < 58 ∨ 97 ≤ n := by rw [hn]; exact q4
  have H : d = if 97 ≤ n then n - 97 + 10 else n - 48 := by rw [← q1, hn]; rfl
  clear q1 hn hi
  rcases q4 with h | h
  · rw [if_neg (by omega)] at H
    have hn : ¬ (97 : Int) ≤ (n : Int) := by omega
    have e1 : (n : Int) - 48 = (d : Int) := by omega
    have hdb : d ≤ 15 := by omega
    clear H
    go_wp2
    go_ret
    exact ⟨rfl, rfl⟩
  · rw [if_pos (by omega)] at H
    obtain ⟨k, hk⟩ : ∃ k, k = n - 97 := ⟨_, rfl⟩
    have hn : (97 : Int) ≤ (n : Int) := by omega
    have e1 : (n : Int) - 97 = (k : Int) := by omega
    have e2 : (k : Int) + 10 = (d : Int) := by omega
    have hdb : d ≤ 15 := by omega
    clear H hk
    go_wp2
    go_ret
    exact ⟨rfl, rfl⟩
/-- one digit more behind a word's digits -/
theorem shl4_or (a d : Nat) (ha : a < 268435456) (hd : d < 16) : bits .or .u32 ((a : Int) * 16) (d : Int) = ((16 * a + d : Nat) : Int) := by
  have e : (a : Int) * 16 = ((16 * a : Nat) : Int) := by omega
  rw [e, u32_or_nat _ _ (by omega) (by omega), show (16 : Nat) * a = 2 ^ 4 * a from rfl, Nat.two_pow_add_eq_or_of_lt (show d < 2 ^ 4 from hd)]
set_option maxHeartbeats 1600000 in
theorem word_any (i : Nat) (hi : i < 1042) (w : World) : Calls Try.prog 34 #[.int .i64 (i : Int)] w fun e w' => e = .returned (.int .u32 (wordN i : Int)) ∧ w' = w := by
  go_enter Try.func34, Try.ntmps34
  go_wp2
  go_loopg [3, 5] 8 (fun g v3 v5 wr => ∃ k n : Nat, k + g = 8 ∧ v3 = .int .u32 (n : Int) ∧ v5 = .int .i64 (k : Int) ∧ Hid (n = wordTo i k) ∧ wr = w)
  case atStart => exact ⟨0, 0, by omega, rfl, rfl, Lib.hid rfl, rfl⟩
  case round =>
    obtain ⟨k, n, hk, rfl, rfl, HN, rfl⟩ := hrel
    by_cases h : k < 8
    · obtain ⟨g2, rfl⟩ : ∃ g2, gk = g2 + 1 := ⟨gk - 1, by omega⟩
      obtain ⟨j, hj⟩ : ∃ j, j = 8 * i + k := ⟨_, rfl⟩
      have j1 : (8 : Int) * (i : Int) + (k : Int) = (j : Int) := by omega
      have C := Lib.hid (value_any j (by omega) wr)
      have hd := piD_lt j
      obtain ⟨d, hdd⟩ : ∃ d, d = piD j := ⟨_, rfl⟩
      rw [← hdd] at C hd
      have hn : n < 268435456 := by
        have h1 := wordTo_lt i k
        have h2 : 16 ^ k ≤ 16 ^ 7 := Nat.pow_le_pow_right (by decide) (by omega)
        have h3 := HN.out
        omega
      have HN2 : Hid (16 * n + d = wordTo i (k + 1)) := Lib.hid (by rw [wordTo, HN.out, hdd, hj])
      have HO := Lib.hid (shl4_or n d hn hd)
      have HJ := Lib.hid hk
      have hdk : decide ((k : Int) < 8) = true := by simp; omega
      clear hdd hj HN hk
      go_wp2_with fail
      refine C.out.mono ?_
      rintro e w1 ⟨rfl, rfl⟩
      go_wp2
      go_roundg g2
      case measure => omega
      case rel => exact ⟨k + 1, 16 * n + d, by have := HJ.out; omega, by rw [HO.out], by go_num, HN2, rfl⟩
    · obtain rfl : k = 8 := by omega
      have hn := HN.out
      have hdk : decide (((8 : Nat) : Int) < 8) = false := by simp
      clear HN hk h
      go_wp2
      go_ret
      exact ⟨by rw [hn]; rfl, rfl⟩
theorem wordsBad (x y : Int) (h : x < 0 ∨ y < 0 ∨ 1042 < x ∨ 1042 - x < y) (w : World) :
    Calls Try.prog 22 #[.int .i64 x, .int .i64 y] w fun e w' => e = .returned (.tuple #[.slice none 0 0, .int .i64 11]) ∧ w' = w := by
  have hb : x < 0 ∨ (0 ≤ x ∧ y < 0) ∨ (0 ≤ x ∧ 0 ≤ y ∧ 1042 < y) ∨ (0 ≤ x ∧ 0 ≤ y ∧ y ≤ 1042 ∧ 1042 - y < x) := by omega
  clear h
  rcases hb with h1 | ⟨h1, h2⟩ | ⟨h1, h2, h3⟩ | ⟨h1, h2, h3, h4⟩
  all_goals
    go_enter Try.func22, Try.ntmps22
    go_wp2
    go_ret2
    exact ⟨rfl, rfl⟩
theorem words_put (a n k : Nat) (hk : k < n) : (wordsL a k ++ List.replicate (n - k) 0).set k (wordN (a + k)) = wordsL a (k + 1) ++ List.replicate (n - (k + 1)) 0 := by
  rw [List.set_append_right _ _ (by rw [wordsL_length]; exact Nat.le_refl _), wordsL_length, Nat.sub_self, show n - k = n - (k + 1) + 1 by omega, List.replicate_succ, List.set_cons_zero, wordsL, List.append_assoc]
  rfl
theorem made_one (z : Value) (M : Nat) : (madeCells #[z] M).toList = List.replicate M z := by
  refine List.ext_getElem (by simp [madeCells]) fun i h1 h2 => ?_
  simp [madeCells, Nat.mod_one]
theorem Try.info22 : (Try.prog.info? 22).map (fun i => (i.zero, i.size, i.bytes)) = some (some (.int .u32 0), 1, 4) := by kernel_rfl
set_option maxHeartbeats 1600000 in
theorem wordsOk (a n : Nat) (h : a + n ≤ 1042) (w : World) : Calls Try.prog 22 #[.int .i64 (a : Int), .int .i64 (n : Int)] w fun e w' => ∃ v, e = .returned (.tuple #[v, .int .i64 0]) ∧ w'.ownsRow w.heap.size 22 1 v n (u32s (wordsL a n)) ∧ Below w.heap.size w w' := by
  obtain ⟨i0, hi, hz0, hz1, hz2⟩ := info_parts Try.info22
  have h1 : (n : Int) ≤ 1042 := by omega
  have h2 : (a : Int) ≤ 1042 - (n : Int) := by omega
  have d1 : decide ((a : Int) < 0) = false := by simp
  have d2 : decide ((n : Int) < 0) = false := by simp
  have d3 : decide ((1042 : Int) < (n : Int)) = false := by simp; omega
  have d4 : decide ((1042 : Int) - (n : Int) < (a : Int)) = false := by simp; omega
  go_enter Try.func22, Try.ntmps22
  go_wp2_with (at_make; refine wpList_make_full _ rfl _ _ 31 rfl w.heap.size 22 i0 (.int .u32 0) 1 Try.underlying31 hi hz0 hz1 _ _ _ _ n rfl rfl rfl rfl ?c1 ?c2 ?c3 ?_)
  case c1 => simp [hz2]; omega
  case c2 => unfold maxLen; omega
  case c3 => exact Nat.le_refl _
  intro w1 hown1 hg1
  have hb1 : Below w.heap.size w w1 := (Below.refl _ _).grown hg1 (Nat.le_refl _) (by simp)
  clear hg1
  go_wp2
  go_loopg [28] n (fun g v28 wr => ∃ k : Nat, k + g = n ∧ v28 = .int .i64 (k : Int) ∧ wr.ownsRow w.heap.size 22 1 (.slice (some ⟨w.heap.size, 0, none⟩) n n) n (u32s (wordsL a k ++ List.replicate (n - k) 0)) ∧ Below w.heap.size w wr)
  case atStart => exact ⟨0, by omega, rfl, by rw [made_one] at hown1; simpa [u32s, wordsL] using hown1, hb1⟩
  case round =>
    obtain ⟨k, hk, rfl, hown, hb⟩ := hrel
    clear hown1 hb1
    by_cases hlt : k < n
    · obtain ⟨g2, rfl⟩ : ∃ g2, gk = g2 + 1 := ⟨gk - 1, by omega⟩
      obtain ⟨j, hj⟩ : ∃ j, j = a + k := ⟨_, rfl⟩
      have j1 : (a : Int) + (k : Int) = (j : Int) := by omega
      have C := Lib.hid (word_any j (by omega) wr)
      have HP := Lib.hid (words_put a n k hlt)
      rw [← hj] at HP
      have hn := wordN_lt j
      generalize wordN j = y at *
      have HJ := Lib.hid hk
      have hkn : (k : Int) < (n : Int) := by omega
      have hcj : wr.cell? ⟨w.heap.size, k, none⟩ = some (.int .u32 0) := by
        rw [hown.cellAt k (by omega)]
        simp only [u32s, List.map_append, List.map_replicate]
        rw [List.getElem?_append_right (by simp [wordsL_length]), List.length_map, wordsL_length, Nat.sub_self, List.getElem?_replicate, if_pos (by omega)]
        rfl
      have hfj : wr.frozen? ⟨w.heap.size, k, none⟩ = false := hown.frozenAt k
      clear hj hk
      go_wp2_with fail
      refine C.out.mono ?_
      rintro e w2 ⟨rfl, rfl⟩
      go_wp2
      go_roundg g2
      case measure => omega
      case rel =>
        refine ⟨k + 1, by have := HJ.out; omega, by go_num, ?_, hb.setCell (Nat.le_refl _) _⟩
        have hst := (hown.stored k (.int .u32 (y : Nat))).1
        have e : (u32s (wordsL a k ++ List.replicate (n - k) 0)).set k (.int .u32 (y : Nat)) = u32s (wordsL a (k + 1) ++ List.replicate (n - (k + 1)) 0) := by
          rw [← HP.out]
          unfold u32s
          rw [List.map_set]
        rw [e] at hst
        exact hst
    · obtain rfl : k = n := by omega
      go_wp2
      go_ret2
      exact ⟨_, rfl, by simpa using hown, hb⟩
theorem same_ret {f : FuncId} {args : Array Value} {w : World} {v : Value} (h : Calls Try.prog f args w fun e w' => e = .returned v ∧ w' = w) : Calls Try.prog f args w fun e w' => e = .returned v ∧ Below w.heap.size w w' :=
  h.mono fun _ _ h => ⟨h.1, by rw [h.2]; exact Below.refl _ _⟩
end Go.Proofs.Ytglmfagmlfjceaa

/- The laws PiDigits and PiWords, out of what the package's calls answer. Conditions: those typed; what the calls answer is asked as PiOk. -/
import Derived.Test.YtggdfmapddpafaaPiSer
import Derived.Test.YtggdfmapddpafaaLaid
import Derived.Deep.LoopGhost
import Derived.WalkMore
namespace Go.Proofs.Ytggdfmapddpafaa
set_option maxRecDepth 50000
open Go.RowKit Pi16

/-- the first d digits of word i -/
def wordTo (i : Nat) : Nat → Nat
  | 0 => 0
  | k + 1 => 16 * wordTo i k + piD (8 * i + k)
def wordN (i : Nat) : Nat := wordTo i 8
theorem piD_lt (i : Nat) : piD i < 16 := Nat.mod_lt _ (by decide)
theorem wordTo_lt (i : Nat) : ∀ k, wordTo i k < 16 ^ k
  | 0 => by simp [wordTo]
  | k + 1 => by
    have h1 := wordTo_lt i k
    have h2 := piD_lt (8 * i + k)
    rw [wordTo, Nat.pow_succ]
    omega
theorem wordN_lt (i : Nat) : wordN i < 4294967296 := wordTo_lt i 8
/-- some words one behind the other -/
def wordsL (a : Nat) : Nat → List Nat
  | 0 => []
  | n + 1 => wordsL a n ++ [wordN (a + n)]
theorem wordsL_length (a : Nat) : ∀ n, (wordsL a n).length = n
  | 0 => rfl
  | n + 1 => by rw [wordsL, List.length_append, wordsL_length a n]; rfl
theorem wordsL_at (a k : Nat) : ∀ n, (h : k < n) → (wordsL a n)[k]'(by rw [wordsL_length]; exact h) = wordN (a + k)
  | n + 1, h => by
    simp only [wordsL]
    by_cases hk : k < n
    · rw [List.getElem_append_left (by rw [wordsL_length]; exact hk)]
      exact wordsL_at a k n hk
    · obtain rfl : k = n := by omega
      rw [List.getElem_append_right (by rw [wordsL_length]; exact Nat.le_refl _)]
      simp
/-- what the package's calls answer -/
structure PiOk : Prop where
  digit : ∀ (i : Nat), i < 8336 → ∀ w : World, Calls Try.prog 6 #[.int .i64 (i : Int)] w fun e w' => e = .returned (.tuple #[.int .i64 (piD i : Int), .int .i64 0]) ∧ Below w.heap.size w w'
  digit_bad : ∀ (z : Int), z < 0 ∨ 8335 < z → ∀ w : World, Calls Try.prog 6 #[.int .i64 z] w fun e w' => e = .returned (.tuple #[.int .i64 0, .int .i64 11]) ∧ Below w.heap.size w w'
  reckon : ∀ (i : Nat), i < 8336 → ∀ w : World, Calls Try.prog 7 #[.int .i64 (i : Int)] w fun e w' => e = .returned (.tuple #[.int .i64 (piD i : Int), .int .i64 0]) ∧ Below w.heap.size w w'
  reckon_bad : ∀ (z : Int), z < 0 ∨ 8335 < z → ∀ w : World, Calls Try.prog 7 #[.int .i64 z] w fun e w' => e = .returned (.tuple #[.int .i64 0, .int .i64 11]) ∧ Below w.heap.size w w'
structure PwOk : Prop where
  digit : ∀ (i : Nat), i < 8336 → ∀ w : World, Calls Try.prog 6 #[.int .i64 (i : Int)] w fun e w' => e = .returned (.tuple #[.int .i64 (piD i : Int), .int .i64 0]) ∧ Below w.heap.size w w'
  word : ∀ (i : Nat), i < 1042 → ∀ w : World, Calls Try.prog 9 #[.int .i64 (i : Int)] w fun e w' => e = .returned (.tuple #[.int .u32 (wordN i : Int), .int .i64 0]) ∧ Below w.heap.size w w'
  word_bad : ∀ (z : Int), z < 0 ∨ 1041 < z → ∀ w : World, Calls Try.prog 9 #[.int .i64 z] w fun e w' => e = .returned (.tuple #[.int .u32 0, .int .i64 11]) ∧ Below w.heap.size w w'
  words : ∀ (a n : Nat), a + n ≤ 1042 → ∀ w : World, Calls Try.prog 10 #[.int .i64 (a : Int), .int .i64 (n : Int)] w fun e w' => ∃ A c, e = .returned (.tuple #[.slice A n c, .int .i64 0]) ∧ Reads w' w'.heap.size A (u32s (wordsL a n)) ∧ Below w.heap.size w w'
  words_bad : ∀ (x y : Int), x < 0 ∨ y < 0 ∨ 1042 < x ∨ 1042 - x < y → ∀ w : World, Calls Try.prog 10 #[.int .i64 x, .int .i64 y] w fun e w' => ∃ A c, e = .returned (.tuple #[.slice A 0 c, .int .i64 11]) ∧ Below w.heap.size w w'

theorem w_first : wordN 0 = 608135816 := by kernel_rfl
theorem w_last : wordN 1041 = 985887462 := by kernel_rfl
theorem d_first : piD 0 = 2 := by kernel_rfl
theorem bstep {a b c : World} (h : Below a.heap.size a b) (k : Below b.heap.size b c) : Below a.heap.size a c := h.trans (k.mono h.size)
set_option maxHeartbeats 800000 in
theorem awake9_any (P : PwOk) (w : World) : Calls Try.prog 5 #[] w fun e w' => e = .returned (.bool true) ∧ Below w.heap.size w w' := by
  have C1 := Lib.hid (P.word 0 (by decide))
  have C2 := Lib.hid (P.word 1041 (by decide))
  have C3 := Lib.hid (P.digit 0 (by decide))
  rw [w_first] at C1
  rw [w_last] at C2
  rw [d_first] at C3
  clear P
  go_enter Try.func5, Try.ntmps5
  go_wp2_with fail
  refine (C1.out _).mono ?_
  rintro e w1 ⟨rfl, b1⟩
  go_wp2_with fail
  refine (C2.out _).mono ?_
  rintro e w2 ⟨rfl, b2⟩
  go_wp2_with fail
  refine (C3.out _).mono ?_
  rintro e w3 ⟨rfl, b3⟩
  go_wp2
  go_ret
  exact ⟨rfl, bstep b1 (bstep b2 b3)⟩
set_option maxHeartbeats 800000 in
theorem pdigits_bad (P : PiOk) (Q : PwOk) (z : Int) (hz : z < 0 ∨ 8335 < z) (w : World) : Calls Try.prog 3 #[.int .i64 z] w fun e w' => e = .returned (.bool true) ∧ Below w.heap.size w w' := by
  have CA := Lib.hid (awake9_any Q w)
  have CD := Lib.hid (P.digit_bad z hz)
  have CR := Lib.hid (P.reckon_bad z hz)
  have hb : z < 0 ∨ (0 ≤ z ∧ 8335 < z) := by omega
  clear P Q hz
  rcases hb with h | ⟨h, h2⟩
  all_goals
    go_enter Try.func3, Try.ntmps3
    go_wp2_with fail
    refine CA.out.mono ?_
    rintro e w1 ⟨rfl, b1⟩
    go_wp2_with fail
    refine (CD.out _).mono ?_
    rintro e w2 ⟨rfl, b2⟩
    go_wp2_with fail
    refine (CR.out _).mono ?_
    rintro e w3 ⟨rfl, b3⟩
    go_wp2
    go_ret
    exact ⟨rfl, bstep b1 (bstep b2 b3)⟩
set_option maxHeartbeats 800000 in
theorem pdigits_good (P : PiOk) (Q : PwOk) (i : Nat) (hi : i < 8336) (w : World) : Calls Try.prog 3 #[.int .i64 (i : Int)] w fun e w' => e = .returned (.bool true) ∧ Below w.heap.size w w' := by
  have CA := Lib.hid (awake9_any Q w)
  have CD := Lib.hid (P.digit i hi)
  have CR := Lib.hid (P.reckon i hi)
  have CF := Lib.hid (rdigit_any i hi)
  clear P Q
  generalize piD i = D at *
  go_enter Try.func3, Try.ntmps3
  go_wp2_with fail
  refine CA.out.mono ?_
  rintro e w1 ⟨rfl, b1⟩
  go_wp2_with fail
  refine (CD.out _).mono ?_
  rintro e w2 ⟨rfl, b2⟩
  go_wp2_with fail
  refine (CR.out _).mono ?_
  rintro e w3 ⟨rfl, b3⟩
  go_wp2_with fail
  refine (CF.out _).mono ?_
  rintro e w4 ⟨rfl, rfl⟩
  go_wp2
  go_ret
  exact ⟨rfl, bstep b1 (bstep b2 b3)⟩
theorem pdigits_any (P : PiOk) (Q : PwOk) (z : Int) (w : World) : Calls Try.prog 3 #[.int .i64 z] w fun e w' => e = .returned (.bool true) ∧ Below w.heap.size w w' := by
  by_cases h : z < 0 ∨ 8335 < z
  · exact pdigits_bad P Q z h w
  · obtain ⟨i, rfl⟩ : ∃ i : Nat, z = (i : Int) := ⟨z.toNat, by omega⟩
    exact pdigits_good P Q i (by omega) w
theorem u32is (x : Int) (a : Nat) (h : x = (a : Int)) (hb : a < 4294967296) : IntKind.u32.wrap x = (a : Int) := by
  have e : IntKind.u32.wrap (a : Int) = (a : Int) % 4294967296 := by simp [IntKind.wrap, IntKind.bits, IntKind.signed]
  rw [h, e]; omega

set_option maxHeartbeats 1600000 in
theorem pwords_any (Q : PwOk) (z x y : Int) (w : World) : Calls Try.prog 4 #[.int .i64 z, .int .i64 x, .int .i64 y] w fun e w' => e = .returned (.bool true) ∧ Below w.heap.size w w' := by
  have CA := Lib.hid (awake9_any Q w)
  have hz : z < 0 ∨ (0 ≤ z ∧ 1042 ≤ z) ∨ ∃ i : Nat, z = (i : Int) ∧ i < 1042 := by
    by_cases h : z < 0
    · exact .inl h
    · by_cases h2 : 1042 ≤ z
      · exact .inr (.inl ⟨by omega, h2⟩)
      · exact .inr (.inr ⟨z.toNat, by omega, by omega⟩)
  by_cases hzb : z < 0 ∨ 1042 ≤ z
  · have CW := Lib.hid (Q.word_bad z (by omega))
    have hz2 : z < 0 ∨ (0 ≤ z ∧ 1042 ≤ z) := by omega
    clear hz hzb
    rcases hz2 with hz | ⟨hz, hz2⟩
    all_goals
      go_enter Try.func4, Try.ntmps4
      go_wp2_with fail
      refine CA.out.mono ?_
      rintro e w1 ⟨rfl, b1⟩
      go_wp2_with fail
      refine (CW.out _).mono ?_
      rintro e w2 ⟨rfl, b2⟩
      have BX := Lib.hid (bstep b1 b2)
      clear b1 b2 CW CA
      go_wp2_with fail
      by_cases hbad : x < 0 ∨ y < 0 ∨ 1042 < x ∨ 1042 - x < y
      · refine (Q.words_bad x y hbad _).mono ?_
        rintro e w5 ⟨A, c, rfl, b5⟩
        have B5 := Lib.hid (bstep BX.out b5)
        have hb : x < 0 ∨ (0 ≤ x ∧ y < 0) ∨ (0 ≤ x ∧ 0 ≤ y ∧ 1042 < x) ∨ (0 ≤ x ∧ 0 ≤ y ∧ x ≤ 1042 ∧ 1042 - x < y) := by omega
        clear hbad b5
        rcases hb with h | ⟨h, h2⟩ | ⟨h, h2, h3⟩ | ⟨h, h2, h3, h4⟩
        all_goals
          go_wp2
          go_ret
          exact ⟨rfl, B5.out⟩
      · obtain ⟨a, rfl⟩ : ∃ a : Nat, x = (a : Int) := ⟨x.toNat, by omega⟩
        obtain ⟨n, rfl⟩ : ∃ n : Nat, y = (n : Int) := ⟨y.toNat, by omega⟩
        have han : a + n ≤ 1042 := by omega
        refine (Q.words a n han _).mono ?_
        rintro e w5 ⟨A, c, rfl, hr, b5⟩
        have B5 := Lib.hid (bstep BX.out b5)
        have HR := Lib.hid hr
        have t1 : ¬ (1042 : Int) < (a : Int) := by omega
        have t2 : ¬ (1042 : Int) - (a : Int) < (n : Int) := by omega
        clear hbad b5 hr
        go_wp2
        go_loopg [100] n (fun g v wr => ∃ k : Nat, k + g = n ∧ v = .int .i64 (k : Int) ∧ Below w5.heap.size w5 wr)
        case atStart => exact ⟨0, by omega, rfl, Below.refl _ _⟩
        case round =>
          obtain ⟨k, hk, rfl, hb⟩ := hrel
          have HB := Lib.hid hb
          clear hb
          by_cases h : k < n
          · obtain ⟨g2, rfl⟩ : ∃ g2, gk = g2 + 1 := ⟨gk - 1, by omega⟩
            obtain ⟨b, off, rfl, hbl, hcell⟩ := HR.out k (by rw [u32s_length, wordsL_length]; exact h)
            rw [u32_at, wordsL_at a k n h] at hcell
            obtain ⟨s, hs⟩ : ∃ s, s = a + k := ⟨_, rfl⟩
            rw [← hs] at hcell
            have CW := Lib.hid (Q.word s (by omega) wr)
            generalize wordN s = wv at *
            have s1 : (a : Int) + (k : Int) = (s : Int) := by omega
            have hkb : k ≤ 1042 := by omega
            have hd1 : decide ((k : Int) < (n : Int)) = true := by simp; omega
            have hd2 : decide (k < n) = true := by simp; omega
            have hkn : (k : Int) < (n : Int) := by omega
            have HJ := Lib.hid hk
            clear hs hk
            go_wp2_with fail
            refine CW.out.mono ?_
            rintro e w6 ⟨rfl, b6⟩
            have B6 := Lib.hid (HB.out.trans (b6.mono HB.out.size))
            have c6 : w6.cell? ⟨b, off + k, none⟩ = some (.int .u32 (wv : Int)) := (B6.out.cell (p := ⟨b, off + k, none⟩) hbl).trans hcell
            clear b6 hcell
            go_wp2
            go_roundg g2
            case measure => omega
            case rel => exact ⟨k + 1, by have := HJ.out; omega, by go_num, B6.out⟩
          · obtain rfl : k = n := by omega
            have hd1 : decide ((k : Int) < (k : Int)) = false := by simp
            clear hk h
            go_wp2
            go_ret
            exact ⟨rfl, bstep B5.out HB.out⟩
  · obtain ⟨i, rfl⟩ : ∃ i : Nat, z = (i : Int) := ⟨z.toNat, by omega⟩
    have hi : i < 1042 := by omega
    have CW := Lib.hid (Q.word i hi)
    have CD := Lib.hid fun (k : Nat) (hk : k < 8) => Q.digit (8 * i + k) (by omega)
    have HW : Hid (wordN i = wordTo i 8) := Lib.hid rfl
    generalize wordN i = wi at *
    have z1 : ¬ (1042 : Int) ≤ (i : Int) := by omega
    clear hz hzb
    go_enter Try.func4, Try.ntmps4
    go_wp2_with fail
    refine CA.out.mono ?_
    rintro e w1 ⟨rfl, b1⟩
    go_wp2_with fail
    refine (CW.out _).mono ?_
    rintro e w2 ⟨rfl, b2⟩
    have B2 := Lib.hid (bstep b1 b2)
    clear b1 b2 CW CA
    go_wp2
    go_loopg [9, 10] 8 (fun g v9 v10 wr => ∃ k : Nat, k + g = 8 ∧ v9 = .int .u32 (wordTo i k : Int) ∧ v10 = .int .i64 (k : Int) ∧ Below w.heap.size w wr)
    case atStart => exact ⟨0, by omega, rfl, rfl, B2.out⟩
    case round =>
      obtain ⟨k, hk, rfl, rfl, hb⟩ := hrel
      have HB := Lib.hid hb
      clear hb
      by_cases h : k < 8
      · obtain ⟨g2, rfl⟩ : ∃ g2, gk = g2 + 1 := ⟨gk - 1, by omega⟩
        have hlt := wordTo_lt i k
        have hp : 16 ^ k ≤ 268435456 := Nat.pow_le_pow_right (n := 16) (by decide) (show k ≤ 7 by omega)
        have HN : Hid (wordTo i (k + 1) = 16 * wordTo i k + piD (8 * i + k)) := Lib.hid rfl
        have hdl := piD_lt (8 * i + k)
        have CK := Lib.hid (CD.out k h)
        obtain ⟨s, hs⟩ : ∃ s, s = 8 * i + k := ⟨_, rfl⟩
        rw [← hs] at CK HN hdl
        generalize piD s = d at *
        have hxb : wordTo i k < 268435456 := by omega
        generalize hX : wordTo i k = X at *
        clear hX hlt hp
        have s1 : (8 : Int) * (i : Int) + (k : Int) = (s : Int) := by omega
        have hd1 : decide ((k : Int) < 8) = true := by simp; omega
        obtain ⟨X', hX'⟩ : ∃ X', X' = 16 * X + d := ⟨_, rfl⟩
        rw [← hX'] at HN
        have u0 : IntKind.u32.wrap (d : Int) = (d : Int) := u32is _ d rfl (by omega)
        have u1 : IntKind.u32.wrap ((16 : Int) * (X : Int)) = ((16 * X : Nat) : Int) := u32is _ (16 * X) (by omega) (by omega)
        have u2 : IntKind.u32.wrap (((16 * X : Nat) : Int) + (d : Int)) = (X' : Int) := u32is _ X' (by omega) (by omega)
        have u3 : (16 : Int) * (X : Int) + (d : Int) = (X' : Int) := by omega
        have HJ := Lib.hid hk
        clear hs hX' hk CD
        go_wp2_with fail
        refine (CK.out _).mono ?_
        rintro e w3 ⟨rfl, b3⟩
        have B3 := Lib.hid (bstep HB.out b3)
        clear b3
        go_wp2
        go_roundg g2
        case measure => omega
        case rel => exact ⟨k + 1, by have := HJ.out; omega, by rw [HN.out], by go_num, B3.out⟩
      · obtain rfl : k = 8 := by omega
        rw [← HW.out]
        have BX := HB
        clear hk h HB B2 CD
        go_wp2_with fail
        by_cases hbad : x < 0 ∨ y < 0 ∨ 1042 < x ∨ 1042 - x < y
        · refine (Q.words_bad x y hbad _).mono ?_
          rintro e w5 ⟨A, c, rfl, b5⟩
          have B5 := Lib.hid (bstep BX.out b5)
          have hb : x < 0 ∨ (0 ≤ x ∧ y < 0) ∨ (0 ≤ x ∧ 0 ≤ y ∧ 1042 < x) ∨ (0 ≤ x ∧ 0 ≤ y ∧ x ≤ 1042 ∧ 1042 - x < y) := by omega
          clear hbad b5
          rcases hb with h | ⟨h, h2⟩ | ⟨h, h2, h3⟩ | ⟨h, h2, h3, h4⟩
          all_goals
            go_wp2
            go_ret
            exact ⟨rfl, B5.out⟩
        · obtain ⟨a, rfl⟩ : ∃ a : Nat, x = (a : Int) := ⟨x.toNat, by omega⟩
          obtain ⟨n, rfl⟩ : ∃ n : Nat, y = (n : Int) := ⟨y.toNat, by omega⟩
          have han : a + n ≤ 1042 := by omega
          refine (Q.words a n han _).mono ?_
          rintro e w5 ⟨A, c, rfl, hr, b5⟩
          have B5 := Lib.hid (bstep BX.out b5)
          have HR := Lib.hid hr
          have t1 : ¬ (1042 : Int) < (a : Int) := by omega
          have t2 : ¬ (1042 : Int) - (a : Int) < (n : Int) := by omega
          clear hbad b5 hr
          go_wp2
          go_loopg [100] n (fun g v wr => ∃ k : Nat, k + g = n ∧ v = .int .i64 (k : Int) ∧ Below w5.heap.size w5 wr)
          case atStart => exact ⟨0, by omega, rfl, Below.refl _ _⟩
          case round =>
            obtain ⟨k, hk, rfl, hb⟩ := hrel
            have HB := Lib.hid hb
            clear hb
            by_cases h : k < n
            · obtain ⟨g2, rfl⟩ : ∃ g2, gk = g2 + 1 := ⟨gk - 1, by omega⟩
              obtain ⟨b, off, rfl, hbl, hcell⟩ := HR.out k (by rw [u32s_length, wordsL_length]; exact h)
              rw [u32_at, wordsL_at a k n h] at hcell
              obtain ⟨s, hs⟩ : ∃ s, s = a + k := ⟨_, rfl⟩
              rw [← hs] at hcell
              have CW := Lib.hid (Q.word s (by omega) wr)
              generalize wordN s = wv at *
              have s1 : (a : Int) + (k : Int) = (s : Int) := by omega
              have hkb : k ≤ 1042 := by omega
              have hd1 : decide ((k : Int) < (n : Int)) = true := by simp; omega
              have hd2 : decide (k < n) = true := by simp; omega
              have hkn : (k : Int) < (n : Int) := by omega
              have HJ := Lib.hid hk
              clear hs hk
              go_wp2_with fail
              refine CW.out.mono ?_
              rintro e w6 ⟨rfl, b6⟩
              have B6 := Lib.hid (HB.out.trans (b6.mono HB.out.size))
              have c6 : w6.cell? ⟨b, off + k, none⟩ = some (.int .u32 (wv : Int)) := (B6.out.cell (p := ⟨b, off + k, none⟩) hbl).trans hcell
              clear b6 hcell
              go_wp2
              go_roundg g2
              case measure => omega
              case rel => exact ⟨k + 1, by have := HJ.out; omega, by go_num, B6.out⟩
            · obtain rfl : k = n := by omega
              have hd1 : decide ((k : Int) < (k : Int)) = false := by simp
              clear hk h
              go_wp2
              go_ret
              exact ⟨rfl, bstep B5.out HB.out⟩
end Go.Proofs.Ytggdfmapddpafaa

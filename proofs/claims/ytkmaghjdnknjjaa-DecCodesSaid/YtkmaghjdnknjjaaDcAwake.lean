/- Chapter 18's example; the laws DecCodes and DecBetween by the calls' contracts. Conditions: those typed. -/
import Derived.Test.YtkmaghjdnknjjaaDcTwo
import Derived.Test.YtkmaghjdnknjjaaDcRref
namespace Go.Proofs.Ytkmaghjdnknjjaa
set_option maxRecDepth 50000
open Go.RowKit De

theorem text_same (s : ByteArray) : (s.toList == s.toList) = true ∧ (s.toList != s.toList) = false := by simp
def s010 : ByteArray := ⟨#[48, 49, 48]⟩
def sBig : ByteArray := ⟨#[52, 54, 49, 49, 54, 56, 54, 48, 49, 56, 52, 50, 55, 51, 56, 55, 57, 48, 53]⟩
def sMost : ByteArray := ⟨#[52, 54, 49, 49, 54, 56, 54, 48, 49, 56, 52, 50, 55, 51, 56, 55, 57, 48, 52]⟩
theorem a010 : rdE (tl s010) = 7 := by decide +kernel
theorem aBig : rdE (tl sBig) = 10 := by decide +kernel
theorem aMost : rdE (tl sMost) = 0 ∧ rdN (tl sMost) = 4611686018427387904 := by decide +kernel
theorem a10 : tT 10 = ⟨#[49, 48]⟩ := by
  have h1 : dt 10 = dt (10 / 10) ++ [dg (10 % 10)] := dt_ge (by decide)
  have h2 : dt 1 = [dg 1] := dt_lt (by decide)
  rw [show (10 : Int) = ((10 : Nat) : Int) from rfl, tT_nat, h1, show (10 / 10 : Nat) = 1 from rfl, h2]
  rfl

set_option maxHeartbeats 1600000 in
theorem awake18_any (w : World) : Calls Try.prog 7 #[] w fun e w' => e = .returned (.bool true) ∧ Below w.heap.size w w' := by
  have C1 := Lib.hid (fun w => read_any s010 (by decide) w)
  have C2 := Lib.hid (fun w => read_any sBig (by decide) w)
  have C3 := Lib.hid (fun w => read_any sMost (by decide) w)
  have C4 := Lib.hid (fun w => text_any 10 (by decide) w)
  rw [a010] at C1
  rw [aBig] at C2
  rw [aMost.1, aMost.2] at C3
  rw [a10] at C4
  generalize rdN (tl s010) = x1 at *
  generalize rdN (tl sBig) = x2 at *
  go_enter Try.func7, Try.ntmps7
  go_wp2_with fail
  refine (C1.out w).mono ?_
  rintro e w1 ⟨rfl, hw⟩
  obtain rfl := hw.symm
  go_wp2_with fail
  refine (C2.out w).mono ?_
  rintro e w1 ⟨rfl, hw⟩
  obtain rfl := hw.symm
  go_wp2_with fail
  refine (C3.out w).mono ?_
  rintro e w1 ⟨rfl, hw⟩
  obtain rfl := hw.symm
  go_wp2_with fail
  refine (C4.out w).mono ?_
  rintro e w2 ⟨rfl, hb⟩
  have HB := Lib.hid hb
  clear hb
  go_wp2
  go_ret
  exact ⟨rfl, HB.out⟩

set_option maxHeartbeats 1600000 in
theorem codes18_any (n : Int) (hn : n < 9223372036854775808) (s : ByteArray) (w : World) :
    Calls Try.prog 3 #[.int .i64 n, .string s] w fun e w' => e = .returned (.bool true) ∧ Below w.heap.size w w' := by
  have CA := Lib.hid awake18_any
  by_cases hlong : 200 < s.size
  · have dl : decide ((200 : Int) < (s.size : Int)) = true := by simp; omega
    have dl2 : decide (200 < s.size) = true := by simp; omega
    go_enter Try.func3, Try.ntmps3
    go_wp2_with fail
    refine (CA.out w).mono ?_
    rintro e w1 ⟨rfl, hb⟩
    have B1 := Lib.hid hb
    clear hb
    go_wp2
    go_ret
    exact ⟨rfl, B1.out⟩
  · have dl : decide ((200 : Int) < (s.size : Int)) = false := by simp; omega
    have dl2 : decide (200 < s.size) = false := by simp; omega
    have dl3 : s.size ≤ 200 := by omega
    have CR := Lib.hid (fun w => read_any s (by omega) w)
    have CQ := Lib.hid (fun w => rread_any s (by omega) w)
    have CT := Lib.hid (fun w => text_any n hn w)
    have CU := Lib.hid (fun w => rtext_any n hn w)
    have t1 := text_same (tT n)
    generalize rdN (tl s) = x at *
    generalize rdE (tl s) = y at *
    generalize tT n = T at *
    clear hlong
    go_enter Try.func3, Try.ntmps3
    go_wp2_with fail
    refine (CA.out w).mono ?_
    rintro e w1 ⟨rfl, hb⟩
    have B1 := Lib.hid hb
    clear hb
    go_wp2_with fail
    refine (CR.out w1).mono ?_
    rintro e w1' ⟨rfl, hw⟩
    obtain rfl := hw.symm
    go_wp2_with fail
    refine (CQ.out w1).mono ?_
    rintro e w1' ⟨rfl, hw⟩
    obtain rfl := hw.symm
    go_wp2_with fail
    refine (CT.out w1).mono ?_
    rintro e w2 ⟨rfl, hb⟩
    have B2 := Lib.hid (below_step B1.out hb)
    clear hb
    go_wp2_with fail
    refine (CU.out w2).mono ?_
    rintro e w2' ⟨rfl, hw⟩
    obtain rfl := hw.symm
    go_wp2
    go_ret
    exact ⟨rfl, B2.out⟩

set_option maxHeartbeats 3200000 in
theorem between18_any (s : ByteArray) (a b : Int) (w : World) :
    Calls Try.prog 4 #[.string s, .int .i64 a, .int .i64 b] w fun e w' => e = .returned (.bool true) ∧ Below w.heap.size w w' := by
  have CA := Lib.hid awake18_any
  by_cases hlong : 200 < s.size
  · have dl : decide ((200 : Int) < (s.size : Int)) = true := by simp; omega
    have dl2 : decide (200 < s.size) = true := by simp; omega
    go_enter Try.func4, Try.ntmps4
    go_wp2_with fail
    refine (CA.out w).mono ?_
    rintro e w1 ⟨rfl, hb⟩
    have B1 := Lib.hid hb
    clear hb
    go_wp2
    go_ret
    exact ⟨rfl, B1.out⟩
  · have dl : decide ((200 : Int) < (s.size : Int)) = false := by simp; omega
    have dl2 : decide (200 < s.size) = false := by simp; omega
    have dl3 : s.size ≤ 200 := by omega
    have CB := Lib.hid (fun w => between_any s (by omega) a b w)
    have CQ := Lib.hid (fun w => rread_any s (by omega) w)
    have hcase : (∃ y, rdE (tl s) = y ∧ btE (tl s) a b = y ∧ btN (tl s) a b = 0 ∧ (y == 0) = false ∧ (y != 0) = true) ∨
        (rdE (tl s) = 0 ∧ btE (tl s) a b = 2 ∧ btN (tl s) a b = 0 ∧ decide ((rdN (tl s) : Int) < a) = true ∧ (rdN (tl s) : Int) < a) ∨
        (rdE (tl s) = 0 ∧ btE (tl s) a b = 2 ∧ btN (tl s) a b = 0 ∧ (decide ((rdN (tl s) : Int) < a) = false ∧ a ≤ (rdN (tl s) : Int)) ∧ decide (b < (rdN (tl s) : Int)) = true ∧ b < (rdN (tl s) : Int)) ∨
        (rdE (tl s) = 0 ∧ btE (tl s) a b = 0 ∧ btN (tl s) a b = rdN (tl s) ∧ (decide ((rdN (tl s) : Int) < a) = false ∧ a ≤ (rdN (tl s) : Int)) ∧ decide (b < (rdN (tl s) : Int)) = false ∧ (rdN (tl s) : Int) ≤ b) := by
      by_cases h0 : rdE (tl s) = 0
      · by_cases h1 : (rdN (tl s) : Int) < a
        · obtain ⟨g1, g2⟩ := bt_out h0 (b := b) (.inl h1)
          exact .inr (.inl ⟨h0, g1, g2, by simp [h1], h1⟩)
        · by_cases h2 : b < (rdN (tl s) : Int)
          · obtain ⟨g1, g2⟩ := bt_out h0 (a := a) (.inr h2)
            exact .inr (.inr (.inl ⟨h0, g1, g2, ⟨by simp; omega, by omega⟩, by simp [h2], h2⟩))
          · obtain ⟨g1, g2⟩ := bt_good h0 (a := a) (b := b) (by omega) (by omega)
            exact .inr (.inr (.inr ⟨h0, g1, g2, ⟨by simp; omega, by omega⟩, by simp; omega, by omega⟩))
      · obtain ⟨g1, g2⟩ := bt_wrong (a := a) (b := b) h0
        exact .inl ⟨_, rfl, g1, g2, by simpa using h0, by simpa using h0⟩
    clear hlong
    rcases hcase with ⟨y, h0, g1, g2, d1, d2⟩ | ⟨h0, g1, g2, d1, d2⟩ | ⟨h0, g1, g2, ⟨d1, d2⟩, d3, d4⟩ | ⟨h0, g1, g2, ⟨d1, d2⟩, d3, d4⟩
    all_goals
      rw [g1, g2] at CB
      rw [h0] at CQ
      clear g1 g2 h0
      generalize rdN (tl s) = x at *
      go_enter Try.func4, Try.ntmps4
      go_wp2_with fail
      refine (CA.out w).mono ?_
      rintro e w1 ⟨rfl, hb⟩
      have B1 := Lib.hid hb
      clear hb
      go_wp2_with fail
      refine (CB.out w1).mono ?_
      rintro e w1' ⟨rfl, hw⟩
      obtain rfl := hw.symm
      go_wp2_with fail
      refine (CQ.out w1).mono ?_
      rintro e w1' ⟨rfl, hw⟩
      obtain rfl := hw.symm
      go_wp2
      go_ret
      exact ⟨rfl, B1.out⟩
end Go.Proofs.Ytkmaghjdnknjjaa

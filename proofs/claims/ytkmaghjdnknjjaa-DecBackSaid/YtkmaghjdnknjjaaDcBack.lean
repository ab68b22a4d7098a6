/- The law DecBack by the calls' contracts. Conditions: those typed. -/
import Derived.Test.YtkmaghjdnknjjaaDcAwake
namespace Go.Proofs.Ytkmaghjdnknjjaa
set_option maxRecDepth 50000
open Go.RowKit De

theorem tT_size {n : Int} (h : n < 9223372036854775808) : (tT n).size ≤ 19 := by
  by_cases hn : n < 0
  · rw [tT_neg hn]; decide
  · obtain ⟨m, rfl⟩ := Int.eq_ofNat_of_zero_le (show 0 ≤ n by omega)
    rw [tT_nat, tx_size]
    exact dt_short m (by omega)
theorem rdN_le (l : List UInt8) : rdN l ≤ most := by
  unfold rdN
  split
  · rename_i h; exact h.2
  · exact Nat.zero_le _

set_option maxHeartbeats 12800000 in
theorem back18_any (n : Int) (hn : n < 9223372036854775808) (s : ByteArray) (w : World) :
    Calls Try.prog 6 #[.int .i64 n, .string s] w fun e w' => e = .returned (.bool true) ∧ Below w.heap.size w w' := by
  have CA := Lib.hid awake18_any
  have CT := Lib.hid (fun w => text_any n hn w)
  have CR := Lib.hid (fun w => read_any (tT n) (by have := tT_size hn; omega) w)
  have hcase : (n < 0 ∧ decide (0 ≤ n) = false ∧ decide (n < 0) = true ∧ rdE (tl (tT n)) = 7) ∨
      (∃ m : Nat, n = (m : Int) ∧ m ≤ 4611686018427387904 ∧ rdE (tl (tT n)) = 0 ∧ rdN (tl (tT n)) = m) ∨
      (∃ m : Nat, n = (m : Int) ∧ 4611686018427387904 < m ∧ rdE (tl (tT n)) = 10) := by
    by_cases h : n < 0
    · exact .inl ⟨h, by simp; omega, by simp [h], by rw [tT_neg h]; rfl⟩
    · obtain ⟨m, rfl⟩ := Int.eq_ofNat_of_zero_le (show 0 ≤ n by omega)
      have h1 := rd_dt m
      rw [show ((m : Nat) : Int) = (m : Int) from rfl, tT_nat, tl_tx]
      by_cases h2 : m ≤ 4611686018427387904
      · exact .inr (.inl ⟨m, rfl, h2, (h1.1 h2).1, (h1.1 h2).2⟩)
      · exact .inr (.inr ⟨m, rfl, by omega, (h1.2 (by unfold most; omega)).1⟩)
  have hs : (decide ((200 : Int) < (s.size : Int)) = true ∧ decide (200 < s.size) = true ∧ 200 < s.size) ∨
      ((decide ((200 : Int) < (s.size : Int)) = false ∧ decide (200 < s.size) = false ∧ s.size ≤ 200) ∧ ∃ y, rdE (tl s) = y ∧ rdN (tl s) = 0 ∧ (y == 0) = false ∧ (y != 0) = true) ∨
      ((decide ((200 : Int) < (s.size : Int)) = false ∧ decide (200 < s.size) = false ∧ s.size ≤ 200) ∧ rdE (tl s) = 0 ∧ tT (rdN (tl s) : Int) = s) := by
    by_cases h : 200 < s.size
    · exact .inl ⟨by simp; omega, by simp; omega, h⟩
    · have hx : decide ((200 : Int) < (s.size : Int)) = false ∧ decide (200 < s.size) = false ∧ s.size ≤ 200 := ⟨by simp; omega, by simp; omega, by omega⟩
      by_cases h0 : rdE (tl s) = 0
      · exact .inr (.inr ⟨hx, h0, by rw [tT_nat, rd_back h0, tx_tl]⟩)
      · exact .inr (.inl ⟨hx, _, rfl, rd_none h0, by simpa using h0, by simpa using h0⟩)
  have t1 := text_same s
  rcases hcase with ⟨n1, n2, n3, n4⟩ | ⟨m, rfl, n1, n2, n3⟩ | ⟨m, rfl, n1, n2⟩
  · rw [n4] at CR
    clear n4
    generalize rdN (tl (tT n)) = xn at *
    generalize tT n = T at *
    rcases hs with ⟨s1, s2, s3⟩ | ⟨⟨s1, s2, s3⟩, y, s4, s5, s6, s7⟩ | ⟨⟨s1, s2, s3⟩, s4, s5⟩
    · go_enter Try.func6, Try.ntmps6
      go_wp2_with fail
      refine (CA.out w).mono ?_
      rintro e w1 ⟨rfl, hb⟩
      have B1 := Lib.hid hb
      clear hb
      go_wp2_with fail
      refine (CT.out w1).mono ?_
      rintro e w2 ⟨rfl, hb⟩
      have B2 := Lib.hid (below_step B1.out hb)
      clear hb
      go_wp2_with fail
      refine (CR.out w2).mono ?_
      rintro e w2' ⟨rfl, hw⟩
      obtain rfl := hw.symm
      go_wp2
      go_ret
      exact ⟨rfl, B2.out⟩
    · have C2 := Lib.hid (fun w => read_any s (by omega) w)
      rw [s4, s5] at C2
      clear s4 s5
      have s8 : y ≠ 0 := by simpa using s6
      have s9 : ((y : Int) == 0) = false := by simp; omega
      have s10 : (y : Int) ≠ 0 := by omega
      go_enter Try.func6, Try.ntmps6
      go_wp2_with fail
      refine (CA.out w).mono ?_
      rintro e w1 ⟨rfl, hb⟩
      have B1 := Lib.hid hb
      clear hb
      go_wp2_with fail
      refine (CT.out w1).mono ?_
      rintro e w2 ⟨rfl, hb⟩
      have B2 := Lib.hid (below_step B1.out hb)
      clear hb
      go_wp2_with fail
      refine (CR.out w2).mono ?_
      rintro e w2' ⟨rfl, hw⟩
      obtain rfl := hw.symm
      go_wp2_with fail
      refine (C2.out w2).mono ?_
      rintro e w2' ⟨rfl, hw⟩
      obtain rfl := hw.symm
      go_wp2
      go_ret
      exact ⟨rfl, B2.out⟩
    · have C2 := Lib.hid (fun w => read_any s (by omega) w)
      have C3 := Lib.hid (fun w => text_any (rdN (tl s) : Int) (by have := rdN_le (tl s); unfold most at this; omega) w)
      rw [s4] at C2
      rw [s5] at C3
      clear s4 s5
      generalize rdN (tl s) = xk at *
      go_enter Try.func6, Try.ntmps6
      go_wp2_with fail
      refine (CA.out w).mono ?_
      rintro e w1 ⟨rfl, hb⟩
      have B1 := Lib.hid hb
      clear hb
      go_wp2_with fail
      refine (CT.out w1).mono ?_
      rintro e w2 ⟨rfl, hb⟩
      have B2 := Lib.hid (below_step B1.out hb)
      clear hb
      go_wp2_with fail
      refine (CR.out w2).mono ?_
      rintro e w2' ⟨rfl, hw⟩
      obtain rfl := hw.symm
      go_wp2_with fail
      refine (C2.out w2).mono ?_
      rintro e w2' ⟨rfl, hw⟩
      obtain rfl := hw.symm
      go_wp2_with fail
      refine (C3.out w2).mono ?_
      rintro e w3 ⟨rfl, hb⟩
      have B3 := Lib.hid (below_step B2.out hb)
      clear hb
      go_wp2
      go_ret
      exact ⟨rfl, B3.out⟩
  · rw [n2, n3] at CR
    clear n2 n3
    have n4 : decide ((m : Int) ≤ 4611686018427387904) = true := by simp; omega
    have n5 : decide ((4611686018427387904 : Int) < (m : Int)) = false := by simp; omega
    have n6 : decide ((m : Int) < 0) = false := by simp
    have n7 : decide ((0 : Int) ≤ (m : Int)) = true := by simp
    have n8 : (m : Int) ≤ 4611686018427387904 := by omega
    generalize tT (m : Int) = T at *
    rcases hs with ⟨s1, s2, s3⟩ | ⟨⟨s1, s2, s3⟩, y, s4, s5, s6, s7⟩ | ⟨⟨s1, s2, s3⟩, s4, s5⟩
    · go_enter Try.func6, Try.ntmps6
      go_wp2_with fail
      refine (CA.out w).mono ?_
      rintro e w1 ⟨rfl, hb⟩
      have B1 := Lib.hid hb
      clear hb
      go_wp2_with fail
      refine (CT.out w1).mono ?_
      rintro e w2 ⟨rfl, hb⟩
      have B2 := Lib.hid (below_step B1.out hb)
      clear hb
      go_wp2_with fail
      refine (CR.out w2).mono ?_
      rintro e w2' ⟨rfl, hw⟩
      obtain rfl := hw.symm
      go_wp2
      go_ret
      exact ⟨rfl, B2.out⟩
    · have C2 := Lib.hid (fun w => read_any s (by omega) w)
      rw [s4, s5] at C2
      clear s4 s5
      have s8 : y ≠ 0 := by simpa using s6
      have s9 : ((y : Int) == 0) = false := by simp; omega
      have s10 : (y : Int) ≠ 0 := by omega
      go_enter Try.func6, Try.ntmps6
      go_wp2_with fail
      refine (CA.out w).mono ?_
      rintro e w1 ⟨rfl, hb⟩
      have B1 := Lib.hid hb
      clear hb
      go_wp2_with fail
      refine (CT.out w1).mono ?_
      rintro e w2 ⟨rfl, hb⟩
      have B2 := Lib.hid (below_step B1.out hb)
      clear hb
      go_wp2_with fail
      refine (CR.out w2).mono ?_
      rintro e w2' ⟨rfl, hw⟩
      obtain rfl := hw.symm
      go_wp2_with fail
      refine (C2.out w2).mono ?_
      rintro e w2' ⟨rfl, hw⟩
      obtain rfl := hw.symm
      go_wp2
      go_ret
      exact ⟨rfl, B2.out⟩
    · have C2 := Lib.hid (fun w => read_any s (by omega) w)
      have C3 := Lib.hid (fun w => text_any (rdN (tl s) : Int) (by have := rdN_le (tl s); unfold most at this; omega) w)
      rw [s4] at C2
      rw [s5] at C3
      clear s4 s5
      generalize rdN (tl s) = xk at *
      go_enter Try.func6, Try.ntmps6
      go_wp2_with fail
      refine (CA.out w).mono ?_
      rintro e w1 ⟨rfl, hb⟩
      have B1 := Lib.hid hb
      clear hb
      go_wp2_with fail
      refine (CT.out w1).mono ?_
      rintro e w2 ⟨rfl, hb⟩
      have B2 := Lib.hid (below_step B1.out hb)
      clear hb
      go_wp2_with fail
      refine (CR.out w2).mono ?_
      rintro e w2' ⟨rfl, hw⟩
      obtain rfl := hw.symm
      go_wp2_with fail
      refine (C2.out w2).mono ?_
      rintro e w2' ⟨rfl, hw⟩
      obtain rfl := hw.symm
      go_wp2_with fail
      refine (C3.out w2).mono ?_
      rintro e w3 ⟨rfl, hb⟩
      have B3 := Lib.hid (below_step B2.out hb)
      clear hb
      go_wp2
      go_ret
      exact ⟨rfl, B3.out⟩
  · rw [n2] at CR
    clear n2
    generalize rdN (tl (tT (m : Int))) = xn at *
    have n4 : decide ((m : Int) ≤ 4611686018427387904) = false := by simp; omega
    have n5 : decide ((4611686018427387904 : Int) < (m : Int)) = true := by simp; omega
    have n6 : decide ((m : Int) < 0) = false := by simp
    have n7 : decide ((0 : Int) ≤ (m : Int)) = true := by simp
    have n8 : (4611686018427387904 : Int) < (m : Int) := by omega
    generalize tT (m : Int) = T at *
    rcases hs with ⟨s1, s2, s3⟩ | ⟨⟨s1, s2, s3⟩, y, s4, s5, s6, s7⟩ | ⟨⟨s1, s2, s3⟩, s4, s5⟩
    · go_enter Try.func6, Try.ntmps6
      go_wp2_with fail
      refine (CA.out w).mono ?_
      rintro e w1 ⟨rfl, hb⟩
      have B1 := Lib.hid hb
      clear hb
      go_wp2_with fail
      refine (CT.out w1).mono ?_
      rintro e w2 ⟨rfl, hb⟩
      have B2 := Lib.hid (below_step B1.out hb)
      clear hb
      go_wp2_with fail
      refine (CR.out w2).mono ?_
      rintro e w2' ⟨rfl, hw⟩
      obtain rfl := hw.symm
      go_wp2
      go_ret
      exact ⟨rfl, B2.out⟩
    · have C2 := Lib.hid (fun w => read_any s (by omega) w)
      rw [s4, s5] at C2
      clear s4 s5
      have s8 : y ≠ 0 := by simpa using s6
      have s9 : ((y : Int) == 0) = false := by simp; omega
      have s10 : (y : Int) ≠ 0 := by omega
      go_enter Try.func6, Try.ntmps6
      go_wp2_with fail
      refine (CA.out w).mono ?_
      rintro e w1 ⟨rfl, hb⟩
      have B1 := Lib.hid hb
      clear hb
      go_wp2_with fail
      refine (CT.out w1).mono ?_
      rintro e w2 ⟨rfl, hb⟩
      have B2 := Lib.hid (below_step B1.out hb)
      clear hb
      go_wp2_with fail
      refine (CR.out w2).mono ?_
      rintro e w2' ⟨rfl, hw⟩
      obtain rfl := hw.symm
      go_wp2_with fail
      refine (C2.out w2).mono ?_
      rintro e w2' ⟨rfl, hw⟩
      obtain rfl := hw.symm
      go_wp2
      go_ret
      exact ⟨rfl, B2.out⟩
    · have C2 := Lib.hid (fun w => read_any s (by omega) w)
      have C3 := Lib.hid (fun w => text_any (rdN (tl s) : Int) (by have := rdN_le (tl s); unfold most at this; omega) w)
      rw [s4] at C2
      rw [s5] at C3
      clear s4 s5
      generalize rdN (tl s) = xk at *
      go_enter Try.func6, Try.ntmps6
      go_wp2_with fail
      refine (CA.out w).mono ?_
      rintro e w1 ⟨rfl, hb⟩
      have B1 := Lib.hid hb
      clear hb
      go_wp2_with fail
      refine (CT.out w1).mono ?_
      rintro e w2 ⟨rfl, hb⟩
      have B2 := Lib.hid (below_step B1.out hb)
      clear hb
      go_wp2_with fail
      refine (CR.out w2).mono ?_
      rintro e w2' ⟨rfl, hw⟩
      obtain rfl := hw.symm
      go_wp2_with fail
      refine (C2.out w2).mono ?_
      rintro e w2' ⟨rfl, hw⟩
      obtain rfl := hw.symm
      go_wp2_with fail
      refine (C3.out w2).mono ?_
      rintro e w3 ⟨rfl, hb⟩
      have B3 := Lib.hid (below_step B2.out hb)
      clear hb
      go_wp2
      go_ret
      exact ⟨rfl, B3.out⟩
end Go.Proofs.Ytkmaghjdnknjjaa

/- The law Plain64Back by the calls' contracts. Condition: no text is longer than what may come in. -/
import Derived.Test.YtjejhjlpaijolaaPlRef
namespace Go.Proofs.Ytjejhjlpaijolaa
set_option maxRecDepth 50000
open Go.RowKit Sx

set_option maxHeartbeats 800000 in
theorem back16_bad (m M : Int) (h : m < 0 ∨ M < m ∨ 65536 < M) (t s : ByteArray) (w : World) :
    Calls Try.prog 4 #[.int .i64 m, .int .i64 M, .string t, .string s] w fun e w' => e = .returned (.bool true) ∧ Below w.heap.size w w' := by
  have CA := Lib.hid awake16_any
  have N1 := Lib.hid (pwrite_nil t)
  have N2 := Lib.hid (pread_nil s)
  have N3 := Lib.hid pbounds_nil
  have CN := Lib.hid (pnew_bad m M h)
  clear h
  go_enter Try.func4, Try.ntmps4
  go_wp2_with fail
  refine (CA.out _).mono ?_
  rintro e w1 ⟨rfl, hb⟩
  have B1 := Lib.hid hb
  clear hb
  go_wp2_with fail
  refine (N1.out w1).mono ?_
  rintro e w1' ⟨rfl, hw⟩
  obtain rfl := hw.symm
  go_wp2_with fail
  refine (N2.out w1).mono ?_
  rintro e w1' ⟨rfl, hw⟩
  obtain rfl := hw.symm
  go_wp2_with fail
  refine (N3.out w1).mono ?_
  rintro e w1' ⟨rfl, hw⟩
  obtain rfl := hw.symm
  go_wp2_with fail
  refine (CN.out w1).mono ?_
  rintro e w2 ⟨rfl, hb⟩
  have B2 := Lib.hid (below_step B1.out hb)
  clear hb
  go_wp2
  go_ret
  exact ⟨rfl, B2.out⟩

set_option maxHeartbeats 6400000 in
theorem back16_good (m M : Nat) (h1 : m ≤ M) (h2 : M ≤ 65536) (t s : ByteArray) (w : World) :
    Calls Try.prog 4 #[.int .i64 m, .int .i64 M, .string t, .string s] w fun e w' => e = .returned (.bool true) ∧ Below w.heap.size w w' := by
  have CA := Lib.hid awake16_any
  have N1 := Lib.hid (pwrite_nil t)
  have N2 := Lib.hid (pread_nil s)
  have N3 := Lib.hid pbounds_nil
  have CN := Lib.hid (pnew_good m M h1 h2)
  by_cases hl : t.size ≤ 500 ∧ s.size ≤ 500
  case neg =>
    have hh : (decide (500 < t.size) = true ∧ 500 < t.size) ∨ (decide (500 < t.size) = false ∧ t.size ≤ 500) ∧ decide (500 < s.size) = true ∧ 500 < s.size := by simp; omega
    clear hl
    rcases hh with ⟨d4, g4⟩ | ⟨⟨d4, g4⟩, d5, g5⟩
    all_goals
      go_enter Try.func4, Try.ntmps4
      go_wp2_with fail
      refine (CA.out _).mono ?_
      rintro e w1 ⟨rfl, hb⟩
      have B1 := Lib.hid hb
      clear hb
      go_wp2_with fail
      refine (N1.out w1).mono ?_
      rintro e w1' ⟨rfl, hw⟩
      obtain rfl := hw.symm
      go_wp2_with fail
      refine (N2.out w1).mono ?_
      rintro e w1' ⟨rfl, hw⟩
      obtain rfl := hw.symm
      go_wp2_with fail
      refine (N3.out w1).mono ?_
      rintro e w1' ⟨rfl, hw⟩
      obtain rfl := hw.symm
      go_wp2_with fail
      refine (CN.out w1).mono ?_
      rintro e w2 ⟨⟨d, b, rfl, hC⟩, hb⟩
      have B2 := Lib.hid (below_step B1.out hb)
      clear hb hC
      go_wp2
      go_ret
      exact ⟨rfl, B2.out⟩
  have d4 : decide (500 < t.size) = false := by simp; omega
  have d5 : decide (500 < s.size) = false := by simp; omega
  have g4 := hl.1
  have g5 := hl.2
  have CW := Lib.hid (fun d b w h => pwrite_any d b m M t w h h2)
  have CR := Lib.hid (fun d b w h => pread_any d b m M s w h h2)
  have RW := @wr_rd m M t
  have WR := @rd_wr m M s
  have CW2 := Lib.hid (fun d b w h => pwrite_any d b m M (rdL m M s) w h h2)
  have CR2 := Lib.hid (fun d b w h => pread_any d b m M (wrL m M t) w h h2)
  have hnone : rdE m M s ≠ 0 → rdL m M s = ⟨#[]⟩ := fun h => if_neg h
  clear hl
  generalize rdL m M (wrL m M t) = T at *
  generalize rdE m M (wrL m M t) = u at *
  generalize wrL m M t = E at *
  generalize wrE m M t.size = x at *
  generalize wrL m M (rdL m M s) = S at *
  generalize wrE m M (rdL m M s).size = v at *
  generalize rdL m M s = D at *
  generalize rdE m M s = y at *
  have s0 := text_same ⟨#[]⟩
  have s1 := text_same t
  have s2 := text_same s
  by_cases hx : x = 0
  · by_cases hy : y = 0
    · obtain ⟨q1, q2, q3, q4⟩ := RW hx
      subst hx q1 q2
      have d6 : decide (T.size < m) = false := by simp; omega
      have d7 : decide (M < T.size) = false := by simp; omega
      obtain ⟨p1, p2⟩ := WR hy
      subst hy p1 p2
      clear RW WR hnone
      go_enter Try.func4, Try.ntmps4
      go_wp2_with fail
      refine (CA.out _).mono ?_
      rintro e w1 ⟨rfl, hb⟩
      have B1 := Lib.hid hb
      clear hb
      go_wp2_with fail
      refine (N1.out w1).mono ?_
      rintro e w1' ⟨rfl, hw⟩
      obtain rfl := hw.symm
      go_wp2_with fail
      refine (N2.out w1).mono ?_
      rintro e w1' ⟨rfl, hw⟩
      obtain rfl := hw.symm
      go_wp2_with fail
      refine (N3.out w1).mono ?_
      rintro e w1' ⟨rfl, hw⟩
      obtain rfl := hw.symm
      go_wp2_with fail
      refine (CN.out w1).mono ?_
      rintro e w2 ⟨⟨d, b, rfl, hC⟩, hb⟩
      have HC2 := Lib.hid hC
      have B2 := Lib.hid (below_step B1.out hb)
      clear hb hC
      go_wp2_with fail
      refine (CW.out _ _ _ HC2.out).mono ?_
      rintro e w3 ⟨rfl, hb⟩
      have HC3 := Lib.hid (HC2.out.below hb)
      have B3 := Lib.hid (below_step B2.out hb)
      clear hb
      go_wp2_with fail
      refine (CR2.out _ _ _ HC3.out).mono ?_
      rintro e w4 ⟨rfl, hb⟩
      have HC4 := Lib.hid (HC3.out.below hb)
      have B4 := Lib.hid (below_step B3.out hb)
      clear hb
      go_wp2_with fail
      refine (CR.out _ _ _ HC4.out).mono ?_
      rintro e w5 ⟨rfl, hb⟩
      have HC5 := Lib.hid (HC4.out.below hb)
      have B5 := Lib.hid (below_step B4.out hb)
      clear hb
      go_wp2_with fail
      refine (CW2.out _ _ _ HC5.out).mono ?_
      rintro e w6 ⟨rfl, hb⟩
      have HC6 := Lib.hid (HC5.out.below hb)
      have B6 := Lib.hid (below_step B5.out hb)
      clear hb
      go_wp2
      go_ret
      exact ⟨rfl, B6.out⟩
    · obtain ⟨q1, q2, q3, q4⟩ := RW hx
      subst hx q1 q2
      have d6 : decide (T.size < m) = false := by simp; omega
      have d7 : decide (M < T.size) = false := by simp; omega
      have p1 := hnone hy
      subst p1
      have y1 : (y == 0) = false := by simp; omega
      have y2 : (y != 0) = true := by simp; omega
      clear RW WR hnone
      go_enter Try.func4, Try.ntmps4
      go_wp2_with fail
      refine (CA.out _).mono ?_
      rintro e w1 ⟨rfl, hb⟩
      have B1 := Lib.hid hb
      clear hb
      go_wp2_with fail
      refine (N1.out w1).mono ?_
      rintro e w1' ⟨rfl, hw⟩
      obtain rfl := hw.symm
      go_wp2_with fail
      refine (N2.out w1).mono ?_
      rintro e w1' ⟨rfl, hw⟩
      obtain rfl := hw.symm
      go_wp2_with fail
      refine (N3.out w1).mono ?_
      rintro e w1' ⟨rfl, hw⟩
      obtain rfl := hw.symm
      go_wp2_with fail
      refine (CN.out w1).mono ?_
      rintro e w2 ⟨⟨d, b, rfl, hC⟩, hb⟩
      have HC2 := Lib.hid hC
      have B2 := Lib.hid (below_step B1.out hb)
      clear hb hC
      go_wp2_with fail
      refine (CW.out _ _ _ HC2.out).mono ?_
      rintro e w3 ⟨rfl, hb⟩
      have HC3 := Lib.hid (HC2.out.below hb)
      have B3 := Lib.hid (below_step B2.out hb)
      clear hb
      go_wp2_with fail
      refine (CR2.out _ _ _ HC3.out).mono ?_
      rintro e w4 ⟨rfl, hb⟩
      have HC4 := Lib.hid (HC3.out.below hb)
      have B4 := Lib.hid (below_step B3.out hb)
      clear hb
      go_wp2_with fail
      refine (CR.out _ _ _ HC4.out).mono ?_
      rintro e w5 ⟨rfl, hb⟩
      have HC5 := Lib.hid (HC4.out.below hb)
      have B5 := Lib.hid (below_step B4.out hb)
      clear hb
      go_wp2_with fail
      refine (CW2.out _ _ _ HC5.out).mono ?_
      rintro e w6 ⟨rfl, hb⟩
      have HC6 := Lib.hid (HC5.out.below hb)
      have B6 := Lib.hid (below_step B5.out hb)
      clear hb
      go_wp2
      go_ret
      exact ⟨rfl, B6.out⟩
  · by_cases hy : y = 0
    · have x1 : (x == 0) = false := by simp; omega
      have x2 : (x != 0) = true := by simp; omega
      obtain ⟨p1, p2⟩ := WR hy
      subst hy p1 p2
      clear RW WR hnone
      go_enter Try.func4, Try.ntmps4
      go_wp2_with fail
      refine (CA.out _).mono ?_
      rintro e w1 ⟨rfl, hb⟩
      have B1 := Lib.hid hb
      clear hb
      go_wp2_with fail
      refine (N1.out w1).mono ?_
      rintro e w1' ⟨rfl, hw⟩
      obtain rfl := hw.symm
      go_wp2_with fail
      refine (N2.out w1).mono ?_
      rintro e w1' ⟨rfl, hw⟩
      obtain rfl := hw.symm
      go_wp2_with fail
      refine (N3.out w1).mono ?_
      rintro e w1' ⟨rfl, hw⟩
      obtain rfl := hw.symm
      go_wp2_with fail
      refine (CN.out w1).mono ?_
      rintro e w2 ⟨⟨d, b, rfl, hC⟩, hb⟩
      have HC2 := Lib.hid hC
      have B2 := Lib.hid (below_step B1.out hb)
      clear hb hC
      go_wp2_with fail
      refine (CW.out _ _ _ HC2.out).mono ?_
      rintro e w3 ⟨rfl, hb⟩
      have HC3 := Lib.hid (HC2.out.below hb)
      have B3 := Lib.hid (below_step B2.out hb)
      clear hb
      go_wp2_with fail
      refine (CR.out _ _ _ HC3.out).mono ?_
      rintro e w4 ⟨rfl, hb⟩
      have HC4 := Lib.hid (HC3.out.below hb)
      have B4 := Lib.hid (below_step B3.out hb)
      clear hb
      go_wp2_with fail
      refine (CW2.out _ _ _ HC4.out).mono ?_
      rintro e w5 ⟨rfl, hb⟩
      have HC5 := Lib.hid (HC4.out.below hb)
      have B5 := Lib.hid (below_step B4.out hb)
      clear hb
      go_wp2
      go_ret
      exact ⟨rfl, B5.out⟩
    · have x1 : (x == 0) = false := by simp; omega
      have x2 : (x != 0) = true := by simp; omega
      have p1 := hnone hy
      subst p1
      have y1 : (y == 0) = false := by simp; omega
      have y2 : (y != 0) = true := by simp; omega
      clear RW WR hnone
      go_enter Try.func4, Try.ntmps4
      go_wp2_with fail
      refine (CA.out _).mono ?_
      rintro e w1 ⟨rfl, hb⟩
      have B1 := Lib.hid hb
      clear hb
      go_wp2_with fail
      refine (N1.out w1).mono ?_
      rintro e w1' ⟨rfl, hw⟩
      obtain rfl := hw.symm
      go_wp2_with fail
      refine (N2.out w1).mono ?_
      rintro e w1' ⟨rfl, hw⟩
      obtain rfl := hw.symm
      go_wp2_with fail
      refine (N3.out w1).mono ?_
      rintro e w1' ⟨rfl, hw⟩
      obtain rfl := hw.symm
      go_wp2_with fail
      refine (CN.out w1).mono ?_
      rintro e w2 ⟨⟨d, b, rfl, hC⟩, hb⟩
      have HC2 := Lib.hid hC
      have B2 := Lib.hid (below_step B1.out hb)
      clear hb hC
      go_wp2_with fail
      refine (CW.out _ _ _ HC2.out).mono ?_
      rintro e w3 ⟨rfl, hb⟩
      have HC3 := Lib.hid (HC2.out.below hb)
      have B3 := Lib.hid (below_step B2.out hb)
      clear hb
      go_wp2_with fail
      refine (CR.out _ _ _ HC3.out).mono ?_
      rintro e w4 ⟨rfl, hb⟩
      have HC4 := Lib.hid (HC3.out.below hb)
      have B4 := Lib.hid (below_step B3.out hb)
      clear hb
      go_wp2_with fail
      refine (CW2.out _ _ _ HC4.out).mono ?_
      rintro e w5 ⟨rfl, hb⟩
      have HC5 := Lib.hid (HC4.out.below hb)
      have B5 := Lib.hid (below_step B4.out hb)
      clear hb
      go_wp2
      go_ret
      exact ⟨rfl, B5.out⟩

theorem back16_any (m M : Int) (t s : ByteArray) (w : World) :
    Calls Try.prog 4 #[.int .i64 m, .int .i64 M, .string t, .string s] w fun e w' => e = .returned (.bool true) ∧ Below w.heap.size w w' := by
  by_cases h : m < 0 ∨ M < m ∨ 65536 < M
  · exact back16_bad m M h t s w
  · obtain ⟨a, rfl⟩ : ∃ a : Nat, m = (a : Int) := ⟨m.toNat, by omega⟩
    obtain ⟨b, rfl⟩ : ∃ b : Nat, M = (b : Int) := ⟨M.toNat, by omega⟩
    exact back16_good a b (by omega) (by omega) t s w
end Go.Proofs.Ytjejhjlpaijolaa

/- The law Plain64Codes by the calls' contracts. Condition: no text is longer than what may come in. -/
import Derived.Test.YtjejhjlpaijolaaPlRef
namespace Go.Proofs.Ytjejhjlpaijolaa
set_option maxRecDepth 50000
open Go.RowKit Sx

/-- lengths that may be, or not -/
theorem codes16_bad (m M : Int) (h : m < 0 ∨ M < m ∨ 65536 < M) (t s : ByteArray) (w : World) :
    Calls Try.prog 3 #[.int .i64 m, .int .i64 M, .string t, .string s] w fun e w' => e = .returned (.bool true) ∧ Below w.heap.size w w' := by
  have CA := Lib.hid awake16_any
  have CN := Lib.hid (pnew_bad m M h)
  have hh : (decide (m < 0) = true ∧ m < 0) ∨ (decide (m < 0) = false ∧ 0 ≤ m) ∧ decide (M < m) = true ∧ M < m ∨ (decide (m < 0) = false ∧ 0 ≤ m) ∧ (decide (M < m) = false ∧ m ≤ M) ∧ decide (65536 < M) = true ∧ 65536 < M := by simp; omega
  rcases hh with ⟨d1, g1⟩ | ⟨⟨d1, g1⟩, d2, g2⟩ | ⟨⟨d1, g1⟩, ⟨d2, g2⟩, d3, g3⟩
  all_goals
    clear h
    go_enter Try.func3, Try.ntmps3
    go_wp2_with fail
    refine (CA.out _).mono ?_
    rintro e w1 ⟨rfl, hb⟩
    have B1 := Lib.hid hb
    clear hb
    go_wp2_with fail
    refine (CN.out w1).mono ?_
    rintro e w2 ⟨rfl, hb⟩
    have B2 := Lib.hid (below_step B1.out hb)
    clear hb
    go_wp2
    go_ret
    exact ⟨rfl, B2.out⟩

set_option maxHeartbeats 3200000 in
theorem codes16_good (m M : Nat) (h1 : m ≤ M) (h2 : M ≤ 65536) (t s : ByteArray) (w : World) :
    Calls Try.prog 3 #[.int .i64 m, .int .i64 M, .string t, .string s] w fun e w' => e = .returned (.bool true) ∧ Below w.heap.size w w' := by
  have CA := Lib.hid awake16_any
  have CN := Lib.hid (pnew_good m M h1 h2)
  have d1 : decide ((m : Int) < 0) = false := by simp
  have d2 : decide (M < m) = false := by simp; omega
  have d3 : decide (65536 < M) = false := by simp; omega
  by_cases hl : t.size ≤ 500 ∧ s.size ≤ 500
  case neg =>
    have hh : (decide (500 < t.size) = true ∧ 500 < t.size) ∨ (decide (500 < t.size) = false ∧ t.size ≤ 500) ∧ decide (500 < s.size) = true ∧ 500 < s.size := by simp; omega
    clear hl
    rcases hh with ⟨d4, g4⟩ | ⟨⟨d4, g4⟩, d5, g5⟩
    all_goals
      go_enter Try.func3, Try.ntmps3
      go_wp2_with fail
      refine (CA.out _).mono ?_
      rintro e w1 ⟨rfl, hb⟩
      have B1 := Lib.hid hb
      clear hb
      go_wp2_with fail
      refine (CN.out w1).mono ?_
      rintro e w2 ⟨⟨d, b, rfl, hC⟩, hb⟩
      have B2 := Lib.hid (below_step B1.out hb)
      clear hb hC
      go_wp2
      go_ret
      exact ⟨rfl, B2.out⟩
  have d4 : decide (500 < t.size) = false := by simp; omega
  have d5 : decide (500 < s.size) = false := by simp; omega
  have g4 := hl.1
  have g5 := hl.2
  have CW := Lib.hid (fun d b w h => pwrite_any d b m M t w h h2)
  have CRW := Lib.hid (fun w => rwrite_any m M t g4 w)
  have CR := Lib.hid (fun d b w h => pread_any d b m M s w h h2)
  have CRR := Lib.hid (fun w => rread_any m M h2 s g5 w)
  have CB := Lib.hid (fun d b w h => pbounds_any d b m M w h h1 h2)
  have C1 := Lib.hid (fun w => rmany_any m (by omega) w)
  have C2 := Lib.hid (fun w => rmany_any M (by omega) w)
  generalize wrL m M t = E at *
  generalize wrE m M t.size = x at *
  generalize rdL m M s = D at *
  generalize rdE m M s = y at *
  generalize ne m = p at *
  generalize ne M = q at *
  have s1 := text_same E
  have s2 := text_same D
  have x1 : (x == x) = true := by simp
  have y1 : (y == y) = true := by simp
  clear hl
  go_enter Try.func3, Try.ntmps3
  go_wp2_with fail
  refine (CA.out _).mono ?_
  rintro e w1 ⟨rfl, hb⟩
  have B1 := Lib.hid hb
  clear hb
  go_wp2_with fail
  refine (CN.out w1).mono ?_
  rintro e w2 ⟨⟨d, b, rfl, hC⟩, hb⟩
  have HC2 := Lib.hid hC
  have B2 := Lib.hid (below_step B1.out hb)
  clear hb hC
  go_wp2_with fail
  refine (CW.out _ _ _ HC2.out).mono ?_
  rintro e w3 ⟨rfl, hb⟩
  have HC3 := Lib.hid (HC2.out.below hb)
  have B3 := Lib.hid (below_step B2.out hb)
  clear hb
  go_wp2_with fail
  refine (CRW.out _).mono ?_
  rintro e w4 ⟨rfl, hb⟩
  have HC4 := Lib.hid (HC3.out.below hb)
  have B4 := Lib.hid (below_step B3.out hb)
  clear hb
  go_wp2_with fail
  refine (CR.out _ _ _ HC4.out).mono ?_
  rintro e w5 ⟨rfl, hb⟩
  have HC5 := Lib.hid (HC4.out.below hb)
  have B5 := Lib.hid (below_step B4.out hb)
  clear hb
  go_wp2_with fail
  refine (CRR.out _).mono ?_
  rintro e w6 ⟨rfl, hb⟩
  have HC6 := Lib.hid (HC5.out.below hb)
  have B6 := Lib.hid (below_step B5.out hb)
  clear hb
  go_wp2_with fail
  refine (CB.out _ _ _ HC6.out).mono ?_
  rintro e w7 ⟨rfl, hw⟩
  have B7 : Hid (Below w.heap.size w w7) := Lib.hid (by rw [hw]; exact B6.out.drew)
  clear hw
  go_wp2_with fail
  refine (C1.out _).mono ?_
  rintro e w7' ⟨rfl, hw⟩
  obtain rfl := hw
  go_wp2_with fail
  refine (C2.out _).mono ?_
  rintro e w7' ⟨rfl, hw⟩
  obtain rfl := hw
  go_wp2
  go_ret
  exact ⟨rfl, B7.out⟩

theorem codes16_any (m M : Int) (t s : ByteArray) (w : World) :
    Calls Try.prog 3 #[.int .i64 m, .int .i64 M, .string t, .string s] w fun e w' => e = .returned (.bool true) ∧ Below w.heap.size w w' := by
  by_cases h : m < 0 ∨ M < m ∨ 65536 < M
  · exact codes16_bad m M h t s w
  · obtain ⟨a, rfl⟩ : ∃ a : Nat, m = (a : Int) := ⟨m.toNat, by omega⟩
    obtain ⟨b, rfl⟩ : ∃ b : Nat, M = (b : Int) := ⟨M.toNat, by omega⟩
    exact codes16_good a b (by omega) (by omega) t s w
end Go.Proofs.Ytjejhjlpaijolaa

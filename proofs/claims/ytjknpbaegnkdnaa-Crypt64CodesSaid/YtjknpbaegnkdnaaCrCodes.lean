/- The law Crypt64Codes by the calls' contracts. No condition. -/
import Derived.Test.YtjknpbaegnkdnaaCrRef
namespace Go.Proofs.Ytjknpbaegnkdnaa
set_option maxRecDepth 50000
open Go.RowKit Sx

set_option maxHeartbeats 3200000 in
theorem codes17_any (t u s : ByteArray) (w : World) :
    Calls Try.prog 3 #[.string t, .string u, .string s] w fun e w' => e = .returned (.bool true) ∧ Below w.heap.size w w' := by
  have CA := Lib.hid awake17_any
  by_cases hl : t.size ≤ 100 ∧ u.size ≤ 100 ∧ s.size ≤ 200
  case neg =>
    have hh : (decide (100 < t.size) = true ∧ 100 < t.size) ∨ (decide (100 < t.size) = false ∧ t.size ≤ 100) ∧ (decide (100 < u.size) = true ∧ 100 < u.size) ∨ (decide (100 < t.size) = false ∧ t.size ≤ 100) ∧ (decide (100 < u.size) = false ∧ u.size ≤ 100) ∧ decide (200 < s.size) = true ∧ 200 < s.size := by simp; omega
    clear hl
    rcases hh with ⟨d4, g4⟩ | ⟨⟨d4, g4⟩, d5, g5⟩ | ⟨⟨d4, g4⟩, ⟨d5, g5⟩, d6, g6⟩
    all_goals
      go_enter Try.func3, Try.ntmps3
      go_wp2_with fail
      refine (CA.out _).mono ?_
      rintro e w1 ⟨rfl, hb⟩
      have B1 := Lib.hid hb
      clear hb
      go_wp2
      go_ret
      exact ⟨rfl, B1.out⟩
  have d4 : decide (100 < t.size) = false := by simp; omega
  have d5 : decide (100 < u.size) = false := by simp; omega
  have d6 : decide (200 < s.size) = false := by simp; omega
  have g4 := hl.1
  have g5 := hl.2.1
  have g6 := hl.2.2
  have CN := Lib.hid cnew_any
  have CJ := Lib.hid (fun d b w h => cjoin_any d b t u w h)
  have CRJ := Lib.hid (fun w => rjoin_any t u w)
  have CP := Lib.hid (fun d b w h => cpart_any d b s w h)
  have CRP := Lib.hid (fun w => rpart_any s w)
  generalize jnL t u = E at *
  generalize jnE t u = x at *
  generalize ptA s = A at *
  generalize ptB s = B at *
  generalize ptE s = y at *
  have s1 := text_same E
  have s2 := text_same A
  have s3 := text_same B
  have x1 : (x == x) = true := by simp
  have y1 : (y == y) = true := by simp
  clear hl
  go_enter Try.func3, Try.ntmps3
  go_wp2_with fail
  refine (CA.out _).mono ?_
  rintro e w1 ⟨rfl, hb⟩
  have B1 := Lib.hid hb
  clear hb
  go_wp2_with fail
  refine (CN.out w1).mono ?_
  rintro e w2 ⟨⟨d, b, rfl, hC⟩, hb⟩
  have HC2 := Lib.hid hC
  have B2 := Lib.hid (below_step B1.out hb)
  clear hb hC
  go_wp2_with fail
  refine (CJ.out _ _ _ HC2.out).mono ?_
  rintro e w3 ⟨rfl, hb⟩
  have HC3 := Lib.hid (HC2.out.below hb)
  have B3 := Lib.hid (below_step B2.out hb)
  clear hb
  go_wp2_with fail
  refine (CRJ.out _).mono ?_
  rintro e w4 ⟨rfl, hb⟩
  have HC4 := Lib.hid (HC3.out.below hb)
  have B4 := Lib.hid (below_step B3.out hb)
  clear hb
  go_wp2_with fail
  refine (CP.out _ _ _ HC4.out).mono ?_
  rintro e w5 ⟨rfl, hb⟩
  have HC5 := Lib.hid (HC4.out.below hb)
  have B5 := Lib.hid (below_step B4.out hb)
  clear hb
  go_wp2_with fail
  refine (CRP.out _).mono ?_
  rintro e w6 ⟨rfl, hb⟩
  have HC6 := Lib.hid (HC5.out.below hb)
  have B6 := Lib.hid (below_step B5.out hb)
  clear hb
  go_wp2
  go_ret
  exact ⟨rfl, B6.out⟩
end Go.Proofs.Ytjknpbaegnkdnaa

/- The law Crypt64Back by the calls' contracts. No condition. -/
import Derived.Test.YtjknpbaegnkdnaaCrRef
namespace Go.Proofs.Ytjknpbaegnkdnaa
set_option maxRecDepth 50000
open Go.RowKit Sx

set_option maxHeartbeats 6400000 in
theorem back17_any (t u s : ByteArray) (w : World) :
    Calls Try.prog 4 #[.string t, .string u, .string s] w fun e w' => e = .returned (.bool true) ∧ Below w.heap.size w w' := by
  have CA := Lib.hid awake17_any
  have N1 := Lib.hid (cjoin_nil t u)
  have N2 := Lib.hid (cpart_nil s)
  have CN := Lib.hid cnew_any
  have CJ := Lib.hid (fun d b w h => cjoin_any d b t u w h)
  have CP := Lib.hid (fun d b w h => cpart_any d b s w h)
  have CP2 := Lib.hid (fun d b w h => cpart_any d b (jnL t u) w h)
  have CJ2 := Lib.hid (fun d b w h => cjoin_any d b (ptA s) (ptB s) w h)
  have JP := @jn_pt t u
  have PJ := @pt_jn s
  have hnone := @pt_none s
  generalize ptA (jnL t u) = T at *
  generalize ptB (jnL t u) = U at *
  generalize ptE (jnL t u) = z at *
  generalize jnL t u = E at *
  generalize jnE t u = x at *
  generalize jnL (ptA s) (ptB s) = S at *
  generalize jnE (ptA s) (ptB s) = v at *
  generalize ptA s = A at *
  generalize ptB s = B at *
  generalize ptE s = y at *
  have s0 := text_same ⟨#[]⟩
  have s1 := text_same t
  have s2 := text_same u
  have s3 := text_same s
  by_cases hx : x = 0
  · obtain ⟨q1, q2, q3, q4⟩ := JP hx
    subst hx q1 q2 q3
    have d6 : ((E.size : Int) == 53) = true := by simp; omega
    have d7 : ((E.size : Int) != 53) = false := by simp; omega
    by_cases hy : y = 0
    · obtain ⟨p1, p2⟩ := PJ hy
      subst hy p1 p2
      clear JP PJ hnone
      go_enter Try.func4, Try.ntmps4
      go_wp2_with fail
      refine (CA.out _).mono ?_
      rintro e w1 ⟨rfl, hb⟩
      have B1 := Lib.hid hb
      clear hb
      go_wp2_with fail
      refine (N1.out w1).mono ?_
      rintro e w1' ⟨rfl, hw⟩
      obtain rfl := hw.symm
      go_wp2_with fail
      refine (N2.out w1).mono ?_
      rintro e w1' ⟨rfl, hw⟩
      obtain rfl := hw.symm
      go_wp2_with fail
      refine (CN.out w1).mono ?_
      rintro e w2 ⟨⟨d, b, rfl, hC⟩, hb⟩
      have HC2 := Lib.hid hC
      have B2 := Lib.hid (below_step B1.out hb)
      clear hb hC
      go_wp2_with fail
      refine (CJ.out _ _ _ HC2.out).mono ?_
      rintro e w3 ⟨rfl, hb⟩
      have HC3 := Lib.hid (HC2.out.below hb)
      have B3 := Lib.hid (below_step B2.out hb)
      clear hb
      go_wp2_with fail
      refine (CP2.out _ _ _ HC3.out).mono ?_
      rintro e w4 ⟨rfl, hb⟩
      have HC4 := Lib.hid (HC3.out.below hb)
      have B4 := Lib.hid (below_step B3.out hb)
      clear hb
      go_wp2_with fail
      refine (CP.out _ _ _ HC4.out).mono ?_
      rintro e w5 ⟨rfl, hb⟩
      have HC5 := Lib.hid (HC4.out.below hb)
      have B5 := Lib.hid (below_step B4.out hb)
      clear hb
      go_wp2_with fail
      refine (CJ2.out _ _ _ HC5.out).mono ?_
      rintro e w6 ⟨rfl, hb⟩
      have HC6 := Lib.hid (HC5.out.below hb)
      have B6 := Lib.hid (below_step B5.out hb)
      clear hb
      go_wp2
      go_ret
      exact ⟨rfl, B6.out⟩
    · obtain ⟨p1, p2⟩ := hnone hy
      subst p1 p2
      have y1 : (y == 0) = false := by simpa using hy
      have y2 : (y != 0) = true := by simpa using hy
      clear JP PJ hnone hy
      go_enter Try.func4, Try.ntmps4
      go_wp2_with fail
      refine (CA.out _).mono ?_
      rintro e w1 ⟨rfl, hb⟩
      have B1 := Lib.hid hb
      clear hb
      go_wp2_with fail
      refine (N1.out w1).mono ?_
      rintro e w1' ⟨rfl, hw⟩
      obtain rfl := hw.symm
      go_wp2_with fail
      refine (N2.out w1).mono ?_
      rintro e w1' ⟨rfl, hw⟩
      obtain rfl := hw.symm
      go_wp2_with fail
      refine (CN.out w1).mono ?_
      rintro e w2 ⟨⟨d, b, rfl, hC⟩, hb⟩
      have HC2 := Lib.hid hC
      have B2 := Lib.hid (below_step B1.out hb)
      clear hb hC
      go_wp2_with fail
      refine (CJ.out _ _ _ HC2.out).mono ?_
      rintro e w3 ⟨rfl, hb⟩
      have HC3 := Lib.hid (HC2.out.below hb)
      have B3 := Lib.hid (below_step B2.out hb)
      clear hb
      go_wp2_with fail
      refine (CP2.out _ _ _ HC3.out).mono ?_
      rintro e w4 ⟨rfl, hb⟩
      have HC4 := Lib.hid (HC3.out.below hb)
      have B4 := Lib.hid (below_step B3.out hb)
      clear hb
      go_wp2_with fail
      refine (CP.out _ _ _ HC4.out).mono ?_
      rintro e w5 ⟨rfl, hb⟩
      have HC5 := Lib.hid (HC4.out.below hb)
      have B5 := Lib.hid (below_step B4.out hb)
      clear hb
      go_wp2
      go_ret
      exact ⟨rfl, B5.out⟩
  · have x1 : (x == 0) = false := by simpa using hx
    have x2 : (x != 0) = true := by simpa using hx
    by_cases hy : y = 0
    · obtain ⟨p1, p2⟩ := PJ hy
      subst hy p1 p2
      clear JP PJ hnone hx
      go_enter Try.func4, Try.ntmps4
      go_wp2_with fail
      refine (CA.out _).mono ?_
      rintro e w1 ⟨rfl, hb⟩
      have B1 := Lib.hid hb
      clear hb
      go_wp2_with fail
      refine (N1.out w1).mono ?_
      rintro e w1' ⟨rfl, hw⟩
      obtain rfl := hw.symm
      go_wp2_with fail
      refine (N2.out w1).mono ?_
      rintro e w1' ⟨rfl, hw⟩
      obtain rfl := hw.symm
      go_wp2_with fail
      refine (CN.out w1).mono ?_
      rintro e w2 ⟨⟨d, b, rfl, hC⟩, hb⟩
      have HC2 := Lib.hid hC
      have B2 := Lib.hid (below_step B1.out hb)
      clear hb hC
      go_wp2_with fail
      refine (CJ.out _ _ _ HC2.out).mono ?_
      rintro e w3 ⟨rfl, hb⟩
      have HC3 := Lib.hid (HC2.out.below hb)
      have B3 := Lib.hid (below_step B2.out hb)
      clear hb
      go_wp2_with fail
      refine (CP.out _ _ _ HC3.out).mono ?_
      rintro e w4 ⟨rfl, hb⟩
      have HC4 := Lib.hid (HC3.out.below hb)
      have B4 := Lib.hid (below_step B3.out hb)
      clear hb
      go_wp2_with fail
      refine (CJ2.out _ _ _ HC4.out).mono ?_
      rintro e w5 ⟨rfl, hb⟩
      have HC5 := Lib.hid (HC4.out.below hb)
      have B5 := Lib.hid (below_step B4.out hb)
      clear hb
      go_wp2
      go_ret
      exact ⟨rfl, B5.out⟩
    · obtain ⟨p1, p2⟩ := hnone hy
      subst p1 p2
      have y1 : (y == 0) = false := by simpa using hy
      have y2 : (y != 0) = true := by simpa using hy
      clear JP PJ hnone hx hy
      go_enter Try.func4, Try.ntmps4
      go_wp2_with fail
      refine (CA.out _).mono ?_
      rintro e w1 ⟨rfl, hb⟩
      have B1 := Lib.hid hb
      clear hb
      go_wp2_with fail
      refine (N1.out w1).mono ?_
      rintro e w1' ⟨rfl, hw⟩
      obtain rfl := hw.symm
      go_wp2_with fail
      refine (N2.out w1).mono ?_
      rintro e w1' ⟨rfl, hw⟩
      obtain rfl := hw.symm
      go_wp2_with fail
      refine (CN.out w1).mono ?_
      rintro e w2 ⟨⟨d, b, rfl, hC⟩, hb⟩
      have HC2 := Lib.hid hC
      have B2 := Lib.hid (below_step B1.out hb)
      clear hb hC
      go_wp2_with fail
      refine (CJ.out _ _ _ HC2.out).mono ?_
      rintro e w3 ⟨rfl, hb⟩
      have HC3 := Lib.hid (HC2.out.below hb)
      have B3 := Lib.hid (below_step B2.out hb)
      clear hb
      go_wp2_with fail
      refine (CP.out _ _ _ HC3.out).mono ?_
      rintro e w4 ⟨rfl, hb⟩
      have HC4 := Lib.hid (HC3.out.below hb)
      have B4 := Lib.hid (below_step B3.out hb)
      clear hb
      go_wp2
      go_ret
      exact ⟨rfl, B4.out⟩
end Go.Proofs.Ytjknpbaegnkdnaa

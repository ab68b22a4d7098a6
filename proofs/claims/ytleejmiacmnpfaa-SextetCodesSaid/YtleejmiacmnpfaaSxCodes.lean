/- The law SextetCodes by the calls' contracts. Condition: no text is longer than what may come in. -/
import Derived.Test.YtleejmiacmnpfaaSxAwake
namespace Go.Proofs.Ytleejmiacmnpfaa
set_option maxRecDepth 50000
open Go.RowKit Sx

set_option maxHeartbeats 3200000 in
theorem codes_any (t : ByteArray) (A : Option Addr) (c : Nat) (ss : List ByteArray) (s : ByteArray) (hss : ∀ s ∈ ss, s.size ≤ 140737488351232) (hs : s.size ≤ 140737488351232) (w : World) (hr : Reads w w.heap.size A (stv ss)) :
    Calls Try.prog 3 #[.string t, .slice A ss.length c, .string s] w fun e w' => e = .returned (.bool true) ∧ Below w.heap.size w w' := by
  have CA := Lib.hid awake_any
  have HR := Lib.hid hr
  have HSS := Lib.hid hss
  clear hr hss
  by_cases h0 : t.size ≤ 200
  case neg =>
    have d0 : decide ((200 : Int) < (t.size : Int)) = true := by simp; omega
    go_enter Try.func3, Try.ntmps3
    go_wp2_with fail
    refine (CA.out _).mono ?_
    rintro e w1 ⟨rfl, hb⟩
    have B1 := Lib.hid hb
    clear hb
    go_wp2
    go_ret
    exact ⟨rfl, B1.out⟩
  have d0 : decide ((200 : Int) < (t.size : Int)) = false := by simp; omega
  by_cases h1 : ss.length ≤ 20
  case neg =>
    have d1 : decide ((20 : Int) < (ss.length : Int)) = true := by simp; omega
    go_enter Try.func3, Try.ntmps3
    go_wp2_with fail
    refine (CA.out _).mono ?_
    rintro e w1 ⟨rfl, hb⟩
    have B1 := Lib.hid hb
    clear hb
    go_wp2
    go_ret
    exact ⟨rfl, B1.out⟩
  have d1 : decide ((20 : Int) < (ss.length : Int)) = false := by simp; omega
  have CB := Lib.hid (fun w => bytes_any A c ss w (hn := by omega) (hs := HSS.out))
  by_cases h2 : (jn ss).length ≤ 300
  case neg =>
    have d2 : decide ((300 : Int) < ((jn ss).length : Int)) = true := by simp; omega
    generalize (jn ss).length = N at *
    go_enter Try.func3, Try.ntmps3
    go_wp2_with fail
    refine (CA.out _).mono ?_
    rintro e w1 ⟨rfl, hb⟩
    have B1 := Lib.hid hb
    clear hb
    go_wp2_with fail
    refine (CB.out w1 ((HR.out.below B1.out).more B1.out.size)).mono ?_
    rintro e w1' ⟨rfl, rfl⟩
    go_wp2
    go_ret
    exact ⟨rfl, B1.out⟩
  have d2 : decide ((300 : Int) < ((jn ss).length : Int)) = false := by simp; omega
  by_cases h3 : s.size ≤ 300
  case neg =>
    have d3 : decide ((300 : Int) < (s.size : Int)) = true := by simp; omega
    generalize (jn ss).length = N at *
    go_enter Try.func3, Try.ntmps3
    go_wp2_with fail
    refine (CA.out _).mono ?_
    rintro e w1 ⟨rfl, hb⟩
    have B1 := Lib.hid hb
    clear hb
    go_wp2_with fail
    refine (CB.out w1 ((HR.out.below B1.out).more B1.out.size)).mono ?_
    rintro e w1' ⟨rfl, rfl⟩
    go_wp2
    go_ret
    exact ⟨rfl, B1.out⟩
  have d3 : decide ((300 : Int) < (s.size : Int)) = false := by simp; omega
  have CL := Lib.hid (rletters_any t)
  by_cases hE : lettE (tl t) = 0
  · have CN := Lib.hid (new_good t hE)
    rw [hE] at CL
    have hf := lettE_fine hE
    have hts : t.size = 64 := by rw [← tl_length]; exact hf.1
    have CD := Lib.hid (fun b w hC => decode_any b (tl t) s w hC hf hs)
    have CRD := Lib.hid (rdecode_any t s hf (by omega))
    have CE := Lib.hid (fun b w hC h => encode_any b (tl t) A c ss (by omega) w hC h (by omega))
    have CJ := Lib.hid (fun w => joined_any A c ss w (hn := by omega) (hs := by omega))
    have CRE := Lib.hid (rencode_any t (tx (jn ss)) hts (by rw [tx_size]; omega))
    rw [tl_tx] at CRE
    generalize tx (jn ss) = J at *
    generalize tx (enc (tl t) (jn ss)) = E at *
    generalize tx (decL (tl t) (tl s)) = D at *
    generalize decE (tl t) (tl s) = x at *
    generalize (jn ss).length = N at *
    have s1 := text_same E
    have s2 := text_same D
    have x1 : (x == x) = true := by simp
    clear hE hf hts
    go_enter Try.func3, Try.ntmps3
    go_wp2_with fail
    refine (CA.out _).mono ?_
    rintro e w1 ⟨rfl, hb⟩
    have B1 := Lib.hid hb
    clear hb
    go_wp2_with fail
    refine (CB.out w1 ((HR.out.below B1.out).more B1.out.size)).mono ?_
    rintro e w1' ⟨rfl, rfl⟩
    go_wp2_with fail
    refine (CN.out w1).mono ?_
    rintro e w2 ⟨rfl, hC, hb⟩
    have HC2 := Lib.hid hC
    have B2 := Lib.hid (below_step B1.out hb)
    clear hC hb
    go_wp2_with fail
    refine (CL.out _).mono ?_
    rintro e w2' ⟨rfl, hw⟩
    obtain rfl := hw.symm
    go_wp2_with fail
    refine (CD.out _ _ HC2.out).mono ?_
    rintro e w3 ⟨rfl, hb⟩
    have HC3 := Lib.hid (HC2.out.below hb HC2.out.lt)
    have B3 := Lib.hid (below_step B2.out hb)
    clear hb
    go_wp2_with fail
    refine (CRD.out _).mono ?_
    rintro e w4 ⟨rfl, hb⟩
    have HC4 := Lib.hid (HC3.out.below hb HC3.out.lt)
    have B4 := Lib.hid (below_step B3.out hb)
    clear hb
    go_wp2_with fail
    refine (CE.out _ _ HC4.out ((HR.out.below B4.out).more B4.out.size)).mono ?_
    rintro e w5 ⟨rfl, hb⟩
    have B5 := Lib.hid (below_step B4.out hb)
    clear hb
    go_wp2_with fail
    refine (CJ.out w5 ((HR.out.below B5.out).more B5.out.size)).mono ?_
    rintro e w5' ⟨rfl, hw⟩
    obtain rfl := hw
    go_wp2_with fail
    refine (CRE.out _).mono ?_
    rintro e w6 ⟨rfl, hb⟩
    have B6 := Lib.hid (below_step B5.out hb)
    clear hb
    go_wp2
    go_ret
    exact ⟨rfl, B6.out⟩
  · have CN := Lib.hid (new_wrong t hE)
    generalize (jn ss).length = N at *
    generalize lettE (tl t) = z at *
    have z1 : (z == 0) = false := by simp; omega
    have z2 : (z != 0) = true := by simp; omega
    have z3 : (z == z) = true := by simp
    clear hE
    go_enter Try.func3, Try.ntmps3
    go_wp2_with fail
    refine (CA.out _).mono ?_
    rintro e w1 ⟨rfl, hb⟩
    have B1 := Lib.hid hb
    clear hb
    go_wp2_with fail
    refine (CB.out w1 ((HR.out.below B1.out).more B1.out.size)).mono ?_
    rintro e w1' ⟨rfl, rfl⟩
    go_wp2_with fail
    refine (CN.out w1).mono ?_
    rintro e w2 ⟨rfl, hb⟩
    have B2 := Lib.hid (below_step B1.out hb)
    clear hb
    go_wp2_with fail
    refine (CL.out _).mono ?_
    rintro e w2' ⟨rfl, hw⟩
    obtain rfl := hw.symm
    go_wp2
    go_ret
    exact ⟨rfl, B2.out⟩
end Go.Proofs.Ytleejmiacmnpfaa

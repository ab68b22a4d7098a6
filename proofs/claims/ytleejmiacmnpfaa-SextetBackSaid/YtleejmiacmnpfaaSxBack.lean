/- The law SextetBack by the calls' contracts. Condition: no text is longer than what may come in. -/
import Derived.Test.YtleejmiacmnpfaaSxAwake
namespace Go.Proofs.Ytleejmiacmnpfaa
set_option maxRecDepth 50000
open Go.RowKit Sx

set_option maxHeartbeats 6400000 in
theorem back_any (t : ByteArray) (A : Option Addr) (c : Nat) (ss : List ByteArray) (s : ByteArray) (hss : ∀ s ∈ ss, s.size ≤ 140737488351232) (hs : s.size ≤ 140737488351232) (w : World) (hr : Reads w w.heap.size A (stv ss)) :
    Calls Try.prog 5 #[.string t, .slice A ss.length c, .string s] w fun e w' => e = .returned (.bool true) ∧ Below w.heap.size w w' := by
  have CA := Lib.hid awake_any
  have HR := Lib.hid hr
  have HSS := Lib.hid hss
  clear hr hss
  by_cases hE : lettE (tl t) = 0
  case neg =>
    have CN := Lib.hid (new_wrong t hE)
    generalize lettE (tl t) = z at *
    have z1 : (z == 0) = false := by simp; omega
    have z2 : (z != 0) = true := by simp; omega
    clear hE
    go_enter Try.func5, Try.ntmps5
    go_wp2_with fail
    refine (CA.out _).mono ?_
    rintro e w1 ⟨rfl, hb⟩
    have B1 := Lib.hid hb
    clear hb
    go_wp2_with fail
    refine (CN.out w1).mono ?_
    rintro e w2 ⟨rfl, hb⟩
    have B2 := Lib.hid (below_step B1.out hb)
    clear hb
    go_wp2
    go_ret
    exact ⟨rfl, B2.out⟩
  have CN := Lib.hid (new_good t hE)
  have hf := lettE_fine hE
  clear hE
  by_cases h1 : ss.length ≤ 20
  case neg =>
    have d1 : decide ((20 : Int) < (ss.length : Int)) = true := by simp; omega
    go_enter Try.func5, Try.ntmps5
    go_wp2_with fail
    refine (CA.out _).mono ?_
    rintro e w1 ⟨rfl, hb⟩
    have B1 := Lib.hid hb
    clear hb
    go_wp2_with fail
    refine (CN.out w1).mono ?_
    rintro e w2 ⟨rfl, _, hb⟩
    have B2 := Lib.hid (below_step B1.out hb)
    clear hb
    go_wp2
    go_ret
    exact ⟨rfl, B2.out⟩
  have d1 : decide ((20 : Int) < (ss.length : Int)) = false := by simp; omega
  have CB := Lib.hid (fun w => bytes_any A c ss w (hn := by omega) (hs := HSS.out))
  by_cases h2 : (jn ss).length ≤ 300
  case neg =>
    have d2 : decide ((300 : Int) < ((jn ss).length : Int)) = true := by simp; omega
    generalize (jn ss).length = N at *
    go_enter Try.func5, Try.ntmps5
    go_wp2_with fail
    refine (CA.out _).mono ?_
    rintro e w1 ⟨rfl, hb⟩
    have B1 := Lib.hid hb
    clear hb
    go_wp2_with fail
    refine (CN.out w1).mono ?_
    rintro e w2 ⟨rfl, _, hb⟩
    have B2 := Lib.hid (below_step B1.out hb)
    clear hb
    go_wp2_with fail
    refine (CB.out w2 ((HR.out.below B2.out).more B2.out.size)).mono ?_
    rintro e w2' ⟨rfl, hw⟩
    obtain rfl := hw
    go_wp2
    go_ret
    exact ⟨rfl, B2.out⟩
  have d2 : decide ((300 : Int) < ((jn ss).length : Int)) = false := by simp; omega
  by_cases h3 : s.size ≤ 300
  case neg =>
    have d3 : decide ((300 : Int) < (s.size : Int)) = true := by simp; omega
    generalize (jn ss).length = N at *
    go_enter Try.func5, Try.ntmps5
    go_wp2_with fail
    refine (CA.out _).mono ?_
    rintro e w1 ⟨rfl, hb⟩
    have B1 := Lib.hid hb
    clear hb
    go_wp2_with fail
    refine (CN.out w1).mono ?_
    rintro e w2 ⟨rfl, _, hb⟩
    have B2 := Lib.hid (below_step B1.out hb)
    clear hb
    go_wp2_with fail
    refine (CB.out w2 ((HR.out.below B2.out).more B2.out.size)).mono ?_
    rintro e w2' ⟨rfl, hw⟩
    obtain rfl := hw
    go_wp2
    go_ret
    exact ⟨rfl, B2.out⟩
  have d3 : decide ((300 : Int) < (s.size : Int)) = false := by simp; omega
  have CE := Lib.hid (fun b w hC h => encode_any b (tl t) A c ss (by omega) w hC h (by omega))
  have hen : (tx (enc (tl t) (jn ss))).size ≤ 140737488351232 := by rw [tx_size, enc_length]; unfold ne; omega
  have CD1 := Lib.hid (fun b w hC => decode_any b (tl t) (tx (enc (tl t) (jn ss))) w hC hf hen)
  obtain ⟨r1, r2⟩ := enc_dec hf (jn ss)
  rw [tl_tx, r1, r2] at CD1
  have CJ := Lib.hid (fun w => joined_any A c ss w (hn := by omega) (hs := by omega))
  have CD2 := Lib.hid (fun b w hC => decode_any b (tl t) s w hC hf hs)
  have hdl := decL_length (tl t) (tl s)
  rw [tl_length] at hdl
  have CE2 := Lib.hid (fun b w hC => encode_one b (tl t) (tx (decL (tl t) (tl s))) w hC (by rw [tx_size]; omega))
  rw [tl_tx] at CE2
  have sJ := text_same (tx (jn ss))
  have sS := text_same s
  by_cases hx : decE (tl t) (tl s) = 0
  · have hback : tx (enc (tl t) (decL (tl t) (tl s))) = s := by rw [read_write hf hx, tx_tl]
    rw [hback] at CE2
    rw [hx] at CD2
    generalize tx (jn ss) = J at *
    generalize tx (enc (tl t) (jn ss)) = E at *
    generalize tx (decL (tl t) (tl s)) = D at *
    generalize (jn ss).length = N at *
    clear hf hx hdl hback r1 r2 hen
    go_enter Try.func5, Try.ntmps5
    go_wp2_with fail
    refine (CA.out _).mono ?_
    rintro e w1 ⟨rfl, hb⟩
    have B1 := Lib.hid hb
    clear hb
    go_wp2_with fail
    refine (CN.out w1).mono ?_
    rintro e w2 ⟨rfl, hC, hb⟩
    have HC2 := Lib.hid hC
    have B2 := Lib.hid (below_step B1.out hb)
    clear hC hb
    go_wp2_with fail
    refine (CB.out w2 ((HR.out.below B2.out).more B2.out.size)).mono ?_
    rintro e w2' ⟨rfl, hw⟩
    obtain rfl := hw
    go_wp2_with fail
    refine (CE.out _ _ HC2.out ((HR.out.below B2.out).more B2.out.size)).mono ?_
    rintro e w3 ⟨rfl, hb⟩
    have HC3 := Lib.hid (HC2.out.below hb HC2.out.lt)
    have B3 := Lib.hid (below_step B2.out hb)
    clear hb
    go_wp2_with fail
    refine (CD1.out _ _ HC3.out).mono ?_
    rintro e w4 ⟨rfl, hb⟩
    have HC4 := Lib.hid (HC3.out.below hb HC3.out.lt)
    have B4 := Lib.hid (below_step B3.out hb)
    clear hb
    go_wp2_with fail
    refine (CJ.out w4 ((HR.out.below B4.out).more B4.out.size)).mono ?_
    rintro e w4' ⟨rfl, hw⟩
    obtain rfl := hw
    go_wp2_with fail
    refine (CD2.out _ _ HC4.out).mono ?_
    rintro e w5 ⟨rfl, hb⟩
    have HC5 := Lib.hid (HC4.out.below hb HC4.out.lt)
    have B5 := Lib.hid (below_step B4.out hb)
    clear hb
    go_wp2_with fail
    refine (CE2.out _ _ HC5.out).mono ?_
    rintro e w6 ⟨rfl, hb⟩
    have B6 := Lib.hid (below_step B5.out hb)
    clear hb
    go_wp2
    go_ret
    exact ⟨rfl, B6.out⟩
  · have hnone : tx (decL (tl t) (tl s)) = ⟨#[]⟩ := by rw [decL_bad hx]; rfl
    rw [hnone] at CD2
    generalize tx (jn ss) = J at *
    generalize tx (enc (tl t) (jn ss)) = E at *
    generalize (jn ss).length = N at *
    generalize decE (tl t) (tl s) = x at *
    have x1 : (x == 0) = false := by simp; omega
    have x2 : (x != 0) = true := by simp; omega
    clear hf hx hdl hnone r1 r2 hen CE2
    go_enter Try.func5, Try.ntmps5
    go_wp2_with fail
    refine (CA.out _).mono ?_
    rintro e w1 ⟨rfl, hb⟩
    have B1 := Lib.hid hb
    clear hb
    go_wp2_with fail
    refine (CN.out w1).mono ?_
    rintro e w2 ⟨rfl, hC, hb⟩
    have HC2 := Lib.hid hC
    have B2 := Lib.hid (below_step B1.out hb)
    clear hC hb
    go_wp2_with fail
    refine (CB.out w2 ((HR.out.below B2.out).more B2.out.size)).mono ?_
    rintro e w2' ⟨rfl, hw⟩
    obtain rfl := hw
    go_wp2_with fail
    refine (CE.out _ _ HC2.out ((HR.out.below B2.out).more B2.out.size)).mono ?_
    rintro e w3 ⟨rfl, hb⟩
    have HC3 := Lib.hid (HC2.out.below hb HC2.out.lt)
    have B3 := Lib.hid (below_step B2.out hb)
    clear hb
    go_wp2_with fail
    refine (CD1.out _ _ HC3.out).mono ?_
    rintro e w4 ⟨rfl, hb⟩
    have HC4 := Lib.hid (HC3.out.below hb HC3.out.lt)
    have B4 := Lib.hid (below_step B3.out hb)
    clear hb
    go_wp2_with fail
    refine (CJ.out w4 ((HR.out.below B4.out).more B4.out.size)).mono ?_
    rintro e w4' ⟨rfl, hw⟩
    obtain rfl := hw
    go_wp2_with fail
    refine (CD2.out _ _ HC4.out).mono ?_
    rintro e w5 ⟨rfl, hb⟩
    have B5 := Lib.hid (below_step B4.out hb)
    clear hb
    go_wp2
    go_ret
    exact ⟨rfl, B5.out⟩
end Go.Proofs.Ytleejmiacmnpfaa

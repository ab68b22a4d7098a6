/- The law HexesWrites by the calls' contracts. Condition: no text is longer than what may come in. -/
import Derived.Test.YticmienihfokjaaHxReads
import Derived.Test.YticmienihfokjaaHxRwords
namespace Go.Proofs.Yticmienihfokjaa
set_option maxRecDepth 50000
open Go.RowKit Hx

set_option maxHeartbeats 3200000 in
theorem writes_any (A : Option Addr) (c : Nat) (ss : List ByteArray) (hs : ∀ s ∈ ss, s.size ≤ 140737488351232) (hsl : ss.length ≤ maxLen) (A2 : Option Addr) (c2 : Nat) (xs : List Nat) (hx : ∀ x ∈ xs, x < 4294967296) (hxl : xs.length ≤ maxLen) (w : World) (hr : Reads w w.heap.size A (stv ss)) (hr2 : Reads w w.heap.size A2 (u32s xs)) :
    Calls Try.prog 4 #[.slice A ss.length c, .slice A2 xs.length c2] w fun e w' => e = .returned (.bool true) ∧ Below w.heap.size w w' := by
  have CA := Lib.hid awake_any
  have HR := Lib.hid hr
  have HR2 := Lib.hid hr2
  have HS := Lib.hid hs
  have HX := Lib.hid hx
  unfold maxLen at hsl hxl
  clear hr hr2 hs hx
  by_cases h1 : ss.length ≤ 20
  · have d1 : decide ((20 : Int) < (ss.length : Int)) = false := by simp; omega
    by_cases h2 : (jn ss).length ≤ 300
    · have d2 : decide ((300 : Int) < ((jn ss).length : Int)) = false := by simp; omega
      by_cases h3 : xs.length ≤ 50
      · have d3 : decide ((50 : Int) < (xs.length : Int)) = false := by simp; omega
        have hjs : (tx (jn ss)).size ≤ 1000 := by rw [tx_size]; omega
        have CB := Lib.hid (fun w => bytes_any A c ss w (hn := by omega) (hs := HS.out))
        have CJ := Lib.hid (fun w => joined_any A c ss w (hn := by omega) (hs := by omega))
        have CE := Lib.hid (fun w h => encode_any A c ss (by omega) w h (fits_short ss (by omega)))
        have CW := Lib.hid (fun w => words_any A2 c2 xs (by omega) HX.out w)
        have CRW := Lib.hid (fun w => rwords_any A2 c2 xs (by omega) HX.out w)
        have CRE := Lib.hid (rencode_any _ hjs)
        have CD := Lib.hid (dash_any (tx (jn ss)) (by omega))
        have CRD := Lib.hid (rdash_any (tx (jn ss)) hjs)
        rw [tl_tx] at CRE CD CRD
        generalize tx (jn ss) = J at *
        generalize tx (enc (jn ss)) = E at *
        generalize tx (dashL (jn ss)) = D at *
        generalize tx (wl xs xs.length) = W at *
        generalize (jn ss).length = N at *
        have s1 := same_text E
        have s2 := same_text D
        have s3 := same_text W
        clear h1 h2 h3
        go_enter Try.func4, Try.ntmps4
        go_wp2_with fail
        refine (CA.out _).mono ?_
        rintro e w1 ⟨rfl, hb⟩
        have B1 := Lib.hid hb
        clear hb
        go_wp2_with fail
        refine (CB.out w1 ((HR.out.below B1.out).more B1.out.size)).mono ?_
        rintro e w1' ⟨rfl, rfl⟩
        go_wp2_with fail
        refine (CJ.out w1 ((HR.out.below B1.out).more B1.out.size)).mono ?_
        rintro e w1' ⟨rfl, rfl⟩
        go_wp2_with fail
        refine (CE.out w1 ((HR.out.below B1.out).more B1.out.size)).mono ?_
        rintro e w2 ⟨rfl, hb⟩
        have B2 := Lib.hid (below_step B1.out hb)
        clear hb
        go_wp2_with fail
        refine (CRE.out w2).mono ?_
        rintro e w3 ⟨rfl, hq⟩
        have B3 : Hid (Below w.heap.size w w3) := Lib.hid (by obtain ⟨q, rfl⟩ := hq; exact below_drewN B2.out _)
        clear hq
        go_wp2_with fail
        refine (CW.out w3 ((HR2.out.below B3.out).more B3.out.size)).mono ?_
        rintro e w4 ⟨rfl, hb⟩
        have B4 := Lib.hid (below_step B3.out hb)
        clear hb
        go_wp2_with fail
        refine (CRW.out w4 ((HR2.out.below B4.out).more B4.out.size)).mono ?_
        rintro e w4' ⟨rfl, rfl⟩
        go_wp2_with fail
        refine (CD.out _).mono ?_
        rintro e w5 ⟨rfl, hb⟩
        have B5 := Lib.hid (below_step B4.out hb)
        clear hb
        go_wp2_with fail
        refine (CRD.out _).mono ?_
        rintro e w6 ⟨rfl, hq⟩
        have B6 : Hid (Below w.heap.size w w6) := Lib.hid (by obtain ⟨q, rfl⟩ := hq; exact below_drewN B5.out _)
        clear hq
        go_wp2
        go_ret
        exact ⟨rfl, B6.out⟩
      · have d3 : decide ((50 : Int) < (xs.length : Int)) = true := by simp; omega
        have CB := Lib.hid (fun w => bytes_any A c ss w (hn := by omega) (hs := HS.out))
        generalize (jn ss).length = N at *
        clear h1 h2 h3
        go_enter Try.func4, Try.ntmps4
        go_wp2_with fail
        refine (CA.out _).mono ?_
        rintro e w1 ⟨rfl, hb⟩
        have B1 := Lib.hid hb
        clear hb
        go_wp2_with fail
        refine (CB.out w1 ((HR.out.below B1.out).more B1.out.size)).mono ?_
        rintro e w1' ⟨rfl, rfl⟩
        go_wp2
        go_ret
        exact ⟨rfl, B1.out⟩
    · have d2 : decide ((300 : Int) < ((jn ss).length : Int)) = true := by simp; omega
      have CB := Lib.hid (fun w => bytes_any A c ss w (hn := by omega) (hs := HS.out))
      generalize (jn ss).length = N at *
      clear h1 h2
      go_enter Try.func4, Try.ntmps4
      go_wp2_with fail
      refine (CA.out _).mono ?_
      rintro e w1 ⟨rfl, hb⟩
      have B1 := Lib.hid hb
      clear hb
      go_wp2_with fail
      refine (CB.out w1 ((HR.out.below B1.out).more B1.out.size)).mono ?_
      rintro e w1' ⟨rfl, rfl⟩
      go_wp2
      go_ret
      exact ⟨rfl, B1.out⟩
  · have d1 : decide ((20 : Int) < (ss.length : Int)) = true := by simp; omega
    clear h1
    go_enter Try.func4, Try.ntmps4
    go_wp2_with fail
    refine (CA.out _).mono ?_
    rintro e w1 ⟨rfl, hb⟩
    have B1 := Lib.hid hb
    clear hb
    go_wp2
    go_ret
    exact ⟨rfl, B1.out⟩
end Go.Proofs.Yticmienihfokjaa

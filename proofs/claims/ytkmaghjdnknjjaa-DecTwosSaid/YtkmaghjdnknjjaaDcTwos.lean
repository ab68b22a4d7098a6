/- The law DecTwos by the calls' contracts. Conditions: those typed. -/
import Derived.Test.YtkmaghjdnknjjaaDcAwake
import Derived.Test.YtkmaghjdnknjjaaDcList
import Derived.Test.YtkmaghjdnknjjaaArr
namespace Go.Proofs.Ytkmaghjdnknjjaa
set_option maxRecDepth 50000
open Go.RowKit De

/-- two digits are read as they were written -/
theorem twT_size (m : Nat) : (twT m).size = 2 := rfl
theorem twT_isT (m : Nat) (hm : m < 100) : isT (tl (twT m)) := by
  unfold isT twT
  rw [tl_tx]
  refine ⟨rfl, ?_⟩
  simp [alld, isd_dg (m / 10) (by omega), isd_dg (m % 10) (by omega)]
theorem below_drewn (w : World) (q : Nat) : Below w.heap.size w (w.drewN q) := below_drewN (Below.refl _ _) q
theorem readtwo_back (m : Nat) (hm : m < 100) (w : World) :
    Calls Try.prog 14 #[.string (twT m)] w fun e w' => e = .returned (.tuple #[.int .i64 (m : Int), .int .i64 0]) ∧ Below w.heap.size w w' := by
  have b0 : isd ((twT m)[0]'(by rw [twT_size]; omega)) = true := isd_dg (m / 10) (by omega)
  have b1 : isd ((twT m)[1]'(by rw [twT_size]; omega)) = true := isd_dg (m % 10) (by omega)
  have e0 : dv ((twT m)[0]'(by rw [twT_size]; omega)) = m / 10 := dv_dg (m / 10) (by omega)
  have e1 : dv ((twT m)[1]'(by rw [twT_size]; omega)) = m % 10 := dv_dg (m % 10) (by omega)
  have h := readtwo_any (twT m) rfl b0 b1 (twT_isT m hm) w
  rw [e0, e1, show 10 * (m / 10) + m % 10 = m by omega] at h
  refine h.mono ?_
  rintro e w' ⟨rfl, q, rfl⟩
  exact ⟨rfl, below_drewn w q⟩
/-- what is read is written so -/
theorem twT_back (s : ByteArray) (h : isT (tl s)) : ∃ v : Nat, v < 100 ∧ twT v = s ∧ ∀ w : World, Calls Try.prog 14 #[.string s] w fun e w' => e = .returned (.tuple #[.int .i64 (v : Int), .int .i64 0]) ∧ Below w.heap.size w w' := by
  obtain ⟨h2, b0, b1, ht⟩ := isT_ends s h
  have l0 := dv_lt b0
  have l1 := dv_lt b1
  refine ⟨10 * dv (s[0]'(by omega)) + dv (s[1]'(by omega)), by omega, ?_, fun w => (readtwo_any s h2 b0 b1 h w).mono ?_⟩
  · unfold twT
    rw [show (10 * dv (s[0]'(by omega)) + dv (s[1]'(by omega))) / 10 = dv (s[0]'(by omega)) by omega, show (10 * dv (s[0]'(by omega)) + dv (s[1]'(by omega))) % 10 = dv (s[1]'(by omega)) by omega, dg_dv b0, dg_dv b1, ← ht, tx_tl]
  · rintro e w' ⟨rfl, q, rfl⟩
    exact ⟨rfl, below_drewn w q⟩
/-- how a text is no two digits -/
def NoT (s : ByteArray) : Prop := (((s.size : Int) == 2) = false ∧ s.size ≠ 2) ∨
  ∃ h : s.size = 2, (((s.size : Int) == 2) = true) ∧ (
    (decide ((48 : Int) ≤ ((s[0]'(by omega)).toNat : Int)) = false) ∨
    (decide ((48 : Int) ≤ ((s[0]'(by omega)).toNat : Int)) = true ∧ decide (((s[0]'(by omega)).toNat : Int) ≤ 57) = false) ∨
    ((decide ((48 : Int) ≤ ((s[0]'(by omega)).toNat : Int)) = true ∧ decide (((s[0]'(by omega)).toNat : Int) ≤ 57) = true) ∧ decide ((48 : Int) ≤ ((s[1]'(by omega)).toNat : Int)) = false) ∨
    ((decide ((48 : Int) ≤ ((s[0]'(by omega)).toNat : Int)) = true ∧ decide (((s[0]'(by omega)).toNat : Int) ≤ 57) = true) ∧ decide ((48 : Int) ≤ ((s[1]'(by omega)).toNat : Int)) = true ∧ decide (((s[1]'(by omega)).toNat : Int) ≤ 57) = false))
theorem no_two (s : ByteArray) (h : ¬ isT (tl s)) : NoT s := by
  unfold NoT
  by_cases h2 : s.size = 2
  · right
    refine ⟨h2, by simp; omega, ?_⟩
    have h3 : ¬ (isd (s[0]'(by omega)) = true ∧ isd (s[1]'(by omega)) = true) := by
      rintro ⟨b0, b1⟩
      apply h
      refine ⟨by rw [tl_length]; exact h2, ?_⟩
      have e : tl s = [s[0]'(by omega), s[1]'(by omega)] := by
        apply List.ext_getElem
        · rw [tl_length]; exact h2
        · intro i h1 h2
          simp at h2
          rcases (show i = 0 ∨ i = 1 by omega) with rfl | rfl <;> rfl
      rw [e]
      simp [alld, b0, b1]
    simp only [isd, decide_eq_true_eq] at h3
    simp only [decide_eq_true_eq, decide_eq_false_iff_not]
    omega
  · left
    exact ⟨by simp; omega, h2⟩
theorem text_empty : ((⟨#[]⟩ : ByteArray).toList == []) = true ∧ ((⟨#[]⟩ : ByteArray).toList != []) = false := by rw [ByteArray.toList_eq]; exact ⟨rfl, rfl⟩

set_option maxHeartbeats 25600000 in
theorem twos18_any (n : Int) (s : ByteArray) (A : Option Addr) (c : Nat) (zs : List Int) (hz : ∀ z ∈ zs, z < 9223372036854775808) (hzl : zs.length ≤ 9223372036854775807) (w : World) (hr : Reads w w.heap.size A (i64s zs)) :
    Calls Try.prog 5 #[.int .i64 n, .string s, .slice A zs.length c] w fun e w' => e = .returned (.bool true) ∧ Below w.heap.size w w' := by
  have CA := Lib.hid awake18_any
  by_cases hlong : 20 < s.size ∨ 100 < zs.length
  · have hcase : (decide ((20 : Int) < (s.size : Int)) = true ∧ decide (20 < s.size) = true ∧ 20 < s.size) ∨ ((decide ((20 : Int) < (s.size : Int)) = false ∧ decide (20 < s.size) = false ∧ s.size ≤ 20) ∧ decide ((100 : Int) < (zs.length : Int)) = true ∧ decide (100 < zs.length) = true ∧ 100 < zs.length) := by
      simp only [decide_eq_true_eq, decide_eq_false_iff_not]; omega
    clear hlong hr
    rcases hcase with ⟨d1, d2, d3⟩ | ⟨⟨d1, d2, d3⟩, d4, d5, d6⟩
    all_goals
      go_enter Try.func5, Try.ntmps5
      go_wp2_with fail
      refine (CA.out w).mono ?_
      rintro e w1 ⟨rfl, hb⟩
      have B1 := Lib.hid hb
      clear hb
      go_wp2
      go_ret
      exact ⟨rfl, B1.out⟩
  · have d1 : decide ((20 : Int) < (s.size : Int)) = false := by simp; omega
    have d2 : decide (20 < s.size) = false := by simp; omega
    have d3 : s.size ≤ 20 := by omega
    have d4 : decide ((100 : Int) < (zs.length : Int)) = false := by simp; omega
    have d5 : decide (100 < zs.length) = false := by simp; omega
    have d6 : zs.length ≤ 100 := by omega
    have CL := Lib.hid (fun (w2 : World) (hb : Below w.heap.size w w2) => list_any s d3 A c zs d6 hz w2 ((hr.below hb).more hb.size))
    have CM := Lib.hid (fun (w2 : World) (hb : Below w.heap.size w w2) => rlist_any s d3 A c zs d6 hz w2 ((hr.below hb).more hb.size))
    have t1 := text_same (tx (liT s zs zs.length))
    have t2 := text_same s
    obtain ⟨t3, t4⟩ := text_empty
    generalize tx (liT s zs zs.length) = L at *
    clear hlong hr hz hzl
    have hcase : ((n < 0 ∨ 99 < n) ∧ ((decide (n < 0) = true ∧ n < 0) ∨ (decide (n < 0) = false ∧ 0 ≤ n ∧ decide (99 < n) = true ∧ 99 < n))) ∨ (∃ m : Nat, n = (m : Int) ∧ m < 100) := by
      by_cases h : n < 0 ∨ 99 < n
      · left; refine ⟨h, ?_⟩; simp only [decide_eq_true_eq, decide_eq_false_iff_not]; omega
      · right; exact ⟨n.toNat, by omega, by omega⟩
    rcases hcase with ⟨h, hc⟩ | ⟨m, rfl, hm⟩
    · have CW := Lib.hid (two_bad n h)
      clear h
      by_cases hT : isT (tl s)
      · obtain ⟨v, hv, hvs, CV0⟩ := twT_back s hT
        have CV := Lib.hid CV0
        have CX := Lib.hid (fun w => two_nat v hv w)
        rw [hvs] at CX
        clear CV0 hvs hv hT
        rcases hc with ⟨c1, c2⟩ | ⟨c1, c2, c3, c4⟩
        all_goals
          go_enter Try.func5, Try.ntmps5
          go_wp2_with fail
          refine (CA.out w).mono ?_
          rintro e w1 ⟨rfl, hb⟩
          have B1 := Lib.hid hb
          clear hb
          go_wp2_with fail
          refine (CW.out w1).mono ?_
          rintro e wx ⟨rfl, hw⟩
          obtain rfl := hw.symm
          go_wp2_with fail
          refine (CV.out w1).mono ?_
          rintro e w4 ⟨rfl, hb⟩
          have B4 := Lib.hid (below_step B1.out hb)
          clear hb
          go_wp2_with fail
          refine (CX.out w4).mono ?_
          rintro e w5 ⟨rfl, hb⟩
          have B5 := Lib.hid (below_step B4.out hb)
          clear hb
          go_wp2_with fail
          refine (CL.out w5 B5.out).mono ?_
          rintro e w6 ⟨rfl, hb⟩
          have B6 := Lib.hid (below_step B5.out hb)
          clear hb
          go_wp2_with fail
          refine (CM.out w6 B6.out).mono ?_
          rintro e wx ⟨rfl, hw⟩
          obtain rfl := hw.symm
          go_wp2
          go_ret
          exact ⟨rfl, B6.out⟩
      · have CV := Lib.hid (fun w => readtwo_bad s (by omega) hT w)
        have hN := no_two s hT
        clear hT
        rcases hc with ⟨c1, c2⟩ | ⟨c1, c2, c3, c4⟩
        all_goals
          rcases hN with ⟨f1, f2⟩ | ⟨h2, f1, g1 | ⟨g1, g2⟩ | ⟨⟨g1, g2⟩, g3⟩ | ⟨⟨g1, g2⟩, g3, g4⟩⟩
          all_goals
            go_enter Try.func5, Try.ntmps5
            go_wp2_with fail
            refine (CA.out w).mono ?_
            rintro e w1 ⟨rfl, hb⟩
            have B1 := Lib.hid hb
            clear hb
            go_wp2_with fail
            refine (CW.out w1).mono ?_
            rintro e wx ⟨rfl, hw⟩
            obtain rfl := hw.symm
            go_wp2_with fail
            refine (CV.out w1).mono ?_
            rintro e wx ⟨rfl, hw⟩
            obtain rfl := hw.symm
            go_wp2_with fail
            refine (CL.out w1 B1.out).mono ?_
            rintro e w6 ⟨rfl, hb⟩
            have B6 := Lib.hid (below_step B1.out hb)
            clear hb
            go_wp2_with fail
            refine (CM.out w6 B6.out).mono ?_
            rintro e wx ⟨rfl, hw⟩
            obtain rfl := hw.symm
            go_wp2
            go_ret
            exact ⟨rfl, B6.out⟩
    · have CW := Lib.hid (fun w => two_nat m hm w)
      have CK := Lib.hid (fun w => readtwo_back m hm w)
      have hts := twT_size m
      obtain ⟨q, hq⟩ : ∃ q, q = m / 10 := ⟨_, rfl⟩
      obtain ⟨k, hk⟩ : ∃ k, k = m % 10 := ⟨_, rfl⟩
      have hq10 : q < 10 := by omega
      have hk10 : k < 10 := by omega
      have CQ1 := Lib.hid (fun w => rtext_nat q (by omega) w)
      have CQ2 := Lib.hid (fun w => rtext_nat k (by omega) w)
      have HT : Hid (twT m = tx (dt q) ++ tx (dt k)) := Lib.hid (by rw [dt_lt hq10, dt_lt hk10, ← tx_append, twT, hq, hk]; rfl)
      have u1 := text_same (tx (dt q) ++ tx (dt k))
      have z1 : (tx (dt q)).size ≤ 19 := by rw [tx_size]; exact dt_short q (by omega)
      have z2 : (tx (dt k)).size ≤ 19 := by rw [tx_size]; exact dt_short k (by omega)
      rw [HT.out] at CW CK hts
      clear HT
      generalize tx (dt q) = U at *
      generalize tx (dt k) = V at *
      have e1 : (m : Int).tmod 10 = (k : Int) := by rw [Int.tmod_eq_emod_of_nonneg (by omega)]; omega
      have e2 : (m : Int) % 10 = (k : Int) := by omega
      have e3 : (m : Int).tdiv 10 = (q : Int) := by rw [Int.tdiv_eq_ediv_of_nonneg (by omega)]; omega
      have e4 : (m : Int) / 10 = (q : Int) := by omega
      have e5 : IntKind.i64.wrap (q : Int) = (q : Int) := by rw [IntKind.wrap_i64]; omega
      have n1 : decide ((m : Int) < 0) = false := by simp
      have n2 : decide ((99 : Int) < (m : Int)) = false := by simp; omega
      have n3 : (m : Int) ≤ 99 := by omega
      obtain ⟨X, hX⟩ : ∃ X, X = U ++ V := ⟨_, rfl⟩
      have hXs : ((X.size : Int) == 2) = true := by rw [hX, hts]; rfl
      have hXs2 : ((X.size : Int) != 2) = false := by rw [hX, hts]; rfl
      rw [← hX] at CW CK u1
      have HX := Lib.hid hX
      have u2 : (X.toList == (U ++ V).toList) = true ∧ (X.toList != (U ++ V).toList) = false := by rw [← hX]; exact text_same X
      clear hts hq hk hX
      by_cases hT : isT (tl s)
      · obtain ⟨v, hv, hvs, CV0⟩ := twT_back s hT
        have CV := Lib.hid CV0
        have CX := Lib.hid (fun w => two_nat v hv w)
        rw [hvs] at CX
        clear CV0 hvs hv hT
        go_enter Try.func5, Try.ntmps5
        go_wp2_with fail
        refine (CA.out w).mono ?_
        rintro e w1 ⟨rfl, hb⟩
        have B1 := Lib.hid hb
        clear hb
        go_wp2_with fail
        refine (CW.out w1).mono ?_
        rintro e w2 ⟨rfl, hb⟩
        have B2 := Lib.hid (below_step B1.out hb)
        clear hb
        go_wp2_with fail
        refine (CK.out w2).mono ?_
        rintro e w3 ⟨rfl, hb⟩
        have B3 := Lib.hid (below_step B2.out hb)
        clear hb
        go_wp2_with fail
        refine (CQ1.out w3).mono ?_
        rintro e wx ⟨rfl, hw⟩
        obtain rfl := hw.symm
        go_wp2_with fail
        refine (CQ2.out w3).mono ?_
        rintro e wx ⟨rfl, hw⟩
        obtain rfl := hw.symm
        go_wp2_with fail
        refine (CV.out w3).mono ?_
        rintro e w4 ⟨rfl, hb⟩
        have B4 := Lib.hid (below_step B3.out hb)
        clear hb
        go_wp2_with fail
        refine (CX.out w4).mono ?_
        rintro e w5 ⟨rfl, hb⟩
        have B5 := Lib.hid (below_step B4.out hb)
        clear hb
        go_wp2_with fail
        refine (CL.out w5 B5.out).mono ?_
        rintro e w6 ⟨rfl, hb⟩
        have B6 := Lib.hid (below_step B5.out hb)
        clear hb
        go_wp2_with fail
        refine (CM.out w6 B6.out).mono ?_
        rintro e wx ⟨rfl, hw⟩
        obtain rfl := hw.symm
        go_wp2
        go_ret
        exact ⟨rfl, B6.out⟩
      · have CV := Lib.hid (fun w => readtwo_bad s (by omega) hT w)
        have hN := no_two s hT
        clear hT
        rcases hN with ⟨f1, f2⟩ | ⟨h2, f1, g1 | ⟨g1, g2⟩ | ⟨⟨g1, g2⟩, g3⟩ | ⟨⟨g1, g2⟩, g3, g4⟩⟩
        all_goals
          go_enter Try.func5, Try.ntmps5
          go_wp2_with fail
          refine (CA.out w).mono ?_
          rintro e w1 ⟨rfl, hb⟩
          have B1 := Lib.hid hb
          clear hb
          go_wp2_with fail
          refine (CW.out w1).mono ?_
          rintro e w2 ⟨rfl, hb⟩
          have B2 := Lib.hid (below_step B1.out hb)
          clear hb
          go_wp2_with fail
          refine (CK.out w2).mono ?_
          rintro e w3 ⟨rfl, hb⟩
          have B3 := Lib.hid (below_step B2.out hb)
          clear hb
          go_wp2_with fail
          refine (CQ1.out w3).mono ?_
          rintro e wx ⟨rfl, hw⟩
          obtain rfl := hw.symm
          go_wp2_with fail
          refine (CQ2.out w3).mono ?_
          rintro e wx ⟨rfl, hw⟩
          obtain rfl := hw.symm
          go_wp2_with fail
          refine (CV.out w3).mono ?_
          rintro e wx ⟨rfl, hw⟩
          obtain rfl := hw.symm
          go_wp2_with fail
          refine (CL.out w3 B3.out).mono ?_
          rintro e w6 ⟨rfl, hb⟩
          have B6 := Lib.hid (below_step B3.out hb)
          clear hb
          go_wp2_with fail
          refine (CM.out w6 B6.out).mono ?_
          rintro e wx ⟨rfl, hw⟩
          obtain rfl := hw.symm
          go_wp2
          go_ret
          exact ⟨rfl, B6.out⟩
end Go.Proofs.Ytkmaghjdnknjjaa

/- The law BcryptSums by the calls' contracts. Conditions: those typed. -/
import Derived.Test.YtccpcjbffibkkaaBcAwake
namespace Go.Proofs.Ytccpcjbffibkkaa
set_option maxRecDepth 50000
open Go.RowKit Ci Pi16

set_option maxHeartbeats 3200000 in
theorem sums26_bad (c : Int) (salt word : ByteArray) (hE : bcE c salt word ≠ 0) (w : World) : Calls Try.prog 3 #[.int .i64 c, .string salt, .string word] w fun e w' => e = .returned (.bool true) ∧ Below w.heap.size w w' := by
  have CA := Lib.hid (awake26_any w)
  have CC := bcheck_any c salt word
  have CS := bsum_bad c salt word hE
  obtain ⟨E, hEE, hw⟩ : ∃ E : Int, bcE c salt word = E ∧ (c < 4 ∧ E = 2 ∨ 4 ≤ c ∧ 31 < c ∧ E = 2 ∨ 4 ≤ c ∧ c ≤ 31 ∧ (salt.size : Int) ≠ 16 ∧ E = 9 ∨ 4 ≤ c ∧ c ≤ 31 ∧ (salt.size : Int) = 16 ∧ (72 : Int) < (word.size : Int) ∧ E = 3) := by
    rcases bc_ways c salt word with ⟨h1, h2⟩ | ⟨h1, h2, h3⟩ | ⟨h1, h2, h3, h4⟩ | ⟨n, _, _, _, _, _, h⟩
    · by_cases h4 : c < 4
      · exact ⟨2, h2, .inl ⟨h4, rfl⟩⟩
      · exact ⟨2, h2, .inr (.inl ⟨by omega, by omega, rfl⟩)⟩
    · exact ⟨9, h3, .inr (.inr (.inl ⟨by omega, by omega, by omega, rfl⟩))⟩
    · exact ⟨3, h4, .inr (.inr (.inr ⟨by omega, by omega, by omega, by omega, rfl⟩))⟩
    · exact absurd h hE
  rw [hEE] at CC CS
  have HCC := Lib.hid CC
  have HCS := Lib.hid CS
  have HK := Lib.hid (bkey_any word)
  clear CC CS hEE hE
  by_cases hl : word.size < 200
  · have HR := Lib.hid (rkey26_any word (by omega))
    have hlI : (word.size : Int) < 200 := by omega
    clear hl
    generalize bky word = ky at *
    rcases hw with ⟨h1, rfl⟩ | ⟨h1, h2, rfl⟩ | ⟨h1, h2, h3, rfl⟩ | ⟨h1, h2, h3, h4, rfl⟩
    all_goals
      go_enter Try.func3, Try.ntmps3
      go_wp2_with fail
      refine CA.out.mono ?_
      rintro e w1 ⟨rfl, hb⟩
      have HB := Lib.hid hb
      clear hb CA
      go_wp2_with fail
      refine (HCC.out _).mono ?_
      rintro e w2 ⟨rfl, hw⟩
      obtain rfl := hw.symm
      go_wp2_with fail
      refine (HK.out _).mono ?_
      rintro e w3 ⟨rfl, hw⟩
      obtain rfl := hw.symm
      go_wp2_with fail
      refine (HR.out _).mono ?_
      rintro e w4 ⟨rfl, hw⟩
      obtain rfl := hw.symm
      go_wp2_with fail
      refine (HCS.out _).mono ?_
      rintro e w5 ⟨rfl, hw⟩
      obtain rfl := hw.symm
      go_wp2
      go_ret
      exact ⟨rfl, HB.out⟩
  · have hlI : (200 : Int) ≤ (word.size : Int) := by omega
    clear hl HK
    rcases hw with ⟨h1, rfl⟩ | ⟨h1, h2, rfl⟩ | ⟨h1, h2, h3, rfl⟩ | ⟨h1, h2, h3, h4, rfl⟩
    all_goals
      go_enter Try.func3, Try.ntmps3
      go_wp2_with fail
      refine CA.out.mono ?_
      rintro e w1 ⟨rfl, hb⟩
      have HB := Lib.hid hb
      clear hb CA
      go_wp2_with fail
      refine (HCC.out _).mono ?_
      rintro e w2 ⟨rfl, hw⟩
      obtain rfl := hw.symm
      go_wp2_with fail
      refine (HCS.out _).mono ?_
      rintro e w5 ⟨rfl, hw⟩
      obtain rfl := hw.symm
      go_wp2
      go_ret
      exact ⟨rfl, HB.out⟩

set_option maxHeartbeats 3200000 in
theorem sums26_any (c : Nat) (salt word : ByteArray) (h4 : 4 ≤ c) (h31 : c ≤ 31) (hs : salt.size = 16) (hw : word.size ≤ 72) (w : World) : Calls Try.prog 3 #[.int .i64 (c : Int), .string salt, .string word] w fun e w' => e = .returned (.bool true) ∧ Below w.heap.size w w' := by
  have CA := Lib.hid (awake26_any w)
  have CC := bcheck_any (c : Int) salt word
  rw [show bcE (c : Int) salt word = 0 from by unfold bcE; rw [if_neg (by omega), if_neg (by omega), if_neg (by omega)]] at CC
  have HCC := Lib.hid CC
  have HK := Lib.hid (bkey_any word)
  have HR := Lib.hid (rkey26_any word (by omega))
  have c1 : (salt.size : Int) = 16 := by omega
  have c2 : (word.size : Int) ≤ 72 := by omega
  clear CC
  by_cases h : c = 4
  · subst h
    have HS := Lib.hid (bsum_any 4 salt word (by decide) (by decide) hs hw)
    have HP := Lib.hid rplain_any
    have HQ : Hid (∀ (w : World) (d n : Nat), RTab w d wordN → Calls Try.prog 10 #[.slice (some ⟨d, 0, none⟩) 1042 n, .int .i64 16, .string salt, .string word] w fun e w' => e = .returned (.string (bcS 4 salt word)) ∧ Below w.heap.size w w') :=
      Lib.hid fun w d n hT => rsum26_any 16 (by decide) salt word (by omega) (by omega) wordN (fun i _ => wordN_lt i) w d n hT
    generalize bcS 4 salt word = r at *
    generalize bky word = ky at *
    clear hs hw h4 h31
    go_enter Try.func3, Try.ntmps3
    go_wp2_with fail
    refine CA.out.mono ?_
    rintro e w1 ⟨rfl, hb⟩
    have HB := Lib.hid hb
    clear hb CA
    go_wp2_with fail
    refine (HCC.out _).mono ?_
    rintro e w2 ⟨rfl, hw⟩
    obtain rfl := hw.symm
    go_wp2_with fail
    refine (HK.out _).mono ?_
    rintro e w3 ⟨rfl, hw⟩
    obtain rfl := hw.symm
    go_wp2_with fail
    refine (HR.out _).mono ?_
    rintro e w4 ⟨rfl, hw⟩
    obtain rfl := hw.symm
    go_wp2_with fail
    refine (HS.out _).mono ?_
    rintro e w5 ⟨rfl, hb⟩
    have HB5 := Lib.hid (HB.out.trans (hb.mono HB.out.size))
    clear hb HB HS HCC
    go_wp2_with fail
    refine (HP.out _).mono ?_
    rintro e w6 ⟨d, n, rfl, hT, _, hb⟩
    have HB6 := Lib.hid (HB5.out.trans (hb.mono HB5.out.size))
    have HQ1 := Lib.hid (HQ.out w6 d n hT)
    clear hb HB5 HP HQ hT
    go_wp2_with fail
    refine HQ1.out.mono ?_
    rintro e w7 ⟨rfl, hb⟩
    have HB7 := Lib.hid (HB6.out.trans (hb.mono HB6.out.size))
    clear hb HB6 HQ1
    go_wp2
    go_ret
    exact ⟨rfl, HB7.out⟩
  · have c3 : (4 : Int) < (c : Int) := by omega
    have c4 : (c : Int) ≤ 31 := by omega
    generalize bky word = ky at *
    clear hs hw h4 h31 h
    go_enter Try.func3, Try.ntmps3
    go_wp2_with fail
    refine CA.out.mono ?_
    rintro e w1 ⟨rfl, hb⟩
    have HB := Lib.hid hb
    clear hb CA
    go_wp2_with fail
    refine (HCC.out _).mono ?_
    rintro e w2 ⟨rfl, hw⟩
    obtain rfl := hw.symm
    go_wp2_with fail
    refine (HK.out _).mono ?_
    rintro e w3 ⟨rfl, hw⟩
    obtain rfl := hw.symm
    go_wp2_with fail
    refine (HR.out _).mono ?_
    rintro e w4 ⟨rfl, hw⟩
    obtain rfl := hw.symm
    go_wp2
    go_ret
    exact ⟨rfl, HB.out⟩
theorem sums26_all (c : Int) (salt word : ByteArray) (w : World) : Calls Try.prog 3 #[.int .i64 c, .string salt, .string word] w fun e w' => e = .returned (.bool true) ∧ Below w.heap.size w w' := by
  rcases bc_ways c salt word with ⟨_, h⟩ | ⟨_, _, h⟩ | ⟨_, _, _, h⟩ | ⟨n, rfl, h1, h2, h3, h4, _⟩
  · exact sums26_bad c salt word (by rw [h]; decide) w
  · exact sums26_bad c salt word (by rw [h]; decide) w
  · exact sums26_bad c salt word (by rw [h]; decide) w
  · exact sums26_any n salt word h1 h2 h3 h4 w
end Go.Proofs.Ytccpcjbffibkkaa

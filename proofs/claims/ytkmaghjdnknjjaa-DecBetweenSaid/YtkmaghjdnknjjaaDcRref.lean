/- The document's Text and Read of layer 18 by their contracts. Conditions: those typed. -/
import Derived.Test.YtkmaghjdnknjjaaDcRead
namespace Go.Proofs.Ytkmaghjdnknjjaa
set_option maxRecDepth 50000
open Go.RowKit De

def nought : ByteArray := ⟨#[48]⟩
theorem text_nought (s : ByteArray) : (s.toList == [48]) = decide (tl s = [48]) ∧ (s.toList != [48]) = !decide (tl s = [48]) := by
  have e : s.toList = tl s := ByteArray.toList_eq s
  rw [e]
  by_cases h : tl s = [48]
  · rw [h]; exact ⟨rfl, rfl⟩
  · rw [decide_eq_false h]
    have h1 : (tl s == [48]) = false := by rw [beq_eq_false_iff_ne]; exact h
    exact ⟨h1, by unfold bne; rw [h1]⟩
/-- how the document parts texts -/
theorem rfine_way (s : ByteArray) : (fine (tl s) = false ∧ tl s = []) ∨ (fine (tl s) = false ∧ tl s ≠ [] ∧ alld (tl s) = false) ∨
    (fine (tl s) = false ∧ tl s ≠ [] ∧ alld (tl s) = true ∧ ∃ h : 0 < s.size, s[0]'h = 48 ∧ tl s ≠ [48]) ∨
    (fine (tl s) = true ∧ tl s ≠ [] ∧ alld (tl s) = true ∧ ∃ h : 0 < s.size, s[0]'h = 48 ∧ tl s = [48]) ∨
    (fine (tl s) = true ∧ tl s ≠ [] ∧ alld (tl s) = true ∧ ∃ h : 0 < s.size, s[0]'h ≠ 48) := by
  by_cases hne : tl s = []
  · left; exact ⟨by rw [hne]; rfl, hne⟩
  have h0 : 0 < s.size := by
    rcases Nat.eq_zero_or_pos s.size with h | h
    · exact absurd (tl_size0 h) hne
    · exact h
  cases ha : alld (tl s) with
  | false => right; left; exact ⟨by unfold fine; rw [ha]; rfl, hne, rfl⟩
  | true =>
    right; right
    have hf : fine (tl s) = (decide ((tl s).length ≤ 1) || decide ((tl s).head? ≠ some 48)) := by unfold fine; rw [ha, decide_eq_true hne]; rfl
    rw [hf, head_at s h0, tl_length]
    by_cases h1 : s[0]'h0 = 48
    · have hh := head_at s h0
      rw [h1] at hh
      by_cases h2 : tl s = [48]
      · right; left
        have := tl_length s
        rw [h2] at this
        refine ⟨?_, hne, rfl, h0, h1, h2⟩
        rw [← this]; simp
      · left
        refine ⟨?_, hne, rfl, h0, h1, h2⟩
        rw [h1]
        simp only [ne_eq, not_true_eq_false, decide_false, Bool.or_false, decide_eq_false_iff_not]
        intro hle
        apply h2
        have hl := tl_length s
        cases hc : tl s with
        | nil => exact absurd hc hne
        | cons x xs =>
          rw [hc] at hl hh
          simp only [List.head?_cons, Option.some.injEq] at hh
          simp only [List.length_cons] at hl
          rw [hh, List.eq_nil_of_length_eq_zero (show xs.length = 0 by omega)]
    · right; right
      refine ⟨?_, hne, rfl, h0, h1⟩
      simp [h1]

set_option maxHeartbeats 3200000 in
theorem rread_any (s : ByteArray) (hs : s.size ≤ 140737488351232) (w : World) :
    Calls Try.prog 9 #[.string s] w fun e w' => e = .returned (.tuple #[.int .i64 ((rdN (tl s) : Nat) : Int), .int .i64 ((rdE (tl s) : Nat) : Int)]) ∧ w' = w := by
  have CD := Lib.hid (rdigits_any s hs)
  have key : fine (tl s) = true → alld (tl s) = true → tl s ≠ [] → ∀ (bz bn : Bool), (∃ h : 0 < s.size, (((s[0]'h).toNat : Int) == 48) = bz) → decide (tl s = [48]) = bn → (bz = false ∨ (bz = true ∧ bn = true)) → Calls Try.prog 9 #[.string s] w fun e w' => e = .returned (.tuple #[.int .i64 ((rdN (tl s) : Nat) : Int), .int .i64 ((rdE (tl s) : Nat) : Int)]) ∧ w' = w := by
    intro hf ha hne bz bn hz hbn hw
    obtain ⟨h0, hz⟩ := hz
    have HF := Lib.hid hf
    have HA := Lib.hid ha
    obtain ⟨t1, t2, t3, t4⟩ := text_some s hne
    obtain ⟨u1, u2⟩ := text_nought s
    rw [hbn] at u1 u2
    rw [ha] at CD
    clear hf ha hne hbn
    by_cases hlong : 19 < s.size
    · have HR : Hid (rdE (tl s) = 10 ∧ rdN (tl s) = 0) := Lib.hid (rd_over HF.out (long_over HF.out (by rw [tl_length]; exact hlong)))
      have dl : decide ((19 : Int) < (s.size : Int)) = true := by simp; omega
      have dl2 : decide (19 < s.size) = true := by simp; omega
      rcases hw with rfl | ⟨rfl, rfl⟩
      all_goals
        go_enter Try.func9, Try.ntmps9
        go_wp2_with fail
        refine (CD.out w).mono ?_
        rintro e w1 ⟨rfl, hw⟩
        obtain rfl := hw.symm
        go_wp2
        go_ret2
        exact ⟨by rw [HR.out.1, HR.out.2]; rfl, rfl⟩
    · have dl : decide ((19 : Int) < (s.size : Int)) = false := by simp; omega
      have dl2 : decide (19 < s.size) = false := by simp; omega
      have dl3 : s.size ≤ 19 := by omega
      clear hlong
      rcases hw with rfl | ⟨rfl, rfl⟩
      all_goals
        go_enter Try.func9, Try.ntmps9
        go_wp2_with fail
        refine (CD.out w).mono ?_
        rintro e w1 ⟨rfl, hw⟩
        obtain rfl := hw.symm
        go_wp2
        go_loopw [4, 5] (fun v4 v5 wr => ∃ k n : Nat, k ≤ s.size ∧ v5 = .int .i64 (k : Int) ∧ v4 = .int .i64 (n : Int) ∧ Hid (n = vl ((tl s).take k)) ∧ n ≤ 4611686018427387904 ∧ wr = w) (fun _ v5 _ => s.size - (intOf v5).toNat)
        case atStart => exact ⟨0, 0, by omega, rfl, rfl, Lib.hid (by simp [vl]), by omega, rfl⟩
        case round =>
          obtain ⟨k, n, hk, rfl, rfl, HK, hn, rfl⟩ := hrel
          by_cases hlt : k < s.size
          · have hkl : k < (tl s).length := by rw [tl_length]; exact hlt
            have hlI : decide ((k : Int) < (s.size : Int)) = true := by simp; omega
            have hisd : isd (s[k]'hlt) = true := alld_at hkl HA.out
            have hd := dv_lt hisd
            have hnx : vl ((tl s).take (k + 1)) = 10 * n + dv (s[k]'hlt) := by rw [vl_take _ k hkl, ← HK.out]; rfl
            have hal := vl_all (tl s) (k + 1) (by omega)
            have c1 : IntKind.u8.wrap (((s[k]'hlt).toNat : Int) - 48) = ((dv (s[k]'hlt) : Nat) : Int) := by
              simp only [isd, decide_eq_true_eq] at hisd
              unfold dv
              rw [IntKind.wrap_u8]; omega
            have c2 : IntKind.i64.wrap ((dv (s[k]'hlt) : Nat) : Int) = ((dv (s[k]'hlt) : Nat) : Int) := by rw [IntKind.wrap_i64]; omega
            generalize dv (s[k]'hlt) = d at *
            by_cases hbig : 4611686018427387904 < 10 * n + d
            · have HR : Hid (rdE (tl s) = 10 ∧ rdN (tl s) = 0) := Lib.hid (rd_over HF.out (by unfold most; omega))
              have hcase : decide ((461168601842738790 : Int) < (n : Int)) = true ∨ (decide ((461168601842738790 : Int) < (n : Int)) = false ∧ ((n : Int) == 461168601842738790) = true ∧ decide ((4 : Int) < (d : Int)) = true) := by
                simp only [decide_eq_true_eq, decide_eq_false_iff_not, beq_iff_eq]; omega
              clear hnx hal hisd HK hkl hbig
              rcases hcase with g1 | ⟨g1, g2, g3⟩
              all_goals
                go_wp2
                go_ret2
                exact ⟨by rw [HR.out.1, HR.out.2]; rfl, rfl⟩
            · have hcase : (decide ((461168601842738790 : Int) < (n : Int)) = false ∧ ((n : Int) == 461168601842738790) = false) ∨ (decide ((461168601842738790 : Int) < (n : Int)) = false ∧ ((n : Int) == 461168601842738790) = true ∧ decide ((4 : Int) < (d : Int)) = false) := by
                simp only [decide_eq_false_iff_not, beq_iff_eq, beq_eq_false_iff_ne, ne_eq]; omega
              obtain ⟨P, hP⟩ : ∃ P, P = 10 * n := ⟨_, rfl⟩
              obtain ⟨R, hR⟩ : ∃ R, R = P + d := ⟨_, rfl⟩
              have f0 : (10 : Int) * (n : Int) = (P : Int) := by omega
              have f1 : IntKind.i64.wrap (P : Int) = (P : Int) := by rw [IntKind.wrap_i64]; omega
              have f2 : (P : Int) + (d : Int) = (R : Int) := by omega
              have f3 : IntKind.i64.wrap (R : Int) = (R : Int) := by rw [IntKind.wrap_i64]; omega
              have hRm : R ≤ 4611686018427387904 := by omega
              have HK2 : Hid (R = vl ((tl s).take (k + 1))) := Lib.hid (by omega)
              clear hnx hal hisd HK hkl hP hR hn hbig
              rcases hcase with ⟨g1, g2⟩ | ⟨g1, g2, g3⟩
              all_goals
                go_wp2
                go_roundw
                case rel => exact ⟨k + 1, R, by omega, by go_num, rfl, HK2, hRm, trivial⟩
                case measure => simp [intOf]; omega
          · obtain rfl : k = s.size := by omega
            have HR : Hid (rdE (tl s) = 0 ∧ rdN (tl s) = n) := Lib.hid (by
              have := HK.out
              rw [List.take_of_length_le (by rw [tl_length]; exact Nat.le_refl _)] at this
              obtain ⟨h1, h2⟩ := rd_good HF.out (by unfold most; omega)
              exact ⟨h1, by omega⟩)
            clear HK
            go_wp2
            go_ret2
            exact ⟨by rw [HR.out.1, HR.out.2]; rfl, rfl⟩
  rcases rfine_way s with ⟨hf, hne⟩ | ⟨hf, hne, ha⟩ | ⟨hf, hne, ha, h0, h1, h2⟩ | ⟨hf, hne, ha, h0, h1, h2⟩ | ⟨hf, hne, ha, h0, h1⟩
  · have HR : Hid (rdE (tl s) = 7 ∧ rdN (tl s) = 0) := Lib.hid (rd_wrong (by rw [hf]; decide))
    obtain ⟨t1, t2, t3, t4⟩ := text_none s hne
    clear key hf CD hne
    go_enter Try.func9, Try.ntmps9
    go_wp2
    go_ret2
    exact ⟨by rw [HR.out.1, HR.out.2]; rfl, rfl⟩
  · have HR : Hid (rdE (tl s) = 7 ∧ rdN (tl s) = 0) := Lib.hid (rd_wrong (by rw [hf]; decide))
    obtain ⟨t1, t2, t3, t4⟩ := text_some s hne
    rw [ha] at CD
    clear key hf hne ha
    go_enter Try.func9, Try.ntmps9
    go_wp2_with fail
    refine (CD.out w).mono ?_
    rintro e w1 ⟨rfl, hw⟩
    obtain rfl := hw.symm
    go_wp2
    go_ret2
    exact ⟨by rw [HR.out.1, HR.out.2]; rfl, rfl⟩
  · have HR : Hid (rdE (tl s) = 7 ∧ rdN (tl s) = 0) := Lib.hid (rd_wrong (by rw [hf]; decide))
    obtain ⟨t1, t2, t3, t4⟩ := text_some s hne
    obtain ⟨u1, u2⟩ := text_nought s
    rw [decide_eq_false h2] at u1 u2
    have hz := (n48 h1).1
    rw [ha] at CD
    clear key hf hne ha h2 h1
    go_enter Try.func9, Try.ntmps9
    go_wp2_with fail
    refine (CD.out w).mono ?_
    rintro e w1 ⟨rfl, hw⟩
    obtain rfl := hw.symm
    go_wp2
    go_ret2
    exact ⟨by rw [HR.out.1, HR.out.2]; rfl, rfl⟩
  · exact key hf ha hne true true ⟨h0, (n48 h1).1⟩ (decide_eq_true h2) (.inr ⟨rfl, rfl⟩)
  · exact key hf ha hne false _ ⟨h0, n48' h1⟩ rfl (.inl rfl)
end Go.Proofs.Ytkmaghjdnknjjaa

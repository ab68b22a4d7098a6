/- Read of package dec by its contract: what any text is. Condition: the text is no longer than an int tells. -/
import Derived.Test.YtkmaghjdnknjjaaDcDigits
import Derived.OwnWalk
namespace Go.Proofs.Ytkmaghjdnknjjaa
set_option maxRecDepth 50000
open Go.RowKit De

theorem head_at (s : ByteArray) (h : 0 < s.size) : (tl s).head? = some (s[0]'h) := by
  rw [List.head?_eq_getElem?, List.getElem?_eq_getElem (by rw [tl_length]; exact h)]
  rfl
/-- how a text lies to the numbers' digits -/
theorem fine_way (s : ByteArray) : (fine (tl s) = false ∧ (alld (tl s) && decide (tl s ≠ [])) = false) ∨
    (fine (tl s) = false ∧ (alld (tl s) && decide (tl s ≠ [])) = true ∧ ∃ h : 1 < s.size, s[0]'(by omega) = 48) ∨
    (fine (tl s) = true ∧ (alld (tl s) && decide (tl s ≠ [])) = true ∧ s.size = 1) ∨
    (fine (tl s) = true ∧ (alld (tl s) && decide (tl s ≠ [])) = true ∧ ∃ h : 1 < s.size, s[0]'(by omega) ≠ 48) := by
  cases ho : (alld (tl s) && decide (tl s ≠ [])) with
  | false => left; unfold fine; rw [ho]; exact ⟨rfl, rfl⟩
  | true =>
    have hne : tl s ≠ [] := by simp only [Bool.and_eq_true, decide_eq_true_eq] at ho; exact ho.2
    have h0 : 0 < s.size := by
      rcases Nat.eq_zero_or_pos s.size with h | h
      · exact absurd (tl_size0 h) hne
      · exact h
    unfold fine
    rw [ho, tl_length, head_at s h0]
    by_cases h1 : s.size = 1
    · right; right; left
      exact ⟨by simp [h1], rfl, h1⟩
    · by_cases h2 : s[0]'h0 = 48
      · right; left
        refine ⟨?_, rfl, by omega, h2⟩
        rw [h2]; simp; omega
      · right; right; right
        refine ⟨?_, rfl, by omega, h2⟩
        simp [h2]
theorem n48 {b : UInt8} (h : b = 48) : ((b.toNat : Int) == 48) = true ∧ ((b.toNat : Int) = 48) := by subst h; exact ⟨rfl, rfl⟩
theorem n48' {b : UInt8} (h : b ≠ 48) : ((b.toNat : Int) == 48) = false := by
  rw [beq_eq_false_iff_ne]
  intro e
  exact h (UInt8.toNat_inj.1 (by have : (48 : UInt8).toNat = 48 := rfl; omega))

set_option maxHeartbeats 3200000 in
theorem read_any (s : ByteArray) (hs : s.size ≤ 140737488351232) (w : World) :
    Calls Try.prog 8 #[.string s] w fun e w' => e = .returned (.tuple #[.int .i64 ((rdN (tl s) : Nat) : Int), .int .i64 ((rdE (tl s) : Nat) : Int)]) ∧ w' = w := by
  have CD := Lib.hid (onlyd_any s hs)
  have hsI : decide ((1 : Int) < (s.size : Int)) = decide (1 < s.size) := by simp; omega
  have key : fine (tl s) = true → ∀ (bd : Bool), bd = true → (alld (tl s) && decide (tl s ≠ [])) = bd → (s.size = 1 ∨ ∃ h : 1 < s.size, s[0]'(by omega) ≠ 48) → Calls Try.prog 8 #[.string s] w fun e w' => e = .returned (.tuple #[.int .i64 ((rdN (tl s) : Nat) : Int), .int .i64 ((rdE (tl s) : Nat) : Int)]) ∧ w' = w := by
    intro hf bd hbd hod hh
    have HF := Lib.hid hf
    have ha : alld (tl s) = true := by rw [hbd] at hod; simp only [Bool.and_eq_true] at hod; exact hod.1
    have HA := Lib.hid ha
    rw [hod, hbd] at CD
    have hcase : (decide (1 < s.size) = false ∧ s.size ≤ 1) ∨ (decide (1 < s.size) = true ∧ 1 < s.size ∧ ∃ h0 : 0 < s.size, (((s[0]'h0).toNat : Int) == 48) = false) := by
      rcases hh with h | ⟨h, h2⟩
      · exact .inl ⟨by simp; omega, by omega⟩
      · exact .inr ⟨by simp; omega, h, by omega, n48' h2⟩
    clear hod hh ha hf hsI
    rcases hcase with ⟨d1, g1⟩ | ⟨d1, g1, h0, d2⟩
    all_goals
      go_enter Try.func8, Try.ntmps8
      go_wp2_with fail
      refine (CD.out w).mono ?_
      rintro e w1 ⟨rfl, hw⟩
      obtain rfl := hw.symm
      go_wp2
      go_loopw [4, 22] (fun v4 v22 wr => ∃ k n : Nat, k ≤ s.size ∧ v22 = .int .i64 (k : Int) ∧ v4 = .int .i64 (n : Int) ∧ Hid (n = vl ((tl s).take k)) ∧ n ≤ 4611686018427387904 ∧ wr = w) (fun _ v22 _ => s.size - (intOf v22).toNat)
      case atStart => exact ⟨0, 0, by omega, rfl, rfl, Lib.hid (by simp [vl]), by omega, rfl⟩
      case round =>
        obtain ⟨k, n, hk, rfl, rfl, HK, hn, rfl⟩ := hrel
        by_cases hlt : k < s.size
        · have hkl : k < (tl s).length := by rw [tl_length]; exact hlt
          have hlI : decide ((k : Int) < (s.size : Int)) = true := by simp; omega
          have hisd : isd (s[k]'hlt) = true := alld_at hkl HA.out
          have CV := Lib.hid (fun w => value_any (s[k]'hlt) hisd w)
          have hd := dv_lt hisd
          have hnx : vl ((tl s).take (k + 1)) = 10 * n + dv (s[k]'hlt) := by rw [vl_take _ k hkl, ← HK.out]; rfl
          have hal := vl_all (tl s) (k + 1) (by omega)
          generalize dv (s[k]'hlt) = d at *
          obtain ⟨m, hm⟩ : ∃ m, m = 4611686018427387904 - d := ⟨_, rfl⟩
          obtain ⟨q, hq⟩ : ∃ q, q = m / 10 := ⟨_, rfl⟩
          have e0 : (4611686018427387904 : Int) - (d : Int) = (m : Int) := by omega
          have e1 : IntKind.i64.wrap (m : Int) = (m : Int) := by rw [IntKind.wrap_i64]; omega
          have e2 : (m : Int).tdiv 10 = (q : Int) := by rw [Int.tdiv_eq_ediv_of_nonneg (by omega)]; omega
          have e3 : (m : Int) / 10 = (q : Int) := by omega
          have e4 : IntKind.i64.wrap (q : Int) = (q : Int) := by rw [IntKind.wrap_i64]; omega
          by_cases hbig : q < n
          · have hq2 : decide ((q : Int) < (n : Int)) = true := by simp; omega
            have HR : Hid (rdE (tl s) = 10 ∧ rdN (tl s) = 0) := Lib.hid (rd_over HF.out (by unfold most; omega))
            clear hnx hal hm hq hisd HK hkl
            go_wp2_with fail
            refine (CV.out _).mono ?_
            rintro e w1 ⟨rfl, hw⟩
            obtain rfl := hw.symm
            go_wp2
            go_ret2
            exact ⟨by rw [HR.out.1, HR.out.2]; rfl, rfl⟩
          · have hq1 : n ≤ q := by omega
            have hq2 : decide ((q : Int) < (n : Int)) = false := by simp; omega
            obtain ⟨P, hP⟩ : ∃ P, P = 10 * n := ⟨_, rfl⟩
            obtain ⟨R, hR⟩ : ∃ R, R = P + d := ⟨_, rfl⟩
            have f0 : (10 : Int) * (n : Int) = (P : Int) := by omega
            have f1 : IntKind.i64.wrap (P : Int) = (P : Int) := by rw [IntKind.wrap_i64]; omega
            have f2 : (P : Int) + (d : Int) = (R : Int) := by omega
            have f3 : IntKind.i64.wrap (R : Int) = (R : Int) := by rw [IntKind.wrap_i64]; omega
            have hRm : R ≤ 4611686018427387904 := by omega
            have HK2 : Hid (R = vl ((tl s).take (k + 1))) := Lib.hid (by omega)
            clear hnx hal hm hq hisd HK hkl hP hR hn
            go_wp2_with fail
            refine (CV.out _).mono ?_
            rintro e w1 ⟨rfl, hw⟩
            obtain rfl := hw.symm
            go_wp2
            go_roundw
            case rel => exact ⟨k + 1, R, by omega, by go_num, rfl, HK2, hRm, trivial⟩
            case measure => simp [intOf]; omega
        · obtain rfl : k = s.size := by omega
          have HR : Hid (rdE (tl s) = 0 ∧ rdN (tl s) = n) := Lib.hid (by
            have := HK.out
            rw [List.take_of_length_le (by rw [tl_length]; exact Nat.le_refl _)] at this
            obtain ⟨h1, h2⟩ := rd_good HF.out (by unfold most; omega)
            exact ⟨h1, by omega⟩)
          clear HK
          go_wp2
          go_ret2
          exact ⟨by rw [HR.out.1, HR.out.2]; rfl, rfl⟩
  rcases fine_way s with ⟨hf, ho⟩ | ⟨hf, ho, h1, h2⟩ | ⟨hf, ho, h1⟩ | ⟨hf, ho, h1, h2⟩
  · have HR : Hid (rdE (tl s) = 7 ∧ rdN (tl s) = 0) := Lib.hid (rd_wrong (by rw [hf]; decide))
    rw [ho] at CD
    clear key hf ho hsI
    go_enter Try.func8, Try.ntmps8
    go_wp2_with fail
    refine (CD.out w).mono ?_
    rintro e w1 ⟨rfl, hw⟩
    obtain rfl := hw.symm
    go_wp2
    go_ret2
    exact ⟨by rw [HR.out.1, HR.out.2]; rfl, rfl⟩
  · have HR : Hid (rdE (tl s) = 7 ∧ rdN (tl s) = 0) := Lib.hid (rd_wrong (by rw [hf]; decide))
    rw [ho] at CD
    have d1 : decide (1 < s.size) = true := by simp; omega
    have h0 : 0 < s.size := by omega
    have d2 : (((s[0]'h0).toNat : Int) == 48) = true := (n48 h2).1
    clear key hf ho hsI h2
    go_enter Try.func8, Try.ntmps8
    go_wp2_with fail
    refine (CD.out w).mono ?_
    rintro e w1 ⟨rfl, hw⟩
    obtain rfl := hw.symm
    go_wp2
    go_ret2
    exact ⟨by rw [HR.out.1, HR.out.2]; rfl, rfl⟩
  · exact key hf true rfl ho (.inl h1)
  · exact key hf true rfl ho (.inr ⟨h1, h2⟩)
end Go.Proofs.Ytkmaghjdnknjjaa

/- Between, Two and ReadTwo of package dec by their contracts. Conditions: those typed. -/
import Derived.Test.YtkmaghjdnknjjaaDcText
import Derived.StillTailTactics
namespace Go.Proofs.Ytkmaghjdnknjjaa
set_option maxRecDepth 50000
open Go.RowKit De

/-- what Between answers -/
def btE (l : List UInt8) (least most : Int) : Nat := if rdE l ≠ 0 then rdE l else if (rdN l : Int) < least ∨ most < (rdN l : Int) then 2 else 0
def btN (l : List UInt8) (least most : Int) : Nat := if rdE l ≠ 0 then 0 else if (rdN l : Int) < least ∨ most < (rdN l : Int) then 0 else rdN l
theorem bt_wrong {l : List UInt8} {a b : Int} (h : rdE l ≠ 0) : btE l a b = rdE l ∧ btN l a b = 0 := by simp [btE, btN, h]
theorem bt_out {l : List UInt8} {a b : Int} (h : rdE l = 0) (h2 : (rdN l : Int) < a ∨ b < (rdN l : Int)) : btE l a b = 2 ∧ btN l a b = 0 := by
  unfold btE btN
  rw [if_neg (show ¬ rdE l ≠ 0 by omega), if_neg (show ¬ rdE l ≠ 0 by omega), if_pos h2, if_pos h2]; exact ⟨rfl, rfl⟩
theorem bt_good {l : List UInt8} {a b : Int} (h : rdE l = 0) (h2 : a ≤ (rdN l : Int)) (h3 : (rdN l : Int) ≤ b) : btE l a b = 0 ∧ btN l a b = rdN l := by
  unfold btE btN
  have h4 : ¬ ((rdN l : Int) < a ∨ b < (rdN l : Int)) := by omega
  rw [if_neg (show ¬ rdE l ≠ 0 by omega), if_neg (show ¬ rdE l ≠ 0 by omega), if_neg h4, if_neg h4]; exact ⟨rfl, rfl⟩

set_option maxHeartbeats 1600000 in
theorem between_any (s : ByteArray) (hs : s.size ≤ 140737488351232) (a b : Int) (w : World) :
    Calls Try.prog 12 #[.string s, .int .i64 a, .int .i64 b] w fun e w' => e = .returned (.tuple #[.int .i64 ((btN (tl s) a b : Nat) : Int), .int .i64 ((btE (tl s) a b : Nat) : Int)]) ∧ w' = w := by
  have CR := Lib.hid (read_any s hs)
  by_cases he : rdE (tl s) = 0
  · have HW : Hid (∀ u v : Nat, u = btN (tl s) a b → v = btE (tl s) a b → (Value.tuple #[.int .i64 (u : Int), .int .i64 (v : Int)] = .tuple #[.int .i64 ((btN (tl s) a b : Nat) : Int), .int .i64 ((btE (tl s) a b : Nat) : Int)])) := Lib.hid (by rintro u v rfl rfl; rfl)
    rw [he] at CR
    by_cases h1 : (rdN (tl s) : Int) < a
    · obtain ⟨g1, g2⟩ := bt_out he (b := b) (.inl h1)
      have HR : Hid (btE (tl s) a b = 2 ∧ btN (tl s) a b = 0) := Lib.hid ⟨g1, g2⟩
      generalize rdN (tl s) = n at *
      have d1 : decide ((n : Int) < a) = true := by simp [h1]
      clear g1 g2 he HW
      go_enter Try.func12, Try.ntmps12
      go_wp2_with fail
      refine (CR.out w).mono ?_
      rintro e w1 ⟨rfl, hw⟩
      obtain rfl := hw.symm
      go_wp2
      go_ret2
      exact ⟨by rw [HR.out.1, HR.out.2]; rfl, rfl⟩
    · by_cases h2 : b < (rdN (tl s) : Int)
      · obtain ⟨g1, g2⟩ := bt_out he (a := a) (.inr h2)
        have HR : Hid (btE (tl s) a b = 2 ∧ btN (tl s) a b = 0) := Lib.hid ⟨g1, g2⟩
        generalize rdN (tl s) = n at *
        have d1 : decide ((n : Int) < a) = false := by simp; omega
        have d2 : decide (b < (n : Int)) = true := by simp [h2]
        have d3 : a ≤ (n : Int) := by omega
        clear g1 g2 he HW h1
        go_enter Try.func12, Try.ntmps12
        go_wp2_with fail
        refine (CR.out w).mono ?_
        rintro e w1 ⟨rfl, hw⟩
        obtain rfl := hw.symm
        go_wp2
        go_ret2
        exact ⟨by rw [HR.out.1, HR.out.2]; rfl, rfl⟩
      · obtain ⟨g1, g2⟩ := bt_good he (a := a) (b := b) (by omega) (by omega)
        have HR : Hid (btE (tl s) a b = 0 ∧ btN (tl s) a b = rdN (tl s)) := Lib.hid ⟨g1, g2⟩
        generalize rdN (tl s) = n at *
        have d1 : decide ((n : Int) < a) = false := by simp; omega
        have d2 : decide (b < (n : Int)) = false := by simp; omega
        have d3 : a ≤ (n : Int) := by omega
        have d4 : (n : Int) ≤ b := by omega
        clear g1 g2 he HW h1 h2
        go_enter Try.func12, Try.ntmps12
        go_wp2_with fail
        refine (CR.out w).mono ?_
        rintro e w1 ⟨rfl, hw⟩
        obtain rfl := hw.symm
        go_wp2
        go_ret2
        exact ⟨by rw [HR.out.1, HR.out.2]; rfl, rfl⟩
  · obtain ⟨g1, g2⟩ := bt_wrong (a := a) (b := b) he
    have HR : Hid (btE (tl s) a b = rdE (tl s) ∧ btN (tl s) a b = 0) := Lib.hid ⟨g1, g2⟩
    generalize rdE (tl s) = x at *
    have x1 : (x == 0) = false := by simpa using he
    have x2 : (x != 0) = true := by simpa using he
    clear g1 g2 he
    go_enter Try.func12, Try.ntmps12
    go_wp2_with fail
    refine (CR.out w).mono ?_
    rintro e w1 ⟨rfl, hw⟩
    obtain rfl := hw.symm
    go_wp2
    go_ret2
    exact ⟨by rw [HR.out.1, HR.out.2]; rfl, rfl⟩

/-- what Two answers of a number from 0 to 99 -/
def twT (m : Nat) : ByteArray := tx [dg (m / 10), dg (m % 10)]
theorem conv_two (w : World) (a b : UInt8) : (convert 40 9 (.slice (some ⟨w.heap.size, 0, none⟩) 2 2)).run Try.prog (w.alloc (.cells #[.int .u8 (a.toNat : Int), .int .u8 (b.toNat : Int)] 5)) = .ok (.string (tx [a, b])) (w.alloc (.cells #[.int .u8 (a.toNat : Int), .int .u8 (b.toNat : Int)] 5)) :=
  conv_text (l := [a, b]) _ (World.ownsRow_lit (base := 0) w #[.int .u8 (a.toNat : Int), .int .u8 (b.toNat : Int)] 2 (Nat.zero_le _) (by decide) rfl)

set_option maxHeartbeats 1600000 in
theorem two_nat (m : Nat) (hm : m < 100) (w : World) :
    Calls Try.prog 13 #[.int .i64 (m : Int)] w fun e w' => e = .returned (.tuple #[.string (twT m), .int .i64 0]) ∧ Below w.heap.size w w' := by
  obtain ⟨q, hq⟩ : ∃ q, q = m / 10 := ⟨_, rfl⟩
  obtain ⟨k, hk⟩ : ∃ k, k = m % 10 := ⟨_, rfl⟩
  have C1 := Lib.hid (fun w => digit_any q (by omega) w)
  have C2 := Lib.hid (fun w => digit_any k (by omega) w)
  have HR : Hid (twT m = tx [dg q, dg k]) := Lib.hid (by rw [twT, hq, hk])
  have e1 : (m : Int).tmod 10 = (k : Int) := by rw [Int.tmod_eq_emod_of_nonneg (by omega)]; omega
  have e2 : (m : Int) % 10 = (k : Int) := by omega
  have e3 : (m : Int).tdiv 10 = (q : Int) := by rw [Int.tdiv_eq_ediv_of_nonneg (by omega)]; omega
  have e4 : (m : Int) / 10 = (q : Int) := by omega
  have e5 : IntKind.i64.wrap (q : Int) = (q : Int) := by rw [IntKind.wrap_i64]; omega
  have d1 : decide ((m : Int) < 0) = false := by simp
  have d2 : decide ((100 : Int) ≤ (m : Int)) = false := by simp; omega
  have hcv := conv_two w (dg q) (dg k)
  rw [HR.out]
  clear hq hk HR
  generalize tx [dg q, dg k] = T at *
  generalize (dg q).toNat = x at *
  generalize (dg k).toNat = y at *
  go_enter Try.func13, Try.ntmps13
  go_wp2_with fail
  refine (C1.out w).mono ?_
  rintro e w1 ⟨rfl, hw⟩
  obtain rfl := hw.symm
  go_wp2_with fail
  refine (C2.out w).mono ?_
  rintro e w1 ⟨rfl, hw⟩
  obtain rfl := hw.symm
  go_wp2
  go_ret2
  exact ⟨rfl, (Below.refl _ _).alloc (Nat.le_refl _) _⟩
theorem two_bad (n : Int) (h : n < 0 ∨ 99 < n) (w : World) :
    Calls Try.prog 13 #[.int .i64 n] w fun e w' => e = .returned (.tuple #[.string ⟨#[]⟩, .int .i64 1]) ∧ w' = w := by
  have hcase : (decide (n < 0) = true ∧ n < 0) ∨ (decide (n < 0) = false ∧ decide (100 ≤ n) = true ∧ 0 ≤ n ∧ 100 ≤ n) := by simp; omega
  clear h
  rcases hcase with ⟨d1, g1⟩ | ⟨d1, d2, g1, g2⟩
  all_goals
    go_enter Try.func13, Try.ntmps13
    go_wp2
    go_ret2
    exact ⟨rfl, rfl⟩

/-- a text is two digits; what ReadTwo answers -/
def isT (l : List UInt8) : Prop := l.length = 2 ∧ alld l = true
theorem isT_ends (s : ByteArray) (h : isT (tl s)) : ∃ h2 : s.size = 2, isd (s[0]'(by omega)) = true ∧ isd (s[1]'(by omega)) = true ∧ tl s = [s[0]'(by omega), s[1]'(by omega)] := by
  have hl : s.size = 2 := by rw [← tl_length]; exact h.1
  refine ⟨hl, alld_at (l := tl s) (k := 0) (by rw [tl_length]; omega) h.2, alld_at (l := tl s) (k := 1) (by rw [tl_length]; omega) h.2, ?_⟩
  apply List.ext_getElem
  · rw [tl_length]; exact hl
  · intro i h1 h2
    simp at h2
    rcases (show i = 0 ∨ i = 1 by omega) with rfl | rfl <;> rfl

set_option maxHeartbeats 1600000 in
theorem readtwo_bad (s : ByteArray) (hs : s.size ≤ 140737488351232) (h : ¬ isT (tl s)) (w : World) :
    Calls Try.prog 14 #[.string s] w fun e w' => e = .returned (.tuple #[.int .i64 0, .int .i64 7]) ∧ w' = w := by
  have CD := Lib.hid (onlyd_any s hs)
  unfold isT at h
  rw [tl_length] at h
  by_cases h2 : s.size = 2
  · have ha : (alld (tl s) && decide (tl s ≠ [])) = false := by
      have : alld (tl s) = false := by simpa using fun e => h ⟨h2, e⟩
      rw [this]; rfl
    rw [ha] at CD
    have d1 : ((s.size : Int) == 2) = true := by simp; omega
    have d2 : ((s.size : Int) != 2) = false := by simp; omega
    clear ha h
    go_enter Try.func14, Try.ntmps14
    go_wp2_with fail
    refine (CD.out w).mono ?_
    rintro e w1 ⟨rfl, hw⟩
    obtain rfl := hw.symm
    go_wp2
    go_ret2
    exact ⟨rfl, rfl⟩
  · have d1 : ((s.size : Int) == 2) = false := by simp; omega
    have d2 : ((s.size : Int) != 2) = true := by simp; omega
    clear h CD
    go_enter Try.func14, Try.ntmps14
    go_wp2
    go_ret2
    exact ⟨rfl, rfl⟩

set_option maxHeartbeats 1600000 in
theorem readtwo_any (s : ByteArray) (h2 : s.size = 2) (b0 : isd (s[0]'(by omega)) = true) (b1 : isd (s[1]'(by omega)) = true) (ht : isT (tl s)) (w : World) :
    Calls Try.prog 14 #[.string s] w fun e w' => e = .returned (.tuple #[.int .i64 ((10 * dv (s[0]'(by omega)) + dv (s[1]'(by omega)) : Nat) : Int), .int .i64 0]) ∧ ∃ q, w' = w.drewN q := by
  have CD := Lib.hid (onlyd_any s (by omega))
  have ha : (alld (tl s) && decide (tl s ≠ [])) = true := by
    rw [ht.2, decide_eq_true (tl_size1 (by omega))]; rfl
  rw [ha] at CD
  have C1 := Lib.hid (fun w => value_any (s[0]'(by omega)) b0 w)
  have C2 := Lib.hid (fun w => value_any (s[1]'(by omega)) b1 w)
  have l0 := dv_lt b0
  have l1 := dv_lt b1
  have d1 : ((s.size : Int) == 2) = true := by simp; omega
  have d2 : ((s.size : Int) != 2) = false := by simp; omega
  generalize dv (s[0]'(by omega)) = x at *
  generalize dv (s[1]'(by omega)) = y at *
  obtain ⟨P, hP⟩ : ∃ P, P = 10 * x := ⟨_, rfl⟩
  obtain ⟨R, hR⟩ : ∃ R, R = 10 * x + y := ⟨_, rfl⟩
  have f0 : (10 : Int) * (x : Int) = (P : Int) := by omega
  have f1 : IntKind.i64.wrap (P : Int) = (P : Int) := by rw [IntKind.wrap_i64]; omega
  have f2 : (P : Int) + (y : Int) = (R : Int) := by omega
  have f3 : IntKind.i64.wrap (R : Int) = (R : Int) := by rw [IntKind.wrap_i64]; omega
  rw [← hR]
  clear ha hP hR b0 b1 ht
  go_enter Try.func14, Try.ntmps14
  go_wp2_with fail
  refine (CD.out w).mono ?_
  rintro e w1 ⟨rfl, hw⟩
  obtain rfl := hw.symm
  go_wp2
  refine wp_region_still_tail 8 (by kernel_rfl) (by kernel_rfl) ?_
  simp only [List.take_succ_cons, List.take_zero, List.drop_succ_cons, List.drop_zero]
  repeat still_step
  still_call ((C1.out _).mono fun _ _ h => h)
  repeat still_step
  still_call ((C2.out _).mono fun _ _ h => h)
  repeat still_step
  refine wpStill_nil ?_
  change wpList _ _ _ _ _ w.drew
  go_wp2
  go_ret2
  exact ⟨rfl, 1, rfl⟩
end Go.Proofs.Ytkmaghjdnknjjaa

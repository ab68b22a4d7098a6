/- unmixable of package romix and the document's Why, by their contracts. Conditions: those typed. -/
import Derived.Test.YtohmkhmanidljaaDoorRmCalls
import Derived.BigQuiet
namespace Go.Proofs.YtohmkhmanidljaaDoor
set_option maxRecDepth 50000
open Go.RowKit Bb Sl Sf Rm

theorem add2 (first : Int) (N : Nat) (hN : N ≤ 4611686018427387904) : (sumE [first, (N : Int)] ≠ 0 ∧ (first < 0 ∨ 4611686018427387904 < first + (N : Int))) ∨ ∃ f : Nat, first = (f : Int) ∧ sumE [first, (N : Int)] = 0 ∧ sumN [first, (N : Int)] = ((f + N : Nat) : Int) ∧ f + N ≤ 4611686018427387904 := by
  cases hb : allIn [first, (N : Int)] with
  | false =>
    refine .inl ⟨by rw [sumE_no hb]; decide, ?_⟩
    have : ¬ (0 ≤ first ∧ first ≤ 4611686018427387904) := fun h => by
      have : allIn [first, (N : Int)] = true := by
        unfold allIn inB
        simp only [List.all_cons, List.all_nil, Bool.and_true, Bool.and_eq_true, decide_eq_true_eq]
        omega
      rw [this] at hb; cases hb
    omega
  | true =>
    have h := hb
    unfold allIn inB at h
    simp only [List.all_cons, List.all_nil, Bool.and_true, Bool.and_eq_true, decide_eq_true_eq] at h
    obtain ⟨f, rfl⟩ : ∃ f : Nat, first = (f : Int) := ⟨first.toNat, by omega⟩
    have e : natsOf [(f : Int), (N : Int)] = [f, N] := by simp [natsOf]
    have es : [f, N].sum = f + N := by simp
    rw [sumE_yes hb e, sumN_yes hb e, es]
    by_cases hs : f + N ≤ 4611686018427387904
    · exact .inr ⟨f, rfl, fitE_yes hs, fitN_yes hs, hs⟩
    · exact .inl ⟨by rw [fitE_no (by omega)]; decide, by omega⟩
theorem pow_ge (lg : Nat) (h : lg ≤ 62) : 1 ≤ 2 ^ lg ∧ 2 ^ lg ≤ 4611686018427387904 :=
  ⟨Nat.one_le_two_pow, Nat.le_trans (Nat.pow_le_pow_right (by decide) h) (by decide)⟩
theorem two_read (a b : Int) (w : World) : Reads (w.alloc (.cells #[.int .i64 a, .int .i64 b] 3)) (w.heap.size + 1) (some ⟨w.heap.size, 0, none⟩) (i64s [a, b]) := fun k hk =>
  ⟨w.heap.size, 0, rfl, by omega, by
    match k, hk with
    | 0, _ => simp [i64s]
    | 1, _ => simp [i64s]⟩

section
variable {w w' : World} {s p a g n r : Nat} {X : List (List Nat)}
set_option maxHeartbeats 1600000 in
theorem unmix_out (h : ScAt w s p r) {live : Bool} {v : Value} (hP : PceAt w p a n live v) (h1 : 1 ≤ r) (hr : r ≤ 512) (hn : n ≤ 4194304) (k log first : Int) (hk : k < 0 ∨ ((n * 256 / (32 * r) : Nat) : Int) ≤ k) :
    Calls Tryd.prog 21 #[.pointer (some ⟨s, 0, none⟩), .int .i64 k, .int .i64 log, .int .i64 first] w fun e w' => e = .returned (.int .i64 11) ∧ w' = w := by
  have C := Lib.hid (sfault_out h hP h1 hr hn k hk)
  clear h hP h1 hr hn hk
  go_enter Tryd.func21, Tryd.ntmps21
  go_wp2_with fail
  refine C.out.mono ?_; rintro e w' ⟨rfl, rfl⟩
  go_wp2
  go_ret
  exact ⟨rfl, rfl⟩
theorem unmix_nil (k log first : Int) (w : World) : Calls Tryd.prog 21 #[.pointer none, .int .i64 k, .int .i64 log, .int .i64 first] w fun e w' => e = .returned (.int .i64 11) ∧ w' = w := by
  have C := Lib.hid (sfault_nil k w)
  go_enter Tryd.func21, Tryd.ntmps21
  go_wp2_with fail
  refine C.out.mono ?_; rintro e w' ⟨rfl, rfl⟩
  go_wp2
  go_ret
  exact ⟨rfl, rfl⟩
set_option maxHeartbeats 3200000 in
theorem unmix_any (hS : St w s p a g n r X) (k log first : Int) : Calls Tryd.prog 21 #[.pointer (some ⟨s, 0, none⟩), .int .i64 k, .int .i64 log, .int .i64 first] w fun e w' => e = .returned (.int .i64 (whyN X.length k log first)) ∧ Below w.heap.size w w' := by
  by_cases hk : k < 0 ∨ (X.length : Int) ≤ k
  · rw [why_row hk]
    exact (unmix_out hS.row hS.pce hS.r1 hS.r2 hS.n1 k log first (by rw [← hS.len]; exact hk)).mono fun e w' h => ⟨h.1, by rw [h.2]; exact Below.refl _ _⟩
  obtain ⟨kn, rfl⟩ : ∃ kn : Nat, k = (kn : Int) := ⟨k.toNat, by omega⟩
  have hkn : kn < X.length := by omega
  have C1 := Lib.hid (sfault_in hS.row hS.pce hS.r1 hS.r2 hS.n1 kn (by rw [← hS.len]; exact hkn))
  have C2 := Lib.hid fun w => power_any log w
  by_cases hl : log < 0 ∨ 62 < log
  · rw [why_log hk hl]
    have he : powE log = 1 ∨ powE log = 10 := by
      rcases hl with hl | hl
      · exact .inl (pow_low hl).2
      · exact .inr (pow_high hl).2
    generalize powN log = N at *
    generalize powE log = E at *
    clear hS hk hl hkn
    rcases he with rfl | rfl
    all_goals
      go_enter Tryd.func21, Tryd.ntmps21
      go_wp2_with fail
      refine C1.out.mono ?_; rintro e w' ⟨rfl, hw⟩; obtain rfl := hw.symm; clear hw
      go_wp2_with fail
      refine (C2.out _).mono ?_; rintro e w' ⟨rfl, rfl⟩
      go_wp2
      go_ret
      exact ⟨rfl, Below.refl _ _⟩
  obtain ⟨lg, rfl⟩ : ∃ lg : Nat, log = (lg : Int) := ⟨log.toNat, by omega⟩
  have hlg : lg ≤ 62 := by omega
  obtain ⟨p1, p2⟩ := pow_ge lg hlg
  have C3 := Lib.hid fun (N : Nat) => add_any (some ⟨w.heap.size, 0, none⟩) 2 [first, (N : Int)] (w.alloc (.cells #[.int .i64 first, .int .i64 (N : Int)] 3)) (two_read first N w) (by simp)
  rw [(pow_mid hlg).1, (pow_mid hlg).2] at C2
  have HA := add2 first (2 ^ lg) p2
  have HY := Lib.hid fun (h3 : first < 0 ∨ (X.length : Int) < first + ((2 ^ lg : Nat) : Int)) => why_first hk hlg h3
  have HZ := Lib.hid fun (h3 : ¬ (first < 0 ∨ (X.length : Int) < first + ((2 ^ lg : Nat) : Int))) => why_rest hk hlg h3
  have HS := Lib.hid hS
  have hR : X.length ≤ 1073741824 := by have := hS.rows; have := hS.n1; omega
  have HR : Hid (∀ w2, Below w.heap.size w w2 → Calls Tryd.prog 7 #[.pointer (some ⟨s, 0, none⟩)] w2 fun e w' => e = .returned (.int .i64 (X.length : Int)) ∧ w' = w2) := Lib.hid fun w2 hb => by
    rw [hS.len]
    exact rows_any (hS.step hb).row (hS.step hb).pce hS.r1 hS.r2 hS.n1
  have HB := Lib.hid ((Below.refl w.heap.size w).alloc (Nat.le_refl _) (.cells #[.int .i64 first, .int .i64 ((2 ^ lg : Nat) : Int)] 3))
  clear hS hk hl HS
  generalize 2 ^ lg = N at *
  generalize X.length = R at *
  rcases HA with ⟨he, hc⟩ | ⟨f, rfl, he, hv, hf⟩
  · rw [HY.out (by omega)]
    have d1 : (sumE [first, (N : Int)] != 0) = true := by simpa using he
    have d2 : (sumE [first, (N : Int)] == 0) = false := by simpa using he
    have C3 := Lib.hid (C3.out N)
    generalize sumE [first, (N : Int)] = E at *
    generalize sumN [first, (N : Int)] = S at *
    clear he hc HY HZ HR hkn hR p1 p2 hlg
    go_enter Tryd.func21, Tryd.ntmps21
    go_wp2_with fail
    refine C1.out.mono ?_; rintro e w' ⟨rfl, hw⟩; obtain rfl := hw.symm; clear hw
    go_wp2_with fail
    refine (C2.out _).mono ?_; rintro e w' ⟨rfl, hw⟩; obtain rfl := hw
    go_wp2_with fail
    refine C3.out.mono ?_; rintro e w2 ⟨rfl, rfl⟩
    go_wp2
    go_ret
    exact ⟨rfl, HB.out⟩
  · have C3 := Lib.hid (C3.out N)
    rw [he, hv] at C3
    have HR := Lib.hid (HR.out _ HB.out)
    have hw1 : IntKind.i64.wrap (((f + N : Nat) : Int) - 1) = ((f + N : Nat) : Int) - 1 := by rw [IntKind.wrap_i64]; omega
    by_cases hc : R < f + N
    · rw [HY.out (by omega)]
      have d1 : decide ((R : Int) < ((f + N : Nat) : Int)) = true := by simp; omega
      have d2 : decide (R < f + N) = true := by simpa using hc
      generalize f + N = S at *
      clear he hv HY HZ hkn hR p1 p2 hlg hf hw1
      go_enter Tryd.func21, Tryd.ntmps21
      go_wp2_with fail
      refine C1.out.mono ?_; rintro e w' ⟨rfl, hw⟩; obtain rfl := hw.symm; clear hw
      go_wp2_with fail
      refine (C2.out _).mono ?_; rintro e w' ⟨rfl, hw⟩; obtain rfl := hw
      go_wp2_with fail
      refine C3.out.mono ?_; rintro e w2 ⟨rfl, rfl⟩
      go_wp2_with fail
      refine HR.out.mono ?_; rintro e w2 ⟨rfl, rfl⟩
      go_wp2
      go_ret
      exact ⟨rfl, HB.out⟩
    · rw [HZ.out (by omega)]
      have d1 : decide ((R : Int) < ((f + N : Nat) : Int)) = false := by simp; omega
      have d2 : decide (R < f + N) = false := by simpa using hc
      have C4 := Lib.hid fun w => within_any (kn : Int) (f : Int) (((f + N : Nat) : Int) - 1) w
      have HI : inB (kn : Int) (f : Int) (((f + N : Nat) : Int) - 1) = decide ((f : Int) ≤ kn ∧ (kn : Int) < (f : Int) + (N : Int)) := by
        unfold inB
        rw [Bool.eq_iff_iff]
        simp only [Bool.and_eq_true, decide_eq_true_eq]
        omega
      rw [HI] at C4
      by_cases hi : (f : Int) ≤ kn ∧ (kn : Int) < (f : Int) + (N : Int)
      · rw [if_pos hi]
        rw [decide_eq_true hi] at C4
        generalize f + N = S at *
        clear he hv HY HZ hkn hR p1 p2 hlg hf hi HI hc
        go_enter Tryd.func21, Tryd.ntmps21
        go_wp2_with fail
        refine C1.out.mono ?_; rintro e w' ⟨rfl, hw⟩; obtain rfl := hw.symm; clear hw
        go_wp2_with fail
        refine (C2.out _).mono ?_; rintro e w' ⟨rfl, hw⟩; obtain rfl := hw
        go_wp2_with fail
        refine C3.out.mono ?_; rintro e w2 ⟨rfl, rfl⟩
        go_wp2_with fail
        refine HR.out.mono ?_; rintro e w2 ⟨rfl, rfl⟩
        go_wp2_with fail
        refine (C4.out _).mono ?_; rintro e w2 ⟨rfl, rfl⟩
        go_wp2
        go_ret
        exact ⟨rfl, HB.out⟩
      · rw [if_neg hi]
        rw [decide_eq_false hi] at C4
        generalize f + N = S at *
        clear he hv HY HZ hkn hR p1 p2 hlg hf hi HI hc
        go_enter Tryd.func21, Tryd.ntmps21
        go_wp2_with fail
        refine C1.out.mono ?_; rintro e w' ⟨rfl, hw⟩; obtain rfl := hw.symm; clear hw
        go_wp2_with fail
        refine (C2.out _).mono ?_; rintro e w' ⟨rfl, hw⟩; obtain rfl := hw
        go_wp2_with fail
        refine C3.out.mono ?_; rintro e w2 ⟨rfl, rfl⟩
        go_wp2_with fail
        refine HR.out.mono ?_; rintro e w2 ⟨rfl, rfl⟩
        go_wp2_with fail
        refine (C4.out _).mono ?_; rintro e w2 ⟨rfl, rfl⟩
        go_wp2
        go_ret
        exact ⟨rfl, HB.out⟩
end

/-- the document's Why -/
theorem rwhy_any (R : Nat) (hR : R ≤ 1073741824) (k log first : Int) (w : World) : Calls Tryd.prog 10 #[.int .i64 (R : Int), .int .i64 k, .int .i64 log, .int .i64 first] w fun e w' => e = .returned (.int .i64 (whyN R k log first)) ∧ w' = w := by
  have C2 := Lib.hid fun w => refpower_any log w
  by_cases hk : k < 0 ∨ (R : Int) ≤ k
  · rw [why_row hk]
    have d1 : decide (k < 0) = true ∨ (decide (k < 0) = false ∧ decide ((R : Int) ≤ k) = true ∧ (R : Int) ≤ k) := by simp; omega
    clear hk
    rcases d1 with d1 | ⟨d1, d2, d3⟩
    all_goals
      go_enter Tryd.func10, Tryd.ntmps10
      go_wp2
      go_ret
      exact ⟨rfl, rfl⟩
  have g1 : decide (k < 0) = false := by simp; omega
  have g2 : decide ((R : Int) ≤ k) = false := by simp; omega
  have g3 : k < (R : Int) := by omega
  have g4 : 0 ≤ k := by omega
  by_cases hl : log < 0 ∨ 62 < log
  · rw [why_log hk hl]
    have he : powE log = 1 ∨ powE log = 10 := by
      rcases hl with hl | hl
      · exact .inl (pow_low hl).2
      · exact .inr (pow_high hl).2
    generalize powN log = N at *
    generalize powE log = E at *
    clear hk hl
    rcases he with rfl | rfl
    all_goals
      go_enter Tryd.func10, Tryd.ntmps10
      go_wp2_with fail
      refine (C2.out _).mono ?_; rintro e w' ⟨rfl, hw⟩; obtain rfl := hw
      go_wp2
      go_ret
      exact ⟨rfl, rfl⟩
  obtain ⟨lg, rfl⟩ : ∃ lg : Nat, log = (lg : Int) := ⟨log.toNat, by omega⟩
  have hlg : lg ≤ 62 := by omega
  obtain ⟨p1, p2⟩ := pow_ge lg hlg
  rw [(pow_mid hlg).1, (pow_mid hlg).2] at C2
  have HY := Lib.hid fun (h3 : first < 0 ∨ (R : Int) < first + ((2 ^ lg : Nat) : Int)) => why_first hk hlg h3
  have HZ := Lib.hid fun (h3 : ¬ (first < 0 ∨ (R : Int) < first + ((2 ^ lg : Nat) : Int))) => why_rest hk hlg h3
  clear hk hl
  generalize 2 ^ lg = N at *
  by_cases h3 : first < 0 ∨ (R : Int) < first + (N : Int)
  · rw [HY.out h3]
    have d : decide (first < 0) = true ∨ (decide (first < 0) = false ∧ decide ((R : Int) < first) = true ∧ (R : Int) < first) ∨ (decide (first < 0) = false ∧ decide ((R : Int) < first) = false ∧ first ≤ (R : Int) ∧ IntKind.i64.wrap ((R : Int) - first) = (R : Int) - first ∧ decide ((R : Int) - first < (N : Int)) = true ∧ (R : Int) - first < (N : Int)) := by
      rw [IntKind.wrap_i64]; simp; omega
    clear HY HZ h3 p1 p2 hlg
    rcases d with d1 | ⟨d1, d2, d3⟩ | ⟨d1, d2, d3, d4, d5, d6⟩
    all_goals
      go_enter Tryd.func10, Tryd.ntmps10
      go_wp2_with fail
      refine (C2.out _).mono ?_; rintro e w' ⟨rfl, hw⟩; obtain rfl := hw
      go_wp2
      go_ret
      exact ⟨rfl, rfl⟩
  · rw [HZ.out h3]
    have d1 : decide (first < 0) = false := by simp; omega
    have d2 : decide ((R : Int) < first) = false := by simp; omega
    have d3 : first ≤ (R : Int) := by omega
    have d4 : IntKind.i64.wrap ((R : Int) - first) = (R : Int) - first := by rw [IntKind.wrap_i64]; omega
    have d5 : decide ((R : Int) - first < (N : Int)) = false := by simp; omega
    have d6 : (N : Int) ≤ (R : Int) - first := by omega
    have d7 : IntKind.i64.wrap (first + (N : Int)) = first + (N : Int) := by rw [IntKind.wrap_i64]; omega
    have d : (decide (first ≤ k) = true ∧ first ≤ k ∧ decide (k < first + (N : Int)) = true ∧ k < first + (N : Int)) ∨ (decide (first ≤ k) = true ∧ first ≤ k ∧ decide (k < first + (N : Int)) = false ∧ first + (N : Int) ≤ k) ∨ (decide (first ≤ k) = false ∧ k < first) := by simp; omega
    clear HY HZ h3 p1 p2 hlg
    rcases d with ⟨b1, b2, b3, b4⟩ | ⟨b1, b2, b3, b4⟩ | ⟨b1, b2⟩
    · rw [if_pos ⟨b2, b4⟩]
      go_enter Tryd.func10, Tryd.ntmps10
      go_wp2_with fail
      refine (C2.out _).mono ?_; rintro e w' ⟨rfl, hw⟩; obtain rfl := hw
      go_wp2
      go_ret
      exact ⟨rfl, rfl⟩
    · rw [if_neg (by omega)]
      go_enter Tryd.func10, Tryd.ntmps10
      go_wp2_with fail
      refine (C2.out _).mono ?_; rintro e w' ⟨rfl, hw⟩; obtain rfl := hw
      go_wp2
      go_ret
      exact ⟨rfl, rfl⟩
    · rw [if_neg (by omega)]
      go_enter Tryd.func10, Tryd.ntmps10
      go_wp2_with fail
      refine (C2.out _).mono ?_; rintro e w' ⟨rfl, hw⟩; obtain rfl := hw
      go_wp2
      go_ret
      exact ⟨rfl, rfl⟩
end Go.Proofs.YtohmkhmanidljaaDoor

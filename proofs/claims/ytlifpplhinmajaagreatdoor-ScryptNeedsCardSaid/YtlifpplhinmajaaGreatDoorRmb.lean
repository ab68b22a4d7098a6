/- Row, Put, mixed, pick and unmixable of package romix, by their contracts. Conditions: those typed. unmixable of package romix and the document's Why, by their contracts. Conditions: those typed. -/
import Derived.Test.YtlifpplhinmajaaGreatDoorRma
import Derived.Test.YtlifpplhinmajaaGreatDoorSf
import Derived.Test.YtlifpplhinmajaaGreatDoorSz
import Derived.BigQuiet
namespace Go.Proofs.YtlifpplhinmajaaGreatDoor
set_option maxRecDepth 50000
open Go.RowKit Bb Sl Sf Rm

/-- a row of words at its place reads so -/
theorem row_reads {w : World} {g : Nat} {e : TypeId} {l : List Nat} (h : RowAt w g e (wd l)) {B : Nat} (hB : g < B) : Reads w B (some ⟨g, 0, none⟩) (u32s l) := fun k hk => by
  refine ⟨g, 0, rfl, hB, ?_⟩
  rw [Nat.zero_add, h.cell k]
  simp [wd]

section
variable {w w' : World} {s p a g n r : Nat} {M : Nat → Prop} {X : List (List Nat)} {live : Bool} {v : Value}
theorem row_bad_way (z : Int) (hz : z ≠ 0) (S : Option Addr) (k : Int) (w : World) (C : Calls Tryz.prog 69 #[.pointer S, .int .i64 k] w fun e w' => e = .returned (.int .i64 z) ∧ w' = w) :
    Calls Tryz.prog 50 #[.pointer S, .int .i64 k] w fun e w' => e = .returned (.tuple #[.slice none 0 0, .int .i64 z]) ∧ w' = w := by
  have C := Lib.hid C
  have d1 : (z != 0) = true := by simpa using hz
  have d2 : (z == 0) = false := by simpa using hz
  clear hz
  go_enter Tryz.func50, Tryz.ntmps50
  go_wp2_with fail
  refine C.out.mono ?_; rintro e w' ⟨rfl, rfl⟩
  go_wp2
  go_ret2
  exact ⟨rfl, rfl⟩
theorem put_bad_way (z : Int) (hz : z ≠ 0) (S : Option Addr) (k : Int) (l : Value) (w : World) (C : Calls Tryz.prog 69 #[.pointer S, .int .i64 k] w fun e w' => e = .returned (.int .i64 z) ∧ w' = w) :
    Calls Tryz.prog 44 #[.pointer S, .int .i64 k, l] w fun e w' => e = .returned (.int .i64 z) ∧ w' = w := by
  have C := Lib.hid C
  have d1 : (z != 0) = true := by simpa using hz
  have d2 : (z == 0) = false := by simpa using hz
  clear hz
  go_enter Tryz.func44, Tryz.ntmps44
  go_wp2_with fail
  refine C.out.mono ?_; rintro e w' ⟨rfl, rfl⟩
  go_wp2
  go_ret
  exact ⟨rfl, rfl⟩
theorem row_in (hS : St w s p a g n r X) (k : Nat) (hk : k < X.length) : Calls Tryz.prog 50 #[.pointer (some ⟨s, 0, none⟩), .int .i64 (k : Int)] w fun e w' => ∃ G, e = .returned (.tuple #[.slice (some ⟨G, 0, none⟩) (32 * r) (32 * r), .int .i64 0]) ∧ RowAt w' G 36 (wd (X.getD k [])) ∧ w.heap.size ≤ G ∧ Below w.heap.size w w' := by
  have C := Lib.hid (sfault_in hS.row hS.pce hS.r1 hS.r2 hS.n1 k (by rw [← hS.len]; exact hk))
  have C2 := Lib.hid (read_any hS k hk)
  clear hS hk
  generalize 32 * r = m at *
  go_enter Tryz.func50, Tryz.ntmps50
  go_wp2_with fail
  refine C.out.mono ?_; rintro e w' ⟨rfl, rfl⟩
  go_wp2_with fail
  refine C2.out.mono ?_; rintro e w2 ⟨G, rfl, H⟩
  have H := Lib.hid H
  go_wp2
  go_ret2
  exact ⟨G, rfl, H.out⟩
theorem put_size (hS : St w s p a g n r X) (k : Nat) (hk : k < X.length) (A : Option Addr) (m c : Nat) (hm : m ≠ 32 * r) : Calls Tryz.prog 44 #[.pointer (some ⟨s, 0, none⟩), .int .i64 (k : Int), .slice A m c] w fun e w' => e = .returned (.int .i64 9) ∧ w' = w := by
  have C := Lib.hid (sfault_in hS.row hS.pce hS.r1 hS.r2 hS.n1 k (by rw [← hS.len]; exact hk))
  have C2 := Lib.hid (check_size r hS.r1 hS.r2 A m c hm w)
  obtain ⟨x0, x1⟩ := hS.row.at_
  clear hS hk hm
  go_enter Tryz.func44, Tryz.ntmps44
  go_wp2_with fail
  refine C.out.mono ?_; rintro e w' ⟨rfl, rfl⟩
  go_wp2_with fail
  refine C2.out.mono ?_; rintro e w2 ⟨rfl, rfl⟩
  go_wp2
  go_ret
  exact ⟨rfl, rfl⟩
theorem put_in (hS : St w s p a g n r X) (k : Nat) (hk : k < X.length) (b o c : Nat) (l : List Nat) (hl : l.length = 32 * r) (ho : okw l) (hbg : b ≠ g) (hbw : b < w.heap.size) (hc : ∀ i, i < 32 * r → w.cell? ⟨b, o + i, none⟩ = some (.int .u32 (l.getD i 0 : Nat))) :
    Calls Tryz.prog 44 #[.pointer (some ⟨s, 0, none⟩), .int .i64 (k : Int), .slice (some ⟨b, o, none⟩) (32 * r) c] w fun e w' => e = .returned (.int .i64 0) ∧ St w' s p a g n r (X.set k l) ∧ Kept (fun b => b = g) w w' := by
  have C := Lib.hid (sfault_in hS.row hS.pce hS.r1 hS.r2 hS.n1 k (by rw [← hS.len]; exact hk))
  have C2 := Lib.hid (check_ok r hS.r1 hS.r2 (some ⟨b, o, none⟩) (32 * r) c rfl w)
  have C3 := Lib.hid (write_any hS k hk b o c l hl ho hbg hbw hc)
  obtain ⟨x0, x1⟩ := hS.row.at_
  clear hS hk hl ho hbg hbw hc
  obtain ⟨m, hm⟩ : ∃ m, 32 * r = m := ⟨_, rfl⟩
  rw [hm] at C2 C3 ⊢
  clear hm
  go_enter Tryz.func44, Tryz.ntmps44
  go_wp2_with fail
  refine C.out.mono ?_; rintro e w' ⟨rfl, hw⟩; obtain rfl := hw.symm; clear hw
  go_wp2_with fail
  refine C2.out.mono ?_; rintro e w2 ⟨rfl, rfl⟩
  go_wp2_with fail
  refine C3.out.mono ?_; rintro e w2 ⟨rfl, H⟩
  have H := Lib.hid H
  go_wp2
  go_ret
  exact ⟨rfl, H.out⟩

theorem mixed_any (h : ScAt w s p r) (h1 : 1 ≤ r) (h2 : r ≤ 512) (hk : QAt w) (G c : Nat) (l : List Nat) (hl : l.length = 32 * r) (ho : okw l) (hc : 32 * r ≤ c) (hR : RowAt w G 36 (wd l)) :
    Calls Tryz.prog 48 #[.pointer (some ⟨s, 0, none⟩), .slice (some ⟨G, 0, none⟩) (32 * r) c] w fun e w' => ∃ G', e = .returned (.slice (some ⟨G', 0, none⟩) (32 * r) (32 * r)) ∧ RowAt w' G' 36 (wd (mxr r l)) ∧ w.heap.size ≤ G' ∧ Below w.heap.size w w' := by
  have C := Lib.hid (mix_any r h1 h2 (some ⟨G, 0, none⟩) (32 * r) c l hl rfl hc ho w hk (row_reads hR hR.lt))
  obtain ⟨x0, x1⟩ := h.at_
  change Hid (Calls _ _ _ _ fun e w' => ∃ G, _ ∧ RowAt w' G _ (wd (mxr r l)) ∧ _) at C
  generalize mxr r l = y at *
  obtain ⟨m, hm⟩ : ∃ m, 32 * r = m := ⟨_, rfl⟩
  rw [hm] at C ⊢
  clear h hk hl ho hc hR h1 h2 hm
  go_enter Tryz.func48, Tryz.ntmps48
  go_wp2_with fail
  refine C.out.mono ?_; rintro e w2 ⟨G', rfl, H⟩
  have H := Lib.hid H
  go_wp2
  go_ret
  exact ⟨G', rfl, H.out⟩
theorem pick_any (h : ScAt w s p r) (h1 : 1 ≤ r) (h2 : r ≤ 512) (N : Nat) (hN : 1 ≤ N) (hN2 : N ≤ 4611686018427387904) (G c : Nat) (l : List Nat) (hl : l.length = 32 * r) (ho : okw l) (hc : 32 * r ≤ c) (hR : RowAt w G 36 (wd l)) :
    Calls Tryz.prog 49 #[.pointer (some ⟨s, 0, none⟩), .int .i64 (N : Int), .slice (some ⟨G, 0, none⟩) (32 * r) c] w fun e w' => e = .returned (.int .i64 ((pk N l inN : Nat) : Int)) ∧ Below w.heap.size w w' := by
  have C := Lib.hid (int_any r h1 h2 (some ⟨G, 0, none⟩) (32 * r) c l hl rfl hc ho w (row_reads hR hR.lt))
  obtain ⟨x0, x1⟩ := h.at_
  have hI := inN_lt ho
  have hp := pk_lt l inN hN
  unfold pk at hp ⊢
  generalize inN l = I at *
  have e1 : (I : Int) % (N : Int) = ((I % N : Nat) : Int) := rfl
  have e2 : (I : Int).tmod (N : Int) = ((I % N : Nat) : Int) := rfl
  generalize I % N = q at *
  have n0 : ¬ N = 0 := by omega
  have hw1 : IntKind.u64.wrap (N : Int) = (N : Int) := by rw [IntKind.wrap_u64]; omega
  have hw2 : IntKind.u64.wrap (q : Int) = (q : Int) := by rw [IntKind.wrap_u64]; omega
  have hw3 : IntKind.i64.wrap (q : Int) = (q : Int) := by rw [IntKind.wrap_i64]; omega
  obtain ⟨m, hm⟩ : ∃ m, 32 * r = m := ⟨_, rfl⟩
  rw [hm] at C ⊢
  clear h hl ho hc hR h1 h2 hm hp hI hN hN2
  go_enter Tryz.func49, Tryz.ntmps49
  go_wp2_with fail
  refine C.out.mono ?_; rintro e w2 ⟨rfl, H⟩
  have H := Lib.hid H
  go_wp2
  go_ret
  exact ⟨rfl, H.out⟩
end
end Go.Proofs.YtlifpplhinmajaaGreatDoor

namespace Go.Proofs.YtlifpplhinmajaaGreatDoor
set_option maxRecDepth 50000
open Go.RowKit Bb Sl Sf Rm

theorem add2 (first : Int) (N : Nat) (hN : N ≤ 4611686018427387904) : (sumE [first, (N : Int)] ≠ 0 ∧ (first < 0 ∨ 4611686018427387904 < first + (N : Int))) ∨ ∃ f : Nat, first = (f : Int) ∧ sumE [first, (N : Int)] = 0 ∧ sumN [first, (N : Int)] = ((f + N : Nat) : Int) ∧ f + N ≤ 4611686018427387904 := by
  cases hb : allIn [first, (N : Int)] with
  | false =>
    refine .inl ⟨by rw [sumE_no hb]; decide, ?_⟩
    have : ¬ (0 ≤ first ∧ first ≤ 4611686018427387904) := fun h => by
      have : allIn [first, (N : Int)] = true := by
        unfold allIn inB
        simp only [List.all_cons, List.all_nil, Bool.and_true, Bool.and_eq_true, decide_eq_true_eq]
        omega
      rw [this] at hb; cases hb
    omega
  | true =>
    have h := hb
    unfold allIn inB at h
    simp only [List.all_cons, List.all_nil, Bool.and_true, Bool.and_eq_true, decide_eq_true_eq] at h
    obtain ⟨f, rfl⟩ : ∃ f : Nat, first = (f : Int) := ⟨first.toNat, by omega⟩
    have e : natsOf [(f : Int), (N : Int)] = [f, N] := by simp [natsOf]
    have es : [f, N].sum = f + N := by simp
    rw [sumE_yes hb e, sumN_yes hb e, es]
    by_cases hs : f + N ≤ 4611686018427387904
    · exact .inr ⟨f, rfl, fitE_yes hs, fitN_yes hs, hs⟩
    · exact .inl ⟨by rw [fitE_no (by omega)]; decide, by omega⟩
theorem pow_ge (lg : Nat) (h : lg ≤ 62) : 1 ≤ 2 ^ lg ∧ 2 ^ lg ≤ 4611686018427387904 :=
  ⟨Nat.one_le_two_pow, Nat.le_trans (Nat.pow_le_pow_right (by decide) h) (by decide)⟩
theorem two_read (a b : Int) (w : World) : Reads (w.alloc (.cells #[.int .i64 a, .int .i64 b] 3)) (w.heap.size + 1) (some ⟨w.heap.size, 0, none⟩) (i64s [a, b]) := fun k hk =>
  ⟨w.heap.size, 0, rfl, by omega, by
    match k, hk with
    | 0, _ => simp [i64s]
    | 1, _ => simp [i64s]⟩

section
variable {w w' : World} {s p a g n r : Nat} {X : List (List Nat)}
set_option maxHeartbeats 1600000 in
theorem unmix_out (h : ScAt w s p r) {live : Bool} {v : Value} (hP : PceAt w p a n live v) (h1 : 1 ≤ r) (hr : r ≤ 512) (hn : n ≤ 4194304) (k log first : Int) (hk : k < 0 ∨ ((n * 256 / (32 * r) : Nat) : Int) ≤ k) :
    Calls Tryz.prog 45 #[.pointer (some ⟨s, 0, none⟩), .int .i64 k, .int .i64 log, .int .i64 first] w fun e w' => e = .returned (.int .i64 11) ∧ w' = w := by
  have C := Lib.hid (sfault_out h hP h1 hr hn k hk)
  clear h hP h1 hr hn hk
  go_enter Tryz.func45, Tryz.ntmps45
  go_wp2_with fail
  refine C.out.mono ?_; rintro e w' ⟨rfl, rfl⟩
  go_wp2
  go_ret
  exact ⟨rfl, rfl⟩
theorem unmix_nil (k log first : Int) (w : World) : Calls Tryz.prog 45 #[.pointer none, .int .i64 k, .int .i64 log, .int .i64 first] w fun e w' => e = .returned (.int .i64 11) ∧ w' = w := by
  have C := Lib.hid (sfault_nil k w)
  go_enter Tryz.func45, Tryz.ntmps45
  go_wp2_with fail
  refine C.out.mono ?_; rintro e w' ⟨rfl, rfl⟩
  go_wp2
  go_ret
  exact ⟨rfl, rfl⟩
set_option maxHeartbeats 3200000 in
theorem unmix_any (hS : St w s p a g n r X) (k log first : Int) : Calls Tryz.prog 45 #[.pointer (some ⟨s, 0, none⟩), .int .i64 k, .int .i64 log, .int .i64 first] w fun e w' => e = .returned (.int .i64 (whyN X.length k log first)) ∧ Below w.heap.size w w' := by
  by_cases hk : k < 0 ∨ (X.length : Int) ≤ k
  · rw [why_row hk]
    exact (unmix_out hS.row hS.pce hS.r1 hS.r2 hS.n1 k log first (by rw [← hS.len]; exact hk)).mono fun e w' h => ⟨h.1, by rw [h.2]; exact Below.refl _ _⟩
  obtain ⟨kn, rfl⟩ : ∃ kn : Nat, k = (kn : Int) := ⟨k.toNat, by omega⟩
  have hkn : kn < X.length := by omega
  have C1 := Lib.hid (sfault_in hS.row hS.pce hS.r1 hS.r2 hS.n1 kn (by rw [← hS.len]; exact hkn))
  have C2 := Lib.hid fun w => power_any log w
  by_cases hl : log < 0 ∨ 62 < log
  · rw [why_log hk hl]
    have he : powE log = 1 ∨ powE log = 10 := by
      rcases hl with hl | hl
      · exact .inl (pow_low hl).2
      · exact .inr (pow_high hl).2
    generalize powN log = N at *
    generalize powE log = E at *
    clear hS hk hl hkn
    rcases he with rfl | rfl
    all_goals
      go_enter Tryz.func45, Tryz.ntmps45
      go_wp2_with fail
      refine C1.out.mono ?_; rintro e w' ⟨rfl, hw⟩; obtain rfl := hw.symm; clear hw
      go_wp2_with fail
      refine (C2.out _).mono ?_; rintro e w' ⟨rfl, rfl⟩
      go_wp2
      go_ret
      exact ⟨rfl, Below.refl _ _⟩
  obtain ⟨lg, rfl⟩ : ∃ lg : Nat, log = (lg : Int) := ⟨log.toNat, by omega⟩
  have hlg : lg ≤ 62 := by omega
  obtain ⟨p1, p2⟩ := pow_ge lg hlg
  have C3 := Lib.hid fun (N : Nat) => add_any (some ⟨w.heap.size, 0, none⟩) 2 [first, (N : Int)] (w.alloc (.cells #[.int .i64 first, .int .i64 (N : Int)] 3)) (two_read first N w) (by simp)
  rw [(pow_mid hlg).1, (pow_mid hlg).2] at C2
  have HA := add2 first (2 ^ lg) p2
  have HY := Lib.hid fun (h3 : first < 0 ∨ (X.length : Int) < first + ((2 ^ lg : Nat) : Int)) => why_first hk hlg h3
  have HZ := Lib.hid fun (h3 : ¬ (first < 0 ∨ (X.length : Int) < first + ((2 ^ lg : Nat) : Int))) => why_rest hk hlg h3
  have HS := Lib.hid hS
  have hR : X.length ≤ 1073741824 := by have := hS.rows; have := hS.n1; omega
  have HR : Hid (∀ w2, Below w.heap.size w w2 → Calls Tryz.prog 70 #[.pointer (some ⟨s, 0, none⟩)] w2 fun e w' => e = .returned (.int .i64 (X.length : Int)) ∧ w' = w2) := Lib.hid fun w2 hb => by
    rw [hS.len]
    exact rows_any (hS.step hb).row (hS.step hb).pce hS.r1 hS.r2 hS.n1
  have HB := Lib.hid ((Below.refl w.heap.size w).alloc (Nat.le_refl _) (.cells #[.int .i64 first, .int .i64 ((2 ^ lg : Nat) : Int)] 3))
  clear hS hk hl HS
  generalize 2 ^ lg = N at *
  generalize X.length = R at *
  rcases HA with ⟨he, hc⟩ | ⟨f, rfl, he, hv, hf⟩
  · rw [HY.out (by omega)]
    have d1 : (sumE [first, (N : Int)] != 0) = true := by simpa using he
    have d2 : (sumE [first, (N : Int)] == 0) = false := by simpa using he
    have C3 := Lib.hid (C3.out N)
    generalize sumE [first, (N : Int)] = E at *
    generalize sumN [first, (N : Int)] = S at *
    clear he hc HY HZ HR hkn hR p1 p2 hlg
    go_enter Tryz.func45, Tryz.ntmps45
    go_wp2_with fail
    refine C1.out.mono ?_; rintro e w' ⟨rfl, hw⟩; obtain rfl := hw.symm; clear hw
    go_wp2_with fail
    refine (C2.out _).mono ?_; rintro e w' ⟨rfl, hw⟩; obtain rfl := hw
    go_wp2_with fail
    refine C3.out.mono ?_; rintro e w2 ⟨rfl, rfl⟩
    go_wp2
    go_ret
    exact ⟨rfl, HB.out⟩
  · have C3 := Lib.hid (C3.out N)
    rw [he, hv] at C3
    have HR := Lib.hid (HR.out _ HB.out)
    have hw1 : IntKind.i64.wrap (((f + N : Nat) : Int) - 1) = ((f + N : Nat) : Int) - 1 := by rw [IntKind.wrap_i64]; omega
    by_cases hc : R < f + N
    · rw [HY.out (by omega)]
      have d1 : decide ((R : Int) < ((f + N : Nat) : Int)) = true := by simp; omega
      have d2 : decide (R < f + N) = true := by simpa using hc
      generalize f + N = S at *
      clear he hv HY HZ hkn hR p1 p2 hlg hf hw1
      go_enter Tryz.func45, Tryz.ntmps45
      go_wp2_with fail
      refine C1.out.mono ?_; rintro e w' ⟨rfl, hw⟩; obtain rfl := hw.symm; clear hw
      go_wp2_with fail
      refine (C2.out _).mono ?_; rintro e w' ⟨rfl, hw⟩; obtain rfl := hw
      go_wp2_with fail
      refine C3.out.mono ?_; rintro e w2 ⟨rfl, rfl⟩
      go_wp2_with fail
      refine HR.out.mono ?_; rintro e w2 ⟨rfl, rfl⟩
      go_wp2
      go_ret
      exact ⟨rfl, HB.out⟩
    · rw [HZ.out (by omega)]
      have d1 : decide ((R : Int) < ((f + N : Nat) : Int)) = false := by simp; omega
      have d2 : decide (R < f + N) = false := by simpa using hc
      have C4 := Lib.hid fun w => within_any (kn : Int) (f : Int) (((f + N : Nat) : Int) - 1) w
      have HI : inB (kn : Int) (f : Int) (((f + N : Nat) : Int) - 1) = decide ((f : Int) ≤ kn ∧ (kn : Int) < (f : Int) + (N : Int)) := by
        unfold inB
        rw [Bool.eq_iff_iff]
        simp only [Bool.and_eq_true, decide_eq_true_eq]
        omega
      rw [HI] at C4
      by_cases hi : (f : Int) ≤ kn ∧ (kn : Int) < (f : Int) + (N : Int)
      · rw [if_pos hi]
        rw [decide_eq_true hi] at C4
        generalize f + N = S at *
        clear he hv HY HZ hkn hR p1 p2 hlg hf hi HI hc
        go_enter Tryz.func45, Tryz.ntmps45
        go_wp2_with fail
        refine C1.out.mono ?_; rintro e w' ⟨rfl, hw⟩; obtain rfl := hw.symm; clear hw
        go_wp2_with fail
        refine (C2.out _).mono ?_; rintro e w' ⟨rfl, hw⟩; obtain rfl := hw
        go_wp2_with fail
        refine C3.out.mono ?_; rintro e w2 ⟨rfl, rfl⟩
        go_wp2_with fail
        refine HR.out.mono ?_; rintro e w2 ⟨rfl, rfl⟩
        go_wp2_with fail
        refine (C4.out _).mono ?_; rintro e w2 ⟨rfl, rfl⟩
        go_wp2
        go_ret
        exact ⟨rfl, HB.out⟩
      · rw [if_neg hi]
        rw [decide_eq_false hi] at C4
        generalize f + N = S at *
        clear he hv HY HZ hkn hR p1 p2 hlg hf hi HI hc
        go_enter Tryz.func45, Tryz.ntmps45
        go_wp2_with fail
        refine C1.out.mono ?_; rintro e w' ⟨rfl, hw⟩; obtain rfl := hw.symm; clear hw
        go_wp2_with fail
        refine (C2.out _).mono ?_; rintro e w' ⟨rfl, hw⟩; obtain rfl := hw
        go_wp2_with fail
        refine C3.out.mono ?_; rintro e w2 ⟨rfl, rfl⟩
        go_wp2_with fail
        refine HR.out.mono ?_; rintro e w2 ⟨rfl, rfl⟩
        go_wp2_with fail
        refine (C4.out _).mono ?_; rintro e w2 ⟨rfl, rfl⟩
        go_wp2
        go_ret
        exact ⟨rfl, HB.out⟩
end

end Go.Proofs.YtlifpplhinmajaaGreatDoor

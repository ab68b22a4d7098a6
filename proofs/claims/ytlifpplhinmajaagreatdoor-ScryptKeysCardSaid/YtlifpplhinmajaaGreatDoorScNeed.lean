/- How many blocks parameters of scrypt need: the program's answers and the document's, by their contracts. Conditions: those typed. -/
import Derived.Test.YtlifpplhinmajaaGreatDoorScSmall
import Derived.Test.YtlifpplhinmajaaGreatDoorFh
namespace Go.Proofs.YtlifpplhinmajaaGreatDoor
set_option maxRecDepth 50000
open Go.RowKit

/-- how many blocks parameters need -/
def needN (lg r p : Nat) : Nat := if 128 * r * (2 ^ lg + p + 2) % 1024 = 0 then 128 * r * (2 ^ lg + p + 2) / 1024 else 128 * r * (2 ^ lg + p + 2) / 1024 + 1

set_option maxHeartbeats 3200000 in
theorem rcheck_bad {log r p b : Int} (h : Bad log r p b) (w : World) : Calls Tryz.prog 8 #[.int .i64 log, .int .i64 r, .int .i64 p, .int .i64 b] w fun e w' => e = .returned (.bool false) ∧ w = w' := by
  rcases h with h | ⟨R, rfl, h1, h2, h⟩
  · rcases h with h | h
    all_goals
      go_enter Tryz.func8, Tryz.ntmps8
      go_wp2
      go_ret
      exact ⟨rfl, rfl⟩
  have a1 : decide ((R : Int) < 1) = false := by simp; omega
  have a2 : decide ((R : Int) > 512) = false := by simp; omega
  rcases h with h | ⟨P, rfl, h3, h4, h5, h⟩
  · rcases h with h | h | ⟨P, rfl, h3, h4, h5⟩
    · have a3 : decide (p < 1) = true := by simp; omega
      go_enter Tryz.func8, Tryz.ntmps8
      go_wp2
      go_ret
      exact ⟨rfl, rfl⟩
    · have a3 : decide (p < 1) = false := by simp; omega
      have a4 : decide (p > 512) = true := by simp; omega
      go_enter Tryz.func8, Tryz.ntmps8
      go_wp2
      go_ret
      exact ⟨rfl, rfl⟩
    · have a3 : decide ((P : Int) < 1) = false := by simp; omega
      have a4 : decide ((P : Int) > 512) = false := by simp; omega
      have hb : R * P ≤ 512 * 512 := Nat.mul_le_mul h2 h4
      obtain ⟨m, hm⟩ : ∃ m : Nat, R * P = m := ⟨_, rfl⟩
      have e1 : (R : Int) * (P : Int) = (m : Int) := by rw [← hm, Int.natCast_mul]
      rw [hm] at h5 hb
      clear hm
      have e2 : IntKind.i64.wrap (m : Int) = (m : Int) := by rw [IntKind.wrap_i64]; omega
      have a5 : decide ((m : Int) > 512) = true := by simp; omega
      go_enter Tryz.func8, Tryz.ntmps8
      go_wp2
      go_ret
      exact ⟨rfl, rfl⟩
  have a3 : decide ((P : Int) < 1) = false := by simp; omega
  have a4 : decide ((P : Int) > 512) = false := by simp; omega
  obtain ⟨m, hm⟩ : ∃ m : Nat, R * P = m := ⟨_, rfl⟩
  have e1 : (R : Int) * (P : Int) = (m : Int) := by rw [← hm, Int.natCast_mul]
  rw [hm] at h5
  clear hm
  have e2 : IntKind.i64.wrap (m : Int) = (m : Int) := by rw [IntKind.wrap_i64]; omega
  have a5 : decide ((m : Int) > 512) = false := by simp; omega
  have s1 : IntKind.i64.wrap (16 * (R : Int)) = 16 * (R : Int) := by rw [IntKind.wrap_i64]; omega
  rcases h with h | ⟨h6, h7, h8, h9⟩
  · rcases h with h | h | ⟨h6, h7, h8⟩
    all_goals
      go_enter Tryz.func8, Tryz.ntmps8
      go_wp2
      go_ret
      exact ⟨rfl, rfl⟩
  · rcases h9 with h9 | h9
    all_goals
      go_enter Tryz.func8, Tryz.ntmps8
      go_wp2
      go_ret
      first
        | exact ⟨rfl, rfl⟩
        | (refine ⟨?_, rfl⟩
           simp
           omega)
set_option maxHeartbeats 3200000 in
theorem rcheck_ok {lg R P n : Nat} (h : Fine lg R P n) (w : World) : Calls Tryz.prog 8 #[.int .i64 (lg : Int), .int .i64 (R : Int), .int .i64 (P : Int), .int .i64 (n : Int)] w fun e w' => e = .returned (.bool true) ∧ w = w' := by
  obtain ⟨h1, h2, h3, h4, h5, h6, h7, h8, h9, h10⟩ := h
  obtain ⟨m, hm⟩ : ∃ m : Nat, R * P = m := ⟨_, rfl⟩
  have e1 : (R : Int) * (P : Int) = (m : Int) := by rw [← hm, Int.natCast_mul]
  rw [hm] at h5
  clear hm
  have e2 : IntKind.i64.wrap (m : Int) = (m : Int) := by rw [IntKind.wrap_i64]; omega
  have s1 : IntKind.i64.wrap (16 * (R : Int)) = 16 * (R : Int) := by rw [IntKind.wrap_i64]; omega
  go_enter Tryz.func8, Tryz.ntmps8
  go_wp2
  go_ret
  refine ⟨?_, rfl⟩
  simp
  omega

theorem three_read (a b c : Int) (w : World) : Reads (w.alloc (.cells #[.int .i64 a, .int .i64 b, .int .i64 c] 3)) (w.heap.size + 1) (some ⟨w.heap.size, 0, none⟩) (i64s [a, b, c]) := fun k hk =>
  ⟨w.heap.size, 0, rfl, by omega, by
    match k, hk with
    | 0, _ => simp [i64s]
    | 1, _ => simp [i64s]
    | 2, _ => simp [i64s]⟩
theorem in_cast (x : Nat) (h : x ≤ 4611686018427387904) : inB (x : Int) 0 4611686018427387904 = true := in_yes (by omega) (by omega)
theorem all3 {a b c : Nat} (h1 : a ≤ 4611686018427387904) (h2 : b ≤ 4611686018427387904) (h3 : c ≤ 4611686018427387904) : allIn [(a : Int), (b : Int), (c : Int)] = true := by
  simp only [allIn, List.all_cons, List.all_nil, in_cast _ h1, in_cast _ h2, in_cast _ h3, Bool.and_true]
theorem sum3 {a b c : Nat} (h : a + b + c ≤ 4611686018427387904) : sumN [(a : Int), (b : Int), (c : Int)] = ((a + b + c : Nat) : Int) := by
  rw [sumN_yes (xs := [a, b, c]) (all3 (by omega) (by omega) (by omega)) rfl]
  have e : [a, b, c].sum = a + b + c := by simp [Nat.add_assoc]
  rw [e, fitN_yes h]
theorem pro3 {a b c : Nat} (h1 : a ≤ 4611686018427387904) (h2 : b ≤ 4611686018427387904) (h3 : c ≤ 4611686018427387904) (h : a * b * c ≤ 4611686018427387904) : proN [(a : Int), (b : Int), (c : Int)] = ((a * b * c : Nat) : Int) := by
  rw [proN_yes (xs := [a, b, c]) (all3 h1 h2 h3) rfl]
  have e : prodOf [a, b, c] = a * b * c := by simp [prodOf, Nat.mul_assoc]
  rw [e, fitN_yes h]
theorem fine_bounds {lg r p n : Nat} (h : Fine lg r p n) : 2 ^ lg ≤ 4294967296 ∧ 2 ^ lg + p + 2 ≤ 4294967810 ∧ 128 * r * (2 ^ lg + p + 2) ≤ 281475010396160 := by
  obtain ⟨h1, h2, h3, h4, h5, h6, h7, h8, h9, h10⟩ := h
  have e : 2 ^ lg ≤ 2 ^ 32 := Nat.pow_le_pow_right (by omega) h7
  rw [show 2 ^ 32 = 4294967296 from rfl] at e
  refine ⟨e, by omega, ?_⟩
  have : 128 * r * (2 ^ lg + p + 2) ≤ 65536 * 4294967810 := Nat.mul_le_mul (by omega) (by omega)
  omega
theorem sneed_bad {log r p : Int} (h : Bad log r p 1) (w : World) : Calls Tryz.prog 9 #[.int .i64 log, .int .i64 r, .int .i64 p] w fun e w' => e = .returned (.tuple #[.int .i64 0, .int .i64 2]) ∧ Below w.heap.size w w' := by
  have C := Lib.hid (scheck_bad h)
  clear h
  go_enter Tryz.func9, Tryz.ntmps9
  go_wp2_with fail
  refine (C.out _).mono ?_; rintro e w' ⟨rfl, rfl⟩
  go_wp2
  go_ret2
  exact ⟨rfl, Below.refl _ _⟩
set_option maxHeartbeats 3200000 in
theorem sneed_ok {lg r p n : Nat} (h : Fine lg r p n) (w : World) : Calls Tryz.prog 9 #[.int .i64 (lg : Int), .int .i64 (r : Int), .int .i64 (p : Int)] w fun e w' => e = .returned (.tuple #[.int .i64 ((needN lg r p : Nat) : Int), .int .i64 0]) ∧ Below w.heap.size w w' := by
  have C := Lib.hid (scheck_ok (fine_one h))
  obtain ⟨b1, b2, b3⟩ := fine_bounds h
  have hr : r ≤ 512 := h.2.1
  have hlg : lg ≤ 62 := by have := h.2.2.2.2.2.2.1; omega
  have CP := Lib.hid fun w => power_any lg w
  rw [(pow_mid hlg).1, (pow_mid hlg).2] at CP
  have hN : upN ((128 * r * (2 ^ lg + p + 2) : Nat) : Int) 1024 = ((needN lg r p : Nat) : Int) := upN_yes (by unfold partOK; rw [in_cast _ (by omega)]; rfl)
  have hE : partE ((128 * r * (2 ^ lg + p + 2) : Nat) : Int) 1024 = 0 := partE_yes (by unfold partOK; rw [in_cast _ (by omega)]; rfl)
  obtain ⟨N, eN⟩ : ∃ N, 2 ^ lg = N := ⟨_, rfl⟩
  rw [eN] at CP b1 b2 b3 hN hE
  have CB := Lib.hid fun w => szblocks_any ((128 * r * (N + p + 2) : Nat) : Int) w
  rw [hN, hE] at CB
  have CM := Lib.hid fun (A : Option Addr) (c : Nat) (w : World) (B : Nat) (hr : Reads w B A (i64s [((128 : Nat) : Int), (r : Int), ((N + p + 2 : Nat) : Int)])) => mul_any A c [((128 : Nat) : Int), (r : Int), ((N + p + 2 : Nat) : Int)] w hr (by simp)
  rw [pro3 (by omega) (by omega) (by omega) (by omega)] at CM
  have CA := Lib.hid fun (A : Option Addr) (c : Nat) (w : World) (B : Nat) (hr : Reads w B A (i64s [(N : Int), (p : Int), ((2 : Nat) : Int)])) => add_any A c [(N : Int), (p : Int), ((2 : Nat) : Int)] w hr (by simp)
  rw [sum3 (by omega)] at CA
  generalize sumE [(N : Int), (p : Int), ((2 : Nat) : Int)] = E1 at *
  generalize N + p + 2 = R at *
  generalize proE [((128 : Nat) : Int), (r : Int), (R : Int)] = E2 at *
  generalize 128 * r * R = M at *
  generalize needN lg r p = D at *
  clear h b1 b2 b3 hN hE eN hlg hr
  go_enter Tryz.func9, Tryz.ntmps9
  go_wp2_with fail
  refine (C.out _).mono ?_; rintro e w' ⟨rfl, rfl⟩
  go_wp2_with fail
  refine (CP.out _).mono ?_; rintro e w' ⟨rfl, rfl⟩
  go_wp2_with fail
  have CAA := CA.out _ 3 _ _ (three_read (N : Int) (p : Int) ((2 : Nat) : Int) w)
  clear CA
  refine CAA.mono ?_; rintro e w1 ⟨rfl, hw1⟩
  have B1 : Hid (Below w.heap.size w w1) := Lib.hid (by rw [← hw1]; exact (Below.refl _ w).alloc (Nat.le_refl _) _)
  clear hw1 CAA
  go_wp2_with fail
  have CMM := CM.out _ 3 _ _ (three_read ((128 : Nat) : Int) (r : Int) (R : Int) w1)
  clear CM
  refine CMM.mono ?_; rintro e w2 ⟨rfl, hw2⟩
  have B2 : Hid (Below w.heap.size w w2) := Lib.hid (below_step B1.out (by rw [← hw2]; exact (Below.refl _ w1).alloc (Nat.le_refl _) _))
  clear hw2 CMM
  go_wp2_with fail
  refine (CB.out _).mono ?_; rintro e w3 ⟨rfl, hb⟩
  have B3 := Lib.hid (below_step B2.out hb)
  clear hb
  go_wp2
  go_ret2
  exact ⟨rfl, B3.out⟩
set_option maxHeartbeats 3200000 in
theorem rneed_ok {lg r p n : Nat} (h : Fine lg r p n) (w : World) : Calls Tryz.prog 10 #[.int .i64 (lg : Int), .int .i64 (r : Int), .int .i64 (p : Int)] w fun e w' => e = .returned (.int .i64 ((needN lg r p : Nat) : Int)) ∧ w = w' := by
  obtain ⟨b1, b2, b3⟩ := fine_bounds h
  have hr : r ≤ 512 := h.2.1
  have hp : p ≤ 512 := h.2.2.2.1
  have hlg : lg ≤ 62 := by have := h.2.2.2.2.2.2.1; omega
  have CP := Lib.hid fun w => refpower_any lg w
  rw [(pow_mid hlg).1, (pow_mid hlg).2] at CP
  have hN : needN lg r p = if 128 * r * (2 ^ lg + p + 2) % 1024 = 0 then 128 * r * (2 ^ lg + p + 2) / 1024 else 128 * r * (2 ^ lg + p + 2) / 1024 + 1 := rfl
  generalize needN lg r p = D at *
  generalize 2 ^ lg = N at *
  obtain ⟨R, hR⟩ : ∃ R, N + p + 2 = R := ⟨_, rfl⟩
  have e1 : (N : Int) + (p : Int) + 2 = (R : Int) := by omega
  have e1a : IntKind.i64.wrap ((N : Int) + (p : Int)) = (N : Int) + (p : Int) := by rw [IntKind.wrap_i64]; omega
  have e1b : IntKind.i64.wrap (R : Int) = (R : Int) := by rw [IntKind.wrap_i64]; omega
  rw [hR] at b2 b3 hN
  obtain ⟨M, hM⟩ : ∃ M, 128 * r * R = M := ⟨_, rfl⟩
  have e2a : IntKind.i64.wrap (128 * (r : Int)) = 128 * (r : Int) := by rw [IntKind.wrap_i64]; omega
  have e2 : 128 * (r : Int) * (R : Int) = (M : Int) := by rw [← hM, Int.natCast_mul, Int.natCast_mul]; rfl
  rw [hM] at b3 hN
  have e2b : IntKind.i64.wrap (M : Int) = (M : Int) := by rw [IntKind.wrap_i64]; omega
  obtain ⟨q, hq⟩ : ∃ q, M / 1024 = q := ⟨_, rfl⟩
  obtain ⟨s, hs⟩ : ∃ s, M % 1024 = s := ⟨_, rfl⟩
  have e3 : (M : Int) / 1024 = (q : Int) := by omega
  have e3b : (M : Int).tdiv 1024 = (q : Int) := by rw [← hq]; rfl
  have e4 : (M : Int) % 1024 = (s : Int) := by omega
  have e4b : (M : Int).tmod 1024 = (s : Int) := by rw [← hs]; rfl
  have hq2 : q ≤ M := by rw [← hq]; exact Nat.div_le_self _ _
  have e5 : IntKind.i64.wrap (q : Int) = (q : Int) := by rw [IntKind.wrap_i64]; omega
  have e6 : IntKind.i64.wrap ((q : Int) + 1) = (q : Int) + 1 := by rw [IntKind.wrap_i64]; omega
  have e7 : IntKind.i64.wrap (s : Int) = (s : Int) := by rw [IntKind.wrap_i64]; omega
  rw [hq, hs] at hN
  have HN := Lib.hid hN
  clear h hN hR hM hq hs b2 b3 hlg
  by_cases hz : s = 0
  · subst hz
    simp only [Int.natCast_zero] at e4 e4b e7
    go_enter Tryz.func10, Tryz.ntmps10
    go_wp2_with fail
    refine (CP.out _).mono ?_; rintro e w' ⟨rfl, rfl⟩
    go_wp2
    go_ret
    exact ⟨by rw [HN.out, if_pos trivial]; rfl, rfl⟩
  · have z1 : ((s : Int) == 0) = false := by simp [hz]
    have z2 : (s == 0) = false := by simp [hz]
    have z3 : ¬ (s : Int) = 0 := by omega
    have HZ := Lib.hid hz
    go_enter Tryz.func10, Tryz.ntmps10
    go_wp2_with fail
    refine (CP.out _).mono ?_; rintro e w' ⟨rfl, rfl⟩
    go_wp2
    go_ret
    exact ⟨by rw [HN.out, if_neg HZ.out]; rfl, rfl⟩
end Go.Proofs.YtlifpplhinmajaaGreatDoor

/- Which parameters of scrypt may be, and how many blocks they need: the program's answers and the document's, by their contracts. Conditions: those typed. -/
import Derived.Test.YtlifpplhinmajaaGreatDoorSz
import Derived.Lib.MinMax
import Derived.BigQuiet
namespace Go.Proofs.YtlifpplhinmajaaGreatDoor
set_option maxRecDepth 50000
open Go.RowKit

/-- parameters that may be -/
def Fine (lg r p n : Nat) : Prop := 1 ≤ r ∧ r ≤ 512 ∧ 1 ≤ p ∧ p ≤ 512 ∧ r * p ≤ 512 ∧ 1 ≤ lg ∧ lg ≤ 32 ∧ lg < 16 * r ∧ 1 ≤ n ∧ n ≤ 1024
/-- why they may not be -/
def Bad (log r p b : Int) : Prop :=
  (r < 1 ∨ 512 < r) ∨
  ∃ R : Nat, r = (R : Int) ∧ 1 ≤ R ∧ R ≤ 512 ∧ ((p < 1 ∨ 512 < p ∨ ∃ P : Nat, p = (P : Int) ∧ 1 ≤ P ∧ P ≤ 512 ∧ 512 < R * P) ∨
  ∃ P : Nat, p = (P : Int) ∧ 1 ≤ P ∧ P ≤ 512 ∧ R * P ≤ 512 ∧ ((log < 1 ∨ 32 < log ∨ (1 ≤ log ∧ log ≤ 32 ∧ 16 * (R : Int) ≤ log)) ∨
  (1 ≤ log ∧ log ≤ 32 ∧ log < 16 * (R : Int) ∧ (b < 1 ∨ 1024 < b))))
theorem sc_ways (log r p b : Int) : (∃ lg R P n : Nat, log = (lg : Int) ∧ r = (R : Int) ∧ p = (P : Int) ∧ b = (n : Int) ∧ Fine lg R P n) ∨ Bad log r p b := by
  by_cases h1 : r < 1 ∨ 512 < r
  · exact .inr (.inl h1)
  obtain ⟨R, rfl⟩ : ∃ R : Nat, r = (R : Int) := ⟨r.toNat, by omega⟩
  by_cases h2 : p < 1 ∨ 512 < p
  · exact .inr (.inr ⟨R, rfl, by omega, by omega, .inl (by omega)⟩)
  obtain ⟨P, rfl⟩ : ∃ P : Nat, p = (P : Int) := ⟨p.toNat, by omega⟩
  by_cases h3 : 512 < R * P
  · exact .inr (.inr ⟨R, rfl, by omega, by omega, .inl (.inr (.inr ⟨P, rfl, by omega, by omega, h3⟩))⟩)
  by_cases h4 : log < 1 ∨ 32 < log ∨ 16 * (R : Int) ≤ log
  · exact .inr (.inr ⟨R, rfl, by omega, by omega, .inr ⟨P, rfl, by omega, by omega, by omega, .inl (by omega)⟩⟩)
  by_cases h5 : b < 1 ∨ 1024 < b
  · exact .inr (.inr ⟨R, rfl, by omega, by omega, .inr ⟨P, rfl, by omega, by omega, by omega, .inr ⟨by omega, by omega, by omega, h5⟩⟩⟩)
  exact .inl ⟨log.toNat, R, P, b.toNat, by omega, rfl, rfl, by omega, by omega, by omega, by omega, by omega, by omega, by omega, by omega, by omega, by omega, by omega⟩
theorem fine_one {lg r p n : Nat} (h : Fine lg r p n) : Fine lg r p 1 := by
  obtain ⟨a, b, c, d, e, f, g, i, j, k⟩ := h
  exact ⟨a, b, c, d, e, f, g, i, by omega, by omega⟩
theorem in_no {n a b : Int} (h : n < a ∨ b < n) : inB n a b = false := by unfold inB; simp; omega
theorem in_yes {n a b : Int} (h1 : a ≤ n) (h2 : n ≤ b) : inB n a b = true := by unfold inB; simp; omega
theorem quo_le {R P : Nat} (h : 1 ≤ R) : P ≤ 512 / R ↔ R * P ≤ 512 := by rw [Nat.le_div_iff_mul_le (by omega), Nat.mul_comm]

set_option maxHeartbeats 3200000 in
theorem scheck_bad {log r p b : Int} (h : Bad log r p b) (w : World) : Calls Tryz.prog 7 #[.int .i64 log, .int .i64 r, .int .i64 p, .int .i64 b] w fun e w' => e = .returned (.int .i64 2) ∧ w = w' := by
  have CR := Lib.hid fun w => within_any r 1 512 w
  have CL := Lib.hid fun m w => within_any log 1 m w
  have CP := Lib.hid fun m w => within_any p 1 m w
  have CB := Lib.hid fun w => within_any b 1 1024 w
  rcases h with h | ⟨R, rfl, h1, h2, h⟩
  · rw [in_no h] at CR
    clear h
    go_enter Tryz.func7, Tryz.ntmps7
    go_wp2_with fail
    refine (CR.out _).mono ?_; rintro e w' ⟨rfl, rfl⟩
    go_wp2
    go_ret
    exact ⟨rfl, rfl⟩
  rw [in_yes (by omega) (by omega)] at CR
  obtain ⟨q, hq⟩ : ∃ q : Nat, 512 / R = q := ⟨_, rfl⟩
  have q1 : (512 : Int) / (R : Int) = (q : Int) := by rw [← hq]; rfl
  have q2 : (512 : Int).tdiv (R : Int) = (q : Int) := by rw [← hq]; rfl
  have q3 : IntKind.i64.wrap (q : Int) = (q : Int) := by have : q ≤ 512 := by rw [← hq]; exact Nat.div_le_self _ _
                                                         rw [IntKind.wrap_i64]; omega
  have n0 : ¬ R = 0 := by omega
  rcases h with h | ⟨P, rfl, h3, h4, h5, h⟩
  · have CPP := Lib.hid (CP.out q)
    rw [in_no (by
      rcases h with h | h | ⟨P, rfl, h3, h4, h5⟩
      · exact .inl h
      · have : q ≤ 512 := by rw [← hq]; exact Nat.div_le_self _ _
        exact .inr (by omega)
      · refine .inr ?_
        have := mt (quo_le (P := P) h1).1 (by omega)
        omega)] at CPP
    clear h CP hq
    go_enter Tryz.func7, Tryz.ntmps7
    go_wp2_with fail
    refine (CR.out _).mono ?_; rintro e w' ⟨rfl, rfl⟩
    go_wp2_with fail
    refine (CPP.out _).mono ?_; rintro e w' ⟨rfl, rfl⟩
    go_wp2
    go_ret
    exact ⟨rfl, rfl⟩
  have CPP := Lib.hid (CP.out q)
  rw [in_yes (by omega) (by have := (quo_le (P := P) h1).2 h5; omega)] at CPP
  obtain ⟨m, hm⟩ : ∃ m : Int, min 32 (16 * (R : Int) - 1) = m := ⟨_, rfl⟩
  have CLL := Lib.hid (CL.out m)
  have s1 : IntKind.i64.wrap (16 * (R : Int)) = 16 * (R : Int) := by rw [IntKind.wrap_i64]; omega
  have s2 : IntKind.i64.wrap (16 * (R : Int) - 1) = 16 * (R : Int) - 1 := by rw [IntKind.wrap_i64]; omega
  rcases h with h | ⟨h6, h7, h8, h9⟩
  · rw [in_no (by omega)] at CLL
    clear h CL CP hq
    go_enter Tryz.func7, Tryz.ntmps7
    go_wp2_with fail
    refine (CR.out _).mono ?_; rintro e w' ⟨rfl, rfl⟩
    go_wp2_with fail
    refine (CPP.out _).mono ?_; rintro e w' ⟨rfl, rfl⟩
    go_wp2_with fail
    refine (CLL.out _).mono ?_; rintro e w' ⟨rfl, rfl⟩
    go_wp2
    go_ret
    exact ⟨rfl, rfl⟩
  · rw [in_yes (by omega) (by omega)] at CLL
    rw [in_no h9] at CB
    clear h9 CL CP hq
    go_enter Tryz.func7, Tryz.ntmps7
    go_wp2_with fail
    refine (CR.out _).mono ?_; rintro e w' ⟨rfl, rfl⟩
    go_wp2_with fail
    refine (CPP.out _).mono ?_; rintro e w' ⟨rfl, rfl⟩
    go_wp2_with fail
    refine (CLL.out _).mono ?_; rintro e w' ⟨rfl, rfl⟩
    go_wp2_with fail
    refine (CB.out _).mono ?_; rintro e w' ⟨rfl, rfl⟩
    go_wp2
    go_ret
    exact ⟨rfl, rfl⟩
set_option maxHeartbeats 3200000 in
theorem scheck_ok {lg R P n : Nat} (h : Fine lg R P n) (w : World) : Calls Tryz.prog 7 #[.int .i64 (lg : Int), .int .i64 (R : Int), .int .i64 (P : Int), .int .i64 (n : Int)] w fun e w' => e = .returned (.int .i64 0) ∧ w = w' := by
  obtain ⟨h1, h2, h3, h4, h5, h6, h7, h8, h9, h10⟩ := h
  have CR := Lib.hid fun w => within_any R 1 512 w
  have CB := Lib.hid fun w => within_any n 1 1024 w
  rw [in_yes (by omega) (by omega)] at CR
  rw [in_yes (by omega) (by omega)] at CB
  obtain ⟨q, hq⟩ : ∃ q : Nat, 512 / R = q := ⟨_, rfl⟩
  have q1 : (512 : Int) / (R : Int) = (q : Int) := by rw [← hq]; rfl
  have q2 : (512 : Int).tdiv (R : Int) = (q : Int) := by rw [← hq]; rfl
  have q3 : IntKind.i64.wrap (q : Int) = (q : Int) := by have : q ≤ 512 := by rw [← hq]; exact Nat.div_le_self _ _
                                                         rw [IntKind.wrap_i64]; omega
  have n0 : ¬ R = 0 := by omega
  have CPP := Lib.hid fun w => within_any P 1 q w
  rw [in_yes (by omega) (by have := (quo_le (P := P) h1).2 h5; omega)] at CPP
  obtain ⟨m, hm⟩ : ∃ m : Int, min 32 (16 * (R : Int) - 1) = m := ⟨_, rfl⟩
  have CLL := Lib.hid fun w => within_any lg 1 m w
  rw [in_yes (by omega) (by omega)] at CLL
  have s1 : IntKind.i64.wrap (16 * (R : Int)) = 16 * (R : Int) := by rw [IntKind.wrap_i64]; omega
  have s2 : IntKind.i64.wrap (16 * (R : Int) - 1) = 16 * (R : Int) - 1 := by rw [IntKind.wrap_i64]; omega
  clear hq h5
  go_enter Tryz.func7, Tryz.ntmps7
  go_wp2_with fail
  refine (CR.out _).mono ?_; rintro e w' ⟨rfl, rfl⟩
  go_wp2_with fail
  refine (CPP.out _).mono ?_; rintro e w' ⟨rfl, rfl⟩
  go_wp2_with fail
  refine (CLL.out _).mono ?_; rintro e w' ⟨rfl, rfl⟩
  go_wp2_with fail
  refine (CB.out _).mono ?_; rintro e w' ⟨rfl, rfl⟩
  go_wp2
  go_ret
  exact ⟨rfl, rfl⟩
end Go.Proofs.YtlifpplhinmajaaGreatDoor

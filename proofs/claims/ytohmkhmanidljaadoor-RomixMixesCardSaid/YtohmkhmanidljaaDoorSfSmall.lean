/- Small functions of package shuffle by their contracts: which widths may be, how many blocks, where each goes, what is a row. Conditions: those typed. -/
import Derived.Test.YtohmkhmanidljaaDoorSfPure
import Derived.Test.YtohmkhmanidljaaDoorSlWords
namespace Go.Proofs.YtohmkhmanidljaaDoor
set_option maxRecDepth 50000
open Go.RowKit Rot Sl Sf

theorem may_good (r : Nat) (h1 : 1 ≤ r) (h2 : r ≤ 512) (w : World) : Calls Tryd.prog 42 #[.int .i64 (r : Int)] w fun e w' => e = .returned (.bool true) ∧ w = w' := by
  have d1 : decide ((1 : Int) ≤ (r : Int)) = true := by simp; omega
  have d2 : decide ((r : Int) ≤ 512) = true := by simp; omega
  go_enter Tryd.func42, Tryd.ntmps42
  go_wp2
  go_ret
  exact ⟨rfl, rfl⟩
theorem may_bad (z : Int) (h : z < 1 ∨ 512 < z) (w : World) : Calls Tryd.prog 42 #[.int .i64 z] w fun e w' => e = .returned (.bool false) ∧ w = w' := by
  rcases h with h | h
  · have d1 : decide ((1 : Int) ≤ z) = false := by simp; omega
    go_enter Tryd.func42, Tryd.ntmps42
    go_wp2
    go_ret
    exact ⟨rfl, rfl⟩
  · have d1 : decide ((1 : Int) ≤ z) = true := by simp; omega
    have d2 : decide (z ≤ 512) = false := by simp; omega
    go_enter Tryd.func42, Tryd.ntmps42
    go_wp2
    go_ret
    exact ⟨rfl, rfl⟩
theorem blocks_any (r : Nat) (h2 : r ≤ 512) (w : World) : Calls Tryd.prog 43 #[.int .i64 (r : Int)] w fun e w' => e = .returned (.int .i64 ((2 * r : Nat) : Int)) ∧ w = w' := by
  obtain ⟨n, hn⟩ : ∃ n, 2 * r = n := ⟨_, rfl⟩
  have hm : (2 : Int) * (r : Int) = (n : Int) := by omega
  have hb : n ≤ 1024 := by omega
  rw [hn]
  clear hn
  go_enter Tryd.func43, Tryd.ntmps43
  go_wp2
  go_ret
  exact ⟨rfl, rfl⟩
theorem place_any (r i : Nat) (hr : r ≤ 512) (hi : i < 2 * r) (w : World) : Calls Tryd.prog 49 #[.int .i64 (r : Int), .int .i64 (i : Int)] w fun e w' => e = .returned (.int .i64 ((pl r i : Nat) : Int)) ∧ w = w' := by
  obtain ⟨m, hm⟩ : ∃ m, i % 2 = m := ⟨_, rfl⟩
  obtain ⟨q, hq⟩ : ∃ q, i / 2 = q := ⟨_, rfl⟩
  obtain ⟨p, hp⟩ : ∃ p, m * r = p := ⟨_, rfl⟩
  have hmr : (m : Int) * (r : Int) = (p : Int) := by rw [← hp]; exact (Int.natCast_mul _ _).symm
  have hpb : p ≤ 512 := by
    rcases Nat.mod_two_eq_zero_or_one i with e | e <;> rw [hm] at e <;> subst e <;> omega
  have e1 : (i : Int).tmod 2 = (m : Int) := by rw [Int.tmod_eq_emod_of_nonneg (by omega)]; omega
  have e2 : (i : Int).tdiv 2 = (q : Int) := by rw [Int.tdiv_eq_ediv_of_nonneg (by omega)]; omega
  have HE : Hid (pl r i = p + q) := Lib.hid (by unfold pl; rw [hm, hq, hp])
  have hib : i < 1024 := by omega
  have hqb : q ≤ 512 := by omega
  have hmb : m < 2 := by omega
  obtain ⟨z, hz⟩ : ∃ z, pl r i = z := ⟨_, rfl⟩
  have e3 : (p : Int) + (q : Int) = (z : Int) := by have := HE.out; omega
  have hzb : z ≤ 1024 := by have := HE.out; omega
  rw [hz]
  clear hm hq hp hi hz HE
  go_enter Tryd.func49, Tryd.ntmps49
  go_wp2
  go_ret
  exact ⟨rfl, rfl⟩
theorem check_bad (z : Int) (h : z < 1 ∨ 512 < z) (v : Value) (w : World) : Calls Tryd.prog 31 #[.int .i64 z, v] w fun e w' => e = .returned (.int .i64 2) ∧ w = w' := by
  have HC := Lib.hid fun w => may_bad z h w
  clear h
  go_enter Tryd.func31, Tryd.ntmps31
  go_wp2_with fail
  refine (HC.out w).mono ?_
  rintro e w2 ⟨rfl, rfl⟩
  go_wp2
  go_ret
  exact ⟨rfl, rfl⟩
theorem check_size (r : Nat) (h1 : 1 ≤ r) (h2 : r ≤ 512) (A : Option Addr) (n c : Nat) (hn : n ≠ 32 * r) (w : World) : Calls Tryd.prog 31 #[.int .i64 (r : Int), .slice A n c] w fun e w' => e = .returned (.int .i64 9) ∧ w = w' := by
  have HC := Lib.hid fun w => may_good r h1 h2 w
  have HB := Lib.hid fun w => blocks_any r h2 w
  obtain ⟨b, hb⟩ : ∃ b, 2 * r = b := ⟨_, rfl⟩
  rw [hb] at HB
  have hbb : b ≤ 1024 := by omega
  have d1 : ((n : Int) == (b : Int) * 16) = false := by simp; omega
  have d2 : ¬ (n : Int) = (b : Int) * 16 := by omega
  clear hb hn
  go_enter Tryd.func31, Tryd.ntmps31
  go_wp2_with fail
  refine (HC.out w).mono ?_
  rintro e w2 ⟨rfl, rfl⟩
  go_wp2_with fail
  refine (HB.out w).mono ?_
  rintro e w2 ⟨rfl, rfl⟩
  go_wp2
  go_ret
  exact ⟨rfl, rfl⟩
theorem check_ok (r : Nat) (h1 : 1 ≤ r) (h2 : r ≤ 512) (A : Option Addr) (n c : Nat) (hn : n = 32 * r) (w : World) : Calls Tryd.prog 31 #[.int .i64 (r : Int), .slice A n c] w fun e w' => e = .returned (.int .i64 0) ∧ w = w' := by
  have HC := Lib.hid fun w => may_good r h1 h2 w
  have HB := Lib.hid fun w => blocks_any r h2 w
  obtain ⟨b, hb⟩ : ∃ b, 2 * r = b := ⟨_, rfl⟩
  rw [hb] at HB
  have hbb : b ≤ 1024 := by omega
  have d1 : ((n : Int) == (b : Int) * 16) = true := by simp; omega
  have d2 : (n : Int) = (b : Int) * 16 := by omega
  have HD := Lib.hid d2
  clear hb hn d2
  go_enter Tryd.func31, Tryd.ntmps31
  go_wp2_with fail
  refine (HC.out w).mono ?_
  rintro e w2 ⟨rfl, rfl⟩
  go_wp2_with fail
  refine (HB.out w).mono ?_
  rintro e w2 ⟨rfl, rfl⟩
  go_wp2
  go_ret
  exact ⟨rfl, rfl⟩
end Go.Proofs.YtohmkhmanidljaaDoor

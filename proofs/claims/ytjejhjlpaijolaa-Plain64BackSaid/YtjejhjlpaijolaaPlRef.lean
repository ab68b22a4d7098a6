/- The document's Many, Write and Read of layer 16; chapter 16's example. Conditions: those typed. -/
import Derived.Test.YtjejhjlpaijolaaPlRead
namespace Go.Proofs.Ytjejhjlpaijolaa
set_option maxRecDepth 50000
open Go.RowKit Sx

theorem rmany_any (n : Nat) (h : n ≤ 65536) (w : World) : Calls Try.prog 12 #[.int .i64 n] w fun e w' => e = .returned (.int .i64 ((ne n : Nat) : Int)) ∧ w' = w := by
  obtain ⟨P, hP⟩ : ∃ P : Nat, P = 8 * n := ⟨_, rfl⟩
  obtain ⟨q, hq⟩ : ∃ q, q = ne n := ⟨_, rfl⟩
  have e0 : (8 : Int) * (n : Int) = (P : Int) := by omega
  have e1 : IntKind.i64.wrap (P : Int) = (P : Int) := by rw [IntKind.wrap_i64]; omega
  have e2 : IntKind.i64.wrap ((P : Int) + 5) = (P : Int) + 5 := by rw [IntKind.wrap_i64]; omega
  have e3 : ((P : Int) + 5).tdiv 6 = (q : Int) := by rw [Int.tdiv_eq_ediv_of_nonneg (by omega), hq]; unfold ne; omega
  have e4 : IntKind.i64.wrap (q : Int) = (q : Int) := by rw [IntKind.wrap_i64, hq]; unfold ne; omega
  rw [← hq]
  clear hP hq h
  go_enter Try.func12, Try.ntmps12
  go_wp2
  go_ret
  exact ⟨rfl, rfl⟩

theorem plain_size : plainS.size = 64 := by decide +kernel
set_option maxHeartbeats 800000 in
theorem rwrite_any (m M : Nat) (s : ByteArray) (hs : s.size ≤ 500) (w : World) :
    Calls Try.prog 8 #[.int .i64 m, .int .i64 M, .string s] w fun e w' => e = .returned (.tuple #[.string (wrL m M s), .int .i64 (wrE m M s.size)]) ∧ Below w.heap.size w w' := by
  by_cases hb : s.size < m ∨ M < s.size
  · obtain ⟨hE, hL⟩ := wr_bad hb
    have HE := Lib.hid hE
    have HL := Lib.hid hL
    have hh : (decide (s.size < m) = true ∧ s.size < m) ∨ (decide (s.size < m) = false ∧ m ≤ s.size) ∧ (decide (M < s.size) = true ∧ M < s.size) := by simp; omega
    clear hE hL hb
    rcases hh with ⟨d1, g1⟩ | ⟨⟨d1, g1⟩, d2, g2⟩
    all_goals
      go_enter Try.func8, Try.ntmps8
      go_wp2
      go_ret2
      exact ⟨by rw [HE.out, HL.out]; rfl, Below.refl _ _⟩
  · obtain ⟨hE, hL⟩ := wr_good (m := m) (M := M) (s := s) (by omega) (by omega)
    have HE := Lib.hid hE
    have HL := Lib.hid hL
    have g1 : m ≤ s.size := by omega
    have g2 : s.size ≤ M := by omega
    have d1 : decide (s.size < m) = false := by simp; omega
    have d2 : decide (M < s.size) = false := by simp; omega
    have CE := Lib.hid (fun w => rencode_any plainS s plain_size (by omega) w)
    clear hE hL hb
    go_enter Try.func8, Try.ntmps8
    go_wp2_with fail
    refine (plain_any w).mono ?_
    rintro e w' ⟨rfl, hw⟩
    obtain rfl := hw
    go_wp2_with fail
    refine (CE.out _).mono ?_
    rintro e w1 ⟨rfl, hb⟩
    have B1 := Lib.hid hb
    clear hb
    go_wp2
    go_ret2
    exact ⟨by rw [HE.out, HL.out]; rfl, B1.out⟩

set_option maxHeartbeats 1600000 in
theorem rread_any (m M : Nat) (hM : M ≤ 65536) (s : ByteArray) (hs : s.size ≤ 500) (w : World) :
    Calls Try.prog 10 #[.int .i64 m, .int .i64 M, .string s] w fun e w' => e = .returned (.tuple #[.string (rdL m M s), .int .i64 (rdE m M s)]) ∧ Below w.heap.size w w' := by
  have CM := Lib.hid (fun w => rmany_any M hM w)
  have CD := Lib.hid (fun w => rdecode_any plainS s plain_fine (by omega) w)
  clear hM
  rcases rd_way m M s with h1 | ⟨h1, hx⟩ | ⟨h1, hx, hl⟩ | ⟨h1, hx, hl⟩
  · obtain ⟨hE, hL⟩ := rd_long (m := m) h1
    have HE := Lib.hid hE
    have HL := Lib.hid hL
    clear hE hL
    generalize ne M = y at *
    have d1 : decide (y < s.size) = true := by simp; omega
    go_enter Try.func10, Try.ntmps10
    go_wp2_with fail
    refine (CM.out _).mono ?_
    rintro e w' ⟨rfl, hw⟩
    obtain rfl := hw
    go_wp2
    go_ret2
    exact ⟨by rw [HE.out, HL.out]; rfl, Below.refl _ _⟩
  · obtain ⟨hE, hL⟩ := rd_wrong (m := m) h1 hx
    have HE := Lib.hid hE
    have HL := Lib.hid hL
    clear hE hL
    generalize decE (tl plainS) (tl s) = z at *
    generalize ne M = y at *
    generalize tx (decL (tl plainS) (tl s)) = D at *
    have d1 : decide (y < s.size) = false := by simp; omega
    have z1 : (z == 0) = false := by simp; omega
    have z2 : (z != 0) = true := by simp; omega
    clear hx
    go_enter Try.func10, Try.ntmps10
    go_wp2_with fail
    refine (CM.out _).mono ?_
    rintro e w' ⟨rfl, hw⟩
    obtain rfl := hw
    go_wp2_with fail
    refine (plain_any _).mono ?_
    rintro e w' ⟨rfl, hw⟩
    obtain rfl := hw
    go_wp2_with fail
    refine (CD.out _).mono ?_
    rintro e w1 ⟨rfl, hb⟩
    have B1 := Lib.hid hb
    clear hb
    go_wp2
    go_ret2
    exact ⟨by rw [HE.out, HL.out]; rfl, B1.out⟩
  · obtain ⟨hE, hL⟩ := rd_short (m := m) h1 hx hl
    have HE := Lib.hid hE
    have HL := Lib.hid hL
    clear hE hL
    rw [hx] at CD
    have hn : (tx (decL (tl plainS) (tl s))).size = (decL (tl plainS) (tl s)).length := tx_size _
    generalize (decL (tl plainS) (tl s)).length = N at *
    generalize tx (decL (tl plainS) (tl s)) = D at *
    generalize ne M = y at *
    subst hn
    have d1 : decide (y < s.size) = false := by simp; omega
    have d2 : decide (D.size < m) = true := by simp; omega
    clear hx
    go_enter Try.func10, Try.ntmps10
    go_wp2_with fail
    refine (CM.out _).mono ?_
    rintro e w' ⟨rfl, hw⟩
    obtain rfl := hw
    go_wp2_with fail
    refine (plain_any _).mono ?_
    rintro e w' ⟨rfl, hw⟩
    obtain rfl := hw
    go_wp2_with fail
    refine (CD.out _).mono ?_
    rintro e w1 ⟨rfl, hb⟩
    have B1 := Lib.hid hb
    clear hb
    go_wp2
    go_ret2
    exact ⟨by rw [HE.out, HL.out]; rfl, B1.out⟩
  · obtain ⟨hE, hL⟩ := rd_good (m := m) h1 hx hl
    have HE := Lib.hid hE
    have HL := Lib.hid hL
    clear hE hL
    rw [hx] at CD
    have hn : (tx (decL (tl plainS) (tl s))).size = (decL (tl plainS) (tl s)).length := tx_size _
    generalize (decL (tl plainS) (tl s)).length = N at *
    generalize tx (decL (tl plainS) (tl s)) = D at *
    generalize ne M = y at *
    subst hn
    have d1 : decide (y < s.size) = false := by simp; omega
    have d2 : decide (D.size < m) = false := by simp; omega
    clear hx
    go_enter Try.func10, Try.ntmps10
    go_wp2_with fail
    refine (CM.out _).mono ?_
    rintro e w' ⟨rfl, hw⟩
    obtain rfl := hw
    go_wp2_with fail
    refine (plain_any _).mono ?_
    rintro e w' ⟨rfl, hw⟩
    obtain rfl := hw
    go_wp2_with fail
    refine (CD.out _).mono ?_
    rintro e w1 ⟨rfl, hb⟩
    have B1 := Lib.hid hb
    clear hb
    go_wp2
    go_ret2
    exact ⟨by rw [HE.out, HL.out]; rfl, B1.out⟩

theorem w_ab : wrL 1 3 ⟨#[97, 98]⟩ = ⟨#[89, 87, 73]⟩ ∧ wrE 1 3 2 = 0 := by decide +kernel
theorem w_abcd : wrE 1 3 4 = 9 := by decide +kernel
theorem r_ywj : rdE 1 3 ⟨#[89, 87, 74]⟩ = 5 := by decide +kernel

set_option maxHeartbeats 800000 in
theorem awake16_any (w : World) : Calls Try.prog 5 #[] w fun e w' => e = .returned (.bool true) ∧ Below w.heap.size w w' := by
  have CN := Lib.hid (pnew_good 1 3 (by decide) (by decide))
  have C1 := Lib.hid (fun d b w h => pwrite_any d b 1 3 ⟨#[97, 98]⟩ w h (by decide))
  have C2 := Lib.hid (fun d b w h => pwrite_any d b 1 3 ⟨#[97, 98, 99, 100]⟩ w h (by decide))
  have C3 := Lib.hid (fun d b w h => pread_any d b 1 3 ⟨#[89, 87, 74]⟩ w h (by decide))
  rw [w_ab.1, show (⟨#[97, 98]⟩ : ByteArray).size = 2 from rfl, w_ab.2] at C1
  rw [show (⟨#[97, 98, 99, 100]⟩ : ByteArray).size = 4 from rfl, w_abcd] at C2
  rw [r_ywj] at C3
  generalize wrL 1 3 ⟨#[97, 98, 99, 100]⟩ = x2 at *
  generalize rdL 1 3 ⟨#[89, 87, 74]⟩ = x3 at *
  go_enter Try.func5, Try.ntmps5
  go_wp2_with fail
  refine (CN.out _).mono ?_
  rintro e w1 ⟨⟨d, b, rfl, hC⟩, hb⟩
  have HC1 := Lib.hid hC
  have B1 := Lib.hid hb
  clear hC hb
  go_wp2_with fail
  refine (C1.out _ _ _ HC1.out).mono ?_
  rintro e w2 ⟨rfl, hb⟩
  have HC2 := Lib.hid (HC1.out.below hb)
  have B2 := Lib.hid (below_step B1.out hb)
  clear hb
  go_wp2_with fail
  refine (C2.out _ _ _ HC2.out).mono ?_
  rintro e w3 ⟨rfl, hb⟩
  have HC3 := Lib.hid (HC2.out.below hb)
  have B3 := Lib.hid (below_step B2.out hb)
  clear hb
  go_wp2_with fail
  refine (C3.out _ _ _ HC3.out).mono ?_
  rintro e w4 ⟨rfl, hb⟩
  have B4 := Lib.hid (below_step B3.out hb)
  clear hb
  go_wp2
  go_ret
  exact ⟨rfl, B4.out⟩
end Go.Proofs.Ytjejhjlpaijolaa

/- The law SextetLetters by the calls' contracts. Condition: no text is longer than what may come in. -/
import Derived.Test.YtleejmiacmnpfaaSxAwake
namespace Go.Proofs.Ytleejmiacmnpfaa
set_option maxRecDepth 50000
open Go.RowKit Sx

/-- three ints in a list just made, of which one is looked up -/
theorem three_ints (w : World) : (w.alloc (.cells #[.int .i64 0, .int .i64 2, .int .i64 3] 3)).cell? ⟨w.heap.size, 0, none⟩ = some (.int .i64 0) ∧
    (w.alloc (.cells #[.int .i64 0, .int .i64 2, .int .i64 3] 3)).cell? ⟨w.heap.size, 1, none⟩ = some (.int .i64 2) ∧
    (w.alloc (.cells #[.int .i64 0, .int .i64 2, .int .i64 3] 3)).cell? ⟨w.heap.size, 2, none⟩ = some (.int .i64 3) := by
  have h := heap_alloc_new w (.cells #[.int .i64 0, .int .i64 2, .int .i64 3] 3)
  exact ⟨cell_of_row _ w.heap.size 0 _ _ _ h, cell_of_row _ w.heap.size 1 _ _ _ h, cell_of_row _ w.heap.size 2 _ _ _ h⟩

set_option maxHeartbeats 6400000 in
theorem letters_law (A : Option Addr) (c : Nat) (ss : List ByteArray) (n : Int) (hss : ∀ s ∈ ss, s.size ≤ 140737488351232) (w : World) (hr : Reads w w.heap.size A (stv ss)) :
    Calls Try.prog 4 #[.slice A ss.length c, .int .i64 n] w fun e w' => e = .returned (.bool true) ∧ Below w.heap.size w w' := by
  have CA := Lib.hid awake_any
  have HR := Lib.hid hr
  have HSS := Lib.hid hss
  have CD := Lib.hid (decode_nil ⟨#[97]⟩)
  have CE0 := Lib.hid (fun A w => encode_nil A 1 1 w)
  have CL0 := Lib.hid (letters_nil n)
  have CN := Lib.hid (new_good plainS plain_good)
  have CL := Lib.hid (fun b => letters_any b n)
  clear hr hss
  have hcases : (∃ d : decide (n < 0) = true, lettN n = 0) ∨ (∃ (d : decide (n < 0) = false) (d2 : decide (576460752303423488 < n) = true), lettN n = 0) ∨
      (∃ (d : decide (n < 0) = false) (d2 : decide (576460752303423488 < n) = false) (M Q k r x : Nat), lettN n = (M : Int) ∧ n.tdiv 3 = (k : Int) ∧ n / 3 = (k : Int) ∧ IntKind.i64.wrap (k : Int) = (k : Int) ∧ IntKind.i64.wrap ((k : Int) * 4) = (Q : Int) ∧ Q ≤ M ∧ IntKind.i64.wrap ((M : Int) - (Q : Int)) = (x : Int) ∧ n.tmod 3 = (r : Int) ∧ n % 3 = (r : Int) ∧ IntKind.i64.wrap (r : Int) = (r : Int) ∧ (r = 0 ∧ x = 0 ∨ r = 1 ∧ x = 2 ∨ r = 2 ∧ x = 3)) := by
    by_cases h1 : n < 0
    · exact .inl ⟨by simpa using h1, if_pos (.inl h1)⟩
    · by_cases h2 : 576460752303423488 < n
      · exact .inr (.inl ⟨by simp; omega, by simp; omega, if_pos (.inr h2)⟩)
      · obtain ⟨m, rfl⟩ : ∃ m : Nat, n = (m : Int) := ⟨n.toNat, by omega⟩
        refine .inr (.inr ⟨by simp, by simp; omega, ne m, 4 * (m / 3), m / 3, m % 3, ne m - 4 * (m / 3), lettN_nat m (by omega), by rw [Int.tdiv_eq_ediv_of_nonneg (by omega)]; omega, by omega, by rw [IntKind.wrap_i64]; omega, by rw [IntKind.wrap_i64]; omega, by unfold ne; omega, by rw [IntKind.wrap_i64]; unfold ne; omega, by rw [Int.tmod_eq_emod_of_nonneg (by omega)]; omega, by omega, by rw [IntKind.wrap_i64]; omega, by unfold ne; omega⟩)
  have hparts : (20 < ss.length) ∨ (ss.length ≤ 20 ∧ 300 < (jn ss).length) ∨ (ss.length ≤ 20 ∧ (jn ss).length ≤ 300) := by omega
  obtain ⟨N, hN⟩ : ∃ N, N = (jn ss).length := ⟨_, rfl⟩
  rw [← hN] at hparts
  rcases hparts with h1 | ⟨h1, h2⟩ | ⟨h1, h2⟩
  · have d1 : decide ((20 : Int) < (ss.length : Int)) = true := by simp; omega
    clear hN
    rcases hcases with ⟨n1, hv⟩ | ⟨n1, n2, hv⟩ | ⟨n1, n2, M, Q, k, r, x, hv, q1, q2, q3, q4, q5, q6, q7, q8, q9, ⟨rfl, rfl⟩ | ⟨rfl, rfl⟩ | ⟨rfl, rfl⟩⟩
    all_goals
      rw [hv] at CL
      clear hv
      go_enter Try.func4, Try.ntmps4
      go_wp2_with fail
      refine (CA.out _).mono ?_
      rintro e w1 ⟨rfl, hb⟩
      have B1 := Lib.hid hb
      clear hb
      go_wp2_with fail
      refine (CD.out _).mono ?_
      rintro e w2 ⟨rfl, hb⟩
      have B2 := Lib.hid (below_step B1.out hb)
      clear hb
      go_wp2_with fail
      refine (CE0.out _ _).mono ?_
      rintro e w3 ⟨rfl, hb⟩
      have B3 : Hid (Below w.heap.size w w3) := Lib.hid ((B2.out.alloc B2.out.size _).trans (hb.mono (by have := B2.out.size; simp; omega)))
      clear hb
      go_wp2_with fail
      refine (CL0.out _).mono ?_
      rintro e w3' ⟨rfl, hw⟩
      obtain rfl := hw.symm
      go_wp2_with fail
      refine (plain_any _).mono ?_
      rintro e w3' ⟨rfl, hw⟩
      obtain rfl := hw.symm
      go_wp2_with fail
      refine (CN.out _).mono ?_
      rintro e w4 ⟨rfl, hC, hb⟩
      have HC := Lib.hid hC
      have B4 := Lib.hid (below_step B3.out hb)
      clear hC hb
      go_wp2_with fail
      refine (CL.out _ _).mono ?_
      rintro e w4' ⟨rfl, hw⟩
      obtain rfl := hw.symm
      go_wp2
      go_ret
      exact ⟨rfl, by first | exact B4.out | exact B4.out.alloc B4.out.size _⟩
  · have d1 : decide ((20 : Int) < (ss.length : Int)) = false := by simp; omega
    have d2 : decide ((300 : Int) < (N : Int)) = true := by simp; omega
    have CB := Lib.hid (fun w => bytes_any A c ss w (hn := by omega) (hs := HSS.out))
    rw [← hN] at CB
    clear hN
    rcases hcases with ⟨n1, hv⟩ | ⟨n1, n2, hv⟩ | ⟨n1, n2, M, Q, k, r, x, hv, q1, q2, q3, q4, q5, q6, q7, q8, q9, ⟨rfl, rfl⟩ | ⟨rfl, rfl⟩ | ⟨rfl, rfl⟩⟩
    all_goals
      rw [hv] at CL
      clear hv
      go_enter Try.func4, Try.ntmps4
      go_wp2_with fail
      refine (CA.out _).mono ?_
      rintro e w1 ⟨rfl, hb⟩
      have B1 := Lib.hid hb
      clear hb
      go_wp2_with fail
      refine (CD.out _).mono ?_
      rintro e w2 ⟨rfl, hb⟩
      have B2 := Lib.hid (below_step B1.out hb)
      clear hb
      go_wp2_with fail
      refine (CE0.out _ _).mono ?_
      rintro e w3 ⟨rfl, hb⟩
      have B3 : Hid (Below w.heap.size w w3) := Lib.hid ((B2.out.alloc B2.out.size _).trans (hb.mono (by have := B2.out.size; simp; omega)))
      clear hb
      go_wp2_with fail
      refine (CL0.out _).mono ?_
      rintro e w3' ⟨rfl, hw⟩
      obtain rfl := hw.symm
      go_wp2_with fail
      refine (plain_any _).mono ?_
      rintro e w3' ⟨rfl, hw⟩
      obtain rfl := hw.symm
      go_wp2_with fail
      refine (CN.out _).mono ?_
      rintro e w4 ⟨rfl, hC, hb⟩
      have HC := Lib.hid hC
      have B4 := Lib.hid (below_step B3.out hb)
      clear hC hb
      go_wp2_with fail
      refine (CL.out _ _).mono ?_
      rintro e w4' ⟨rfl, hw⟩
      obtain rfl := hw.symm
      go_wp2_with fail
      first
        | (generalize hW : World.alloc w4 _ = wx
           have BX : Hid (Below w.heap.size w wx) := Lib.hid (by subst hW; exact B4.out.alloc B4.out.size _)
           have HX : Hid (Cdr wx w3.heap.size (tl plainS)) := Lib.hid (by subst hW; exact HC.out.alloc _)
           clear hW)
        | (obtain ⟨wx, hW⟩ : ∃ wx : World, wx = w4 := ⟨_, rfl⟩
           have BX : Hid (Below w.heap.size w wx) := Lib.hid (by subst hW; exact B4.out)
           have HX : Hid (Cdr wx w3.heap.size (tl plainS)) := Lib.hid (by subst hW; exact HC.out)
           rw [← hW]
           clear hW)
      refine (CB.out wx ((HR.out.below BX.out).more BX.out.size)).mono ?_
      rintro e w5 ⟨rfl, hw⟩
      obtain rfl := hw
      go_wp2
      go_ret
      exact ⟨rfl, BX.out⟩
  · have d1 : decide ((20 : Int) < (ss.length : Int)) = false := by simp; omega
    have d2 : decide ((300 : Int) < (N : Int)) = false := by simp; omega
    have CB := Lib.hid (fun w => bytes_any A c ss w (hn := by omega) (hs := HSS.out))
    have CE := Lib.hid (fun b w hC h => encode_any b (tl plainS) A c ss (by omega) w hC h (by omega))
    have hEs : (tx (enc (tl plainS) (jn ss))).size = ne N := by rw [tx_size, enc_length, hN]
    rw [← hN] at CB
    generalize tx (enc (tl plainS) (jn ss)) = E at *
    have CL2 := Lib.hid (fun b => letters_any b (N : Int))
    rw [lettN_nat N (by omega)] at CL2
    obtain ⟨Y, hY⟩ : ∃ Y, Y = ne N := ⟨_, rfl⟩
    rw [← hY] at CL2 hEs
    have hEI : ((E.size : Int) == (Y : Int)) = true := by rw [hEs]; simp
    clear hN hY hEs
    rcases hcases with ⟨n1, hv⟩ | ⟨n1, n2, hv⟩ | ⟨n1, n2, M, Q, k, r, x, hv, q1, q2, q3, q4, q5, q6, q7, q8, q9, ⟨rfl, rfl⟩ | ⟨rfl, rfl⟩ | ⟨rfl, rfl⟩⟩
    all_goals
      rw [hv] at CL
      clear hv
      go_enter Try.func4, Try.ntmps4
      go_wp2_with fail
      refine (CA.out _).mono ?_
      rintro e w1 ⟨rfl, hb⟩
      have B1 := Lib.hid hb
      clear hb
      go_wp2_with fail
      refine (CD.out _).mono ?_
      rintro e w2 ⟨rfl, hb⟩
      have B2 := Lib.hid (below_step B1.out hb)
      clear hb
      go_wp2_with fail
      refine (CE0.out _ _).mono ?_
      rintro e w3 ⟨rfl, hb⟩
      have B3 : Hid (Below w.heap.size w w3) := Lib.hid ((B2.out.alloc B2.out.size _).trans (hb.mono (by have := B2.out.size; simp; omega)))
      clear hb
      go_wp2_with fail
      refine (CL0.out _).mono ?_
      rintro e w3' ⟨rfl, hw⟩
      obtain rfl := hw.symm
      go_wp2_with fail
      refine (plain_any _).mono ?_
      rintro e w3' ⟨rfl, hw⟩
      obtain rfl := hw.symm
      go_wp2_with fail
      refine (CN.out _).mono ?_
      rintro e w4 ⟨rfl, hC, hb⟩
      have HC := Lib.hid hC
      have B4 := Lib.hid (below_step B3.out hb)
      clear hC hb
      go_wp2_with fail
      refine (CL.out _ _).mono ?_
      rintro e w4' ⟨rfl, hw⟩
      obtain rfl := hw.symm
      go_wp2_with fail
      first
        | (generalize hW : World.alloc w4 _ = wx
           have BX : Hid (Below w.heap.size w wx) := Lib.hid (by subst hW; exact B4.out.alloc B4.out.size _)
           have HX : Hid (Cdr wx w3.heap.size (tl plainS)) := Lib.hid (by subst hW; exact HC.out.alloc _)
           clear hW)
        | (obtain ⟨wx, hW⟩ : ∃ wx : World, wx = w4 := ⟨_, rfl⟩
           have BX : Hid (Below w.heap.size w wx) := Lib.hid (by subst hW; exact B4.out)
           have HX : Hid (Cdr wx w3.heap.size (tl plainS)) := Lib.hid (by subst hW; exact HC.out)
           rw [← hW]
           clear hW)
      refine (CB.out wx ((HR.out.below BX.out).more BX.out.size)).mono ?_
      rintro e w5 ⟨rfl, hw⟩
      obtain rfl := hw
      go_wp2_with fail
      refine (CE.out _ wx HX.out ((HR.out.below BX.out).more BX.out.size)).mono ?_
      rintro e w6 ⟨rfl, hb⟩
      have B6 := Lib.hid (below_step BX.out hb)
      clear hb
      go_wp2_with fail
      refine (CB.out w6 ((HR.out.below B6.out).more B6.out.size)).mono ?_
      rintro e w7 ⟨rfl, hw⟩
      obtain rfl := hw
      go_wp2_with fail
      refine (CL2.out _ _).mono ?_
      rintro e w8 ⟨rfl, hw⟩
      obtain rfl := hw.symm
      go_wp2
      go_ret
      exact ⟨rfl, B6.out⟩
end Go.Proofs.Ytleejmiacmnpfaa

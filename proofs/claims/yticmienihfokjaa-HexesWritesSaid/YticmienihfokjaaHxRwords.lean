/- The document's Words by its contract. Condition: at most 100 words. -/
import Derived.Test.YticmienihfokjaaHxRef
import Derived.Test.YticmienihfokjaaLaid
namespace Go.Proofs.Yticmienihfokjaa
set_option maxRecDepth 50000
open Go.RowKit Hx

set_option maxHeartbeats 1600000 in
theorem rwords_any (A : Option Addr) (c : Nat) (xs : List Nat) (hn : xs.length ≤ 100) (hx : ∀ x ∈ xs, x < 4294967296) (w : World) (hr : Reads w w.heap.size A (u32s xs)) :
    Calls Try.prog 16 #[.slice A xs.length c] w fun e w' => e = .returned (.string (tx (wl xs xs.length))) ∧ w' = w := by
  have HR := Lib.hid hr
  have HX := Lib.hid hx
  clear hr hx
  go_enter Try.func16, Try.ntmps16
  go_wp2
  go_loopw [3, 4] (fun v3 v4 wr => ∃ (k : Nat) (T : ByteArray), k ≤ xs.length ∧ v4 = .int .i64 (k : Int) ∧ v3 = .string T ∧ Hid (T = tx (wl xs k)) ∧ wr = w) (fun _ v4 _ => xs.length - (intOf v4).toNat)
  case atStart => exact ⟨0, _, Nat.zero_le _, rfl, rfl, Lib.hid rfl, rfl⟩
  case round =>
    obtain ⟨k, T, hk, rfl, rfl, HT, rfl⟩ := hrel
    by_cases hlt : k < xs.length
    · obtain ⟨b, off, rfl, hbB, hcell⟩ := HR.out k (by rw [u32s_length]; exact hlt)
      rw [u32_at] at hcell
      obtain ⟨x, hx⟩ : ∃ x, x = xs[k]'hlt := ⟨_, rfl⟩
      have hxl := HX.out _ (List.getElem_mem hlt)
      rw [← hx] at hcell hxl
      have HW : Hid (wl xs (k + 1) = wl xs k ++ sep k ++ w8 x) := Lib.hid (by rw [wl, List.getD_eq_getElem?_getD, List.getElem?_eq_getElem hlt, hx]; rfl)
      have hTs : T.size ≤ 900 := by have := wl_length xs k; rw [HT.out, tx_size]; omega
      have i0 : (0 : Int) ≤ (k : Int) := by omega
      have i1 : (k : Int) < (xs.length : Int) := by omega
      have HXL := Lib.hid hxl
      clear hx hbB
      have e0 : IntKind.i64.wrap (x : Int) = (x : Int) := by rw [IntKind.wrap_i64]; omega
      clear hxl
      go_wp2
      obtain ⟨wo, rfl⟩ : ∃ wo : World, wo = wr := ⟨_, rfl⟩
      go_loopw [5, 6, 7] (fun v5 v6 v7 wq => ∃ (j y : Nat) (S : ByteArray), j ≤ 8 ∧ v7 = .int .i64 (j : Int) ∧ v6 = .int .i64 (y : Int) ∧ v5 = .string S ∧ Hid (y = x / 16 ^ j) ∧ Hid (S = tx ((w8 x).drop (8 - j))) ∧ wq = wo) (fun _ _ v7 _ => 8 - (intOf v7).toNat)
      case atStart => exact ⟨0, x, _, by omega, rfl, rfl, rfl, Lib.hid (by simp), Lib.hid rfl, rfl⟩
      case round =>
        obtain ⟨j, y, S, hj, rfl, rfl, rfl, HY, HS, rfl⟩ := hrel
        by_cases hlj : j < 8
        · have hyl : y < 4294967296 := by rw [HY.out]; exact Nat.lt_of_le_of_lt (Nat.div_le_self _ _) HXL.out
          obtain ⟨c2, hc⟩ : ∃ c2 : Nat, c2 = y % 16 := ⟨_, rfl⟩
          obtain ⟨y2, hy2⟩ : ∃ y2 : Nat, y2 = y / 16 := ⟨_, rfl⟩
          have e1 : (y : Int).tdiv 16 = (y2 : Int) := by rw [Int.tdiv_eq_ediv_of_nonneg (by omega)]; omega
          have e2 : (y : Int).tmod 16 = (c2 : Int) := by rw [Int.tmod_eq_emod_of_nonneg (by omega)]; omega
          have e5 : IntKind.i64.wrap (y2 : Int) = (y2 : Int) := by rw [IntKind.wrap_i64]; omega
          have CL := Lib.hid (letter_any c2 (by omega))
          have t1 := tx_size [hd c2]
          have HN : Hid (tx [hd c2] ++ S = tx ((w8 x).drop (8 - (j + 1)))) := Lib.hid (by rw [HS.out, hc, HY.out, ← low_next hlj, ← tx_append]; rfl)
          have HY2 : Hid (y2 = x / 16 ^ (j + 1)) := Lib.hid (by rw [hy2, HY.out, Nat.pow_succ, Nat.div_div_eq_div_mul])
          have hSs : S.size ≤ 8 := by rw [HS.out, tx_size, List.length_drop, w8_length]; omega
          have hd8 : decide ((j : Int) < 8) = true := by simp; omega
          generalize tx [hd c2] = L at *
          simp only [List.length_singleton] at t1
          clear hc hy2 hyl
          go_wp2_with fail
          refine (CL.out _).mono ?_
          rintro e w1 ⟨rfl, rfl⟩
          go_wp2
          go_roundw
          case rel => exact ⟨j + 1, y2, _, by omega, by go_num, rfl, rfl, HY2, HN, by trivial⟩
          case measure => simp [intOf]; omega
        · obtain rfl : j = 8 := by omega
          have hSs : S.size = 8 := by rw [HS.out, tx_size]; rfl
          have hS : Hid (S = tx (w8 x)) := Lib.hid (by rw [HS.out]; rfl)
          clear HS HY
          by_cases hk0 : k = 0
          · have HE : Hid (tx (wl xs (k + 1)) = T ++ S) := Lib.hid (by rw [HW.out, hS.out, HT.out, tx_append, tx_append, hk0]; rfl)
            have hd0 : decide ((0 : Int) < (k : Int)) = false := by simp; omega
            have hd1 : decide (0 < k) = false := by simp; omega
            have HK0 := Lib.hid hk0
            clear hk0 hS
            go_wp2
            go_roundw
            case rel => exact ⟨k + 1, _, by omega, by go_num, rfl, Lib.hid HE.out.symm, by trivial⟩
            case measure => simp [intOf]; omega
          · have HE : Hid (tx (wl xs (k + 1)) = T ++ (⟨#[32]⟩ : ByteArray) ++ S) := Lib.hid (by
              rw [HW.out, hS.out, HT.out, tx_append, tx_append]
              have : sep k = [32] := if_neg hk0
              rw [this]; rfl)
            have hd0 : decide ((0 : Int) < (k : Int)) = true := by simp; omega
            have hd1 : decide (0 < k) = true := by simp; omega
            have hb1 : (T ++ (⟨#[32]⟩ : ByteArray)).size = T.size + 1 := by rw [ByteArray.size_append]; rfl
            clear hk0 hS
            go_wp2
            go_roundw
            case rel => exact ⟨k + 1, _, by omega, by go_num, rfl, Lib.hid HE.out.symm, by trivial⟩
            case measure => simp [intOf]; omega
    · obtain rfl : k = xs.length := by omega
      go_wp2
      go_ret
      exact ⟨by rw [HT.out]; rfl, rfl⟩
end Go.Proofs.Yticmienihfokjaa

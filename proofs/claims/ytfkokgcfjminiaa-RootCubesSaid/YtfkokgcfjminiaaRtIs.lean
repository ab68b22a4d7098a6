/- The document's Is, by its contract: it tells yes of the bits behind the point of a root. No condition but those typed. -/
import Derived.Test.YtfkokgcfjminiaaRtTimes
namespace Go.Proofs.Ytfkokgcfjminiaa
open Go.RowKit

theorem above_yes (va vb : Value) (N M L K : Nat) (hL : L ≤ 10000) (hK : K ≤ 10000) (w : World) (hva : IsNat w va N L) (hvb : IsNat w vb M K) (h : M < N) : Calls Try.prog 20 #[va, vb] w fun e w' => e = .returned (.bool true) ∧ w = w' := by
  have C := above_any va vb N M L K hL hK w hva hvb
  rw [decide_eq_true h] at C
  exact C
theorem above_no (va vb : Value) (N M L K : Nat) (hL : L ≤ 10000) (hK : K ≤ 10000) (w : World) (hva : IsNat w va N L) (hvb : IsNat w vb M K) (h : ¬ M < N) : Calls Try.prog 20 #[va, vb] w fun e w' => e = .returned (.bool false) ∧ w = w' := by
  have C := above_any va vb N M L K hL hK w hva hvb
  rw [decide_eq_false h] at C
  exact C

set_option maxHeartbeats 1600000 in
theorem is_true (n t d D W s : Nat) (hn : n ≤ 1048576) (ht : t ≤ 3) (hd : d ≤ 4) (hD : D ≤ 12) (hdt : (d : Int) * (t : Int) = (D : Int)) (hW : W ≤ 2000) (hs : s < 18446744073709551616)
    (hW1 : ∀ k, k < W → (k + 1) ^ t ≤ n) (hW2 : n < (W + 1) ^ t) (h1 : (65536 ^ d * W + s) ^ t ≤ 65536 ^ D * n) (h2 : 65536 ^ D * n < (65536 ^ d * W + s + 1) ^ t) (w : World) :
    Calls Try.prog 11 #[.int .i64 (n : Int), .int .i64 (t : Int), .int .i64 (d : Int), .int .u64 (s : Int)] w fun e w' => e = .returned (.bool true) ∧ Below w.heap.size w w' := by
  have K1 := Lib.hid hW1
  have K2 := Lib.hid hW2
  have K3 := Lib.hid h1
  have K4 := Lib.hid h2
  clear hW1 hW2 h1 h2
  have htd : t * (5 + 5) ≤ 3 * 10 := Nat.mul_le_mul ht (by omega)
  have O1 := Lib.hid fun w => of_any n (by omega) w
  have Ok := Lib.hid fun k (hk : k ≤ 2001) w => of_any k (by omega) w
  have Os := Lib.hid fun w => of_any s hs w
  go_enter Try.func11, Try.ntmps11
  go_wp2_with fail
  refine (O1.out _).mono ?_
  rintro e w1 ⟨v1, rfl, p1, b1⟩
  have P1 := Lib.hid p1
  clear p1
  go_wp2_with fail
  refine (up_any v1 n 4 D (by omega) (by omega) _ P1.out).mono ?_
  rintro e w2 ⟨vg, rfl, p2, b2⟩
  have PG := Lib.hid p2
  have hb := step_trans' b1 b2
  clear p2 P1 b1 b2
  go_wp2_with fail
  go_loopg [10] (W + 1) (fun g i wr => ∃ k : Nat, k + g = W + 1 ∧ k ≤ W ∧ i = .int .i64 k ∧ Hid (IsNat wr vg (65536 ^ D * n) (4 + D)) ∧ Below w.heap.size w wr)
  case atStart => exact ⟨0, by omega, by omega, rfl, PG, hb⟩
  case round =>
    clear PG hb
    obtain ⟨k, hkg, hk, rfl, PG, hb⟩ := hrel
    have Okk := Lib.hid (Ok.out (k + 1) (by omega))
    go_wp2_with fail
    refine (Okk.out _).mono ?_
    rintro e w3 ⟨v3, rfl, p3, b3⟩
    have P3 := Lib.hid p3
    have PG1 := Lib.hid (PG.out.keep b3)
    have hb1 := step_trans' hb b3
    clear p3 b3 hb PG
    go_wp2_with fail
    refine (power_any v3 (k + 1) 4 t (by omega) ht _ P3.out).mono ?_
    rintro e w4 ⟨v4, rfl, p4, b4⟩
    have P4 := Lib.hid p4
    have PG2 := Lib.hid (PG1.out.keep b4)
    have hb2 := step_trans' hb1 b4
    clear p4 b4 hb1 PG1 P3
    go_wp2_with fail
    refine (O1.out _).mono ?_
    rintro e w5 ⟨v5, rfl, p5, b5⟩
    have P5 := Lib.hid p5
    have PG3 := Lib.hid (PG2.out.keep b5)
    have P6 := Lib.hid (P4.out.keep b5)
    have hb3 := step_trans' hb2 b5
    clear p5 b5 hb2 PG2 P4
    have hlb : t * (4 + 1) ≤ 30 := by omega
    by_cases hkW : k < W
    · have A := Lib.hid (above_no v4 v5 _ _ _ _ (by omega) (by omega) _ P6.out P5.out (by have := K1.out k hkW; omega))
      go_wp2_with fail
      refine (A.out).mono ?_
      rintro e w' ⟨rfl, rfl⟩
      obtain ⟨g, rfl⟩ : ∃ g, gk = g + 1 := ⟨gk - 1, by omega⟩
      go_wp2
      go_roundg g
      case measure => omega
      case rel => exact ⟨k + 1, by omega, by omega, by go_num, PG3, hb3⟩
    · obtain rfl : k = W := by omega
      have A := Lib.hid (above_yes v4 v5 _ _ _ _ (by omega) (by omega) _ P6.out P5.out K2.out)
      have OW := Lib.hid (Ok.out k (by omega))
      have Oone := Lib.hid (Ok.out 1 (by omega))
      clear Okk P5 P6
      go_wp2_with fail
      refine (A.out).mono ?_
      rintro e w' ⟨rfl, rfl⟩
      clear A
      go_wp2_with fail
      refine (OW.out _).mono ?_
      rintro e w6 ⟨v6, rfl, p6, b6⟩
      have P6 := Lib.hid p6
      have G6 := Lib.hid (PG3.out.keep b6)
      have c6 := step_trans' hb3 b6
      clear p6 b6 hb3 PG3 OW
      go_wp2_with fail
      refine (up_any v6 k 4 d (by omega) (by omega) _ P6.out).mono ?_
      rintro e w7 ⟨v7, rfl, p7, b7⟩
      have P7 := Lib.hid p7
      have G7 := Lib.hid (G6.out.keep b7)
      have c7 := step_trans' c6 b7
      clear p7 b7 c6 G6 P6
      go_wp2_with fail
      refine (Os.out _).mono ?_
      rintro e w8 ⟨v8, rfl, p8, b8⟩
      have P8 := Lib.hid (p8.more (show 4 ≤ 4 + d by omega))
      have Q8 := Lib.hid (P7.out.keep b8)
      have G8 := Lib.hid (G7.out.keep b8)
      have c8 := step_trans' c7 b8
      clear p8 b8 c7 G7 P7
      go_wp2_with fail
      refine (sum_any v7 v8 _ _ (4 + d) (by omega) _ Q8.out P8.out).mono ?_
      rintro e w9 ⟨v9, rfl, p9, b9⟩
      have P9 := Lib.hid p9
      have G9 := Lib.hid (G8.out.keep b9)
      have c9 := step_trans' c8 b9
      clear p9 b9 c8 G8 P8 Q8
      go_wp2_with fail
      refine (power_any v9 _ (4 + d + 1) t (by omega) ht _ P9.out).mono ?_
      rintro e w10 ⟨v10, rfl, p10, b10⟩
      have P10 := Lib.hid p10
      have Q10 := Lib.hid (P9.out.keep b10)
      have G10 := Lib.hid (G9.out.keep b10)
      have c10 := step_trans' c9 b10
      clear p10 b10 c9 G9 P9
      have hl1 : t * (4 + d + 1 + 1) ≤ 3 * 10 := Nat.mul_le_mul ht (by omega)
      have hl2 : t * (4 + d + 1 + 1 + 1) ≤ 3 * 11 := Nat.mul_le_mul ht (by omega)
      have A := Lib.hid (above_no v10 vg _ _ _ _ (by omega) (by omega) _ P10.out G10.out (by have := K3.out; omega))
      go_wp2_with fail
      refine (A.out).mono ?_
      rintro e w' ⟨rfl, rfl⟩
      clear A P10
      go_wp2_with fail
      refine (Oone.out _).mono ?_
      rintro e w11 ⟨v11, rfl, p11, b11⟩
      have P11 := Lib.hid (p11.more (show 4 ≤ 4 + d + 1 by omega))
      have Q11 := Lib.hid (Q10.out.keep b11)
      have G11 := Lib.hid (G10.out.keep b11)
      have c11 := step_trans' c10 b11
      clear p11 b11 c10 G10 Q10
      go_wp2_with fail
      refine (sum_any v9 v11 _ _ (4 + d + 1) (by omega) _ Q11.out P11.out).mono ?_
      rintro e w12 ⟨v12, rfl, p12, b12⟩
      have P12 := Lib.hid p12
      have G12 := Lib.hid (G11.out.keep b12)
      have c12 := step_trans' c11 b12
      clear p12 b12 c11 G11 P11 Q11
      go_wp2_with fail
      refine (power_any v12 _ (4 + d + 1 + 1) t (by omega) ht _ P12.out).mono ?_
      rintro e w13 ⟨v13, rfl, p13, b13⟩
      have P13 := Lib.hid p13
      have G13 := Lib.hid (G12.out.keep b13)
      have c13 := step_trans' c12 b13
      clear p13 b13 c12 G12 P12
      have A := Lib.hid (above_yes v13 vg _ _ _ _ (by omega) (by omega) _ P13.out G13.out K4.out)
      go_wp2_with fail
      refine (A.out).mono ?_
      rintro e w' ⟨rfl, rfl⟩
      clear A P13 G13
      go_wp2
      go_ret
      exact ⟨rfl, c13⟩
end Go.Proofs.Ytfkokgcfjminiaa

/- The document's Text of layer 18 by its contract, by induction on the number. No condition but that the number is an int. -/
import Derived.Test.YtkmaghjdnknjjaaDcRead
namespace Go.Proofs.Ytkmaghjdnknjjaa
set_option maxRecDepth 50000
open Go.RowKit De

/-- the digits, as the code has them -/
def tenS : ByteArray := ⟨#[48, 49, 50, 51, 52, 53, 54, 55, 56, 57]⟩
theorem tenS_cut : ∀ k : Nat, k < 10 → tl (tenS.extract k (k + 1)) = [dg k] := by decide +kernel
theorem dt_short (n : Nat) (h : n < 9223372036854775808) : (dt n).length ≤ 19 := by
  have e : (10 : Nat) ^ (18 + 1) = 10000000000000000000 := by decide
  exact dt_length 18 n (by omega)

set_option maxHeartbeats 1600000 in
theorem rtext_nat (n : Nat) : n < 9223372036854775808 → ∀ w : World,
    Calls Try.prog 11 #[.int .i64 (n : Int)] w fun e w' => e = .returned (.string (tx (dt n))) ∧ w' = w := by
  induction n using Nat.strongRecOn with
  | ind n ih =>
    intro hn w
    obtain ⟨k, hk⟩ : ∃ k, k = n % 10 := ⟨_, rfl⟩
    have hk10 : k < 10 := by omega
    have hx : tenS.extract k (k + 1) = tx [dg k] := tl_inj (by rw [tenS_cut k hk10, tl_tx])
    have e1 : (n : Int).tmod 10 = (k : Int) := by rw [Int.tmod_eq_emod_of_nonneg (by omega)]; omega
    have e2 : (n : Int) % 10 = (k : Int) := by omega
    have d0 : decide ((n : Int) < 0) = false := by simp
    have hB : (tx [dg k]).size = 1 := by rw [tx_size]; rfl
    by_cases h10 : n < 10
    · have HR : Hid (tx (dt n) = tx [dg k]) := Lib.hid (by rw [dt_lt h10, show k = n by omega])
      have d1 : decide ((n : Int) < 10) = true := by simp; omega
      clear ih hk
      go_enter Try.func11, Try.ntmps11
      generalize hS : (⟨#[48, 49, 50, 51, 52, 53, 54, 55, 56, 57]⟩ : ByteArray) = S
      have e : S = tenS := hS.symm
      have es : S.size = 10 := by rw [e]; rfl
      rw [← e] at hx
      have hr : (Instr.slice 9 (.string S) (some (.int .i64 (k : Int))) (some (.int .i64 ((k : Int) + 1))) none).run Try.prog w = .ok (.string (tx [dg k])) w := by
        rw [run_slice_string w 9 S .i64 .i64 (k : Int) ((k : Int) + 1) Try.underlying9 (by omega) (by omega) (by omega), ← hx]
        rfl
      rw [HR.out]
      generalize tx [dg k] = D at *
      clear hS e hx es HR
      go_wp2
      go_ret
      exact ⟨rfl, rfl⟩
    · obtain ⟨q, hq⟩ : ∃ q, q = n / 10 := ⟨_, rfl⟩
      have HI := Lib.hid (ih q (by omega) (by omega))
      have hA : (tx (dt q)).size ≤ 19 := by rw [tx_size]; exact dt_short q (by omega)
      have HR : Hid (tx (dt n) = tx (dt q) ++ tx [dg k]) := Lib.hid (by rw [dt_ge (by omega), tx_append, hq, hk])
      have d1 : decide ((n : Int) < 10) = false := by simp; omega
      have e3 : (n : Int).tdiv 10 = (q : Int) := by rw [Int.tdiv_eq_ediv_of_nonneg (by omega)]; omega
      have e4 : (n : Int) / 10 = (q : Int) := by omega
      have e5 : IntKind.i64.wrap (q : Int) = (q : Int) := by rw [IntKind.wrap_i64]; omega
      have g1 : 10 ≤ n := by omega
      clear ih hk hq h10
      go_enter Try.func11, Try.ntmps11
      generalize hS : (⟨#[48, 49, 50, 51, 52, 53, 54, 55, 56, 57]⟩ : ByteArray) = S
      have e : S = tenS := hS.symm
      have es : S.size = 10 := by rw [e]; rfl
      rw [← e] at hx
      have hr : (Instr.slice 9 (.string S) (some (.int .i64 (k : Int))) (some (.int .i64 ((k : Int) + 1))) none).run Try.prog w = .ok (.string (tx [dg k])) w := by
        rw [run_slice_string w 9 S .i64 .i64 (k : Int) ((k : Int) + 1) Try.underlying9 (by omega) (by omega) (by omega), ← hx]
        rfl
      rw [HR.out]
      generalize tx [dg k] = D at *
      generalize tx (dt q) = A at *
      clear hS e hx es HR
      go_wp2_with fail
      refine (HI.out w).mono ?_
      rintro e w1 ⟨rfl, hw⟩
      obtain rfl := hw.symm
      go_wp2
      go_ret
      exact ⟨rfl, rfl⟩

theorem rtext_neg (n : Int) (h : n < 0) (w : World) :
    Calls Try.prog 11 #[.int .i64 n] w fun e w' => e = .returned (.string ⟨#[]⟩) ∧ w' = w := by
  have d0 : decide (n < 0) = true := by simp [h]
  go_enter Try.func11, Try.ntmps11
  go_wp2
  go_ret
  exact ⟨rfl, rfl⟩
/-- the document's digits of any int -/
theorem rtext_any (n : Int) (h : n < 9223372036854775808) (w : World) :
    Calls Try.prog 11 #[.int .i64 n] w fun e w' => e = .returned (.string (tT n)) ∧ w' = w := by
  by_cases hn : n < 0
  · rw [tT_neg hn]; exact rtext_neg n hn w
  · obtain ⟨m, rfl⟩ := Int.eq_ofNat_of_zero_le (show 0 ≤ n by omega)
    have := rtext_nat m (by omega) w
    rw [tT_nat]
    exact this
end Go.Proofs.Ytkmaghjdnknjjaa

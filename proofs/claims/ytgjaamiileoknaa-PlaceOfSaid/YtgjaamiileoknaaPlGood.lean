/- Of of package place where there is a block that refers. Conditions: those typed. -/
import Derived.Test.YtgjaamiileoknaaPlPure
namespace Go.Proofs.Ytgjaamiileoknaa
set_option maxRecDepth 50000
open Go.RowKit

theorem re_zero (p s k i : Int) : reB 0 0 0 p s k i = false := by
  have : hasB 0 p s = false := by simp [hasB, inB]; omega
  rw [reB, this, Bool.false_and]
theorem mok_small {a t m l z b c g : Nat} (hM : Mok a t m l z) (hc : c = 4 * g) (hb : b = l * c) (hbm : b ≤ m) : t ≤ 4294967295 ∧ l ≤ 4294967295 ∧ g ≤ 4294967295 ∧ c ≤ 4294967295 := by
  have hm : m ≤ 4294967295 := hM.2.2.2.2.2.2.1
  have hl : 1 ≤ l := hM.2.2.2.1
  have hl2 : l ≤ 16777215 := hM.2.2.2.2.1
  have ht : t ≤ 4294967295 := hM.2.2.1
  have hcb : c ≤ b := by rw [hb]; exact Nat.le_mul_of_pos_left _ (by omega)
  omega
theorem ln_lt {l p s k K : Nat} (hk : k < l) : lnN l p s k K < l := by
  unfold lnN
  split
  · exact hk
  · exact Nat.mod_lt _ (by omega)
/-- a column that is in no other's slice -/
theorem other_slice {g y s : Nat} (hg : 0 < g) (h : y < s * g ∨ s * g + g ≤ y) : y / g ≠ s := by
  intro e
  have h1 := (Nat.div_lt_iff_lt_mul (x := y) (y := s + 1) hg).1 (by omega)
  have h2 := (Nat.le_div_iff_mul_le (x := s) (y := y) hg).1 (by omega)
  rw [Nat.succ_mul] at h1
  omega
theorem plof_good {t l c g p s k i : Nat} (a b m z J K : Nat) (hJ : J < 4294967296) (hK : K < 4294967296) (R : Ref t l c g p s k i) (hx : reB t l g p s k i = true) (ht : t ≤ 4294967295) (hl : l ≤ 4294967295) (hc : c ≤ 4294967295) :
    ∃ A : Nat, arI (bsN c g p s) i (decide (lnN l p s k K = k)) = (A : Int) ∧ 1 ≤ A ∧ A ≤ c ∧ A + (if decide (lnN l p s k K = k) = true then 1 else if i = 0 then 1 else 0) = bsN c g p s + (if decide (lnN l p s k K = k) = true then i else 0) ∧
      ∀ w : World, Calls Try.prog 8 #[spv a t l m b c g z, tuv p s, .int .i64 (k : Int), .int .i64 (i : Int), .int .u32 (J : Int), .int .u32 (K : Int)] w fun e w' => e = .returned (.tuple #[sov (lnN l p s k K) (colN c g p s (piN A J)), .int .i64 0]) ∧ Below w.heap.size w w' := by
  obtain ⟨t1, t2, t3, t4, t5, t6⟩ := R.times
  have hk := R.kl
  have hi := R.ig
  have hcg := R.cg
  have hf := R.from_le
  obtain ⟨A, h1, h2, h3, h4⟩ := R.area (decide (lnN l p s k K = k)) (fun hp hs => by rw [lnN, if_pos ⟨hp, hs⟩]; simp)
  refine ⟨A, h1, h2, h3, h4, fun w => ?_⟩
  exact plof_walk a t l m b c g z p s k i J K _ _ _ A _ _ _ ht (by omega) hl (by omega) hc R.s3 (by omega) (by omega) hJ hK hx rfl rfl rfl rfl h1 h2 (by omega) rfl rfl (by omega) w
end Go.Proofs.Ytgjaamiileoknaa

/- Any and Pick by their contracts. Conditions: of Any: the text has at most 1,000 bytes, there are at most 100 others, none longer than what may come in. -/
import Derived.Test.YticjndlgjbbemaaEqSame
import Derived.Laws.BitsLemmas
import Derived.Laws.Bits128
namespace Go.Proofs.Yticjndlgjbbemaa
set_option maxRecDepth 50000
open Go.RowKit

def stv (l : List ByteArray) : List Value := l.map Value.string
theorem stv_length (l : List ByteArray) : (stv l).length = l.length := by simp [stv]
theorem stv_at (l : List ByteArray) (k : Nat) (h : k < (stv l).length) : (stv l)[k] = .string (l[k]'(by simpa [stv] using h)) := by simp [stv]
/-- is the text one of the first k; how many places are looked at of those -/
def among (a : ByteArray) (ss : List ByteArray) (k : Nat) : Bool := (ss.take k).any (eqB a)
def many (a : ByteArray) (ss : List ByteArray) (k : Nat) : Nat := ((ss.take k).map (cnt a)).sum
theorem among_next (a : ByteArray) (ss : List ByteArray) (k : Nat) (h : k < ss.length) : among a ss (k + 1) = (among a ss k || eqB a ss[k]) := by
  unfold among; rw [List.take_succ_eq_append_getElem h, List.any_append]; simp
theorem many_next (a : ByteArray) (ss : List ByteArray) (k : Nat) (h : k < ss.length) : many a ss (k + 1) = many a ss k + cnt a ss[k] := by
  unfold many; rw [List.take_succ_eq_append_getElem h, List.map_append, List.sum_append]; simp
theorem cnt_le (a b : ByteArray) : cnt a b ≤ a.size := by unfold cnt; split <;> omega
theorem many_le (a : ByteArray) (ss : List ByteArray) : ∀ k, k ≤ ss.length → many a ss k ≤ k * a.size
  | 0, _ => by simp [many]
  | k + 1, hk => by
    rw [many_next a ss k hk, Nat.succ_mul]
    have := many_le a ss k (by omega)
    have := cnt_le a ss[k]
    omega

set_option maxHeartbeats 1600000 in
theorem any_any (a : ByteArray) (ha : a.size ≤ 1000) (A : Option Addr) (c : Nat) (ss : List ByteArray) (hn : ss.length ≤ 100) (w : World) (hr : Reads w w.heap.size A (stv ss)) :
    Calls Try.prog 10 #[.string a, .slice A ss.length c] w fun e w' => e = .returned (.tuple #[.bool (among a ss ss.length), .int .i64 (many a ss ss.length : Nat)]) ∧ Below w.heap.size w w' := by
  have HR := Lib.hid hr
  have HN := Lib.hid (Lk.new_ w false)
  have HM := Lib.hid fun k hk => Nat.le_trans (many_le a ss k hk) (Nat.mul_le_mul (show k ≤ 100 by omega) ha)
  clear hr
  go_enter Try.func10, Try.ntmps10
  go_wp2
  generalize hW0 : World.alloc _ _ = w0
  have H0 : Hid (Lk w w0 w.heap.size 0 false (.slice none 0 0) 0) := Lib.hid (by subst hW0; exact HN.out)
  clear hW0 HN
  go_loopw [7, 12] (fun v7 v12 wr => ∃ (k : Nat) (t : Bool) (m : Nat), k ≤ ss.length ∧ v12 = .int .i64 (k : Int) ∧ v7 = .int .i64 (one t : Nat) ∧ Hid (t = among a ss k) ∧ Hid (m = many a ss k) ∧ Hid (∃ v, Lk w wr w.heap.size m false v 0)) (fun _ v12 _ => ss.length - (intOf v12).toNat)
  case atStart => exact ⟨0, false, 0, Nat.zero_le _, rfl, rfl, Lib.hid rfl, Lib.hid rfl, Lib.hid ⟨_, H0.out⟩⟩
  case round =>
    clear H0
    obtain ⟨k, t, m, hk, rfl, rfl, HT, HMk, HK⟩ := hrel
    obtain ⟨v1, h1⟩ := HK.out
    have H1 := Lib.hid h1
    have HB := Lib.hid h1.below
    have hm : m ≤ 100 * 1000 := by rw [HMk.out]; exact HM.out k hk
    by_cases hlt : k < ss.length
    · obtain ⟨b, off, rfl, hbB, hcell⟩ := (HR.out.below HB.out) k (by rw [stv_length]; exact hlt)
      rw [stv_at] at hcell
      have HA := Lib.hid (among_next a ss k hlt)
      have HY := Lib.hid (many_next a ss k hlt)
      rw [← HT.out] at HA
      rw [← HMk.out] at HY
      clear HT HMk h1 HK
      generalize ss[k] = s at *
      have CS := Lib.hid (same_any H1.out a s (by omega) (fun h => by cases h) (by omega))
      generalize eqB a s = u at *
      go_wp2_with fail
      refine CS.out.mono ?_
      rintro e w2 ⟨rfl, v2, h3⟩
      have H3 := Lib.hid h3
      clear h3 CS H1
      cases t <;> cases u
      all_goals
        simp only [one]
        go_wp2
        go_roundw
        case rel => exact ⟨k + 1, _, m + cnt a s, by omega, by go_num, rfl, Lib.hid HA.out.symm, Lib.hid HY.out.symm, Lib.hid ⟨v2, H3.out⟩⟩
        case measure => simp [intOf]; omega
    · obtain rfl : k = ss.length := by omega
      have y0 := h1.at_.1
      clear h1 HK
      cases t
      all_goals
        simp only [one]
        go_wp2
        go_quiet (fail)
        go_wp2
        go_ret2
        exact ⟨by rw [← HT.out, ← HMk.out]; rfl, below_drewN HB.out _⟩

theorem i64_and1 (n : Int) : bits .and .i64 n 1 = n % 2 := by
  have h1 : (BitVec.ofInt 64 1).toNat = 2 ^ 1 - 1 := by decide
  have key : (BitVec.ofInt 64 n &&& BitVec.ofInt 64 1).toNat = (n % ((2 ^ 64 : Nat) : Int)).toNat % 2 ^ 1 := by
    rw [BitVec.toNat_and, BitVec.toNat_ofInt, h1, Nat.and_two_pow_sub_one_eq_mod]
  show IntKind.i64.wrap ((BitVec.ofInt 64 n &&& BitVec.ofInt 64 1).toNat : Nat) = n % 2
  rw [key, IntKind.wrap_i64]
  omega
/-- what Pick answers -/
def pick (bit : Int) (x y : Nat) : Nat := if bit = 0 then y else if bit = 1 then x else 0
def pickE (bit : Int) : Int := if bit = 0 then 0 else if bit = 1 then 0 else 1
theorem pick_any (bit : Int) (x y : Nat) (hx : x < 256) (hy : y < 256) (w : World) :
    Calls Try.prog 11 #[.int .i64 bit, .int .u8 (x : Int), .int .u8 (y : Int)] w fun e w' => e = .returned (.tuple #[.int .u8 (pick bit x y : Nat), .int .i64 (pickE bit)]) ∧ w' = w := by
  have hA := i64_and1 bit
  by_cases h0 : bit = 0
  · subst h0
    obtain ⟨z, hz⟩ : ∃ z, z = x ^^^ y := ⟨_, rfl⟩
    have hzb : z < 256 := by rw [hz]; exact Nat.xor_lt_two_pow (n := 8) hx hy
    have e1 : bits .xor .u8 (x : Int) (y : Int) = (z : Int) := by rw [u8_xor_nat x y hx hy, hz]
    have e2 : bits .and .u8 0 (z : Int) = 0 := by have := u8_and_nat 0 z (by decide) hzb; simpa using this
    have e3 : bits .xor .u8 (y : Int) 0 = (y : Int) := by have := u8_xor_nat y 0 hy (by decide); simpa using this
    clear hA hz
    go_enter Try.func11, Try.ntmps11
    go_wp2
    go_ret2
    exact ⟨rfl, rfl⟩
  · by_cases h1 : bit = 1
    · subst h1
      obtain ⟨z, hz⟩ : ∃ z, z = x ^^^ y := ⟨_, rfl⟩
      have hzb : z < 256 := by rw [hz]; exact Nat.xor_lt_two_pow (n := 8) hx hy
      have e1 : bits .xor .u8 (x : Int) (y : Int) = (z : Int) := by rw [u8_xor_nat x y hx hy, hz]
      have e2 : bits .and .u8 255 (z : Int) = (z : Int) := by
        have := u8_and_nat 255 z (by decide) hzb
        rw [show (255 : Nat) = 2 ^ 8 - 1 from rfl, Nat.and_comm, Nat.and_two_pow_sub_one_eq_mod, Nat.mod_eq_of_lt hzb] at this
        simpa using this
      have e3 : bits .xor .u8 (y : Int) (z : Int) = (x : Int) := by
        rw [u8_xor_nat y z hy hzb, hz, Nat.xor_comm x y, ← Nat.xor_assoc, Nat.xor_self, Nat.zero_xor]
      clear hA hz
      go_enter Try.func11, Try.ntmps11
      go_wp2
      go_ret2
      exact ⟨rfl, rfl⟩
    · have hne : (bit == bit % 2) = false := by rw [beq_eq_false_iff_ne]; omega
      have HP : Hid (pick bit x y = 0 ∧ pickE bit = 1) := Lib.hid ⟨by simp [pick, h0, h1], by simp [pickE, h0, h1]⟩
      clear h0 h1
      generalize bit % 2 = r at *
      rw [HP.out.1, HP.out.2]
      go_enter Try.func11, Try.ntmps11
      go_wp2
      go_ret2
      exact ⟨rfl, rfl⟩
end Go.Proofs.Yticjndlgjbbemaa

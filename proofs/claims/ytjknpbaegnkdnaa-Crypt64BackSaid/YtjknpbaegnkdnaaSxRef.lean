/- The document's At, Letters, number, Bits and Plain by their contracts. Conditions: those typed. -/
import Derived.Test.YtjknpbaegnkdnaaSxRpure
import Derived.Laws.AppendOwn
import Derived.OwnWalk
namespace Go.Proofs.Ytjknpbaegnkdnaa
set_option maxRecDepth 50000
open Go.RowKit Sx

def ints (l : List Nat) : List Value := l.map fun x : Nat => .int .i64 (x : Int)
theorem ints_length (l : List Nat) : (ints l).length = l.length := by simp [ints]
theorem ints_append (a b : List Nat) : ints (a ++ b) = ints a ++ ints b := by simp [ints]
theorem int_at (l : List Nat) (k : Nat) (h : k < (ints l).length) : (ints l)[k] = .int .i64 ((l[k]'(by simpa [ints] using h) : Nat) : Int) := by simp [ints]
theorem sx_info_int : (Try.prog.info? 3).map (fun i => (i.zero, i.size, i.bytes)) = some (some (.int .i64 0), 1, 8) := by kernel_rfl

/-- what the document's At answers -/
def atI (L : List UInt8) (x : UInt8) : Int := if x ∈ L then ((pos L x : Nat) : Int) else -1
theorem lt_text (s : ByteArray) (k : Nat) (h : k < s.size) : Sx.lt (tl s) k = s[k]'h := by
  unfold Sx.lt
  rw [List.getD_eq_getElem?_getD, List.getElem?_eq_getElem (by rw [tl_length]; exact h)]; rfl
theorem at_any (s : ByteArray) (hs : s.size ≤ 140737488351232) (x : UInt8) (w : World) :
    Calls Try.prog 24 #[.string s, .int .u8 (x.toNat : Int)] w fun e w' => e = .returned (.int .i64 (atI (tl s) x)) ∧ w' = w := by
  go_enter Try.func24, Try.ntmps24
  go_wp2
  go_loopw [5] (fun v5 wr => ∃ k : Nat, k ≤ s.size ∧ v5 = .int .i64 (k : Int) ∧ Hid (x ∉ (tl s).take k) ∧ wr = w) (fun v5 _ => s.size - (intOf v5).toNat)
  case atStart => exact ⟨0, by omega, rfl, Lib.hid (by simp), rfl⟩
  case round =>
    obtain ⟨k, hk, rfl, HK, rfl⟩ := hrel
    by_cases hlt : k < s.size
    · have hkl : k < (tl s).length := by rw [tl_length]; exact hlt
      have hlI : decide ((k : Int) < (s.size : Int)) = true := by simp; omega
      have hl := lt_text s k hlt
      obtain ⟨y, hy⟩ : ∃ y, y = s[k]'hlt := ⟨_, rfl⟩
      have hat : ((s[k]'hlt).toNat : Int) = (y.toNat : Int) := by rw [hy]
      rw [← hy] at hl
      by_cases hb : y = x
      · have hp := pos_hit hkl (hl.trans hb) HK.out
        have HR : Hid (atI (tl s) x = (k : Int)) := Lib.hid (by unfold atI; rw [if_pos hp.1, hp.2])
        have hq : ((y.toNat : Int) == (x.toNat : Int)) = true := by rw [hb]; simp
        clear hb hp hl hy
        go_wp2
        go_ret
        exact ⟨by rw [HR.out]; rfl, rfl⟩
      · have hq : ((y.toNat : Int) == (x.toNat : Int)) = false := by
          rw [beq_eq_false_iff_ne]
          intro e
          exact hb (UInt8.toNat.inj (by omega))
        have HK2 : Hid (x ∉ (tl s).take (k + 1)) := Lib.hid (by
          rw [take_next hkl, hl, List.mem_append, List.mem_singleton]
          rintro (h | h)
          · exact HK.out h
          · exact hb h.symm)
        clear hb hl hy
        go_wp2
        go_roundw
        case rel => exact ⟨k + 1, by omega, by go_num, HK2, trivial⟩
        case measure => simp [intOf]; omega
    · obtain rfl : k = s.size := by omega
      have HR : Hid (atI (tl s) x = -1) := Lib.hid (by
        have := HK.out
        rw [List.take_of_length_le (by rw [tl_length]; exact Nat.le_refl _)] at this
        exact if_neg this)
      clear HK
      go_wp2
      go_ret
      exact ⟨by rw [HR.out]; rfl, rfl⟩

theorem number_any (A : Option Addr) (c : Nat) (bs : List Nat) (hb : ∀ x ∈ bs, x < 2) (i m : Nat) (hi : i ≤ 1000000) (hm : m ≤ 8) (w : World) (hr : Reads w w.heap.size A (ints bs)) :
    Calls Try.prog 23 #[.slice A bs.length c, .int .i64 (i : Int), .int .i64 (m : Int)] w fun e w' => e = .returned (.int .i64 (nb bs i m : Int)) ∧ w' = w := by
  have HR := Lib.hid hr
  have HB := Lib.hid hb
  have HNL : Hid (∀ k, k ≤ m → nb bs i k < 256) := Lib.hid fun k hk => Nat.lt_of_lt_of_le (nb_lt hb i k) (Nat.pow_le_pow_right (n := 2) (by decide) (show k ≤ 8 by omega))
  clear hr hb
  go_enter Try.func23, Try.ntmps23
  go_wp2
  go_loopw [7, 8] (fun v7 v8 wr => ∃ k N j : Nat, k ≤ m ∧ Hid (j = i + k) ∧ v8 = .int .i64 (j : Int) ∧ v7 = .int .i64 (N : Int) ∧ Hid (N = nb bs i k) ∧ wr = w) (fun _ v8 _ => i + m - (intOf v8).toNat)
  case atStart => exact ⟨0, 0, i, by omega, Lib.hid rfl, rfl, rfl, Lib.hid rfl, rfl⟩
  case round =>
    obtain ⟨k, N, j, hk, HJ, rfl, rfl, HN, rfl⟩ := hrel
    have hN : N < 256 := by rw [HN.out]; exact HNL.out k hk
    have hjb : j ≤ 1000008 := by have := HJ.out; omega
    by_cases hlt : k < m
    · have hd : decide ((j : Int) < (i : Int) + (m : Int)) = true := by have := HJ.out; simp; omega
      by_cases hin : j < bs.length
      · obtain ⟨bb, off, rfl, hbB, hcell⟩ := HR.out j (by rw [ints_length]; exact hin)
        rw [int_at] at hcell
        have hN2 := HNL.out (k + 1) hlt
        have HX : Hid (nb bs i (k + 1) = 2 * N + bs[j]) := Lib.hid (by
          rw [nb, ← HN.out, ← HJ.out, List.getD_eq_getElem?_getD, List.getElem?_eq_getElem hin]; rfl)
        rw [HX.out] at hN2
        generalize bs[j] = x at *
        have i0 : (0 : Int) ≤ (j : Int) := by omega
        have i1 : (j : Int) < (bs.length : Int) := by omega
        go_wp2
        go_roundw
        case rel => exact ⟨k + 1, 2 * N + x, j + 1, by omega, Lib.hid (by rw [HJ.out]; omega), by go_num, by go_num, Lib.hid (by rw [HX.out]), by trivial⟩
        case measure => simp [intOf]; have := HJ.out; omega
      · have HX : Hid (nb bs i (k + 1) = 2 * N) := Lib.hid (by
          rw [nb, ← HN.out, ← HJ.out, List.getD_eq_getElem?_getD, List.getElem?_eq_none (by omega)]; rfl)
        have i1 : decide ((j : Int) < (bs.length : Int)) = false := by simp; omega
        go_wp2
        go_roundw
        case rel => exact ⟨k + 1, 2 * N, j + 1, by omega, Lib.hid (by rw [HJ.out]; omega), by go_num, by go_num, Lib.hid (by rw [HX.out]), by trivial⟩
        case measure => simp [intOf]; have := HJ.out; omega
    · obtain rfl : k = m := by omega
      have hd : decide ((j : Int) < (i : Int) + (k : Int)) = false := by have := HJ.out; simp; omega
      have HN2 : Hid ((N : Int) = ((nb bs i k : Nat) : Int)) := Lib.hid (by rw [HN.out])
      go_wp2
      go_ret
      exact ⟨by rw [← HN2.out]; rfl, rfl⟩
end Go.Proofs.Ytjknpbaegnkdnaa

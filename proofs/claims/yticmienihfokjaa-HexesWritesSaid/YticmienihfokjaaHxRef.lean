/- The document's value, Encode and Dash by their contracts. Condition: the text is of at most 1,000 bytes. -/
import Derived.Test.YticmienihfokjaaHxValue
import Derived.Test.YticmienihfokjaaHxRefs
import Derived.Test.YticmienihfokjaaArr
namespace Go.Proofs.Yticmienihfokjaa
set_option maxRecDepth 50000
open Go.RowKit Hx

/-- what the document's value answers -/
def rv (b : UInt8) : Int := if isd b then ((dn b : Nat) : Int) else -1
theorem rv_hd {b : UInt8} {k : Nat} (hk : k < 16) (h : hd k = b) : rv b = (k : Int) := by
  subst h
  unfold rv
  rw [if_pos (isd_hd hk), dn_of (isd_hd hk), dv_hd hk]
theorem rv_none {b : UInt8} (h : ∀ k, k < 16 → hd k ≠ b) : rv b = -1 := by
  unfold rv
  rw [if_neg]
  intro hb
  exact h (dv b) (dv_lt hb) (hd_dv hb)
theorem rvalue_any (b : UInt8) (w : World) :
    Calls Try.prog 23 #[.int .u8 (b.toNat : Int)] w fun e w' => e = .returned (.int .i64 (rv b)) ∧ w' = w := by
  go_enter Try.func23, Try.ntmps23
  generalize hS : (⟨#[48, 49, 50, 51, 52, 53, 54, 55, 56, 57, 97, 98, 99, 100, 101, 102]⟩ : ByteArray) = S
  have e : S = hexS := hS.symm
  have es : S.size = 16 := by rw [e]; rfl
  have ES := Lib.hid es
  have EA : Hid (∀ k (h : k < S.size), S[k]'h = hd k) := Lib.hid (by subst e; exact fun k h => hexS_at k h)
  clear hS e
  go_wp2
  go_loopw [4] (fun v4 wr => ∃ k : Nat, k ≤ 16 ∧ v4 = .int .i64 (k : Int) ∧ Hid (∀ j, j < k → hd j ≠ b) ∧ wr = w) (fun v4 _ => 16 - (intOf v4).toNat)
  case atStart => exact ⟨0, by omega, rfl, Lib.hid fun j h => by omega, rfl⟩
  case round =>
    obtain ⟨k, hk, rfl, HK, rfl⟩ := hrel
    by_cases hlt : k < 16
    · have hkS : k < S.size := by omega
      have hat : ((S[k]'hkS).toNat : Int) = ((hd k).toNat : Int) := by rw [EA.out k hkS]
      by_cases hb : hd k = b
      · have HR := Lib.hid (rv_hd hlt hb)
        have hq : ((hd k).toNat : Int) == (b.toNat : Int) := by rw [hb]; simp
        clear hb
        go_wp2
        go_ret
        exact ⟨by rw [HR.out]; rfl, rfl⟩
      · have hq : (((hd k).toNat : Int) == (b.toNat : Int)) = false := by
          rw [beq_eq_false_iff_ne]
          intro e
          exact hb (UInt8.toNat.inj (by omega))
        have HB := Lib.hid hb
        clear hb
        go_wp2
        go_roundw
        case rel =>
          refine ⟨k + 1, by omega, by go_num, Lib.hid fun j hj => ?_, trivial⟩
          by_cases h : j = k
          · subst h; exact HB.out
          · exact HK.out j (by omega)
        case measure => simp [intOf]; omega
    · obtain rfl : k = 16 := by omega
      have HR := Lib.hid (rv_none (b := b) HK.out)
      clear HK
      go_wp2
      go_ret
      exact ⟨by rw [HR.out]; rfl, rfl⟩

theorem drew_more {w wr : World} (h : ∃ q, wr = w.drewN q) (n : Nat) : ∃ q, wr.drewN n = w.drewN q := by
  obtain ⟨q, rfl⟩ := h
  exact ⟨_, World.drewN_drewN _ _ _⟩
theorem enc_snoc (l : List UInt8) (k : Nat) (h : k < l.length) : enc (l.take (k + 1)) = enc (l.take k) ++ two l[k] := by
  rw [List.take_succ_eq_append_getElem h, enc_append]; simp [enc]
set_option maxHeartbeats 1600000 in
theorem rencode_any (s : ByteArray) (hs : s.size ≤ 1000) (w : World) :
    Calls Try.prog 14 #[.string s] w fun e w' => e = .returned (.string (tx (enc (tl s)))) ∧ ∃ q, w' = w.drewN q := by
  go_enter Try.func14, Try.ntmps14
  go_wp2
  go_loopw [3, 4] (fun v3 v4 wr => ∃ (k : Nat) (T : ByteArray), k ≤ s.size ∧ v4 = .int .i64 (k : Int) ∧ v3 = .string T ∧ Hid (T = tx (enc ((tl s).take k))) ∧ Hid (∃ q, wr = w.drewN q)) (fun _ v4 _ => s.size - (intOf v4).toNat)
  case atStart => exact ⟨0, _, Nat.zero_le _, rfl, rfl, Lib.hid rfl, Lib.hid ⟨0, rfl⟩⟩
  case round =>
    obtain ⟨k, T, hk, rfl, rfl, HT, HQ⟩ := hrel
    by_cases hlt : k < s.size
    · have hsn := enc_snoc (tl s) k (by rw [tl_length]; exact hlt)
      have hat : (tl s)[k]'(by rw [tl_length]; exact hlt) = s[k] := rfl
      rw [hat] at hsn
      have HSN := Lib.hid hsn
      have hTs : T.size = 2 * k := by
        rw [HT.out, tx_size, enc_length, List.length_take, tl_length]; omega
      have hTb : T.size ≤ 2000 := by omega
      clear hTs hsn hat
      obtain ⟨x, hx⟩ : ∃ x, x = s[k] := ⟨_, rfl⟩
      rw [← hx] at HSN
      have hxI : ((s[k]'hlt).toNat : Int) = (x.toNat : Int) := by rw [hx]
      have hxl := x.toNat_lt
      obtain ⟨a, ha⟩ : ∃ a : Nat, a = x.toNat / 16 := ⟨_, rfl⟩
      obtain ⟨c, hc⟩ : ∃ c : Nat, c = x.toNat % 16 := ⟨_, rfl⟩
      have e1 : (x.toNat : Int).tdiv 16 = (a : Int) := by rw [Int.tdiv_eq_ediv_of_nonneg (by omega)]; omega
      have e2 : (x.toNat : Int).tmod 16 = (c : Int) := by rw [Int.tmod_eq_emod_of_nonneg (by omega)]; omega
      have e3 : (x.toNat : Int) / 16 = (a : Int) := by omega
      have e4 : (x.toNat : Int) % 16 = (c : Int) := by omega
      have HTW : Hid (two x = [hd a] ++ [hd c]) := Lib.hid (by rw [ha, hc]; rfl)
      have CA := Lib.hid (letter_any a (by omega))
      have CC := Lib.hid (letter_any c (by omega))
      have t1 := tx_size [hd a]
      have t2 := tx_size [hd c]
      have HX : Hid (tx [hd a] ++ tx [hd c] = tx (two x)) := Lib.hid (by rw [HTW.out, tx_append])
      generalize hA : tx [hd a] = TA at *
      generalize hC : tx [hd c] = TC at *
      simp only [List.length_singleton] at t1 t2
      have e0 : IntKind.i64.wrap (x.toNat : Int) = (x.toNat : Int) := by rw [IntKind.wrap_i64]; omega
      have e5 : IntKind.i64.wrap (a : Int) = (a : Int) := by rw [IntKind.wrap_i64]; omega
      generalize x.toNat = y at *
      clear ha hc hx HTW
      go_wp2
      go_quiet (first | (refine Calls.quiet_of_same (CA.out _)) | (refine Calls.quiet_of_same (CC.out _)))
      go_wp2
      go_roundw
      case rel => exact ⟨k + 1, _, by omega, by go_num, rfl, Lib.hid (by rw [HSN.out, tx_append, ← HX.out, ← HT.out]; first | rfl | exact ByteArray.append_assoc), Lib.hid (drew_more HQ.out _)⟩
      case measure => simp [intOf]; omega
    · obtain rfl : k = s.size := by omega
      have e : (tl s).take s.size = tl s := by rw [List.take_of_length_le (by rw [tl_length]; exact Nat.le_refl _)]
      rw [e] at HT
      go_wp2
      go_ret
      exact ⟨by rw [HT.out]; rfl, HQ.out⟩
end Go.Proofs.Yticmienihfokjaa

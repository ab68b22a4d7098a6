/- Decode of package hexes by its contract. Condition: the text is of at most 2^48 bytes. -/
import Derived.Test.YticmienihfokjaaHxEnc
import Derived.Laws.BitsLemmas
namespace Go.Proofs.Yticmienihfokjaa
set_option maxRecDepth 50000
open Go.RowKit Hx

theorem dec_at_even (l : List UInt8) (i : Nat) (h : i < l.length) (h2 : i % 2 = 0) : dec (l.take (i + 1)) = dec (l.take i) := by
  rw [List.take_succ_eq_append_getElem h]
  exact dec_odd _ _ (by rw [List.length_take]; omega)
theorem dec_at_odd (l : List UInt8) (i : Nat) (h : i < l.length) (h2 : i % 2 = 1) : dec (l.take (i + 1)) = dec (l.take i) ++ [one (l[i - 1]'(by omega)) l[i]] := by
  obtain ⟨j, rfl⟩ : ∃ j, i = j + 1 := ⟨i - 1, by omega⟩
  have h3 : j < l.length := by omega
  rw [dec_at_even l j h3 (by omega), List.take_succ_eq_append_getElem h, List.take_succ_eq_append_getElem h3]
  exact dec_even _ _ _ (by rw [List.length_take]; omega)
theorem shl4_or (a d : Nat) (ha : a < 16) (hd : d < 16) : bits .or .u8 ((a : Int) * 16) (d : Int) = ((16 * a + d : Nat) : Int) := by
  have e : (a : Int) * 16 = ((16 * a : Nat) : Int) := by omega
  rw [e, u8_or_nat _ _ (by omega) (by omega), show (16 : Nat) * a = 2 ^ 4 * a from rfl, Nat.two_pow_add_eq_or_of_lt (show d < 2 ^ 4 from hd)]

set_option maxHeartbeats 3200000 in
theorem decode_any (s : ByteArray) (hs : s.size ≤ 281474976710656) (w : World) :
    Calls Try.prog 7 #[.string s] w fun e w' => e = .returned (.tuple #[.string (tx (decL s)), .int .i64 (decE s)]) ∧ Below w.heap.size w w' := by
  have HN0 := Lib.hid (BldN.new w)
  obtain ⟨m, hm⟩ : ∃ m : Nat, m = s.size / 2 := ⟨_, rfl⟩
  have q1 : (s.size : Int).tdiv 2 = (m : Int) := by rw [Int.tdiv_eq_ediv_of_nonneg (by omega)]; omega
  have q2 : (s.size : Int) / 2 = (m : Int) := by omega
  have q3 : IntKind.i64.wrap (m : Int) = (m : Int) := by rw [IntKind.wrap_i64]; omega
  have HM := Lib.hid hm
  have hmb : m ≤ 281474976710656 := by omega
  clear hm
  go_enter Try.func7, Try.ntmps7
  go_wp2_with fail
  generalize hW0 : World.alloc _ _ = w0
  have H0 : Hid (BldN w0 w.heap.size w.heap.size) := Lib.hid (by subst hW0; exact HN0.out)
  have B0 : Hid (Below w.heap.size w w0) := Lib.hid (by subst hW0; exact (Below.refl _ _).alloc (Nat.le_refl _) _)
  clear hW0 HN0
  refine (grow_new H0.out (by omega) B0.out.size).mono ?_
  rintro e w1 ⟨rfl, g1, _, g3⟩
  have GB : Hid (BldR w1 w.heap.size w.heap.size [] m) := Lib.hid g1
  have GW := Lib.hid (B0.out.trans g3)
  clear g1 g3 H0 B0 q1 q2 q3
  go_wp2
  go_loopw [5, 15] (fun v5 v15 wr => ∃ (i f : Nat), i ≤ s.size ∧ v15 = .int .i64 (i : Int) ∧ v5 = .int .u8 (f : Int) ∧ f < 16 ∧ Hid (((tl s).take i).all isd = true) ∧ Hid (i % 2 = 1 → (tl s)[i - 1]?.map dn = some f) ∧ Hid (BldR wr w.heap.size w.heap.size (dec ((tl s).take i)) (m - i / 2) ∧ Below w.heap.size w wr)) (fun _ v15 _ => s.size - (intOf v15).toNat)
  case atStart => exact ⟨0, 0, Nat.zero_le _, rfl, rfl, by decide, Lib.hid rfl, Lib.hid fun h => by omega, Lib.hid ⟨GB.out, GW.out⟩⟩
  case round =>
    clear GB GW
    obtain ⟨i, f, hi, rfl, rfl, hf, HA, HF, HI⟩ := hrel
    by_cases hlt : i < s.size
    · have hkl : i < (tl s).length := by rw [tl_length]; exact hlt
      obtain ⟨x, hx⟩ : ∃ x, x = s[i]'hlt := ⟨_, rfl⟩
      have hat : ((s[i]'hlt).toNat : Int) = (x.toNat : Int) := by rw [hx]
      have hat2 : (tl s)[i]'hkl = x := hx.symm
      have CV := Lib.hid (value_any x)
      have hb := dn_lt x
      have hlI : decide ((i : Int) < (s.size : Int)) = true := by simp; omega
      by_cases hd : isd x = true
      · have HA2 : Hid (((tl s).take (i + 1)).all isd = true) := Lib.hid (by rw [all_next _ i hkl, HA.out, hat2, hd]; rfl)
        rw [hd] at CV
        have HXL : Hid ((tl s)[i]?.map dn = some (dn x)) := Lib.hid (by rw [List.getElem?_eq_getElem hkl, hat2]; rfl)
        by_cases hp : i % 2 = 0
        · have hq : (i : Int).tmod 2 = 0 := by rw [Int.tmod_eq_emod_of_nonneg (by omega)]; omega
          have HB : Hid (BldR wr w.heap.size w.heap.size (dec ((tl s).take (i + 1))) (m - (i + 1) / 2) ∧ Below w.heap.size w wr) := Lib.hid (by
            rw [dec_at_even _ i hkl hp]
            exact ⟨HI.out.1.less (by omega), HI.out.2⟩)
          have HD : Hid ((i + 1) % 2 = 1 → (tl s)[i + 1 - 1]?.map dn = some (dn x)) := Lib.hid fun _ => HXL.out
          generalize dn x = y at *
          clear hx hat2 hd hp HA HF HI HXL
          go_wp2_with fail
          refine (CV.out _).mono ?_
          rintro e w2 ⟨rfl, rfl⟩
          go_wp2
          go_roundw
          case rel => exact ⟨i + 1, y, by omega, by go_num, rfl, hb, HA2, HD, HB⟩
          case measure => simp [intOf]; omega
        · have hq : (i : Int).tmod 2 = 1 := by rw [Int.tmod_eq_emod_of_nonneg (by omega)]; omega
          have hp1 : i % 2 = 1 := by omega
          have hi1 : i - 1 < (tl s).length := by omega
          have h5 := HF.out hp1
          rw [List.getElem?_eq_getElem hi1] at h5
          have h6 : dn (tl s)[i - 1] = f := Option.some.inj h5
          have HO : Hid (dec ((tl s).take (i + 1)) = dec ((tl s).take i) ++ [one (tl s)[i - 1] x]) := Lib.hid (by rw [dec_at_odd _ i hkl hp1, hat2])
          have h7 := one_nat (tl s)[i - 1] x
          rw [h6] at h7
          have C1 := Lib.hid (fun w1 (h : BldR w1 w.heap.size w.heap.size (dec ((tl s).take i)) (m - i / 2)) (h2 : w.heap.size ≤ w1.heap.size) => wbyte_any _ _ _ _ (one (tl s)[i - 1] x) w1 h (.inl (by have := HM.out; omega)) h2)
          rw [h7, ← HO.out] at C1
          have hor := shl4_or f (dn x) hf hb
          have e1 : IntKind.u8.wrap ((f : Int) * 16) = (f : Int) * 16 := by rw [IntKind.wrap_u8]; omega
          have HD : Hid ((i + 1) % 2 = 1 → (tl s)[i + 1 - 1]?.map dn = some 0) := Lib.hid fun h => by omega
          generalize dn x = y at *
          generalize 16 * f + y = z at *
          have C2 := Lib.hid (C1.out wr HI.out.1 HI.out.2.size)
          have HW := Lib.hid HI.out.2
          clear hx hat2 hd hp HA HF HI HXL h5 h6 h7 C1 HO
          go_wp2_with fail
          refine (CV.out _).mono ?_
          rintro e w2 ⟨rfl, rfl⟩
          go_wp2_with fail
          refine C2.out.mono ?_
          rintro e w3 ⟨rfl, b3, k3⟩
          have HB : Hid (BldR w3 w.heap.size w.heap.size (dec ((tl s).take (i + 1))) (m - (i + 1) / 2) ∧ Below w.heap.size w w3) := Lib.hid ⟨b3.less (by have := HM.out; omega), HW.out.trans k3⟩
          clear b3 k3 C2 HW hor
          go_wp2
          go_roundw
          case rel => exact ⟨i + 1, f, by omega, by go_num, rfl, hf, HA2, Lib.hid fun h => by omega, HB⟩
          case measure => simp [intOf]; omega
      · have hd2 : isd x = false := by simpa using hd
        rw [hd2] at CV
        have hbad := decE_bad (all_no (tl s) i hkl (by rw [hat2]; exact hd2))
        have HB : Hid (decE s = 8 ∧ tx (decL s) = ⟨#[]⟩) := Lib.hid ⟨hbad, by rw [decL_bad (by rw [hbad]; decide)]; rfl⟩
        have HW := Lib.hid HI.out.2
        generalize dn x = y at *
        clear hx hat2 hd hd2 hbad HA HF HI
        go_wp2_with fail
        refine (CV.out _).mono ?_
        rintro e w2 ⟨rfl, rfl⟩
        go_wp2
        go_ret2
        exact ⟨by rw [HB.out.1, HB.out.2]; rfl, HW.out⟩
    · obtain rfl : i = s.size := by omega
      have hall := HA.out
      have ht : (tl s).take s.size = tl s := List.take_of_length_le (by rw [tl_length]; exact Nat.le_refl _)
      rw [ht] at hall
      have hB := HI.out.1
      rw [ht] at hB
      have HW := Lib.hid HI.out.2
      by_cases hev : s.size % 2 = 0
      · have hE := decE_good hall hev
        have HE : Hid (decE s = 0 ∧ decL s = dec (tl s)) := Lib.hid ⟨hE, decL_good hE⟩
        have htm : (s.size : Int).tmod 2 = 0 := by rw [Int.tmod_eq_emod_of_nonneg (by omega)]; omega
        have C := Lib.hid (bstring_any hB HW.out.size)
        clear hall hev hE hlt hB HA HF HI ht
        go_wp2_with fail
        refine C.out.mono ?_
        rintro e w2 ⟨rfl, k2⟩
        have K2 := Lib.hid (HW.out.trans k2)
        clear k2 C HW
        go_wp2
        go_ret2
        exact ⟨by rw [HE.out.1, HE.out.2]; rfl, K2.out⟩
      · have hE := decE_odd hall hev
        have HE : Hid (decE s = 9 ∧ tx (decL s) = ⟨#[]⟩) := Lib.hid ⟨hE, by rw [decL_bad (by rw [hE]; decide)]; rfl⟩
        have htm : (s.size : Int).tmod 2 = 1 := by rw [Int.tmod_eq_emod_of_nonneg (by omega)]; omega
        clear hall hev hE hlt hB HA HF HI ht
        go_wp2
        go_ret2
        exact ⟨by rw [HE.out.1, HE.out.2]; rfl, HW.out⟩
end Go.Proofs.Yticmienihfokjaa

/- Decode of package sextet by its contract. Conditions: those typed: the text is of at most 2^47 - 4096 bytes. -/
import Derived.Test.YtjknpbaegnkdnaaSxEnc
import Derived.Deep.QuietTactic
import Derived.BigQuiet
namespace Go.Proofs.Ytjknpbaegnkdnaa
set_option maxRecDepth 50000
open Go.RowKit Sx

namespace Sx
/-- the first bytes of places -/
def decTo (vs : List Nat) (k : Nat) : List UInt8 := (List.range k).map fun j => UInt8.ofNat (vl 6 vs / 2 ^ (6 * vs.length - 8 * j - 8) % 256)
theorem decTo_snoc (vs : List Nat) (k : Nat) : decTo vs (k + 1) = decTo vs k ++ [UInt8.ofNat (vl 6 vs / 2 ^ (6 * vs.length - 8 * k - 8) % 256)] := by unfold decTo; rw [List.range_succ, List.map_append]; rfl
theorem decTo_length (vs : List Nat) (k : Nat) : (decTo vs k).length = k := by simp [decTo]
theorem decTo_next (vs : List Nat) (v k : Nat) (hv : v < 64) (h : 8 * k ≤ 6 * vs.length) : decTo (vs ++ [v]) k = decTo vs k := by
  unfold decTo
  apply List.map_congr_left
  intro j hj
  have hj : j < k := by simpa using hj
  rw [vl_snoc, List.length_append, List.length_singleton, show 6 * (vs.length + 1) - 8 * j - 8 = 6 + (6 * vs.length - 8 * j - 8) by omega, Nat.pow_add, ← Nat.div_div_eq_div_mul, Nat.mul_comm _ (2 ^ 6), Nat.mul_add_div (by decide),
    show v / 2 ^ 6 = 0 from Nat.div_eq_of_lt (by simpa using hv), Nat.add_zero]
theorem dec_to (vs : List Nat) : decTo vs (6 * vs.length / 8) = dec vs := by
  unfold decTo dec dgs
  rw [List.map_map]
  apply List.map_congr_left
  intro j hj
  have hj : j < 6 * vs.length / 8 := by simpa using hj
  simp only [Function.comp, dg]
  rw [Nat.div_div_eq_div_mul, ← Nat.pow_add, show 6 * vs.length % 8 + 8 * (6 * vs.length / 8 - 1 - j) = 6 * vs.length - 8 * j - 8 by omega]
theorem plc_length (L s : List UInt8) : (plc L s).length = s.length := by simp [plc]
theorem all_snoc {L p : List UInt8} {x : UInt8} (h : all L p = true) (hx : x ∈ L) : all L (p ++ [x]) = true := by
  unfold all at *
  rw [List.all_append, h]; simp [hx]
theorem all_no {L s : List UInt8} {x : UInt8} (h : x ∈ s) (hx : x ∉ L) : all L s = false := by
  unfold all
  exact List.all_eq_false.2 ⟨x, h, by simp [hx]⟩
theorem decE_bad {L s : List UInt8} (h : all L s = false) : decE L s = 8 := by unfold decE; rw [h]; rfl
theorem decE_form {L s : List UInt8} (h : all L s = true) (h2 : s.length % 4 = 1 ∨ rest (plc L s) ≠ 0) : decE L s = 5 := by unfold decE; rw [if_pos h, if_pos h2]
theorem decE_good {L s : List UInt8} (h : all L s = true) (h2 : s.length % 4 ≠ 1) (h3 : rest (plc L s) = 0) : decE L s = 0 := by
  unfold decE; rw [if_pos h, if_neg]
  rintro (h4 | h4)
  · exact h2 h4
  · exact h4 h3
theorem decL_bad {L s : List UInt8} (h : decE L s ≠ 0) : decL L s = [] := if_neg h
theorem decL_good {L s : List UInt8} (h : decE L s = 0) : decL L s = dec (plc L s) := if_pos h
end Sx
/-- the lowest bits, brought to the left end of a word -/
theorem lo_left (v g h : Nat) (hg : g + h = 32) : lo v * 2 ^ g % 4294967296 = v % 2 ^ h * 2 ^ g := by
  have e : (4294967296 : Nat) = 2 ^ h * 2 ^ g := by rw [← Nat.pow_add, Nat.add_comm h g, hg]
  unfold lo
  rw [e, Nat.mul_mod_mul_right, Nat.mod_mul_right_mod]

theorem decode_nil (s : ByteArray) (w : World) : Calls Try.prog 16 #[.pointer none, .string s] w fun e w' => e = .returned (.tuple #[.string ⟨#[]⟩, .int .i64 11]) ∧ Below w.heap.size w w' := by
  go_enter Try.func16, Try.ntmps16
  go_wp2
  go_ret2
  exact ⟨rfl, Below.refl _ _⟩
/-- the bytes so far: of places vs so many bytes are written; r: what room there was -/
structure DecAt (w wr : World) (vs : List Nat) (r k h : Nat) : Prop where
  bits : 8 * k + h = 6 * vs.length
  bld : BldR wr w.heap.size w.heap.size (decTo vs k) (r - k)
  below : Below w.heap.size w wr

set_option maxHeartbeats 3200000 in
theorem decode_any (b : Nat) (L : List UInt8) (s : ByteArray) (w : World) (hC : Cdr w b L) (hf : Fine L) (hs : s.size ≤ 140737488351232) :
    Calls Try.prog 16 #[.pointer (some ⟨b, 0, none⟩), .string s] w fun e w' => e = .returned (.tuple #[.string (tx (decL L (tl s))), .int .i64 (decE L (tl s))]) ∧ Below w.heap.size w w' := by
  have HC := Lib.hid hC
  have HF := Lib.hid hf
  have HN0 := Lib.hid (BldN.new w)
  obtain ⟨q, hq⟩ : ∃ q, q = s.size / 4 := ⟨_, rfl⟩
  have q1 : (s.size : Int).tdiv 4 = (q : Int) := by rw [Int.tdiv_eq_ediv_of_nonneg (by omega)]; omega
  have q2 : IntKind.i64.wrap (q : Int) = (q : Int) := by rw [IntKind.wrap_i64]; omega
  have q3 : IntKind.i64.wrap ((q : Int) * 3) = ((3 * q : Nat) : Int) := by rw [IntKind.wrap_i64]; omega
  have q4 : (s.size : Int) / 4 = (q : Int) := by omega
  have hql : 3 * q ≤ 281474976710656 := by omega
  clear hC hf hq
  go_enter Try.func16, Try.ntmps16
  go_wp2_with fail
  generalize hW0 : World.alloc _ _ = w0
  have H0 : Hid (BldN w0 w.heap.size w.heap.size) := Lib.hid (by subst hW0; exact HN0.out)
  have B0 : Hid (Below w.heap.size w w0) := Lib.hid (by subst hW0; exact (Below.refl _ _).alloc (Nat.le_refl _) _)
  clear hW0 HN0
  refine (grow_new H0.out hql B0.out.size).mono ?_
  rintro e w3 ⟨rfl, g1, _, g3⟩
  have E0 : Hid (DecAt w w3 [] (3 * q) 0 0) := Lib.hid ⟨rfl, g1, B0.out.trans g3⟩
  clear g1 g3 H0 B0 q1 q2 q3 q4
  go_wp2
  go_loopw [7, 8, 20] (fun v7 v8 v20 wr => ∃ (i k h B : Nat), i ≤ s.size ∧ v20 = .int .i64 (i : Int) ∧ v8 = .int .i64 (h : Int) ∧ h < 8 ∧ v7 = .int .u32 (B : Int) ∧ Hid (all L ((tl s).take i) = true) ∧ Hid (B = lo (vl 6 (plc L ((tl s).take i)))) ∧ Hid (DecAt w wr (plc L ((tl s).take i)) (3 * q) k h)) (fun _ _ v20 _ => s.size - (intOf v20).toNat)
  case atStart => exact ⟨0, 0, 0, 0, Nat.zero_le _, rfl, rfl, by decide, rfl, Lib.hid rfl, Lib.hid rfl, E0⟩
  case round =>
    clear E0
    obtain ⟨i, k, h, B, hi, rfl, rfl, hh, rfl, HA, HB, HE⟩ := hrel
    by_cases hlt : i < s.size
    · have hkl : i < (tl s).length := by rw [tl_length]; exact hlt
      obtain ⟨x, hx⟩ : ∃ x, x = s[i]'hlt := ⟨_, rfl⟩
      have hat : ((s[i]'hlt).toNat : Int) = (x.toNat : Int) := by rw [hx]
      have hat2 : (tl s)[i]'hkl = x := hx.symm
      have hxm : x ∈ tl s := by rw [← hat2]; exact List.getElem_mem hkl
      have hlI : decide ((i : Int) < (s.size : Int)) = true := by simp; omega
      have hxb := x.toNat_lt
      have hc := (HC.out.below HE.out.below HC.out.lt).val x
      have i0 : (0 : Int) ≤ (i : Int) := by omega
      have i1 : (i : Int) < (s.size : Int) := by omega
      by_cases hm : x ∈ L
      · have hp1 := pos_lt hm
        rw [HF.out.1] at hp1
        obtain ⟨v, hv⟩ : ∃ v, v = pos L x := ⟨_, rfl⟩
        rw [← hv] at hp1
        have hvv : vv L x = v + 1 := by rw [hv]; exact if_pos hm
        rw [hvv] at hc
        have htk : (tl s).take (i + 1) = (tl s).take i ++ [x] := by rw [List.take_succ_eq_append_getElem hkl, hat2]
        have hpl : plc L ((tl s).take (i + 1)) = plc L ((tl s).take i) ++ [v] := by rw [htk, hv]; unfold plc; rw [List.map_append]; rfl
        have HA2 : Hid (all L ((tl s).take (i + 1)) = true) := Lib.hid (by rw [htk]; exact all_snoc HA.out hm)
        obtain ⟨vs, hvs⟩ : ∃ vs, vs = plc L ((tl s).take i) := ⟨_, rfl⟩
        obtain ⟨vs2, hvs2⟩ : ∃ vs2, vs2 = plc L ((tl s).take (i + 1)) := ⟨_, rfl⟩
        rw [← hvs] at HB HE hpl
        rw [← hvs2] at hpl
        have hlen : vs2.length ≤ 140737488351232 := by rw [hvs2, plc_length, List.length_take, tl_length]; omega
        have HE2 : Hid (DecAt w wr vs2 (3 * q) k (h + 6)) := Lib.hid (by
          have e := HE.out
          refine ⟨?_, ?_, e.below⟩
          · rw [hpl, List.length_append, List.length_singleton]; have := e.bits; omega
          · rw [hpl, decTo_next vs v k hp1 (by have := e.bits; omega)]; exact e.bld)
        have hV := vl_snoc 6 vs v
        rw [← hpl, show (2 : Nat) ^ 6 = 64 from rfl] at hV
        have HO := lo_or6 (vl 6 vs) v hp1
        rw [← hV] at HO
        have hsh := lo_shl (vl 6 vs) 6
        rw [← HB.out, show (2 : Nat) ^ 6 = 64 from rfl] at hsh
        obtain ⟨B2, hB2⟩ : ∃ B2, B2 = lo (vl 6 vs2) := ⟨_, rfl⟩
        rw [← hB2] at HO
        have hBl : B < 4294967296 := by rw [HB.out]; exact lo_lt _
        have hB2l : B2 < 4294967296 := by rw [hB2]; exact lo_lt _
        obtain ⟨C, hC⟩ : ∃ C, C = lo (vl 6 vs * 64) := ⟨_, rfl⟩
        rw [← hC] at HO hsh
        have e1 : IntKind.u32.wrap ((B : Int) * 64) = (C : Int) := by rw [IntKind.wrap_u32]; omega
        have HB2 := Lib.hid hB2
        have HVS2 := Lib.hid hvs2
        have d3 : (((v + 1 : Nat) : Int) == 0) = false := by simp; omega
        have e2 : IntKind.u8.wrap (((v + 1 : Nat) : Int) - 1) = (v : Int) := by rw [IntKind.wrap_u8]; omega
        have e3 : IntKind.u32.wrap (v : Int) = (v : Int) := by rw [IntKind.wrap_u32]; omega
        obtain ⟨h2, hh2⟩ : ∃ h2, h2 = h + 6 := ⟨_, rfl⟩
        rw [← hh2] at HE2
        have e4 : IntKind.i64.wrap ((h : Int) + 6) = (h2 : Int) := by rw [IntKind.wrap_i64]; omega
        have hh3 : h2 ≤ 13 := by omega
        clear hh2 hvs hvs2 hpl hV hB2 HB HE hC hsh htk hvv hm hxm hx hat2 HA hv
        obtain ⟨u, hu⟩ : ∃ u, u = v + 1 := ⟨_, rfl⟩
        rw [← hu] at hc d3 e2
        have hul : u ≤ 64 := by omega
        clear hu
        generalize x.toNat = y at *
        go_wp2
        go_quiet (fail)
        go_wp2
        go_loopw [8] (fun v8 wr => ∃ (k h : Nat), v8 = .int .i64 (h : Int) ∧ h ≤ 13 ∧ Hid (DecAt w wr vs2 (3 * q) k h)) (fun v8 _ => (intOf v8).toNat)
        case atStart => exact ⟨k, h2, rfl, hh3, Lib.hid ⟨HE2.out.bits, HE2.out.bld.below (below_drewN (Below.refl _ _) _), below_drewN HE2.out.below _⟩⟩
        case round =>
          clear HE2 hc
          obtain ⟨k3, h3, rfl, hh3, HE⟩ := hrel
          by_cases h8 : 8 ≤ h3
          · have d1 : decide ((8 : Int) ≤ (h3 : Int)) = true := by simp; omega
            obtain ⟨g, hg⟩ : ∃ g, h3 = g + 8 := ⟨h3 - 8, by omega⟩
            have e4 : IntKind.i64.wrap ((h3 : Int) - 8) = (g : Int) := by rw [IntKind.wrap_i64]; omega
            have hgl : g ≤ 5 := by omega
            obtain ⟨P, hP⟩ : ∃ P, P = B2 / 2 ^ g := ⟨_, rfl⟩
            obtain ⟨R, hR⟩ : ∃ R, R = P % 256 := ⟨_, rfl⟩
            have e5 : (B2 : Int) / 2 ^ g = (P : Int) := by rw [hP]; norm_cast
            have hmin : min g 32 = g := by omega
            have hPl : P < 4294967296 := by rw [hP]; exact Nat.lt_of_le_of_lt (Nat.div_le_self _ _) hB2l
            have e6 : IntKind.u32.wrap (P : Int) = (P : Int) := by rw [IntKind.wrap_u32]; omega
            have e7 : IntKind.u8.wrap (P : Int) = (R : Int) := by rw [IntKind.wrap_u8]; omega
            have hRl : R < 256 := by omega
            have hRn : (UInt8.ofNat R).toNat = R := UInt8.toNat_ofNat_of_lt' hRl
            have hb := HE.out.bits
            have hk3 : k3 ≤ 140737488355327 := by omega
            have CW := Lib.hid (wbyte_any w.heap.size w.heap.size (decTo vs2 k3) (3 * q - k3) (UInt8.ofNat R) wr HE.out.bld (.inr (by rw [decTo_length]; omega)) HE.out.below.size)
            rw [hRn] at CW
            have HW := Lib.hid HE.out.below
            have HD : Hid (decTo vs2 k3 ++ [UInt8.ofNat R] = decTo vs2 (k3 + 1) ∧ 8 * (k3 + 1) + g = 6 * vs2.length) := Lib.hid (by
              refine ⟨?_, by omega⟩
              rw [decTo_snoc, hR, hP, HB2.out, show 6 * vs2.length - 8 * k3 - 8 = g by omega]
              have hq := lo_div (vl 6 vs2) g 8 (by omega)
              rw [show (256 : Nat) = 2 ^ 8 from rfl, hq])
            rw [HD.out.1] at CW
            have HG := Lib.hid hg
            clear hP hR hRn hb hg HE
            go_wp2_with fail
            refine CW.out.mono ?_
            rintro e w6 ⟨rfl, q1, q2⟩
            have HE3 : Hid (DecAt w w6 vs2 (3 * q) (k3 + 1) g) := Lib.hid ⟨HD.out.2, by rw [← Nat.sub_sub]; exact q1, HW.out.trans q2⟩
            clear q1 q2 CW HW HD
            go_wp2
            go_roundw
            case rel => exact ⟨k3 + 1, g, by go_num, by omega, HE3⟩
            case measure => simp [intOf]; have := HG.out; omega
          · have d1 : decide ((8 : Int) ≤ (h3 : Int)) = false := by simp; omega
            go_wp2
            go_roundw
            case rel =>
              refine ⟨i + 1, k3, h3, B2, by omega, by go_num, rfl, by omega, rfl, HA2, ?_, ?_⟩
              · rw [← HVS2.out]; exact HB2
              · rw [← HVS2.out]; exact HE
            case measure => simp [intOf]; omega
      · have hbad := decE_bad (all_no hxm hm)
        have HBD : Hid (decE L (tl s) = 8 ∧ tx (decL L (tl s)) = ⟨#[]⟩) := Lib.hid ⟨hbad, by rw [decL_bad (by rw [hbad]; decide)]; rfl⟩
        have HW := Lib.hid HE.out.below
        have hvv : vv L x = 0 := if_neg hm
        rw [hvv, show ((0 : Nat) : Int) = 0 from rfl] at hc
        clear hvv hm hxm hx hat2 HA HB HE hbad
        generalize x.toNat = y at *
        go_wp2
        go_quiet (fail)
        go_wp2
        go_ret2
        exact ⟨by rw [HBD.out.1, HBD.out.2]; rfl, below_drewN HW.out _⟩
    · obtain rfl : i = s.size := by omega
      have ht : (tl s).take s.size = tl s := List.take_of_length_le (by rw [tl_length]; exact Nat.le_refl _)
      rw [ht] at HA HB HE
      have hbit := HE.out.bits
      rw [plc_length, tl_length] at hbit
      have hk : k = 6 * s.size / 8 := by omega
      have hhm : h = 6 * s.size % 8 := by omega
      have hrest : rest (plc L (tl s)) = vl 6 (plc L (tl s)) % 2 ^ h := by unfold rest; rw [plc_length, tl_length, hhm]
      have hB := HE.out.bld
      rw [hk, show 6 * s.size = 6 * (plc L (tl s)).length by rw [plc_length, tl_length], dec_to] at hB
      have HW := Lib.hid HE.out.below
      have hBl : B < 4294967296 := by rw [HB.out]; exact lo_lt _
      obtain ⟨m, hm⟩ : ∃ m, m = s.size % 4 := ⟨_, rfl⟩
      have htm : (s.size : Int).tmod 4 = (m : Int) := by rw [Int.tmod_eq_emod_of_nonneg (by omega)]; omega
      have htm2 : (s.size : Int) % 4 = (m : Int) := by omega
      have hmw : IntKind.i64.wrap (m : Int) = (m : Int) := by rw [IntKind.wrap_i64]; omega
      by_cases h4 : m = 1
      · have hE := decE_form HA.out (.inl (by rw [tl_length]; omega))
        have HR : Hid (decE L (tl s) = 5 ∧ tx (decL L (tl s)) = ⟨#[]⟩) := Lib.hid ⟨hE, by rw [decL_bad (by rw [hE]; decide)]; rfl⟩
        subst h4
        have d1 : (((1 : Nat) : Int) == 1) = true := rfl
        clear hm hE hB hrest hk hhm hbit HA HB HE ht hlt
        go_wp2
        go_ret2
        exact ⟨by rw [HR.out.1, HR.out.2]; rfl, HW.out⟩
      · have d1 : ((m : Int) == 1) = false := by simp; omega
        obtain ⟨g, hg⟩ : ∃ g, g + h = 32 := ⟨32 - h, by omega⟩
        have e4 : IntKind.i64.wrap (32 - (h : Int)) = (g : Int) := by rw [IntKind.wrap_i64]; omega
        have hmin : min g 32 = g := by omega
        have hleft := lo_left (vl 6 (plc L (tl s))) g h hg
        rw [← hrest, ← HB.out] at hleft
        obtain ⟨Q, hQ⟩ : ∃ Q, Q = B * 2 ^ g % 4294967296 := ⟨_, rfl⟩
        have e6 : IntKind.u32.wrap ((B : Int) * 2 ^ g) = (Q : Int) := by
          have hc : (B : Int) * 2 ^ g = ((B * 2 ^ g : Nat) : Int) := by rw [Int.natCast_mul, Int.natCast_pow]; rfl
          rw [IntKind.wrap_u32, hc, hQ]
          exact (Int.natCast_emod _ _).symm
        rw [← hQ] at hleft
        by_cases h0 : rest (plc L (tl s)) = 0
        · have hQ0 : Q = 0 := by rw [hleft, h0, Nat.zero_mul]
          have hE := decE_good HA.out (by rw [tl_length]; omega) h0
          have HR : Hid (decE L (tl s) = 0 ∧ decL L (tl s) = dec (plc L (tl s))) := Lib.hid ⟨hE, decL_good hE⟩
          have C := Lib.hid (bstring_any hB HW.out.size)
          have d2 : ((Q : Int) != 0) = false := by rw [hQ0]; rfl
          clear hm hE hB hrest hk hhm hbit HA HB HE ht hlt hleft hQ hQ0 h0 hg
          go_wp2_with fail
          refine C.out.mono ?_
          rintro e w2 ⟨rfl, k2⟩
          have K2 := Lib.hid (HW.out.trans k2)
          clear k2 C HW
          go_wp2
          go_ret2
          exact ⟨by rw [HR.out.1, HR.out.2]; rfl, K2.out⟩
        · have hQ0 : Q ≠ 0 := by
            rw [hleft]
            exact Nat.mul_ne_zero h0 (Nat.pos_iff_ne_zero.1 (Nat.two_pow_pos g))
          have hE := decE_form HA.out (.inr h0)
          have HR : Hid (decE L (tl s) = 5 ∧ tx (decL L (tl s)) = ⟨#[]⟩) := Lib.hid ⟨hE, by rw [decL_bad (by rw [hE]; decide)]; rfl⟩
          have d2 : ((Q : Int) != 0) = true := by simp; omega
          clear hm hE hB hrest hk hhm hbit HA HB HE ht hlt hleft hQ hQ0 h0 hg
          go_wp2
          go_ret2
          exact ⟨by rw [HR.out.1, HR.out.2]; rfl, HW.out⟩
end Go.Proofs.Ytjknpbaegnkdnaa

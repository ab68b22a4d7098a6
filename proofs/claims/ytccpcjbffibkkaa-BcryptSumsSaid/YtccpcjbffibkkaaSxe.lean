/- Encode of package sextet by its contract. Conditions: those typed: the parts are of at most 2^47 - 4096 bytes. Decode of package sextet by its contract. Conditions: those typed: the text is of at most 2^47 - 4096 bytes. The letters of chapter 15's example, and that example; Encode of one text. Conditions: those typed. bcrypt's letters; New of package crypt64 by its contract. Conditions: those typed. -/
import Derived.Test.YtccpcjbffibkkaaSxa
import Derived.Test.YtccpcjbffibkkaaHx
import Derived.Test.YtccpcjbffibkkaaGen
import Derived.StillTailTactics
import Derived.Deep.QuietTactic
import Derived.BigQuiet
import Derived.OwnWalk
namespace Go.Proofs.Ytccpcjbffibkkaa
set_option maxRecDepth 50000
open Go.RowKit Sx

theorem encode_nil (A : Option Addr) (c : Nat) (n : Nat) (w : World) : Calls Try.prog 14 #[.pointer none, .slice A n c] w fun e w' => e = .returned (.string ⟨#[]⟩) ∧ Below w.heap.size w w' := by
  go_enter Try.func14, Try.ntmps14
  go_wp2
  go_ret
  exact ⟨rfl, Below.refl _ _⟩
/-- the letters so far: of bytes l so many letters are written, of N bytes in all -/
structure EncAt (w wr : World) (L l : List UInt8) (N m h : Nat) : Prop where
  bits : 6 * m + h = 8 * l.length
  few : l.length ≤ N
  bld : BldR wr w.heap.size w.heap.size (encTo L l m) (ne N - m)
  below : Below w.heap.size w wr

set_option maxHeartbeats 3200000 in
theorem encode_any (b : Nat) (L : List UInt8) (A : Option Addr) (c : Nat) (ss : List ByteArray) (hn : ss.length ≤ 1000000) (w : World) (hC : Cdr w b L) (hr : Reads w w.heap.size A (stv ss)) (hs : (jn ss).length ≤ 140737488351232) :
    Calls Try.prog 14 #[.pointer (some ⟨b, 0, none⟩), .slice A ss.length c] w fun e w' => e = .returned (.string (tx (enc L (jn ss)))) ∧ Below w.heap.size w w' := by
  have HR := Lib.hid hr
  have HC := Lib.hid hC
  have HN0 := Lib.hid (BldN.new w)
  obtain ⟨N, hN⟩ : ∃ N, N = (jn ss).length := ⟨_, rfl⟩
  have HN := Lib.hid hN
  have hNb : N ≤ 140737488351232 := by omega
  clear hr hC hN hs
  go_enter Try.func14, Try.ntmps14
  go_wp2_with fail
  generalize hW0 : World.alloc _ _ = w0
  have H0 : Hid (BldN w0 w.heap.size w.heap.size) := Lib.hid (by subst hW0; exact HN0.out)
  have B0 : Hid (Below w.heap.size w w0) := Lib.hid (by subst hW0; exact (Below.refl _ _).alloc (Nat.le_refl _) _)
  clear hW0 HN0
  refine (total_any A c ss w0 ((HR.out.below B0.out).more B0.out.size) hn (by rw [← HN.out]; omega)).mono ?_
  rintro e w1 ⟨rfl, rfl⟩
  rw [← HN.out]
  go_wp2_with fail
  refine (letters_any b (N : Int) w1).mono ?_
  rintro e w2 ⟨rfl, rfl⟩
  rw [lettN_nat N (by omega)]
  have hne : ne N ≤ 281474976710656 := by unfold ne; omega
  go_wp2_with fail
  refine (grow_new H0.out hne B0.out.size).mono ?_
  rintro e w3 ⟨rfl, g1, _, g3⟩
  have E0 : Hid (EncAt w w3 L [] N 0 0) := Lib.hid ⟨rfl, Nat.zero_le _, g1, B0.out.trans g3⟩
  clear g1 g3 H0 B0 hne
  go_wp2
  go_loopw [6, 7, 20] (fun v6 v7 v20 wr => ∃ (k m h B : Nat), k ≤ ss.length ∧ v20 = .int .i64 (k : Int) ∧ v7 = .int .i64 (h : Int) ∧ h < 6 ∧ v6 = .int .u32 (B : Int) ∧ Hid (B = lo (bv (jn (ss.take k)))) ∧ Hid (EncAt w wr L (jn (ss.take k)) N m h)) (fun _ _ v20 _ => ss.length - (intOf v20).toNat)
  case atStart => exact ⟨0, 0, 0, 0, Nat.zero_le _, rfl, rfl, by decide, rfl, Lib.hid rfl, E0⟩
  case round =>
    clear E0
    obtain ⟨k, m, h, B, hk, rfl, rfl, hh, rfl, HB, HE⟩ := hrel
    by_cases hlt : k < ss.length
    · obtain ⟨bb, off, rfl, hbB, hcell0⟩ := HR.out k (by rw [stv_length]; exact hlt)
      rw [stv_at] at hcell0
      have hcell := (HE.out.below.cell (p := ⟨bb, off + k, none⟩) hbB).trans hcell0
      obtain ⟨s, hs⟩ : ∃ s, s = ss[k]'hlt := ⟨_, rfl⟩
      have hsn := jn_snoc ss k hlt
      have hle := jn_take_le ss (k + 1)
      rw [← HN.out] at hle
      rw [← hs] at hcell hsn
      have HS := Lib.hid hsn
      have HLE := Lib.hid hle
      have hss : s.size ≤ 140737488351232 := by rw [hsn, List.length_append, tl_length] at hle; omega
      have i0 : (0 : Int) ≤ (k : Int) := by omega
      have i1 : (k : Int) < (ss.length : Int) := by omega
      clear hs hsn hle hcell0 hbB
      go_wp2
      go_loopw [6, 7, 26] (fun v6 v7 v26 wr => ∃ (j m h B : Nat), j ≤ s.size ∧ v26 = .int .i64 (j : Int) ∧ v7 = .int .i64 (h : Int) ∧ h < 6 ∧ v6 = .int .u32 (B : Int) ∧ Hid (B = lo (bv (jn (ss.take k) ++ (tl s).take j))) ∧ Hid (EncAt w wr L (jn (ss.take k) ++ (tl s).take j) N m h)) (fun _ _ v26 _ => s.size - (intOf v26).toNat)
      case atStart => exact ⟨0, m, h, B, Nat.zero_le _, rfl, rfl, hh, rfl, by simpa using HB, by simpa using HE⟩
      case round =>
        clear HB HE
        obtain ⟨j, m1, h1, B1, hj, rfl, rfl, hh1, rfl, HB, HE⟩ := hrel
        by_cases hlj : j < s.size
        · obtain ⟨x, hx⟩ : ∃ x, x = s[j]'hlj := ⟨_, rfl⟩
          have hat : ((s[j]'hlj).toNat : Int) = (x.toNat : Int) := by rw [hx]
          have hjl : j < (tl s).length := by rw [tl_length]; exact hlj
          have hat2 : (tl s)[j]'hjl = x := hx.symm
          have hsn : jn (ss.take k) ++ (tl s).take (j + 1) = (jn (ss.take k) ++ (tl s).take j) ++ [x] := by
            rw [List.take_succ_eq_append_getElem hjl, hat2, List.append_assoc]
          have hfew : (jn (ss.take k) ++ (tl s).take (j + 1)).length ≤ N := by
            have := HLE.out
            rw [HS.out, List.length_append, tl_length] at this
            rw [List.length_append, List.length_take, tl_length]; omega
          obtain ⟨l, hl⟩ : ∃ l, l = jn (ss.take k) ++ (tl s).take j := ⟨_, rfl⟩
          obtain ⟨l2, hl2⟩ : ∃ l2, l2 = jn (ss.take k) ++ (tl s).take (j + 1) := ⟨_, rfl⟩
          rw [← hl, ← hl2] at hsn
          rw [← hl2] at hfew
          rw [← hl] at HB HE
          have HE2 : Hid (EncAt w wr L l2 N m1 (h1 + 8)) := Lib.hid (by
            have e := HE.out
            refine ⟨?_, hfew, ?_, e.below⟩
            · rw [hsn, List.length_append, List.length_singleton]; have := e.bits; omega
            · rw [hsn, encTo_next L l x m1 (by have := e.bits; omega)]; exact e.bld)
          have hv := bv_snoc l x
          rw [← hsn] at hv
          have hxb := x.toNat_lt
          have HO := lo_or8 (bv l) x.toNat (by omega)
          rw [← hv] at HO
          have hsh := lo_shl (bv l) 8
          rw [← HB.out] at hsh
          obtain ⟨B2, hB2⟩ : ∃ B2, B2 = lo (bv l2) := ⟨_, rfl⟩
          rw [← hB2] at HO
          have hBl : B1 < 4294967296 := by rw [HB.out]; exact lo_lt _
          have hB2l : B2 < 4294967296 := by rw [hB2]; exact lo_lt _
          rw [show (2 : Nat) ^ 8 = 256 from rfl] at hsh
          obtain ⟨C, hC⟩ : ∃ C, C = lo (bv l * 256) := ⟨_, rfl⟩
          rw [← hC] at HO hsh
          have e1 : IntKind.u32.wrap ((B1 : Int) * 256) = (C : Int) := by rw [IntKind.wrap_u32]; omega
          have HB2 := Lib.hid hB2
          have HL2 := Lib.hid hl2
          clear hl hl2 hsn hv hB2 hx hat2 HB HE hC hsh
          generalize x.toNat = y at *
          have e2 : IntKind.u32.wrap (y : Int) = (y : Int) := by rw [IntKind.wrap_u32]; omega
          obtain ⟨h2, hh2⟩ : ∃ h2, h2 = h1 + 8 := ⟨_, rfl⟩
          rw [← hh2] at HE2
          have e3 : IntKind.i64.wrap ((h1 : Int) + 8) = (h2 : Int) := by rw [IntKind.wrap_i64]; omega
          have hh3 : h2 ≤ 13 := by omega
          clear hh2
          go_wp2
          go_loopw [7] (fun v7 wr => ∃ (m h : Nat), v7 = .int .i64 (h : Int) ∧ h ≤ 13 ∧ Hid (EncAt w wr L l2 N m h)) (fun v7 _ => (intOf v7).toNat)
          case atStart => exact ⟨m1, h2, rfl, hh3, HE2⟩
          case round =>
            clear HE2
            obtain ⟨m3, h3, rfl, hh3, HE⟩ := hrel
            by_cases h6 : 6 ≤ h3
            · have d1 : decide ((6 : Int) ≤ (h3 : Int)) = true := by simp; omega
              obtain ⟨g, hg⟩ : ∃ g, h3 = g + 6 := ⟨h3 - 6, by omega⟩
              have e4 : IntKind.i64.wrap ((h3 : Int) - 6) = (g : Int) := by rw [IntKind.wrap_i64]; omega
              have hgl : g ≤ 7 := by omega
              obtain ⟨P, hP⟩ : ∃ P, P = B2 / 2 ^ g := ⟨_, rfl⟩
              obtain ⟨R, hR⟩ : ∃ R, R = P % 64 := ⟨_, rfl⟩
              have e5 : (B2 : Int) / 2 ^ g = (P : Int) := by rw [hP]; norm_cast
              have hmin : min g 32 = g := by omega
              have hPl : P < 4294967296 := by rw [hP]; exact Nat.lt_of_le_of_lt (Nat.div_le_self _ _) hB2l
              have e6 : IntKind.u32.wrap (P : Int) = (P : Int) := by rw [IntKind.wrap_u32]; omega
              have e7 : (P : Int) % 64 = (R : Int) := by omega
              have e8 : (P : Int).tmod 64 = (R : Int) := by rw [Int.tmod_eq_emod_of_nonneg (by omega)]; omega
              have e9 : IntKind.u32.wrap (R : Int) = (R : Int) := by rw [IntKind.wrap_u32]; omega
              have r0 : (0 : Int) ≤ (R : Int) := by omega
              have r1 : (R : Int) < 64 := by omega
              have hcR := (HC.out.below HE.out.below HC.out.lt).lett R (by omega)
              have k1 : ∀ tp d os out, (World.mk wr.heap tp d os out).cell? ⟨b, R, none⟩ = some (.int .u8 ((Sx.lt L R).toNat : Int)) := fun _ _ _ _ => hcR
              have HPR := Lib.hid (And.intro hP hR)
              have HG := Lib.hid hg
              clear hP hR hg hcR
              go_wp2
              refine wp_region_still_tail 10 (by kernel_rfl) (by kernel_rfl) ?_
              simp only [List.take_succ_cons, List.take_zero, List.drop_succ_cons, List.drop_zero]
              still_step
              still_step
              still_step
              still_step
              still_step
              still_step
              still_step
              still_step
              still_step
              still_step
              refine wpStill_nil ?_
              change wpList _ _ _ _ _ wr.drew
              have HEd : Hid (EncAt w wr.drew L l2 N m3 h3) := Lib.hid ⟨HE.out.bits, HE.out.few, HE.out.bld.below ((Below.refl _ _).drew), HE.out.below.drew⟩
              clear k1 HE
              generalize wr.drew = w5 at *
              have hroom : 1 ≤ ne N - m3 := by
                have e1 := HEd.out.bits
                have e2 := HEd.out.few
                unfold ne; omega
              have CW := Lib.hid (wbyte_any w.heap.size w.heap.size (encTo L l2 m3) (ne N - m3) (Sx.lt L R) w5 HEd.out.bld (.inl hroom) HEd.out.below.size)
              have HW := Lib.hid HEd.out.below
              have HEB := Lib.hid (And.intro HEd.out.bits HEd.out.few)
              clear hroom HEd
              go_wp2_with fail
              refine CW.out.mono ?_
              rintro e w6 ⟨rfl, q1, q2⟩
              have HE3 : Hid (EncAt w w6 L l2 N (m3 + 1) g) := Lib.hid (by
                have hlt : Sx.lt L R = Sx.lt L (gr l2 m3) := by
                  have e := HEB.out.1
                  have hg := HG.out
                  have hq := lo_div (bv l2) g 6 (by omega)
                  rw [HPR.out.2, HPR.out.1, HB2.out]
                  rw [show (64 : Nat) = 2 ^ 6 from rfl, hq]
                  congr 1
                  unfold gr
                  rw [show 8 * l2.length - 6 * m3 = 6 + g by omega, Nat.pow_add, ← Nat.div_div_eq_div_mul, show (2 : Nat) ^ 6 = 64 from rfl, Nat.mul_div_cancel _ (by decide)]
                refine ⟨by have := HEB.out.1; have := HG.out; omega, HEB.out.2, ?_, HW.out.trans q2⟩
                rw [encTo_snoc, ← hlt, ← Nat.sub_sub]
                exact q1)
              clear q1 q2 CW HW HEB
              go_wp2
              go_roundw
              case rel => exact ⟨m3 + 1, g, by go_num, by omega, HE3⟩
              case measure => simp [intOf]; have := HG.out; omega
            · have d1 : decide ((6 : Int) ≤ (h3 : Int)) = false := by simp; omega
              go_wp2
              go_roundw
              case rel =>
                refine ⟨j + 1, m3, h3, B2, by omega, by go_num, rfl, by omega, rfl, ?_, ?_⟩
                · rw [← HL2.out]; exact HB2
                · rw [← HL2.out]; exact HE
              case measure => simp [intOf]; omega
        · obtain rfl : j = s.size := by omega
          have e : (tl s).take s.size = tl s := List.take_of_length_le (by rw [tl_length]; exact Nat.le_refl _)
          rw [e, ← HS.out] at HB HE
          go_wp2
          go_roundw
          case rel => exact ⟨k + 1, m1, h1, B1, by omega, by go_num, rfl, hh1, rfl, HB, HE⟩
          case measure => simp [intOf]; omega
    · obtain rfl : k = ss.length := by omega
      rw [List.take_length] at HB HE
      have hen : (jn ss).length = N := HN.out.symm
      by_cases h0 : h = 0
      · subst h0
        have hm : m = ne N := by have := HE.out.bits; rw [hen] at this; unfold ne; omega
        have hB := HE.out.bld
        rw [hm, ← hen, ← enc_to] at hB
        have C := Lib.hid (bstring_any hB HE.out.below.size)
        have HW := Lib.hid HE.out.below
        clear hB hm HE HB hlt hen hh
        go_wp2_with fail
        refine C.out.mono ?_
        rintro e w1 ⟨rfl, hb⟩
        have HB := Lib.hid (HW.out.trans hb)
        clear hb
        go_wp2
        go_ret
        exact ⟨rfl, HB.out⟩
      · have d1 : decide ((0 : Int) < (h : Int)) = true := by simp; omega
        obtain ⟨g, hg⟩ : ∃ g, g + h = 6 := ⟨6 - h, by omega⟩
        have e4 : IntKind.i64.wrap (6 - (h : Int)) = (g : Int) := by rw [IntKind.wrap_i64]; omega
        have hgl : g ≤ 5 := by omega
        have hBl : B < 4294967296 := by rw [HB.out]; exact lo_lt _
        obtain ⟨P, hP⟩ : ∃ P, P = B * 2 ^ g % 4294967296 := ⟨_, rfl⟩
        obtain ⟨R, hR⟩ : ∃ R, R = P % 64 := ⟨_, rfl⟩
        have hmin : min g 32 = g := by omega
        have hPl : P < 4294967296 := by rw [hP]; exact Nat.mod_lt _ (by decide)
        have e6 : IntKind.u32.wrap ((B : Int) * 2 ^ g) = (P : Int) := by
          have hc : (B : Int) * 2 ^ g = ((B * 2 ^ g : Nat) : Int) := by rw [Int.natCast_mul, Int.natCast_pow]; rfl
          rw [IntKind.wrap_u32, hc, hP]
          exact (Int.natCast_emod _ _).symm
        have e7 : (P : Int) % 64 = (R : Int) := by omega
        have e8 : (P : Int).tmod 64 = (R : Int) := by rw [Int.tmod_eq_emod_of_nonneg (by omega)]; omega
        have e9 : IntKind.u32.wrap (R : Int) = (R : Int) := by rw [IntKind.wrap_u32]; omega
        have r0 : (0 : Int) ≤ (R : Int) := by omega
        have r1 : (R : Int) < 64 := by omega
        have hcR := (HC.out.below HE.out.below HC.out.lt).lett R (by omega)
        have k1 : ∀ tp d os out, (World.mk wr.heap tp d os out).cell? ⟨b, R, none⟩ = some (.int .u8 ((Sx.lt L R).toNat : Int)) := fun _ _ _ _ => hcR
        have hm : m < ne N := by have := HE.out.bits; rw [hen] at this; unfold ne; omega
        have hm1 : m + 1 = ne N := by have := HE.out.bits; rw [hen] at this; unfold ne; omega
        have hRR : R = gr (jn ss) m := by
          have e := HE.out.bits
          have e64 : bv (jn ss) * 64 / 2 ^ h = bv (jn ss) * 2 ^ g := by
            rw [show (64 : Nat) = 2 ^ g * 2 ^ h by rw [← Nat.pow_add, hg], ← Nat.mul_assoc, Nat.mul_div_cancel _ (Nat.two_pow_pos _)]
          rw [hR, hP, HB.out, lo_shl]
          unfold lo gr
          rw [show 8 * (jn ss).length - 6 * m = h by omega, e64]
          omega
        have hfin : encTo L (jn ss) m ++ [Sx.lt L R] = enc L (jn ss) := by rw [enc_to, hen, ← hm1, encTo_snoc, hRR]
        have HF := Lib.hid hfin
        clear hP hR hcR hRR hfin hm1 HB hlt hh h0
        go_wp2
        refine wp_region_still_tail 10 (by kernel_rfl) (by kernel_rfl) ?_
        simp only [List.take_succ_cons, List.take_zero, List.drop_succ_cons, List.drop_zero]
        repeat still_step
        refine wpStill_nil ?_
        change wpList _ _ _ _ _ wr.drew
        have hb1 : BldR wr.drew w.heap.size w.heap.size (encTo L (jn ss) m) (ne N - m) := HE.out.bld.below ((Below.refl _ _).drew)
        have hw1 : Below w.heap.size w wr.drew := HE.out.below.drew
        clear k1 HE
        generalize wr.drew = w5 at *
        have CW := Lib.hid (wbyte_any w.heap.size w.heap.size (encTo L (jn ss) m) (ne N - m) (Sx.lt L R) w5 hb1 (.inl (by omega)) hw1.size)
        rw [HF.out] at CW
        have HW := Lib.hid hw1
        clear hb1 hw1 HF hen hm
        go_wp2_with fail
        refine CW.out.mono ?_
        rintro e w6 ⟨rfl, q1, q2⟩
        have HW6 := Lib.hid (HW.out.trans q2)
        have C := Lib.hid (bstring_any q1 HW6.out.size)
        clear q1 q2 CW HW
        go_wp2_with fail
        refine C.out.mono ?_
        rintro e w1 ⟨rfl, hb⟩
        have HB := Lib.hid (HW6.out.trans hb)
        clear hb
        go_wp2
        go_ret
        exact ⟨rfl, HB.out⟩
end Go.Proofs.Ytccpcjbffibkkaa

namespace Go.Proofs.Ytccpcjbffibkkaa
set_option maxRecDepth 50000
open Go.RowKit Sx

namespace Sx
/-- the first bytes of places -/
def decTo (vs : List Nat) (k : Nat) : List UInt8 := (List.range k).map fun j => UInt8.ofNat (vl 6 vs / 2 ^ (6 * vs.length - 8 * j - 8) % 256)
theorem decTo_snoc (vs : List Nat) (k : Nat) : decTo vs (k + 1) = decTo vs k ++ [UInt8.ofNat (vl 6 vs / 2 ^ (6 * vs.length - 8 * k - 8) % 256)] := by unfold decTo; rw [List.range_succ, List.map_append]; rfl
theorem decTo_length (vs : List Nat) (k : Nat) : (decTo vs k).length = k := by simp [decTo]
theorem decTo_next (vs : List Nat) (v k : Nat) (hv : v < 64) (h : 8 * k ≤ 6 * vs.length) : decTo (vs ++ [v]) k = decTo vs k := by
  unfold decTo
  apply List.map_congr_left
  intro j hj
  have hj : j < k := by simpa using hj
  rw [vl_snoc, List.length_append, List.length_singleton, show 6 * (vs.length + 1) - 8 * j - 8 = 6 + (6 * vs.length - 8 * j - 8) by omega, Nat.pow_add, ← Nat.div_div_eq_div_mul, Nat.mul_comm _ (2 ^ 6), Nat.mul_add_div (by decide),
    show v / 2 ^ 6 = 0 from Nat.div_eq_of_lt (by simpa using hv), Nat.add_zero]
theorem dec_to (vs : List Nat) : decTo vs (6 * vs.length / 8) = dec vs := by
  unfold decTo dec dgs
  rw [List.map_map]
  apply List.map_congr_left
  intro j hj
  have hj : j < 6 * vs.length / 8 := by simpa using hj
  simp only [Function.comp, dg]
  rw [Nat.div_div_eq_div_mul, ← Nat.pow_add, show 6 * vs.length % 8 + 8 * (6 * vs.length / 8 - 1 - j) = 6 * vs.length - 8 * j - 8 by omega]
theorem plc_length (L s : List UInt8) : (plc L s).length = s.length := by simp [plc]
theorem all_snoc {L p : List UInt8} {x : UInt8} (h : all L p = true) (hx : x ∈ L) : all L (p ++ [x]) = true := by
  unfold all at *
  rw [List.all_append, h]; simp [hx]
theorem all_no {L s : List UInt8} {x : UInt8} (h : x ∈ s) (hx : x ∉ L) : all L s = false := by
  unfold all
  exact List.all_eq_false.2 ⟨x, h, by simp [hx]⟩
theorem decE_bad {L s : List UInt8} (h : all L s = false) : decE L s = 8 := by unfold decE; rw [h]; rfl
theorem decE_form {L s : List UInt8} (h : all L s = true) (h2 : s.length % 4 = 1 ∨ rest (plc L s) ≠ 0) : decE L s = 5 := by unfold decE; rw [if_pos h, if_pos h2]
theorem decE_good {L s : List UInt8} (h : all L s = true) (h2 : s.length % 4 ≠ 1) (h3 : rest (plc L s) = 0) : decE L s = 0 := by
  unfold decE; rw [if_pos h, if_neg]
  rintro (h4 | h4)
  · exact h2 h4
  · exact h4 h3
theorem decL_bad {L s : List UInt8} (h : decE L s ≠ 0) : decL L s = [] := if_neg h
theorem decL_good {L s : List UInt8} (h : decE L s = 0) : decL L s = dec (plc L s) := if_pos h
end Sx
/-- the lowest bits, brought to the left end of a word -/
theorem lo_left (v g h : Nat) (hg : g + h = 32) : lo v * 2 ^ g % 4294967296 = v % 2 ^ h * 2 ^ g := by
  have e : (4294967296 : Nat) = 2 ^ h * 2 ^ g := by rw [← Nat.pow_add, Nat.add_comm h g, hg]
  unfold lo
  rw [e, Nat.mul_mod_mul_right, Nat.mod_mul_right_mod]

theorem decode_nil (s : ByteArray) (w : World) : Calls Try.prog 13 #[.pointer none, .string s] w fun e w' => e = .returned (.tuple #[.string ⟨#[]⟩, .int .i64 11]) ∧ Below w.heap.size w w' := by
  go_enter Try.func13, Try.ntmps13
  go_wp2
  go_ret2
  exact ⟨rfl, Below.refl _ _⟩
/-- the bytes so far: of places vs so many bytes are written; r: what room there was -/
structure DecAt (w wr : World) (vs : List Nat) (r k h : Nat) : Prop where
  bits : 8 * k + h = 6 * vs.length
  bld : BldR wr w.heap.size w.heap.size (decTo vs k) (r - k)
  below : Below w.heap.size w wr

set_option maxHeartbeats 3200000 in
theorem decode_any (b : Nat) (L : List UInt8) (s : ByteArray) (w : World) (hC : Cdr w b L) (hf : Fine L) (hs : s.size ≤ 140737488351232) :
    Calls Try.prog 13 #[.pointer (some ⟨b, 0, none⟩), .string s] w fun e w' => e = .returned (.tuple #[.string (tx (decL L (tl s))), .int .i64 (decE L (tl s))]) ∧ Below w.heap.size w w' := by
  have HC := Lib.hid hC
  have HF := Lib.hid hf
  have HN0 := Lib.hid (BldN.new w)
  obtain ⟨q, hq⟩ : ∃ q, q = s.size / 4 := ⟨_, rfl⟩
  have q1 : (s.size : Int).tdiv 4 = (q : Int) := by rw [Int.tdiv_eq_ediv_of_nonneg (by omega)]; omega
  have q2 : IntKind.i64.wrap (q : Int) = (q : Int) := by rw [IntKind.wrap_i64]; omega
  have q3 : IntKind.i64.wrap ((q : Int) * 3) = ((3 * q : Nat) : Int) := by rw [IntKind.wrap_i64]; omega
  have q4 : (s.size : Int) / 4 = (q : Int) := by omega
  have hql : 3 * q ≤ 281474976710656 := by omega
  clear hC hf hq
  go_enter Try.func13, Try.ntmps13
  go_wp2_with fail
  generalize hW0 : World.alloc _ _ = w0
  have H0 : Hid (BldN w0 w.heap.size w.heap.size) := Lib.hid (by subst hW0; exact HN0.out)
  have B0 : Hid (Below w.heap.size w w0) := Lib.hid (by subst hW0; exact (Below.refl _ _).alloc (Nat.le_refl _) _)
  clear hW0 HN0
  refine (grow_new H0.out hql B0.out.size).mono ?_
  rintro e w3 ⟨rfl, g1, _, g3⟩
  have E0 : Hid (DecAt w w3 [] (3 * q) 0 0) := Lib.hid ⟨rfl, g1, B0.out.trans g3⟩
  clear g1 g3 H0 B0 q1 q2 q3 q4
  go_wp2
  go_loopw [7, 8, 20] (fun v7 v8 v20 wr => ∃ (i k h B : Nat), i ≤ s.size ∧ v20 = .int .i64 (i : Int) ∧ v8 = .int .i64 (h : Int) ∧ h < 8 ∧ v7 = .int .u32 (B : Int) ∧ Hid (all L ((tl s).take i) = true) ∧ Hid (B = lo (vl 6 (plc L ((tl s).take i)))) ∧ Hid (DecAt w wr (plc L ((tl s).take i)) (3 * q) k h)) (fun _ _ v20 _ => s.size - (intOf v20).toNat)
  case atStart => exact ⟨0, 0, 0, 0, Nat.zero_le _, rfl, rfl, by decide, rfl, Lib.hid rfl, Lib.hid rfl, E0⟩
  case round =>
    clear E0
    obtain ⟨i, k, h, B, hi, rfl, rfl, hh, rfl, HA, HB, HE⟩ := hrel
    by_cases hlt : i < s.size
    · have hkl : i < (tl s).length := by rw [tl_length]; exact hlt
      obtain ⟨x, hx⟩ : ∃ x, x = s[i]'hlt := ⟨_, rfl⟩
      have hat : ((s[i]'hlt).toNat : Int) = (x.toNat : Int) := by rw [hx]
      have hat2 : (tl s)[i]'hkl = x := hx.symm
      have hxm : x ∈ tl s := by rw [← hat2]; exact List.getElem_mem hkl
      have hlI : decide ((i : Int) < (s.size : Int)) = true := by simp; omega
      have hxb := x.toNat_lt
      have hc := (HC.out.below HE.out.below HC.out.lt).val x
      have i0 : (0 : Int) ≤ (i : Int) := by omega
      have i1 : (i : Int) < (s.size : Int) := by omega
      by_cases hm : x ∈ L
      · have hp1 := pos_lt hm
        rw [HF.out.1] at hp1
        obtain ⟨v, hv⟩ : ∃ v, v = pos L x := ⟨_, rfl⟩
        rw [← hv] at hp1
        have hvv : vv L x = v + 1 := by rw [hv]; exact if_pos hm
        rw [hvv] at hc
        have htk : (tl s).take (i + 1) = (tl s).take i ++ [x] := by rw [List.take_succ_eq_append_getElem hkl, hat2]
        have hpl : plc L ((tl s).take (i + 1)) = plc L ((tl s).take i) ++ [v] := by rw [htk, hv]; unfold plc; rw [List.map_append]; rfl
        have HA2 : Hid (all L ((tl s).take (i + 1)) = true) := Lib.hid (by rw [htk]; exact all_snoc HA.out hm)
        obtain ⟨vs, hvs⟩ : ∃ vs, vs = plc L ((tl s).take i) := ⟨_, rfl⟩
        obtain ⟨vs2, hvs2⟩ : ∃ vs2, vs2 = plc L ((tl s).take (i + 1)) := ⟨_, rfl⟩
        rw [← hvs] at HB HE hpl
        rw [← hvs2] at hpl
        have hlen : vs2.length ≤ 140737488351232 := by rw [hvs2, plc_length, List.length_take, tl_length]; omega
        have HE2 : Hid (DecAt w wr vs2 (3 * q) k (h + 6)) := Lib.hid (by
          have e := HE.out
          refine ⟨?_, ?_, e.below⟩
          · rw [hpl, List.length_append, List.length_singleton]; have := e.bits; omega
          · rw [hpl, decTo_next vs v k hp1 (by have := e.bits; omega)]; exact e.bld)
        have hV := vl_snoc 6 vs v
        rw [← hpl, show (2 : Nat) ^ 6 = 64 from rfl] at hV
        have HO := lo_or6 (vl 6 vs) v hp1
        rw [← hV] at HO
        have hsh := lo_shl (vl 6 vs) 6
        rw [← HB.out, show (2 : Nat) ^ 6 = 64 from rfl] at hsh
        obtain ⟨B2, hB2⟩ : ∃ B2, B2 = lo (vl 6 vs2) := ⟨_, rfl⟩
        rw [← hB2] at HO
        have hBl : B < 4294967296 := by rw [HB.out]; exact lo_lt _
        have hB2l : B2 < 4294967296 := by rw [hB2]; exact lo_lt _
        obtain ⟨C, hC⟩ : ∃ C, C = lo (vl 6 vs * 64) := ⟨_, rfl⟩
        rw [← hC] at HO hsh
        have e1 : IntKind.u32.wrap ((B : Int) * 64) = (C : Int) := by rw [IntKind.wrap_u32]; omega
        have HB2 := Lib.hid hB2
        have HVS2 := Lib.hid hvs2
        have d3 : (((v + 1 : Nat) : Int) == 0) = false := by simp; omega
        have e2 : IntKind.u8.wrap (((v + 1 : Nat) : Int) - 1) = (v : Int) := by rw [IntKind.wrap_u8]; omega
        have e3 : IntKind.u32.wrap (v : Int) = (v : Int) := by rw [IntKind.wrap_u32]; omega
        obtain ⟨h2, hh2⟩ : ∃ h2, h2 = h + 6 := ⟨_, rfl⟩
        rw [← hh2] at HE2
        have e4 : IntKind.i64.wrap ((h : Int) + 6) = (h2 : Int) := by rw [IntKind.wrap_i64]; omega
        have hh3 : h2 ≤ 13 := by omega
        clear hh2 hvs hvs2 hpl hV hB2 HB HE hC hsh htk hvv hm hxm hx hat2 HA hv
        obtain ⟨u, hu⟩ : ∃ u, u = v + 1 := ⟨_, rfl⟩
        rw [← hu] at hc d3 e2
        have hul : u ≤ 64 := by omega
        clear hu
        generalize x.toNat = y at *
        go_wp2
        go_quiet (fail)
        go_wp2
        go_loopw [8] (fun v8 wr => ∃ (k h : Nat), v8 = .int .i64 (h : Int) ∧ h ≤ 13 ∧ Hid (DecAt w wr vs2 (3 * q) k h)) (fun v8 _ => (intOf v8).toNat)
        case atStart => exact ⟨k, h2, rfl, hh3, Lib.hid ⟨HE2.out.bits, HE2.out.bld.below (below_drewN (Below.refl _ _) _), below_drewN HE2.out.below _⟩⟩
        case round =>
          clear HE2 hc
          obtain ⟨k3, h3, rfl, hh3, HE⟩ := hrel
          by_cases h8 : 8 ≤ h3
          · have d1 : decide ((8 : Int) ≤ (h3 : Int)) = true := by simp; omega
            obtain ⟨g, hg⟩ : ∃ g, h3 = g + 8 := ⟨h3 - 8, by omega⟩
            have e4 : IntKind.i64.wrap ((h3 : Int) - 8) = (g : Int) := by rw [IntKind.wrap_i64]; omega
            have hgl : g ≤ 5 := by omega
            obtain ⟨P, hP⟩ : ∃ P, P = B2 / 2 ^ g := ⟨_, rfl⟩
            obtain ⟨R, hR⟩ : ∃ R, R = P % 256 := ⟨_, rfl⟩
            have e5 : (B2 : Int) / 2 ^ g = (P : Int) := by rw [hP]; norm_cast
            have hmin : min g 32 = g := by omega
            have hPl : P < 4294967296 := by rw [hP]; exact Nat.lt_of_le_of_lt (Nat.div_le_self _ _) hB2l
            have e6 : IntKind.u32.wrap (P : Int) = (P : Int) := by rw [IntKind.wrap_u32]; omega
            have e7 : IntKind.u8.wrap (P : Int) = (R : Int) := by rw [IntKind.wrap_u8]; omega
            have hRl : R < 256 := by omega
            have hRn : (UInt8.ofNat R).toNat = R := UInt8.toNat_ofNat_of_lt' hRl
            have hb := HE.out.bits
            have hk3 : k3 ≤ 140737488355327 := by omega
            have CW := Lib.hid (wbyte_any w.heap.size w.heap.size (decTo vs2 k3) (3 * q - k3) (UInt8.ofNat R) wr HE.out.bld (.inr (by rw [decTo_length]; omega)) HE.out.below.size)
            rw [hRn] at CW
            have HW := Lib.hid HE.out.below
            have HD : Hid (decTo vs2 k3 ++ [UInt8.ofNat R] = decTo vs2 (k3 + 1) ∧ 8 * (k3 + 1) + g = 6 * vs2.length) := Lib.hid (by
              refine ⟨?_, by omega⟩
              rw [decTo_snoc, hR, hP, HB2.out, show 6 * vs2.length - 8 * k3 - 8 = g by omega]
              have hq := lo_div (vl 6 vs2) g 8 (by omega)
              rw [show (256 : Nat) = 2 ^ 8 from rfl, hq])
            rw [HD.out.1] at CW
            have HG := Lib.hid hg
            clear hP hR hRn hb hg HE
            go_wp2_with fail
            refine CW.out.mono ?_
            rintro e w6 ⟨rfl, q1, q2⟩
            have HE3 : Hid (DecAt w w6 vs2 (3 * q) (k3 + 1) g) := Lib.hid ⟨HD.out.2, by rw [← Nat.sub_sub]; exact q1, HW.out.trans q2⟩
            clear q1 q2 CW HW HD
            go_wp2
            go_roundw
            case rel => exact ⟨k3 + 1, g, by go_num, by omega, HE3⟩
            case measure => simp [intOf]; have := HG.out; omega
          · have d1 : decide ((8 : Int) ≤ (h3 : Int)) = false := by simp; omega
            go_wp2
            go_roundw
            case rel =>
              refine ⟨i + 1, k3, h3, B2, by omega, by go_num, rfl, by omega, rfl, HA2, ?_, ?_⟩
              · rw [← HVS2.out]; exact HB2
              · rw [← HVS2.out]; exact HE
            case measure => simp [intOf]; omega
      · have hbad := decE_bad (all_no hxm hm)
        have HBD : Hid (decE L (tl s) = 8 ∧ tx (decL L (tl s)) = ⟨#[]⟩) := Lib.hid ⟨hbad, by rw [decL_bad (by rw [hbad]; decide)]; rfl⟩
        have HW := Lib.hid HE.out.below
        have hvv : vv L x = 0 := if_neg hm
        rw [hvv, show ((0 : Nat) : Int) = 0 from rfl] at hc
        clear hvv hm hxm hx hat2 HA HB HE hbad
        generalize x.toNat = y at *
        go_wp2
        go_quiet (fail)
        go_wp2
        go_ret2
        exact ⟨by rw [HBD.out.1, HBD.out.2]; rfl, below_drewN HW.out _⟩
    · obtain rfl : i = s.size := by omega
      have ht : (tl s).take s.size = tl s := List.take_of_length_le (by rw [tl_length]; exact Nat.le_refl _)
      rw [ht] at HA HB HE
      have hbit := HE.out.bits
      rw [plc_length, tl_length] at hbit
      have hk : k = 6 * s.size / 8 := by omega
      have hhm : h = 6 * s.size % 8 := by omega
      have hrest : rest (plc L (tl s)) = vl 6 (plc L (tl s)) % 2 ^ h := by unfold rest; rw [plc_length, tl_length, hhm]
      have hB := HE.out.bld
      rw [hk, show 6 * s.size = 6 * (plc L (tl s)).length by rw [plc_length, tl_length], dec_to] at hB
      have HW := Lib.hid HE.out.below
      have hBl : B < 4294967296 := by rw [HB.out]; exact lo_lt _
      obtain ⟨m, hm⟩ : ∃ m, m = s.size % 4 := ⟨_, rfl⟩
      have htm : (s.size : Int).tmod 4 = (m : Int) := by rw [Int.tmod_eq_emod_of_nonneg (by omega)]; omega
      have htm2 : (s.size : Int) % 4 = (m : Int) := by omega
      have hmw : IntKind.i64.wrap (m : Int) = (m : Int) := by rw [IntKind.wrap_i64]; omega
      by_cases h4 : m = 1
      · have hE := decE_form HA.out (.inl (by rw [tl_length]; omega))
        have HR : Hid (decE L (tl s) = 5 ∧ tx (decL L (tl s)) = ⟨#[]⟩) := Lib.hid ⟨hE, by rw [decL_bad (by rw [hE]; decide)]; rfl⟩
        subst h4
        have d1 : (((1 : Nat) : Int) == 1) = true := rfl
        clear hm hE hB hrest hk hhm hbit HA HB HE ht hlt
        go_wp2
        go_ret2
        exact ⟨by rw [HR.out.1, HR.out.2]; rfl, HW.out⟩
      · have d1 : ((m : Int) == 1) = false := by simp; omega
        obtain ⟨g, hg⟩ : ∃ g, g + h = 32 := ⟨32 - h, by omega⟩
        have e4 : IntKind.i64.wrap (32 - (h : Int)) = (g : Int) := by rw [IntKind.wrap_i64]; omega
        have hmin : min g 32 = g := by omega
        have hleft := lo_left (vl 6 (plc L (tl s))) g h hg
        rw [← hrest, ← HB.out] at hleft
        obtain ⟨Q, hQ⟩ : ∃ Q, Q = B * 2 ^ g % 4294967296 := ⟨_, rfl⟩
        have e6 : IntKind.u32.wrap ((B : Int) * 2 ^ g) = (Q : Int) := by
          have hc : (B : Int) * 2 ^ g = ((B * 2 ^ g : Nat) : Int) := by rw [Int.natCast_mul, Int.natCast_pow]; rfl
          rw [IntKind.wrap_u32, hc, hQ]
          exact (Int.natCast_emod _ _).symm
        rw [← hQ] at hleft
        by_cases h0 : rest (plc L (tl s)) = 0
        · have hQ0 : Q = 0 := by rw [hleft, h0, Nat.zero_mul]
          have hE := decE_good HA.out (by rw [tl_length]; omega) h0
          have HR : Hid (decE L (tl s) = 0 ∧ decL L (tl s) = dec (plc L (tl s))) := Lib.hid ⟨hE, decL_good hE⟩
          have C := Lib.hid (bstring_any hB HW.out.size)
          have d2 : ((Q : Int) != 0) = false := by rw [hQ0]; rfl
          clear hm hE hB hrest hk hhm hbit HA HB HE ht hlt hleft hQ hQ0 h0 hg
          go_wp2_with fail
          refine C.out.mono ?_
          rintro e w2 ⟨rfl, k2⟩
          have K2 := Lib.hid (HW.out.trans k2)
          clear k2 C HW
          go_wp2
          go_ret2
          exact ⟨by rw [HR.out.1, HR.out.2]; rfl, K2.out⟩
        · have hQ0 : Q ≠ 0 := by
            rw [hleft]
            exact Nat.mul_ne_zero h0 (Nat.pos_iff_ne_zero.1 (Nat.two_pow_pos g))
          have hE := decE_form HA.out (.inr h0)
          have HR : Hid (decE L (tl s) = 5 ∧ tx (decL L (tl s)) = ⟨#[]⟩) := Lib.hid ⟨hE, by rw [decL_bad (by rw [hE]; decide)]; rfl⟩
          have d2 : ((Q : Int) != 0) = true := by simp; omega
          clear hm hE hB hrest hk hhm hbit HA HB HE ht hlt hleft hQ hQ0 h0 hg
          go_wp2
          go_ret2
          exact ⟨by rw [HR.out.1, HR.out.2]; rfl, HW.out⟩
end Go.Proofs.Ytccpcjbffibkkaa

namespace Go.Proofs.Ytccpcjbffibkkaa
set_option maxRecDepth 50000
open Go.RowKit Sx

def plainS : ByteArray := ⟨#[65, 66, 67, 68, 69, 70, 71, 72, 73, 74, 75, 76, 77, 78, 79, 80, 81, 82, 83, 84, 85, 86, 87, 88, 89, 90, 97, 98, 99, 100, 101, 102, 103, 104, 105, 106, 107, 108, 109, 110, 111, 112, 113, 114, 115, 116, 117, 118, 119, 120, 121, 122, 48, 49, 50, 51, 52, 53, 54, 55, 56, 57, 43, 47]⟩
theorem plain_good : lettE (tl plainS) = 0 := by decide +kernel
theorem plain_fine : Fine (tl plainS) := lettE_fine plain_good
theorem plain_bad : decE (tl plainS) [89, 82] = 5 := by decide +kernel
theorem plain_one : enc (tl plainS) [97] = [89, 81] := by decide +kernel

theorem one_text (w : World) (s : ByteArray) : Reads (w.alloc (.cells #[.string s] 9)) (w.alloc (.cells #[.string s] 9)).heap.size (some ⟨w.heap.size, 0, none⟩) (stv [s]) := fun k hk => by
  refine ⟨w.heap.size, 0, rfl, by simp, ?_⟩
  rw [cell_of_row _ w.heap.size (0 + k) _ _ _ (heap_alloc_new w _)]
  match k, hk with
  | 0, _ => rfl
theorem jn_one (s1 : ByteArray) : jn [s1] = tl s1 := by simp [jn]
/-- Encode of one text, in the world in which its list was just made -/
theorem encode_one (b : Nat) (L : List UInt8) (s : ByteArray) (w : World) (hC : Cdr w b L) (hs : s.size ≤ 140737488351232) :
    Calls Try.prog 14 #[.pointer (some ⟨b, 0, none⟩), .slice (some ⟨w.heap.size, 0, none⟩) 1 1] (w.alloc (.cells #[.string s] 9)) fun e w' => e = .returned (.string (tx (enc L (tl s)))) ∧ Below w.heap.size w w' := by
  refine (encode_any b L (some ⟨w.heap.size, 0, none⟩) 1 [s] (by simp) _ (hC.alloc _) (one_text w s) (by rw [jn_one, tl_length]; exact hs)).mono ?_
  rintro e w' ⟨rfl, hb⟩
  exact ⟨by rw [jn_one], ((Below.refl w.heap.size w).alloc (Nat.le_refl _) _).trans (hb.mono (by simp))⟩
/-- New of letters that are a coder's -/
theorem new_good (s : ByteArray) (h : lettE (tl s) = 0) (w : World) : Calls Try.prog 25 #[.string s] w fun e w' => e = .returned (.tuple #[.pointer (some ⟨w.heap.size, 0, none⟩), .int .i64 0]) ∧ Cdr w' w.heap.size (tl s) ∧ Below w.heap.size w w' := by
  refine (new_any s w).mono ?_
  rintro e w' ⟨h1 | h1, hb⟩
  · exact absurd h h1.1
  · refine ⟨?_, h1.2.2, hb⟩
    rw [h1.2.1, h]
theorem new_wrong (s : ByteArray) (h : lettE (tl s) ≠ 0) (w : World) : Calls Try.prog 25 #[.string s] w fun e w' => e = .returned (.tuple #[.pointer none, .int .i64 (lettE (tl s))]) ∧ Below w.heap.size w w' := by
  refine (new_any s w).mono ?_
  rintro e w' ⟨h1 | h1, hb⟩
  · exact ⟨h1.2, hb⟩
  · exact absurd h1.1 h

end Go.Proofs.Ytccpcjbffibkkaa

namespace Go.Proofs.Ytccpcjbffibkkaa
set_option maxRecDepth 50000
open Go.RowKit Sx

def cryptS : ByteArray := ⟨#[46, 47, 65, 66, 67, 68, 69, 70, 71, 72, 73, 74, 75, 76, 77, 78, 79, 80, 81, 82, 83, 84, 85, 86, 87, 88, 89, 90, 97, 98, 99, 100, 101, 102, 103, 104, 105, 106, 107, 108, 109, 110, 111, 112, 113, 114, 115, 116, 117, 118, 119, 120, 121, 122, 48, 49, 50, 51, 52, 53, 54, 55, 56, 57]⟩
theorem crypt_good : lettE (tl cryptS) = 0 := by decide +kernel
theorem crypt_fine : Fine (tl cryptS) := lettE_fine crypt_good
theorem crypt_size : cryptS.size = 64 := by decide +kernel

/-- a code at block d, its coder at block b -/
structure CrRow (w : World) (d b : Nat) : Prop where
  row : RowAt w d 39 #[.pointer (some ⟨b, 0, none⟩)]
  cod : Cdr w b (tl cryptS)
theorem CrRow.below {w w' : World} {d b : Nat} (h : CrRow w d b) (hb : Below w.heap.size w w') : CrRow w' d b := ⟨h.row.below hb h.row.lt, h.cod.below hb h.cod.lt⟩
theorem CrRow.cells {w : World} {d b : Nat} (h : CrRow w d b) : w.cell? ⟨d, 0, none⟩ = some (.pointer (some ⟨b, 0, none⟩)) := h.row.cell 0

theorem cnew_any (w : World) : Calls Try.prog 12 #[] w fun e w' => (∃ d b, e = .returned (.pointer (some ⟨d, 0, none⟩)) ∧ CrRow w' d b) ∧ Below w.heap.size w w' := by
  have CN := Lib.hid (new_good cryptS crypt_good)
  go_enter Try.func12, Try.ntmps12
  go_wp2_with fail
  refine (CN.out w).mono ?_
  rintro e w1 ⟨rfl, hC, hb⟩
  have HC := Lib.hid hC
  have B1 := Lib.hid hb
  clear hC hb
  go_wp2
  go_ret
  exact ⟨⟨_, _, rfl, RowAt.new _ _ _, HC.out.alloc _⟩, B1.out.alloc B1.out.size _⟩

/-- a list of one text -/
def OneT (s : ByteArray) : Value → World → Prop := fun x w => ∃ A, x = .slice A 1 1 ∧ Reads w w.heap.size A (stv [s])
theorem stable_onet (s : ByteArray) : Stable (OneT s) := fun _ _ _ ⟨A, e, h⟩ hb => ⟨A, e, (h.below hb).more hb.size⟩
theorem onet_run {w : World} {s : ByteArray} {ev : Operand → Value} {x : Operand} {o : Oper} (hop : o.op = .buildSlice 72 1 #[(0, x)]) (hx : ev x = .string s) : (execOp ev o).run Try.prog w = .ok (.value (.slice (some ⟨w.heap.size, 0, none⟩) 1 1)) (w.alloc (.cells #[.string s] 9)) := by
  simp [execOp, hop, hx, go_sem]
theorem onet_does {s : ByteArray} {w : World} {o : Oper} {a : Act} {Q : Exit → Act → World → Prop} {x : Operand} (ho : o.op = .buildSlice 72 1 #[(0, x)]) (hx : a.eval x = .string s) : Does Try.prog (OneT s) o a w Q := by
  unfold Does Oper.wp
  rw [onet_run ho hx]
  exact ⟨_, rfl, ⟨_, rfl, one_text w s⟩, (Below.refl _ _).alloc (Nat.le_refl _) _⟩
theorem crnil_run {w : World} {d : Nat} {ev : Operand → Value} {x : Operand} {o : Oper} (hop : o.op = .nilCheck x) (hx : ev x = .pointer (some ⟨d, 0, none⟩)) : (execOp ev o).run Try.prog w = .ok (.value (.pointer (some ⟨d, 0, none⟩))) w := by
  simp [execOp, hop, hx, go_sem]
theorem crfield_run {w : World} {d : Nat} {ev : Operand → Value} {x : Operand} {o : Oper} (hop : o.op = .fieldAddr 39 x 0) (hx : ev x = .pointer (some ⟨d, 0, none⟩)) : (execOp ev o).run Try.prog w = .ok (.value (.pointer (some ⟨d, 0, none⟩))) w := by
  simp [execOp, hop, hx, go_sem]
theorem crload_run {w : World} {d : Nat} {v : Value} {ev : Operand → Value} {x : Operand} {o : Oper} (hop : o.op = .load 37 x) (hx : ev x = .pointer (some ⟨d, 0, none⟩)) (hc : w.cell? ⟨d, 0, none⟩ = some v) : (execOp ev o).run Try.prog w = .ok (.value v) w := by
  simp [execOp, hop, hx, hc, go_sem]

end Go.Proofs.Ytccpcjbffibkkaa

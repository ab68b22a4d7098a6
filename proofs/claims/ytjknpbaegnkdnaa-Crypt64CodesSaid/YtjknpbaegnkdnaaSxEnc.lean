/- Encode of package sextet by its contract. Conditions: those typed: the parts are of at most 2^47 - 4096 bytes. -/
import Derived.Test.YtjknpbaegnkdnaaSxNew
import Derived.Test.YtjknpbaegnkdnaaSxBits
import Derived.Test.YtjknpbaegnkdnaaHxGrow
import Derived.Test.YtjknpbaegnkdnaaTail
import Derived.StillTailTactics
namespace Go.Proofs.Ytjknpbaegnkdnaa
set_option maxRecDepth 50000
open Go.RowKit Sx

theorem encode_nil (A : Option Addr) (c : Nat) (n : Nat) (w : World) : Calls Try.prog 12 #[.pointer none, .slice A n c] w fun e w' => e = .returned (.string ⟨#[]⟩) ∧ Below w.heap.size w w' := by
  go_enter Try.func12, Try.ntmps12
  go_wp2
  go_ret
  exact ⟨rfl, Below.refl _ _⟩
/-- the letters so far: of bytes l so many letters are written, of N bytes in all -/
structure EncAt (w wr : World) (L l : List UInt8) (N m h : Nat) : Prop where
  bits : 6 * m + h = 8 * l.length
  few : l.length ≤ N
  bld : BldR wr w.heap.size w.heap.size (encTo L l m) (ne N - m)
  below : Below w.heap.size w wr

set_option maxHeartbeats 3200000 in
theorem encode_any (b : Nat) (L : List UInt8) (A : Option Addr) (c : Nat) (ss : List ByteArray) (hn : ss.length ≤ 1000000) (w : World) (hC : Cdr w b L) (hr : Reads w w.heap.size A (stv ss)) (hs : (jn ss).length ≤ 140737488351232) :
    Calls Try.prog 12 #[.pointer (some ⟨b, 0, none⟩), .slice A ss.length c] w fun e w' => e = .returned (.string (tx (enc L (jn ss)))) ∧ Below w.heap.size w w' := by
  have HR := Lib.hid hr
  have HC := Lib.hid hC
  have HN0 := Lib.hid (BldN.new w)
  obtain ⟨N, hN⟩ : ∃ N, N = (jn ss).length := ⟨_, rfl⟩
  have HN := Lib.hid hN
  have hNb : N ≤ 140737488351232 := by omega
  clear hr hC hN hs
  go_enter Try.func12, Try.ntmps12
  go_wp2_with fail
  generalize hW0 : World.alloc _ _ = w0
  have H0 : Hid (BldN w0 w.heap.size w.heap.size) := Lib.hid (by subst hW0; exact HN0.out)
  have B0 : Hid (Below w.heap.size w w0) := Lib.hid (by subst hW0; exact (Below.refl _ _).alloc (Nat.le_refl _) _)
  clear hW0 HN0
  refine (total_any A c ss w0 ((HR.out.below B0.out).more B0.out.size) hn (by rw [← HN.out]; omega)).mono ?_
  rintro e w1 ⟨rfl, rfl⟩
  rw [← HN.out]
  go_wp2_with fail
  refine (letters_any b (N : Int) w1).mono ?_
  rintro e w2 ⟨rfl, rfl⟩
  rw [lettN_nat N (by omega)]
  have hne : ne N ≤ 281474976710656 := by unfold ne; omega
  go_wp2_with fail
  refine (grow_new H0.out hne B0.out.size).mono ?_
  rintro e w3 ⟨rfl, g1, _, g3⟩
  have E0 : Hid (EncAt w w3 L [] N 0 0) := Lib.hid ⟨rfl, Nat.zero_le _, g1, B0.out.trans g3⟩
  clear g1 g3 H0 B0 hne
  go_wp2
  go_loopw [6, 7, 20] (fun v6 v7 v20 wr => ∃ (k m h B : Nat), k ≤ ss.length ∧ v20 = .int .i64 (k : Int) ∧ v7 = .int .i64 (h : Int) ∧ h < 6 ∧ v6 = .int .u32 (B : Int) ∧ Hid (B = lo (bv (jn (ss.take k)))) ∧ Hid (EncAt w wr L (jn (ss.take k)) N m h)) (fun _ _ v20 _ => ss.length - (intOf v20).toNat)
  case atStart => exact ⟨0, 0, 0, 0, Nat.zero_le _, rfl, rfl, by decide, rfl, Lib.hid rfl, E0⟩
  case round =>
    clear E0
    obtain ⟨k, m, h, B, hk, rfl, rfl, hh, rfl, HB, HE⟩ := hrel
    by_cases hlt : k < ss.length
    · obtain ⟨bb, off, rfl, hbB, hcell0⟩ := HR.out k (by rw [stv_length]; exact hlt)
      rw [stv_at] at hcell0
      have hcell := (HE.out.below.cell (p := ⟨bb, off + k, none⟩) hbB).trans hcell0
      obtain ⟨s, hs⟩ : ∃ s, s = ss[k]'hlt := ⟨_, rfl⟩
      have hsn := jn_snoc ss k hlt
      have hle := jn_take_le ss (k + 1)
      rw [← HN.out] at hle
      rw [← hs] at hcell hsn
      have HS := Lib.hid hsn
      have HLE := Lib.hid hle
      have hss : s.size ≤ 140737488351232 := by rw [hsn, List.length_append, tl_length] at hle; omega
      have i0 : (0 : Int) ≤ (k : Int) := by omega
      have i1 : (k : Int) < (ss.length : Int) := by omega
      clear hs hsn hle hcell0 hbB
      go_wp2
      go_loopw [6, 7, 26] (fun v6 v7 v26 wr => ∃ (j m h B : Nat), j ≤ s.size ∧ v26 = .int .i64 (j : Int) ∧ v7 = .int .i64 (h : Int) ∧ h < 6 ∧ v6 = .int .u32 (B : Int) ∧ Hid (B = lo (bv (jn (ss.take k) ++ (tl s).take j))) ∧ Hid (EncAt w wr L (jn (ss.take k) ++ (tl s).take j) N m h)) (fun _ _ v26 _ => s.size - (intOf v26).toNat)
      case atStart => exact ⟨0, m, h, B, Nat.zero_le _, rfl, rfl, hh, rfl, by simpa using HB, by simpa using HE⟩
      case round =>
        clear HB HE
        obtain ⟨j, m1, h1, B1, hj, rfl, rfl, hh1, rfl, HB, HE⟩ := hrel
        by_cases hlj : j < s.size
        · obtain ⟨x, hx⟩ : ∃ x, x = s[j]'hlj := ⟨_, rfl⟩
          have hat : ((s[j]'hlj).toNat : Int) = (x.toNat : Int) := by rw [hx]
          have hjl : j < (tl s).length := by rw [tl_length]; exact hlj
          have hat2 : (tl s)[j]'hjl = x := hx.symm
          have hsn : jn (ss.take k) ++ (tl s).take (j + 1) = (jn (ss.take k) ++ (tl s).take j) ++ [x] := by
            rw [List.take_succ_eq_append_getElem hjl, hat2, List.append_assoc]
          have hfew : (jn (ss.take k) ++ (tl s).take (j + 1)).length ≤ N := by
            have := HLE.out
            rw [HS.out, List.length_append, tl_length] at this
            rw [List.length_append, List.length_take, tl_length]; omega
          obtain ⟨l, hl⟩ : ∃ l, l = jn (ss.take k) ++ (tl s).take j := ⟨_, rfl⟩
          obtain ⟨l2, hl2⟩ : ∃ l2, l2 = jn (ss.take k) ++ (tl s).take (j + 1) := ⟨_, rfl⟩
          rw [← hl, ← hl2] at hsn
          rw [← hl2] at hfew
          rw [← hl] at HB HE
          have HE2 : Hid (EncAt w wr L l2 N m1 (h1 + 8)) := Lib.hid (by
            have e := HE.out
            refine ⟨?_, hfew, ?_, e.below⟩
            · rw [hsn, List.length_append, List.length_singleton]; have := e.bits; omega
            · rw [hsn, encTo_next L l x m1 (by have := e.bits; omega)]; exact e.bld)
          have hv := bv_snoc l x
          rw [← hsn] at hv
          have hxb := x.toNat_lt
          have HO := lo_or8 (bv l) x.toNat (by omega)
          rw [← hv] at HO
          have hsh := lo_shl (bv l) 8
          rw [← HB.out] at hsh
          obtain ⟨B2, hB2⟩ : ∃ B2, B2 = lo (bv l2) := ⟨_, rfl⟩
          rw [← hB2] at HO
          have hBl : B1 < 4294967296 := by rw [HB.out]; exact lo_lt _
          have hB2l : B2 < 4294967296 := by rw [hB2]; exact lo_lt _
          rw [show (2 : Nat) ^ 8 = 256 from rfl] at hsh
          obtain ⟨C, hC⟩ : ∃ C, C = lo (bv l * 256) := ⟨_, rfl⟩
          rw [← hC] at HO hsh
          have e1 : IntKind.u32.wrap ((B1 : Int) * 256) = (C : Int) := by rw [IntKind.wrap_u32]; omega
          have HB2 := Lib.hid hB2
          have HL2 := Lib.hid hl2
          clear hl hl2 hsn hv hB2 hx hat2 HB HE hC hsh
          generalize x.toNat = y at *
          have e2 : IntKind.u32.wrap (y : Int) = (y : Int) := by rw [IntKind.wrap_u32]; omega
          obtain ⟨h2, hh2⟩ : ∃ h2, h2 = h1 + 8 := ⟨_, rfl⟩
          rw [← hh2] at HE2
          have e3 : IntKind.i64.wrap ((h1 : Int) + 8) = (h2 : Int) := by rw [IntKind.wrap_i64]; omega
          have hh3 : h2 ≤ 13 := by omega
          clear hh2
          go_wp2
          go_loopw [7] (fun v7 wr => ∃ (m h : Nat), v7 = .int .i64 (h : Int) ∧ h ≤ 13 ∧ Hid (EncAt w wr L l2 N m h)) (fun v7 _ => (intOf v7).toNat)
          case atStart => exact ⟨m1, h2, rfl, hh3, HE2⟩
          case round =>
            clear HE2
            obtain ⟨m3, h3, rfl, hh3, HE⟩ := hrel
            by_cases h6 : 6 ≤ h3
            · have d1 : decide ((6 : Int) ≤ (h3 : Int)) = true := by simp; omega
              obtain ⟨g, hg⟩ : ∃ g, h3 = g + 6 := ⟨h3 - 6, by omega⟩
              have e4 : IntKind.i64.wrap ((h3 : Int) - 6) = (g : Int) := by rw [IntKind.wrap_i64]; omega
              have hgl : g ≤ 7 := by omega
              obtain ⟨P, hP⟩ : ∃ P, P = B2 / 2 ^ g := ⟨_, rfl⟩
              obtain ⟨R, hR⟩ : ∃ R, R = P % 64 := ⟨_, rfl⟩
              have e5 : (B2 : Int) / 2 ^ g = (P : Int) := by rw [hP]; norm_cast
              have hmin : min g 32 = g := by omega
              have hPl : P < 4294967296 := by rw [hP]; exact Nat.lt_of_le_of_lt (Nat.div_le_self _ _) hB2l
              have e6 : IntKind.u32.wrap (P : Int) = (P : Int) := by rw [IntKind.wrap_u32]; omega
              have e7 : (P : Int) % 64 = (R : Int) := by omega
              have e8 : (P : Int).tmod 64 = (R : Int) := by rw [Int.tmod_eq_emod_of_nonneg (by omega)]; omega
              have e9 : IntKind.u32.wrap (R : Int) = (R : Int) := by rw [IntKind.wrap_u32]; omega
              have r0 : (0 : Int) ≤ (R : Int) := by omega
              have r1 : (R : Int) < 64 := by omega
              have hcR := (HC.out.below HE.out.below HC.out.lt).lett R (by omega)
              have k1 : ∀ tp d os out, (World.mk wr.heap tp d os out).cell? ⟨b, R, none⟩ = some (.int .u8 ((Sx.lt L R).toNat : Int)) := fun _ _ _ _ => hcR
              have HPR := Lib.hid (And.intro hP hR)
              have HG := Lib.hid hg
              clear hP hR hg hcR
              go_wp2
              refine wp_region_still_tail 10 (by kernel_rfl) (by kernel_rfl) ?_
              simp only [List.take_succ_cons, List.take_zero, List.drop_succ_cons, List.drop_zero]
              still_step
              still_step
              still_step
              still_step
              still_step
              still_step
              still_step
              still_step
              still_step
              still_step
              refine wpStill_nil ?_
              change wpList _ _ _ _ _ wr.drew
              have HEd : Hid (EncAt w wr.drew L l2 N m3 h3) := Lib.hid ⟨HE.out.bits, HE.out.few, HE.out.bld.below ((Below.refl _ _).drew), HE.out.below.drew⟩
              clear k1 HE
              generalize wr.drew = w5 at *
              have hroom : 1 ≤ ne N - m3 := by
                have e1 := HEd.out.bits
                have e2 := HEd.out.few
                unfold ne; omega
              have CW := Lib.hid (wbyte_any w.heap.size w.heap.size (encTo L l2 m3) (ne N - m3) (Sx.lt L R) w5 HEd.out.bld (.inl hroom) HEd.out.below.size)
              have HW := Lib.hid HEd.out.below
              have HEB := Lib.hid (And.intro HEd.out.bits HEd.out.few)
              clear hroom HEd
              go_wp2_with fail
              refine CW.out.mono ?_
              rintro e w6 ⟨rfl, q1, q2⟩
              have HE3 : Hid (EncAt w w6 L l2 N (m3 + 1) g) := Lib.hid (by
                have hlt : Sx.lt L R = Sx.lt L (gr l2 m3) := by
                  have e := HEB.out.1
                  have hg := HG.out
                  have hq := lo_div (bv l2) g 6 (by omega)
                  rw [HPR.out.2, HPR.out.1, HB2.out]
                  rw [show (64 : Nat) = 2 ^ 6 from rfl, hq]
                  congr 1
                  unfold gr
                  rw [show 8 * l2.length - 6 * m3 = 6 + g by omega, Nat.pow_add, ← Nat.div_div_eq_div_mul, show (2 : Nat) ^ 6 = 64 from rfl, Nat.mul_div_cancel _ (by decide)]
                refine ⟨by have := HEB.out.1; have := HG.out; omega, HEB.out.2, ?_, HW.out.trans q2⟩
                rw [encTo_snoc, ← hlt, ← Nat.sub_sub]
                exact q1)
              clear q1 q2 CW HW HEB
              go_wp2
              go_roundw
              case rel => exact ⟨m3 + 1, g, by go_num, by omega, HE3⟩
              case measure => simp [intOf]; have := HG.out; omega
            · have d1 : decide ((6 : Int) ≤ (h3 : Int)) = false := by simp; omega
              go_wp2
              go_roundw
              case rel =>
                refine ⟨j + 1, m3, h3, B2, by omega, by go_num, rfl, by omega, rfl, ?_, ?_⟩
                · rw [← HL2.out]; exact HB2
                · rw [← HL2.out]; exact HE
              case measure => simp [intOf]; omega
        · obtain rfl : j = s.size := by omega
          have e : (tl s).take s.size = tl s := List.take_of_length_le (by rw [tl_length]; exact Nat.le_refl _)
          rw [e, ← HS.out] at HB HE
          go_wp2
          go_roundw
          case rel => exact ⟨k + 1, m1, h1, B1, by omega, by go_num, rfl, hh1, rfl, HB, HE⟩
          case measure => simp [intOf]; omega
    · obtain rfl : k = ss.length := by omega
      rw [List.take_length] at HB HE
      have hen : (jn ss).length = N := HN.out.symm
      by_cases h0 : h = 0
      · subst h0
        have hm : m = ne N := by have := HE.out.bits; rw [hen] at this; unfold ne; omega
        have hB := HE.out.bld
        rw [hm, ← hen, ← enc_to] at hB
        have C := Lib.hid (bstring_any hB HE.out.below.size)
        have HW := Lib.hid HE.out.below
        clear hB hm HE HB hlt hen hh
        go_wp2_with fail
        refine C.out.mono ?_
        rintro e w1 ⟨rfl, hb⟩
        have HB := Lib.hid (HW.out.trans hb)
        clear hb
        go_wp2
        go_ret
        exact ⟨rfl, HB.out⟩
      · have d1 : decide ((0 : Int) < (h : Int)) = true := by simp; omega
        obtain ⟨g, hg⟩ : ∃ g, g + h = 6 := ⟨6 - h, by omega⟩
        have e4 : IntKind.i64.wrap (6 - (h : Int)) = (g : Int) := by rw [IntKind.wrap_i64]; omega
        have hgl : g ≤ 5 := by omega
        have hBl : B < 4294967296 := by rw [HB.out]; exact lo_lt _
        obtain ⟨P, hP⟩ : ∃ P, P = B * 2 ^ g % 4294967296 := ⟨_, rfl⟩
        obtain ⟨R, hR⟩ : ∃ R, R = P % 64 := ⟨_, rfl⟩
        have hmin : min g 32 = g := by omega
        have hPl : P < 4294967296 := by rw [hP]; exact Nat.mod_lt _ (by decide)
        have e6 : IntKind.u32.wrap ((B : Int) * 2 ^ g) = (P : Int) := by
          have hc : (B : Int) * 2 ^ g = ((B * 2 ^ g : Nat) : Int) := by rw [Int.natCast_mul, Int.natCast_pow]; rfl
          rw [IntKind.wrap_u32, hc, hP]
          exact (Int.natCast_emod _ _).symm
        have e7 : (P : Int) % 64 = (R : Int) := by omega
        have e8 : (P : Int).tmod 64 = (R : Int) := by rw [Int.tmod_eq_emod_of_nonneg (by omega)]; omega
        have e9 : IntKind.u32.wrap (R : Int) = (R : Int) := by rw [IntKind.wrap_u32]; omega
        have r0 : (0 : Int) ≤ (R : Int) := by omega
        have r1 : (R : Int) < 64 := by omega
        have hcR := (HC.out.below HE.out.below HC.out.lt).lett R (by omega)
        have k1 : ∀ tp d os out, (World.mk wr.heap tp d os out).cell? ⟨b, R, none⟩ = some (.int .u8 ((Sx.lt L R).toNat : Int)) := fun _ _ _ _ => hcR
        have hm : m < ne N := by have := HE.out.bits; rw [hen] at this; unfold ne; omega
        have hm1 : m + 1 = ne N := by have := HE.out.bits; rw [hen] at this; unfold ne; omega
        have hRR : R = gr (jn ss) m := by
          have e := HE.out.bits
          have e64 : bv (jn ss) * 64 / 2 ^ h = bv (jn ss) * 2 ^ g := by
            rw [show (64 : Nat) = 2 ^ g * 2 ^ h by rw [← Nat.pow_add, hg], ← Nat.mul_assoc, Nat.mul_div_cancel _ (Nat.two_pow_pos _)]
          rw [hR, hP, HB.out, lo_shl]
          unfold lo gr
          rw [show 8 * (jn ss).length - 6 * m = h by omega, e64]
          omega
        have hfin : encTo L (jn ss) m ++ [Sx.lt L R] = enc L (jn ss) := by rw [enc_to, hen, ← hm1, encTo_snoc, hRR]
        have HF := Lib.hid hfin
        clear hP hR hcR hRR hfin hm1 HB hlt hh h0
        go_wp2
        refine wp_region_still_tail 10 (by kernel_rfl) (by kernel_rfl) ?_
        simp only [List.take_succ_cons, List.take_zero, List.drop_succ_cons, List.drop_zero]
        repeat still_step
        refine wpStill_nil ?_
        change wpList _ _ _ _ _ wr.drew
        have hb1 : BldR wr.drew w.heap.size w.heap.size (encTo L (jn ss) m) (ne N - m) := HE.out.bld.below ((Below.refl _ _).drew)
        have hw1 : Below w.heap.size w wr.drew := HE.out.below.drew
        clear k1 HE
        generalize wr.drew = w5 at *
        have CW := Lib.hid (wbyte_any w.heap.size w.heap.size (encTo L (jn ss) m) (ne N - m) (Sx.lt L R) w5 hb1 (.inl (by omega)) hw1.size)
        rw [HF.out] at CW
        have HW := Lib.hid hw1
        clear hb1 hw1 HF hen hm
        go_wp2_with fail
        refine CW.out.mono ?_
        rintro e w6 ⟨rfl, q1, q2⟩
        have HW6 := Lib.hid (HW.out.trans q2)
        have C := Lib.hid (bstring_any q1 HW6.out.size)
        clear q1 q2 CW HW
        go_wp2_with fail
        refine C.out.mono ?_
        rintro e w1 ⟨rfl, hb⟩
        have HB := Lib.hid (HW6.out.trans hb)
        clear hb
        go_wp2
        go_ret
        exact ⟨rfl, HB.out⟩
end Go.Proofs.Ytjknpbaegnkdnaa

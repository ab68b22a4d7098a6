/- The law RomixMixes by the calls' contracts. Conditions: the table of package salsa reads as it was laid; words are words. -/
import Derived.Test.YtohmkhmanidljaaDoorRmAwake
import Derived.Deep.QuietTactic
import Derived.BigQuiet
namespace Go.Proofs.YtohmkhmanidljaaDoor
set_option maxRecDepth 50000
open Go.RowKit Bb Sl Sf Rm

set_option maxHeartbeats 6400000 in
theorem mixes24_any (bl r : Int) (ws : List Nat) (A : Option Addr) (c : Nat) (k log first : Int) (w : World) (hq : QAt w) (hw : Reads w w.heap.size A (u32s ws)) (hwo : okw ws) :
    Calls Tryd.prog 3 #[.int .i64 bl, .int .i64 r, .slice A ws.length c, .int .i64 k, .int .i64 log, .int .i64 first] w fun e w' => e = .returned (.bool true) ∧ Below w.heap.size w w' := by
  have CA := Lib.hid (awake24_any w hq)
  have hb : decide (bl < 0) = true ∨ (decide (bl < 0) = false ∧ decide (12 < bl) = true) ∨ (decide (bl < 0) = false ∧ decide (12 < bl) = false ∧ 0 ≤ bl ∧ bl ≤ 12) := by simp; omega
  have hr : decide (r < 1) = true ∨ (decide (r < 1) = false ∧ decide (3 < r) = true) ∨ (decide (r < 1) = false ∧ decide (3 < r) = false ∧ 1 ≤ r ∧ r ≤ 3) := by simp; omega
  have hl : (decide ((100 : Int) < (ws.length : Int)) = true ∧ decide (100 < ws.length) = true) ∨ (decide ((100 : Int) < (ws.length : Int)) = false ∧ decide (100 < ws.length) = false ∧ ws.length ≤ 100) := by simp; omega
  have HQ := Lib.hid hq
  have HW := Lib.hid hw
  have HO := Lib.hid hwo
  clear hq hw hwo
  have hcase : (decide (bl < 0) = true) ∨ (decide (bl < 0) = false ∧ decide (12 < bl) = true) ∨ (decide (bl < 0) = false ∧ decide (12 < bl) = false ∧ 0 ≤ bl ∧ bl ≤ 12 ∧ decide (r < 1) = true) ∨ (decide (bl < 0) = false ∧ decide (12 < bl) = false ∧ 0 ≤ bl ∧ bl ≤ 12 ∧ decide (r < 1) = false ∧ decide (3 < r) = true) ∨ (decide (bl < 0) = false ∧ decide (12 < bl) = false ∧ 0 ≤ bl ∧ bl ≤ 12 ∧ decide (r < 1) = false ∧ decide (3 < r) = false ∧ 1 ≤ r ∧ r ≤ 3) := by
    rcases hb with h | h | h
    · exact .inl h
    · exact .inr (.inl h)
    · rcases hr with h' | h' | h'
      · exact .inr (.inr (.inl ⟨h.1, h.2.1, h.2.2.1, h.2.2.2, h'⟩))
      · exact .inr (.inr (.inr (.inl ⟨h.1, h.2.1, h.2.2.1, h.2.2.2, h'⟩)))
      · exact .inr (.inr (.inr (.inr ⟨h.1, h.2.1, h.2.2.1, h.2.2.2, h'⟩)))
  clear hb hr
  rcases hcase with d1 | ⟨d1, d2⟩ | ⟨d1, d2, d3, d4, d5⟩ | ⟨d1, d2, d3, d4, d5, d6⟩ | ⟨d1, d2, d3, d4, d5, d6, d7, d8⟩
  rotate_right
  · rcases hl with ⟨g1, g2⟩ | ⟨g1, g2, g3⟩
    · go_enter Tryd.func3, Tryd.ntmps3
      go_wp2_with fail
      refine CA.out.mono ?_; rintro e w1 ⟨rfl, b1⟩
      have B1 := Lib.hid b1
      go_wp2
      go_ret
      exact ⟨rfl, B1.out⟩
    obtain ⟨n, rfl⟩ : ∃ n : Nat, bl = (n : Int) := ⟨bl.toNat, by omega⟩
    obtain ⟨r, rfl⟩ : ∃ q : Nat, r = (q : Int) := ⟨r.toNat, by omega⟩
    have hn : n ≤ 12 := by omega
    have h1 : 1 ≤ r := by omega
    have h2 : r ≤ 512 := by omega
    have CS := Lib.hid fun (w1 : World) (b1 : Below w.heap.size w w1) => store_any (w := w1) (c := c) hn h1 h2 ((HW.out.below b1).more b1.size) (by omega) HO.out
    go_enter Tryd.func3, Tryd.ntmps3
    go_wp2_with fail
    refine CA.out.mono ?_; rintro e w1 ⟨rfl, b1⟩
    have HQ1 := Lib.hid (And.intro (HQ.out.next b1) b1)
    have CS1 := Lib.hid (CS.out w1 b1)
    clear b1 CA CS HQ
    go_wp2_with fail
    refine CS1.out.mono ?_
    rintro e w2 ⟨s, p, a, g, X, rfl, S2, hg, b2⟩
    have hR := S2.rows
    have hlen := S2.len
    have CR := Lib.hid fun (q : Nat) => rows_any (S2.drewN q).row (S2.drewN q).pce S2.r1 S2.r2 S2.n1
    have H2 := Lib.hid (And.intro (HQ1.out.1.next b2) (And.intro S2 (And.intro (HQ1.out.2.trans (b2.mono HQ1.out.2.size)) (Nat.le_trans HQ1.out.2.size hg))))
    have e1 : (n : Int) * 256 = ((n * 256 : Nat) : Int) := by omega
    have e2 : (32 : Int) * (r : Int) = ((32 * r : Nat) : Int) := by omega
    have hN : n * 256 ≤ 3072 := by omega
    have hU : 32 * r ≤ 96 := by omega
    have hU1 : 1 ≤ 32 * r := by omega
    rw [← hlen] at CR
    have q1 : ((n * 256 : Nat) : Int) / ((32 * r : Nat) : Int) = (X.length : Int) := by rw [hlen]; rfl
    have q2 : ((n * 256 : Nat) : Int).tdiv ((32 * r : Nat) : Int) = (X.length : Int) := by rw [hlen]; rfl
    generalize n * 256 = N at *
    generalize 32 * r = U at *
    have hw1 : IntKind.i64.wrap (N : Int) = (N : Int) := IntWalk.i64_in _ (by omega)
    have hw2 : IntKind.i64.wrap (U : Int) = (U : Int) := IntWalk.i64_in _ (by omega)
    have hw3 : IntKind.i64.wrap (X.length : Int) = (X.length : Int) := IntWalk.i64_in _ (by omega)
    have u0 : ¬ U = 0 := by omega
    clear CS1 HQ1 S2 hg b2 hlen
    obtain ⟨R, hXR⟩ : ∃ R, X.length = R := ⟨_, rfl⟩
    rw [hXR] at CR q1 q2 hw3 hR
    have HXR := Lib.hid hXR
    clear hXR
    have e3 : ((R : Int) != (R : Int)) = false := by simp
    have e4 : ((R : Int) == (R : Int)) = true := by simp
    go_wp2
    go_quiet (refine Calls.quiet_of_same (CR.out _))
    have hbq : Below w2.heap.size w2 (w2.drewN nq) := below_drewN (Below.refl _ _) nq
    have H3 := Lib.hid (And.intro (H2.out.1.next hbq) (And.intro (H2.out.2.1.drewN nq) (And.intro (H2.out.2.2.1.trans (hbq.mono H2.out.2.2.1.size)) H2.out.2.2.2)))
    clear H2 CR hbq
    generalize w2.drewN nq = w3 at *
    have CL := Lib.hid (all_any H3.out.2.1 (by have := HXR.out; omega))
    go_wp2_with fail
    refine CL.out.mono ?_
    rintro e w4 ⟨v, cs, rfl, L4, b4⟩
    have S4 := H3.out.2.1.step b4
    have H4 := Lib.hid (And.intro (H3.out.1.next b4) (And.intro S4 (And.intro (H3.out.2.2.1.trans (b4.mono H3.out.2.2.1.size)) (And.intro H3.out.2.2.2 (And.intro L4 b4.size)))))
    clear CL H3 L4 b4 S4
    by_cases hwhy : whyN R k log first = 0
    · obtain ⟨kn, lg, fn, rfl, rfl, rfl, hk, hlg, hf, _⟩ := why_ok hwhy
      have HXR2 := HXR.out
      obtain ⟨p1, p2⟩ := pow_ge lg hlg
      have CM := Lib.hid (smix_in H4.out.2.1 H4.out.1 kn lg fn (by rw [HXR2]; exact hk) hlg (by rw [HXR2]; exact hf) (by rw [HXR2]; exact hwhy))
      have CY := fun w => rwhy_any R (by omega) (kn : Int) (lg : Int) (fn : Int) w
      rw [hwhy] at CY
      have CY := Lib.hid CY
      have hg4 := H4.out.2.2.2.1
      have hsh : IntKind.i64.wrap (1 * 2 ^ lg) = ((2 ^ lg : Nat) : Int) := by rw [show (1 : Int) * 2 ^ lg = ((2 ^ lg : Nat) : Int) by simp, IntKind.wrap_i64]; omega
      have hsh2 : IntKind.i64.wrap (2 ^ lg) = ((2 ^ lg : Nat) : Int) := by rw [show (2 : Int) ^ lg = ((2 ^ lg : Nat) : Int) by simp, IntKind.wrap_i64]; omega
      have hmin : min lg 64 = lg := by omega
      have hwl : IntKind.u64.wrap (lg : Int) = (lg : Int) := by rw [IntKind.wrap_u64]; omega
      have HRK := Lib.hid H4.out.2.1.rok
      have HML := Lib.hid (mixX_length r kn (2 ^ lg) fn inN X)
      have CF := Lib.hid fun (w6 : World) (v : Value) (hv : Rws w6 w6.heap.size v X) => rmix24_any h1 h2 hv (by omega) H4.out.2.1.rok kn (2 ^ lg) fn (by omega) p1 (by omega)
      obtain ⟨N2, hN2⟩ : ∃ N2, 2 ^ lg = N2 := ⟨_, rfl⟩
      rw [hN2] at hsh hsh2 HML CF CM
      clear hN2 hwhy p1 p2 hk hf HXR2
      go_wp2_with fail
      refine CM.out.mono ?_
      rintro e w5 ⟨rfl, S5, K5, Q5⟩
      have CR := rows_any S5.row S5.pce S5.r1 S5.r2 S5.n1
      rw [← S5.len, HML.out, HXR.out] at CR
      have CR := Lib.hid CR
      have CL := Lib.hid (all_any S5 (by have := HXR.out; have := HML.out; omega))
      have HRK5 := Lib.hid S5.rok
      obtain ⟨W, _, hW, _⟩ := H4.out.2.1.mem
      have L5 := (H4.out.2.2.2.2.1.kept hW K5 (Nat.le_refl _)).more K5.size
      have H5 := Lib.hid (And.intro (H4.out.2.2.1.trans (K5.below H4.out.2.2.1.size fun x e => by rw [e]; exact hg4)) L5)
      clear CM S5 K5 Q5 hW L5 H4 hg4
      generalize mixX r kn N2 fn inN X = X2 at *
      go_wp2_with fail
      refine CR.out.mono ?_; rintro e w' ⟨rfl, hw⟩; obtain rfl := hw.symm; clear hw CR
      go_wp2_with fail
      refine (CY.out _).mono ?_; rintro e w' ⟨rfl, hw⟩; obtain rfl := hw.symm; clear hw CY
      go_wp2_with fail
      refine CL.out.mono ?_
      rintro e w6 ⟨v2, cs2, rfl, L6, b6⟩
      have CF6 := Lib.hid (CF.out w6 v ((H5.out.2.below b6).reads.more b6.size))
      have H6 := Lib.hid (And.intro (H5.out.1.trans (b6.mono H5.out.1.size)) L6)
      clear CL H5 b6 L6 CF
      go_wp2_with fail
      refine CF6.out.mono ?_
      rintro e w7 ⟨v3, cs3, rfl, L7, b7⟩
      have CX := same_any (H6.out.2.below b7).reads L7.reads (by have := HXR.out; have := HML.out; omega) (fun i hi => by rw [(HRK5.out i hi).1]; omega) (fun i hi => by rw [(HRK5.out i hi).1]; omega)
      rw [decide_eq_true rfl] at CX
      have CX := Lib.hid CX
      have H7 := Lib.hid (H6.out.1.trans (b7.mono H6.out.1.size))
      clear L7 b7 CF6 H6
      go_wp2_with fail
      refine CX.out.mono ?_
      rintro e w8 ⟨rfl, q, rfl⟩
      go_wp2
      go_ret
      exact ⟨rfl, below_drewN H7.out q⟩
    · have CU := unmix_any H4.out.2.1 k log first
      rw [HXR.out] at CU
      have CM := Lib.hid (smix_bad_way _ hwhy _ _ _ _ w4 CU)
      have CY := Lib.hid fun w => rwhy_any R (by omega) k log first w
      clear CU
      have z1 : (whyN R k log first != 0) = true := by simpa using hwhy
      have z2 : (whyN R k log first == 0) = false := by simpa using hwhy
      generalize whyN R k log first = z at *
      clear hwhy
      go_wp2_with fail
      refine CM.out.mono ?_
      rintro e w5 ⟨rfl, b5⟩
      have CR := rows_any (H4.out.2.1.step b5).row (H4.out.2.1.step b5).pce (H4.out.2.1.step b5).r1 (H4.out.2.1.step b5).r2 (H4.out.2.1.step b5).n1
      rw [← (H4.out.2.1.step b5).len, HXR.out] at CR
      have CR := Lib.hid CR
      have CL := Lib.hid (all_any (H4.out.2.1.step b5) (by have := HXR.out; omega))
      have L5 := (H4.out.2.2.2.2.1.below b5).more b5.size
      have H5 := Lib.hid (And.intro (H4.out.2.2.1.trans (b5.mono H4.out.2.2.1.size)) L5)
      have HRK := Lib.hid H4.out.2.1.rok
      clear CM b5 L5 H4
      go_wp2_with fail
      refine CR.out.mono ?_; rintro e w' ⟨rfl, hw⟩; obtain rfl := hw.symm; clear hw CR
      go_wp2_with fail
      refine (CY.out _).mono ?_; rintro e w' ⟨rfl, hw⟩; obtain rfl := hw.symm; clear hw CY
      go_wp2_with fail
      refine CL.out.mono ?_
      rintro e w6 ⟨v2, cs2, rfl, L6, b6⟩
      have CX := same_any L6.reads (H5.out.2.below b6).reads (by have := HXR.out; omega) (fun i hi => by rw [(HRK.out i hi).1]; omega) (fun i hi => by rw [(HRK.out i hi).1]; omega)
      rw [decide_eq_true rfl] at CX
      have CX := Lib.hid CX
      have H6 := Lib.hid (H5.out.1.trans (b6.mono H5.out.1.size))
      clear L6 b6 CL H5
      go_wp2_with fail
      refine CX.out.mono ?_
      rintro e w7 ⟨rfl, q, rfl⟩
      go_wp2
      go_ret
      exact ⟨rfl, below_drewN H6.out q⟩
  all_goals
    go_enter Tryd.func3, Tryd.ntmps3
    go_wp2_with fail
    refine CA.out.mono ?_; rintro e w1 ⟨rfl, b1⟩
    have B1 := Lib.hid b1
    go_wp2
    go_ret
    exact ⟨rfl, B1.out⟩

theorem mixes24_n (bl r : Int) (ws : List Nat) (A : Option Addr) (m c : Nat) (hm : ws.length = m) (k log first : Int) (w : World) (hq : QAt w) (hw : Reads w w.heap.size A (u32s ws)) (hwo : okw ws) :
    Calls Tryd.prog 3 #[.int .i64 bl, .int .i64 r, .slice A m c, .int .i64 k, .int .i64 log, .int .i64 first] w fun e w' => e = .returned (.bool true) ∧ Below w.heap.size w w' := by
  subst hm
  exact mixes24_any bl r ws A c k log first w hq hw hwo
end Go.Proofs.YtohmkhmanidljaaDoor

/- A Mac in memory: its two Hashes; padded, masked, New by their contracts. Conditions: those typed. -/
import Derived.Test.YtebocfbnamcnoaaDoorMxPure
import Derived.Test.YtebocfbnamcnoaaDoorLib
import Derived.Test.YtebocfbnamcnoaaDoorSway
import Derived.Test.YtebocfbnamcnoaaDoorShParts
namespace Go.Proofs.YtebocfbnamcnoaaDoor
set_option maxRecDepth 50000
open Go.RowKit Sha

theorem rep_any (b : UInt8) (c : Nat) (hc : c ≤ 1000000) (w : World) : Calls Tryd.prog 34 #[.string ⟨#[b]⟩, .int .i64 (c : Int)] w fun e w' => e = .returned (.string (tx (List.replicate c b))) ∧ Below w.heap.size w w' := by
  have e : Lib.repeatL [b] c = List.replicate c b := by
    have := Lib.repeatL_replicate b 1 c
    simpa using this
  refine (strings_Repeat ⟨#[b]⟩ c w (by omega) (by show 1 * c ≤ _; omega)).mono ?_
  rintro e' w' ⟨rfl, hb⟩
  refine ⟨?_, hb⟩
  rw [← e]
  rfl

set_option maxHeartbeats 800000 in
theorem padded_any (s : ByteArray) (hs : s.size ≤ 100000) (w : World) (hk : KAt w) : Calls Tryd.prog 21 #[.string s] w fun e w' => e = .returned (.string (tx (keyL (tl s)))) ∧ Below w.heap.size w w' := by
  by_cases h64 : 64 < s.size
  · have hcut : cutK (tl s) = shaL (tl s) := by unfold cutK; rw [tl_length, if_pos h64]
    have HA : Hid (Below w.heap.size w (w.alloc (.cells #[.string s] 9))) := Lib.hid ((Below.refl _ w).alloc (Nat.le_refl _) _)
    have C := shaof_any (w.alloc (.cells #[.string s] 9)) (hk.next HA.out) (some ⟨w.heap.size, 0, none⟩) 1 [s] (fun k hk => by
      have hk0 : k = 0 := by simp [stv] at hk; omega
      subst hk0
      exact ⟨w.heap.size, 0, rfl, by simp, by rw [cell_of_row _ _ _ _ _ (0, 0) (heap_alloc_last w _)]; rfl⟩) (by rw [jn_one, tl_length]; omega) (by simp)
    rw [jn_one] at C
    have hd : (shaL (tl s)).length = 32 := shaL_length _
    have HE : Hid (keyL (tl s) = shaL (tl s) ++ List.replicate 32 0) := Lib.hid (by unfold keyL; rw [hcut, hd])
    generalize shaL (tl s) = D at *
    obtain ⟨S, hS⟩ : ∃ S, S = tx D := ⟨_, rfl⟩
    rw [← hS] at C
    have f1 : S.size = 32 := by rw [hS, tx_size, hd]
    have CC := Lib.hid C
    have HS := Lib.hid hS
    have q1 : (64 : Int) - (S.size : Int) = ((32 : Nat) : Int) := by rw [f1]; rfl
    obtain ⟨R, hR⟩ : ∃ R, R = tx (List.replicate 32 0) := ⟨_, rfl⟩
    have HR := Lib.hid hR
    have hRs : R.size = 32 := by rw [hR]; rfl
    have CR := Lib.hid fun w1 => rep_any 0 32 (by omega) w1
    rw [← hR] at CR
    clear C hS hcut hd hk hR
    go_enter Tryd.func21, Tryd.ntmps21
    go_wp2_with fail
    refine CC.out.mono ?_
    rintro e w1 ⟨rfl, hb⟩
    have HB := Lib.hid (below_step HA.out hb)
    clear hb
    go_wp2_with fail
    refine (CR.out w1).mono ?_
    rintro e w2 ⟨rfl, hb⟩
    have HB2 := Lib.hid (below_step HB.out hb)
    clear hb
    go_wp2
    go_ret
    exact ⟨by show Ending.returned (.string (S ++ R)) = _; rw [HE.out, tx_append, HS.out, HR.out], HB2.out⟩
  · have hcut : cutK (tl s) = tl s := by unfold cutK; rw [tl_length, if_neg h64]
    obtain ⟨c, hc⟩ : ∃ c, c = 64 - s.size := ⟨_, rfl⟩
    have HE : Hid (keyL (tl s) = tl s ++ List.replicate c 0) := Lib.hid (by unfold keyL; rw [hcut, tl_length, hc])
    have q1 : (64 : Int) - (s.size : Int) = (c : Int) := by omega
    have hcb : c ≤ 64 := by omega
    obtain ⟨R, hR⟩ : ∃ R, R = tx (List.replicate c 0) := ⟨_, rfl⟩
    have HR := Lib.hid hR
    have hRs : R.size = c := by rw [hR, tx_size, List.length_replicate]
    have CR := Lib.hid fun w1 => rep_any 0 c (by omega) w1
    rw [← hR] at CR
    clear hc hcut hk hR
    go_enter Tryd.func21, Tryd.ntmps21
    go_wp2_with fail
    refine (CR.out w).mono ?_
    rintro e w2 ⟨rfl, hb⟩
    have HB2 := Lib.hid hb
    clear hb
    go_wp2
    go_ret
    exact ⟨by show Ending.returned (.string (s ++ R)) = _; rw [HE.out, tx_append, tx_tl, HR.out], HB2.out⟩

set_option maxHeartbeats 800000 in
theorem masked_any (Bk : List UInt8) (hB : Bk.length ≤ 1000) (m : UInt8) (w : World) (hk : KAt w) : Calls Tryd.prog 22 #[.string (tx Bk), .string ⟨#[m]⟩] w fun e w' => ∃ H, e = .returned (.pointer (some ⟨H, 0, none⟩)) ∧ HashIs w' w.heap.size w'.heap.size H (mskL m Bk) ∧ Below w.heap.size w w' := by
  obtain ⟨S, hS⟩ : ∃ S, S = tx Bk := ⟨_, rfl⟩
  have hsz : S.size = Bk.length := by rw [hS, tx_size]
  obtain ⟨R, hR⟩ : ∃ R, R = tx (List.replicate S.size m) := ⟨_, rfl⟩
  have hRs : R.size = S.size := by rw [hR, tx_size, List.length_replicate]
  have hX : xorB (tl S) (tl R) = mskL m Bk := by rw [hR, tl_tx, hsz, hS, tl_tx, mskL_xorB]
  have CR := Lib.hid (rep_any m S.size (by omega) w)
  rw [← hR] at CR
  have hSb : S.size ≤ 1000 := by omega
  have HRS := Lib.hid hRs
  obtain ⟨Y, hY⟩ : ∃ Y, Y = mskL m Bk := ⟨_, rfl⟩
  have HM := Lib.hid (show Y.length ≤ 1000 by rw [hY, mskL_length]; exact hB)
  rw [← hY] at hX ⊢
  have HX := Lib.hid hX
  have HK := Lib.hid hk
  rw [← hS]
  have hw0 : 0 < w.heap.size := hk.1
  clear hS hsz hR hRs hX hk hB hY
  go_enter Tryd.func22, Tryd.ntmps22
  go_wp2_with fail
  refine CR.out.mono ?_
  rintro e w1 ⟨rfl, hb⟩
  have HB1 := Lib.hid hb
  clear hb
  have HA : Hid (Below w1.heap.size w1 (w1.alloc (.cells #[.string S, .string R] 9))) := Lib.hid ((Below.refl _ w1).alloc (Nat.le_refl _) _)
  have C := Lib.hid (xor_two (some ⟨w1.heap.size, 0, none⟩) 2 S R (w1.alloc (.cells #[.string S, .string R] 9)) (fun k hk => by
    have hk2 : k < 2 := by simpa [stv] using hk
    refine ⟨w1.heap.size, 0, rfl, by simp, ?_⟩
    rw [cell_of_row _ _ _ _ _ (0, 0) (heap_alloc_last w1 _)]
    rcases (by omega : k = 0 ∨ k = 1) with rfl | rfl <;> rfl) (Nat.le_refl _) HRS.out hSb)
  rw [HX.out] at C
  go_wp2_with fail
  refine C.out.mono ?_
  rintro e w2 ⟨rfl, hb⟩
  have HB2 := Lib.hid (below_step HB1.out (below_step HA.out hb))
  clear hb C HA
  go_wp2_with fail
  refine (newhash_any w2).mono ?_
  rintro e w3 ⟨H, rfl, h3, b3⟩
  have HB3 := Lib.hid (below_step HB2.out b3)
  have hw2 : 0 < w2.heap.size := by have := HB2.out.size; omega
  have C2 := Lib.hid (add_one w3 _ _ H [] h3 (HK.out.next HB3.out) hw2 (tx Y) (by have := HM.out; rw [tx_size]; simp; omega))
  have hle := HB2.out.size
  clear h3 b3 HM hw2 hw0
  go_wp2_with fail
  refine C2.out.mono ?_
  rintro e w4 ⟨rfl, h4, b4⟩
  rw [List.nil_append, tl_tx] at h4
  have H4 := Lib.hid h4
  have HB4 := Lib.hid b4
  clear h4 b4
  go_wp2
  go_ret
  have B4 := HB3.out.trans (HB4.out.mono hle)
  exact ⟨_, rfl, H4.out.mono hle (Nat.le_refl _) (Nat.le_refl _), B4⟩

/-- a Mac under the key K to which these bytes came -/
def MacIs (w : World) (M : Nat) (K X : List UInt8) : Prop := ∃ H O B T B2 T2, w.heap[M]? = some (.cells #[.pointer (some ⟨H, 0, none⟩), .pointer (some ⟨O, 0, none⟩)] 54 (0, 0)) ∧ HashIs w B T H (inK K ++ X) ∧ HashIs w B2 T2 O (outK K)
theorem MacIs.below {w w' : World} {M : Nat} {K X : List UInt8} (h : MacIs w M K X) (hb : Below w.heap.size w w') : MacIs w' M K X := by
  obtain ⟨H, O, B, T, B2, T2, h1, h2, h3⟩ := h
  exact ⟨H, O, B, T, B2, T2, (hb.block M (Array.getElem?_eq_some_iff.1 h1).1).trans h1, h2.below hb, h3.below hb⟩

set_option maxHeartbeats 800000 in
theorem newmac_any (s : ByteArray) (hs : s.size ≤ 100000) (w : World) (hk : KAt w) : Calls Tryd.prog 13 #[.string s] w fun e w' => ∃ M, e = .returned (.pointer (some ⟨M, 0, none⟩)) ∧ MacIs w' M (tl s) [] ∧ Below w.heap.size w w' := by
  have HK := Lib.hid hk
  have C := Lib.hid (padded_any s hs w hk)
  have hkl := keyL_length (tl s)
  have HI : Hid (inK (tl s) ++ [] = mskL 54 (keyL (tl s))) := Lib.hid (by rw [List.append_nil]; rfl)
  have HO : Hid (outK (tl s) = mskL 92 (keyL (tl s))) := Lib.hid rfl
  unfold MacIs
  rw [HI.out, HO.out]
  generalize keyL (tl s) = Bk at *
  clear HI HO hk
  have HL := Lib.hid (show Bk.length ≤ 1000 by omega)
  clear hkl
  go_enter Tryd.func13, Tryd.ntmps13
  go_wp2_with fail
  refine C.out.mono ?_
  rintro e w1 ⟨rfl, b1⟩
  have B1 := Lib.hid b1
  clear b1
  go_wp2_with fail
  refine (masked_any Bk HL.out 54 w1 (HK.out.next B1.out)).mono ?_
  rintro e w2 ⟨H, rfl, h2, b2⟩
  have H2 := Lib.hid h2
  have B2 := Lib.hid (below_step B1.out b2)
  clear h2 b2
  go_wp2_with fail
  refine (masked_any Bk HL.out 92 w2 (HK.out.next B2.out)).mono ?_
  rintro e w3 ⟨O, rfl, h3, b3⟩
  have H3 := Lib.hid h3
  have H2' := Lib.hid (H2.out.below b3)
  have B3 := Lib.hid (below_step B2.out b3)
  clear h3 b3
  go_wp2
  go_ret
  have B4 : Below w3.heap.size w3 (w3.alloc (.cells #[.pointer (some ⟨H, 0, none⟩), .pointer (some ⟨O, 0, none⟩)] 54)) := (Below.refl _ w3).alloc (Nat.le_refl _) _
  exact ⟨w3.heap.size, rfl, ⟨H, O, _, _, _, _, heap_alloc_last w3 _, H2'.out.below B4, H3.out.below B4⟩, below_step B3.out B4⟩
end Go.Proofs.YtebocfbnamcnoaaDoor

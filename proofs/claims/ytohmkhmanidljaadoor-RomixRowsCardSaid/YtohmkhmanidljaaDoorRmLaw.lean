/- The law RomixRows by the calls' contracts. Conditions: the table of package salsa reads as it was laid; words are words. -/
import Derived.Test.YtohmkhmanidljaaDoorRmTake
namespace Go.Proofs.YtohmkhmanidljaaDoor
set_option maxRecDepth 50000
open Go.RowKit Bb Sl Sf Rm

set_option maxHeartbeats 12800000 in
theorem rows24_any (bl r : Int) (ws : List Nat) (A : Option Addr) (c : Nat) (k other : Int) (w : World) (hq : QAt w) (hw : Reads w w.heap.size A (u32s ws)) (hwo : okw ws) :
    Calls Tryd.prog 4 #[.int .i64 bl, .int .i64 r, .slice A ws.length c, .int .i64 k, .int .i64 other] w fun e w' => e = .returned (.bool true) ∧ Below w.heap.size w w' := by
  have CA := Lib.hid (awake24_any w hq)
  have CN1 := Lib.hid fun w => row_bad_way 11 (by decide) none k w (sfault_nil k w)
  have CN2 := Lib.hid fun w => rnew_nil r w
  have CN3 := Lib.hid fun w => put_bad_way 11 (by decide) none k (.slice A ws.length c) w (sfault_nil k w)
  have CN4 := Lib.hid fun w => smix_bad_way 11 (by decide) none k 1 0 w ((unmix_nil k 1 0 w).mono fun e w' h => ⟨h.1, by rw [h.2]; exact Below.refl _ _⟩)
  have CN5 := Lib.hid fun w => rows_nil w
  have HQ := Lib.hid hq
  have HW := Lib.hid hw
  have HO := Lib.hid hwo
  clear hq hw hwo
  have hcase : (decide (bl < 0) = true) ∨ (decide (bl < 0) = false ∧ decide (12 < bl) = true) ∨ (decide (bl < 0) = false ∧ decide (12 < bl) = false ∧ 0 ≤ bl ∧ bl ≤ 12) := by simp; omega
  have hl : (decide ((600 : Int) < (ws.length : Int)) = true ∧ decide (600 < ws.length) = true) ∨ (decide ((600 : Int) < (ws.length : Int)) = false ∧ decide (600 < ws.length) = false ∧ ws.length ≤ 600) := by simp; omega
  have hr : decide (r < 1) = true ∨ (decide (r < 1) = false ∧ decide (512 < r) = true) ∨ (decide (r < 1) = false ∧ decide (512 < r) = false ∧ 1 ≤ r ∧ r ≤ 512) := by simp; omega
  rcases hcase with d1 | ⟨d1, d2⟩ | ⟨d1, d2, d3, d4⟩
  · clear hl hr
    go_enter Tryd.func4, Tryd.ntmps4
    go_wp2_with fail
    refine CA.out.mono ?_; rintro e w1 ⟨rfl, b1⟩
    have B1 := Lib.hid b1
    clear b1
    go_wp2_with fail
    refine (CN1.out w1).mono ?_; rintro e w' ⟨rfl, hw⟩; obtain rfl := hw.symm; clear hw
    go_wp2_with fail
    refine (CN2.out w1).mono ?_; rintro e w' ⟨rfl, hw⟩; obtain rfl := hw.symm; clear hw
    go_wp2_with fail
    refine (CN3.out w1).mono ?_; rintro e w' ⟨rfl, hw⟩; obtain rfl := hw.symm; clear hw
    go_wp2_with fail
    refine (CN4.out w1).mono ?_; rintro e w2 ⟨rfl, b2⟩
    have B2 := Lib.hid (B1.out.trans (b2.mono B1.out.size))
    have HQ2 := Lib.hid ((HQ.out.next B1.out).next b2)
    clear B1 b2
    go_wp2_with fail
    refine (CN5.out w2).mono ?_; rintro e w' ⟨rfl, hw⟩; obtain rfl := hw.symm; clear hw

    go_wp2
    go_ret
    exact ⟨rfl, B2.out⟩
  · clear hl hr
    go_enter Tryd.func4, Tryd.ntmps4
    go_wp2_with fail
    refine CA.out.mono ?_; rintro e w1 ⟨rfl, b1⟩
    have B1 := Lib.hid b1
    clear b1
    go_wp2_with fail
    refine (CN1.out w1).mono ?_; rintro e w' ⟨rfl, hw⟩; obtain rfl := hw.symm; clear hw
    go_wp2_with fail
    refine (CN2.out w1).mono ?_; rintro e w' ⟨rfl, hw⟩; obtain rfl := hw.symm; clear hw
    go_wp2_with fail
    refine (CN3.out w1).mono ?_; rintro e w' ⟨rfl, hw⟩; obtain rfl := hw.symm; clear hw
    go_wp2_with fail
    refine (CN4.out w1).mono ?_; rintro e w2 ⟨rfl, b2⟩
    have B2 := Lib.hid (B1.out.trans (b2.mono B1.out.size))
    have HQ2 := Lib.hid ((HQ.out.next B1.out).next b2)
    clear B1 b2
    go_wp2_with fail
    refine (CN5.out w2).mono ?_; rintro e w' ⟨rfl, hw⟩; obtain rfl := hw.symm; clear hw

    go_wp2
    go_ret
    exact ⟨rfl, B2.out⟩
  rcases hl with ⟨g1, g2⟩ | ⟨g1, g2, g3⟩
  · clear hr
    go_enter Tryd.func4, Tryd.ntmps4
    go_wp2_with fail
    refine CA.out.mono ?_; rintro e w1 ⟨rfl, b1⟩
    have B1 := Lib.hid b1
    clear b1
    go_wp2_with fail
    refine (CN1.out w1).mono ?_; rintro e w' ⟨rfl, hw⟩; obtain rfl := hw.symm; clear hw
    go_wp2_with fail
    refine (CN2.out w1).mono ?_; rintro e w' ⟨rfl, hw⟩; obtain rfl := hw.symm; clear hw
    go_wp2_with fail
    refine (CN3.out w1).mono ?_; rintro e w' ⟨rfl, hw⟩; obtain rfl := hw.symm; clear hw
    go_wp2_with fail
    refine (CN4.out w1).mono ?_; rintro e w2 ⟨rfl, b2⟩
    have B2 := Lib.hid (B1.out.trans (b2.mono B1.out.size))
    have HQ2 := Lib.hid ((HQ.out.next B1.out).next b2)
    clear B1 b2
    go_wp2_with fail
    refine (CN5.out w2).mono ?_; rintro e w' ⟨rfl, hw⟩; obtain rfl := hw.symm; clear hw

    go_wp2
    go_ret
    exact ⟨rfl, B2.out⟩
  obtain ⟨n, rfl⟩ : ∃ n : Nat, bl = (n : Int) := ⟨bl.toNat, by omega⟩
  have hn : n ≤ 12 := by omega
  have hbad : ∀ (f1 : decide (r < 1) = true ∨ (decide (r < 1) = false ∧ decide (512 < r) = true)), Calls Tryd.prog 4 #[.int .i64 (n : Int), .int .i64 r, .slice A ws.length c, .int .i64 k, .int .i64 other] w fun e w' => e = .returned (.bool true) ∧ Below w.heap.size w w' := fun f1 => by
    have CR := Lib.hid fun p w => rnew_bad p r (by rcases f1 with h | h <;> simp at h <;> omega) w
    clear hr
    rcases f1 with f1 | ⟨f1, f2⟩
    all_goals
      go_enter Tryd.func4, Tryd.ntmps4
      go_wp2_with fail
      refine CA.out.mono ?_; rintro e w1 ⟨rfl, b1⟩
      have B1 := Lib.hid b1
      clear b1
      go_wp2_with fail
      refine (CN1.out w1).mono ?_; rintro e w' ⟨rfl, hw⟩; obtain rfl := hw.symm; clear hw
      go_wp2_with fail
      refine (CN2.out w1).mono ?_; rintro e w' ⟨rfl, hw⟩; obtain rfl := hw.symm; clear hw
      go_wp2_with fail
      refine (CN3.out w1).mono ?_; rintro e w' ⟨rfl, hw⟩; obtain rfl := hw.symm; clear hw
      go_wp2_with fail
      refine (CN4.out w1).mono ?_; rintro e w2 ⟨rfl, b2⟩
      have B2 := Lib.hid (B1.out.trans (b2.mono B1.out.size))
      have HQ2 := Lib.hid ((HQ.out.next B1.out).next b2)
      clear B1 b2
      go_wp2_with fail
      refine (CN5.out w2).mono ?_; rintro e w' ⟨rfl, hw⟩; obtain rfl := hw.symm; clear hw

      have C1 := Lib.hid (anew_any n (by omega) w2)
      go_wp2_with fail
      refine C1.out.mono ?_
      rintro e w3 ⟨rfl, A3, b3⟩
      have C2 := Lib.hid (ares_any A3 n (by omega) (by omega) (by omega))
      have H3 := Lib.hid (And.intro (B2.out.trans (b3.mono B2.out.size)) (And.intro A3.lt (And.intro B2.out.size (HQ2.out.next b3))))
      clear C1 A3 b3 B2 HQ2
      generalize w2.heap.size = a at *
      go_wp2_with fail
      refine C2.out.mono ?_
      rintro e w4 ⟨⟨p, g, rfl, LP, hp, hg⟩, A4, K4⟩
      have b4 : Below w.heap.size w w4 := H3.out.1.trans (K4.below H3.out.1.size fun x e => by rw [e]; exact H3.out.2.2.1)

      have B4 := Lib.hid b4
      clear LP hp hg A4 K4 b4 H3 C2
      go_wp2_with fail
      refine (CR.out _ _).mono ?_; rintro e w' ⟨rfl, hw⟩; obtain rfl := hw.symm; clear hw
      go_wp2
      go_ret
      exact ⟨rfl, B4.out⟩
  rcases hr with f1 | ⟨f1, f2⟩ | ⟨f1, f2, f3, f4⟩
  · exact hbad (.inl f1)
  · exact hbad (.inr ⟨f1, f2⟩)
  clear hbad
  obtain ⟨r, rfl⟩ : ∃ q : Nat, r = (q : Int) := ⟨r.toNat, by omega⟩
  have h1 : 1 ≤ r := by omega
  have h2 : r ≤ 512 := by omega
  have CR := Lib.hid fun p w => rnew_any p r h1 h2 w
  go_enter Tryd.func4, Tryd.ntmps4
  go_wp2_with fail
  refine CA.out.mono ?_; rintro e w1 ⟨rfl, b1⟩
  have B1 := Lib.hid b1
  clear b1
  go_wp2_with fail
  refine (CN1.out w1).mono ?_; rintro e w' ⟨rfl, hw⟩; obtain rfl := hw.symm; clear hw
  go_wp2_with fail
  refine (CN2.out w1).mono ?_; rintro e w' ⟨rfl, hw⟩; obtain rfl := hw.symm; clear hw
  go_wp2_with fail
  refine (CN3.out w1).mono ?_; rintro e w' ⟨rfl, hw⟩; obtain rfl := hw.symm; clear hw
  go_wp2_with fail
  refine (CN4.out w1).mono ?_; rintro e w2 ⟨rfl, b2⟩
  have B2 := Lib.hid (B1.out.trans (b2.mono B1.out.size))
  have HQ2 := Lib.hid ((HQ.out.next B1.out).next b2)
  clear B1 b2
  go_wp2_with fail
  refine (CN5.out w2).mono ?_; rintro e w' ⟨rfl, hw⟩; obtain rfl := hw.symm; clear hw

  have C1 := Lib.hid (anew_any n (by omega) w2)
  go_wp2_with fail
  refine C1.out.mono ?_
  rintro e w3 ⟨rfl, A3, b3⟩
  have C2 := Lib.hid (ares_any A3 n (by omega) (by omega) (by omega))
  have H3 := Lib.hid (And.intro (B2.out.trans (b3.mono B2.out.size)) (And.intro A3.lt (And.intro B2.out.size (HQ2.out.next b3))))
  clear C1 A3 b3 B2 HQ2
  generalize w2.heap.size = a at *
  go_wp2_with fail
  refine C2.out.mono ?_
  rintro e w4 ⟨⟨p, g, rfl, LP, hp, hg⟩, A4, K4⟩
  have b4 : Below w.heap.size w w4 := H3.out.1.trans (K4.below H3.out.1.size fun x e => by rw [e]; exact H3.out.2.2.1)

  have H4 := Lib.hid (And.intro LP (And.intro A4 (And.intro b4 (And.intro (Nat.le_trans H3.out.1.size hp) (And.intro (Nat.le_trans H3.out.1.size hg) H3.out.2.2.1)))))
  clear LP hp hg A4 K4 b4 H3 C2
  go_wp2_with fail
  refine (CR.out _ _).mono ?_
  rintro e w5 ⟨rfl, R5, b5⟩
  have S5 := St.new R5 ⟨H4.out.1.row.below b5 H4.out.1.row.lt, RowAt.below H4.out.1.blk b5 (RowAt.lt H4.out.1.blk), H4.out.1.ok⟩ h1 h2 (by omega)
  have A5 := RowAt.below H4.out.2.1 b5 (RowAt.lt H4.out.2.1)
  have b6 := H4.out.2.2.1.trans (b5.mono H4.out.2.2.1.size)
  have hp := H4.out.2.2.2.1
  have hg := H4.out.2.2.2.2.1
  have ha := H4.out.2.2.2.2.2
  generalize List.replicate (n * 256 / (32 * r)) (List.replicate (32 * r) 0) = X at S5
  generalize w4.heap.size = s at *
  clear CR H4 R5 b5 CA CN1 CN2 CN3 CN4 CN5 HQ
  have HP := Lib.hid hp
  have HG := Lib.hid hg
  have HA := Lib.hid ha
  have HA5 := Lib.hid A5
  have CO := Lib.hid (row_int S5 other)
  have H5 := Lib.hid (And.intro S5 b6)
  have hR := S5.rows
  obtain ⟨R, hXR⟩ : ∃ R, X.length = R := ⟨_, rfl⟩
  have hlen := S5.len
  rw [hXR] at hR CO hlen
  have HXR := Lib.hid hXR
  have HLEN := Lib.hid hlen
  clear S5 b6 hp hg ha A5 hXR hlen
  obtain ⟨U, hU⟩ : ∃ U, 32 * r = U := ⟨_, rfl⟩
  have e2 : (32 : Int) * (r : Int) = (U : Int) := by omega
  have hwU : IntKind.i64.wrap (U : Int) = (U : Int) := IntWalk.i64_in _ (by omega)
  have HU := Lib.hid (show 1 ≤ U ∧ U ≤ 16384 by omega)
  have HUE := Lib.hid hU
  clear hU
  go_wp2_with fail
  refine CO.out.mono ?_
  rintro e w6 ⟨A1, c1, rfl, r1, b6⟩
  have S6 := H5.out.1.step b6
  have H6 := Lib.hid (And.intro S6 (And.intro (H5.out.2.trans (b6.mono H5.out.2.size)) (And.intro r1 (RowAt.below HA5.out b6 (RowAt.lt HA5.out)))))
  clear S6 r1 b6 H5 CO HA5
  rcases Int.lt_or_le k 0 with hk | hk
  · have k1 : decide (k < 0) = true := by simpa using hk
    have CP := Lib.hid (put_bad_way 11 (by decide) _ k (.slice A ws.length c) w6 (sfault_out H6.out.1.row H6.out.1.pce h1 h2 (by omega) k (.inl hk)))
    have HB := Lib.hid H6.out.2.1
    clear hk H6
    go_wp2_with fail
    refine CP.out.mono ?_; rintro e w' ⟨rfl, hw⟩; obtain rfl := hw.symm; clear hw
    go_wp2
    go_ret
    exact ⟨rfl, HB.out⟩
  have k1 : decide (k < 0) = false := by simpa using hk
  rcases Int.lt_or_le k (R : Int) with hk2 | hk2
  rotate_left
  · have k2 : decide ((R : Int) ≤ k) = true := by simpa using hk2
    have CP := Lib.hid (put_bad_way 11 (by decide) _ k (.slice A ws.length c) w6 (sfault_out H6.out.1.row H6.out.1.pce h1 h2 (by omega) k (.inr (by rw [← HLEN.out]; exact hk2))))
    have CR := rows_any H6.out.1.row H6.out.1.pce h1 h2 (by omega)
    rw [← HLEN.out] at CR
    have CR := Lib.hid CR
    have HB := Lib.hid H6.out.2.1
    clear hk H6
    go_wp2_with fail
    refine CP.out.mono ?_; rintro e w' ⟨rfl, hw⟩; obtain rfl := hw.symm; clear hw
    go_wp2_with fail
    refine CR.out.mono ?_; rintro e w' ⟨rfl, hw⟩; obtain rfl := hw.symm; clear hw
    go_wp2
    go_ret
    exact ⟨rfl, HB.out⟩
  have k2 : decide ((R : Int) ≤ k) = false := by simp; omega
  obtain ⟨kn, rfl⟩ : ∃ q : Nat, k = (q : Int) := ⟨k.toNat, by omega⟩
  have hkn : kn < R := by omega
  have k3 : decide (R ≤ kn) = false := by simp; omega
  have CR := Lib.hid fun (w' : World) (Y : List (List Nat)) (S : St w' s p a g n r Y) => rows_any S.row S.pce h1 h2 (by omega)
  rw [← HLEN.out] at CR
  by_cases hsz : ws.length = U
  rotate_left
  · have s1 : ((ws.length : Int) != (U : Int)) = true := by simp; omega
    have s2 : ((ws.length : Int) == (U : Int)) = false := by simp; omega
    have CP := Lib.hid (put_size H6.out.1 kn (by rw [HXR.out]; exact hkn) A ws.length c (by rw [HUE.out]; exact hsz))
    have CR6 := Lib.hid (CR.out w6 X H6.out.1)
    have HB := Lib.hid H6.out.2.1
    clear hk hk2 H6 hsz CR hkn
    go_wp2_with fail
    refine CP.out.mono ?_; rintro e w' ⟨rfl, hw⟩; obtain rfl := hw.symm; clear hw
    go_wp2_with fail
    refine CR6.out.mono ?_; rintro e w' ⟨rfl, hw⟩; obtain rfl := hw.symm; clear hw
    go_wp2
    go_ret
    exact ⟨rfl, HB.out⟩
  have HSH := Lib.hid (rwL_short H6.out.1 other)
  have hX1 : (X.set kn ws).length = R := by rw [List.length_set]; exact HXR.out
  subst hsz
  have s1 : ((ws.length : Int) != (ws.length : Int)) = false := by simp
  have s2 : ((ws.length : Int) == (ws.length : Int)) = true := by simp
  obtain ⟨b, o, rfl, hbw, hcw⟩ := reads_words HW.out (by have := HU.out; omega)
  have CP := put_in H6.out.1 kn (by rw [HXR.out]; exact hkn) b o c ws HUE.out.symm HO.out (by have := HG.out; omega) (Nat.lt_of_lt_of_le hbw H6.out.2.1.size) (fun i hi => (H6.out.2.1.cell (p := ⟨b, o + i, none⟩) hbw).trans (hcw i (by have := HUE.out; omega)))
  rw [HUE.out] at CP
  have CP := Lib.hid CP
  clear hk hk2 hbw hcw
  have HKN := Lib.hid hkn
  clear hkn
  have HX1 := Lib.hid hX1
  clear hX1
  go_wp2_with fail
  refine CP.out.mono ?_
  rintro e w7 ⟨rfl, S7, K7⟩
  have r7 := reads_kept H6.out.2.2.1 (Nat.le_refl _) H6.out.1 K7
  have A7 := RowAt.kept H6.out.2.2.2 K7 (by obtain ⟨W, _, hW, _⟩ := H6.out.1.mem; exact RowAt.unlike H6.out.2.2.2 hW rfl)
  have b7 := H6.out.2.1.trans (K7.below H6.out.2.1.size fun x e => by rw [e]; exact HG.out)
  have CR7 := Lib.hid (CR.out w7 _ S7)
  have CO := row_int S7 (kn : Int)
  rw [rwL_in (by rw [HX1.out]; exact HKN.out), setl_at _ _ _ _ _ (by rw [HXR.out]; exact HKN.out), if_pos rfl, HX1.out, rwE_in HKN.out] at CO
  have CO := Lib.hid CO
  have H7 := Lib.hid (And.intro S7 (And.intro b7 (And.intro (r7.more K7.size) A7)))
  clear S7 K7 r7 A7 b7 CP H6 CR
  go_wp2_with fail
  refine CR7.out.mono ?_; rintro e w' ⟨rfl, hw⟩; obtain rfl := hw.symm; clear hw CR7
  go_wp2_with fail
  refine CO.out.mono ?_
  rintro e w8 ⟨A2, c2, rfl, r2, b8⟩
  obtain ⟨w8', hw8⟩ : ∃ w1, w1 = (w8.alloc (.cells #[.slice A2 ws.length c2] 22)).alloc (.cells #[.slice (some ⟨b, o, none⟩) ws.length c] 22) := ⟨_, rfl⟩
  have b78 := H7.out.2.1.trans (b8.mono H7.out.2.1.size)
  have CX := same_one (l := ws) (k := ws) (c := c2) (d := c) r2 ((HW.out.below b78).more b78.size) (by omega) (by omega) hw8
  rw [decide_eq_true rfl] at CX
  have CX := Lib.hid CX
  have H8 := Lib.hid (And.intro (H7.out.1.step b8) (And.intro b78 (And.intro ((H7.out.2.2.1.below b8).more b8.size) (RowAt.below H7.out.2.2.2 b8 (RowAt.lt H7.out.2.2.2)))))
  have HW8 := Lib.hid hw8
  clear r2 b8 b78 hw8 CO H7
  go_wp2_with fail
  have CX2 := CX.out
  rw [HW8.out] at CX2
  refine CX2.mono ?_
  rintro e w9 ⟨rfl, b9⟩
  clear CX2 CX HW8
  have CO := row_int (H8.out.1.step b9) other
  rw [HX1.out] at CO
  obtain ⟨L2, hL2⟩ : ∃ L2, rwL (X.set kn ws) other = L2 := ⟨_, rfl⟩
  rw [hL2] at CO
  have HL2 : Hid (other ≠ (kn : Int) → L2 = rwL X other) := Lib.hid fun h => by rw [← hL2]; exact rwL_set (by rw [HXR.out]; exact HKN.out) h
  clear hL2
  have CO := Lib.hid CO
  have b89 := H8.out.2.1.trans (b9.mono H8.out.2.1.size)
  have H9 := Lib.hid (And.intro (H8.out.1.step b9) (And.intro b89 (And.intro ((H8.out.2.2.1.below b9).more b9.size) (RowAt.below H8.out.2.2.2 b9 (RowAt.lt H8.out.2.2.2)))))
  clear b9 b89 H8
  go_wp2_with fail
  refine CO.out.mono ?_
  rintro e w10 ⟨A3, c3, rfl, r3, b10⟩
  have b910 := H9.out.2.1.trans (b10.mono H9.out.2.1.size)
  have H10 := Lib.hid (And.intro (H9.out.1.step b10) (And.intro b910 (And.intro ((H9.out.2.2.1.below b10).more b10.size) (RowAt.below H9.out.2.2.2 b10 (RowAt.lt H9.out.2.2.2)))))
  clear b10 b910 H9 CO
  have HS := Lib.hid fun (w' : World) (hb : Below w10.heap.size w10 w') => off_any (H10.out.1.step hb) (RowAt.below H10.out.2.2.2 hb (RowAt.lt H10.out.2.2.2)) (by omega) (by omega) (by omega) (by omega)
  have HB10 := Lib.hid H10.out.2.1
  have C12 := Lib.hid fun (w' : World) (hs : ScAt w' s p r) (hP : PceAt w' p a n false (.slice none 0 0)) => row_bad_way 12 (by decide) _ (kn : Int) w' (sfault_off hs hP h1 h2 (by omega) kn (by rw [← HLEN.out]; exact HKN.out))
  have C13 := Lib.hid fun (w' : World) (hs : ScAt w' s p r) (hP : PceAt w' p a n false (.slice none 0 0)) => put_bad_way 12 (by decide) _ (kn : Int) (.slice (some ⟨b, o, none⟩) ws.length c) w' (sfault_off hs hP h1 h2 (by omega) kn (by rw [← HLEN.out]; exact HKN.out))
  by_cases ho : other = (kn : Int)
  · have o1 : (other != (kn : Int)) = false := by simpa using ho
    have o2 : (other == (kn : Int)) = true := by simpa using ho
    have HS1 := Lib.hid (HS.out w10 (Below.refl _ _))
    generalize rwL X other = L at *
    generalize rwE R other = z at *
    clear ho r3 H10 HS
    subst_vars
    go_wp2_with fail
    refine HS1.out.mono ?_
    rintro e w12 ⟨rfl, S12, P12, K12⟩
    have CA := Lib.hid (C12.out w12 S12 P12)
    have CB := Lib.hid (C13.out w12 S12 P12)
    have HB := Lib.hid (HB10.out.trans (K12.below HB10.out.size fun x e => by rcases e with e | e | e <;> rw [e] <;> first | exact HA.out | exact HP.out | exact HG.out))
    clear S12 P12 K12 C12 C13 HS1
    go_wp2_with fail
    refine CA.out.mono ?_; rintro e w' ⟨rfl, hw⟩; obtain rfl := hw.symm; clear hw CA
    go_wp2_with fail
    refine CB.out.mono ?_; rintro e w' ⟨rfl, hw⟩; obtain rfl := hw.symm; clear hw CB
    go_wp2
    go_ret
    exact ⟨rfl, HB.out⟩
  · have o1 : (other != (kn : Int)) = true := by simpa using ho
    have o2 : (other == (kn : Int)) = false := by simpa using ho
    obtain rfl := HL2.out ho
    obtain ⟨w10', hw10⟩ : ∃ w1, w1 = (w10.alloc (.cells #[.slice A3 (rwL X other).length c3] 22)).alloc (.cells #[.slice A1 (rwL X other).length c1] 22) := ⟨_, rfl⟩
    have CX := same_one (l := rwL X other) (k := rwL X other) (c := c3) (d := c1) r3 H10.out.2.2.1 (by have := HSH.out; omega) (by have := HSH.out; omega) hw10
    rw [decide_eq_true rfl] at CX
    have CX := Lib.hid CX
    have HW10 := Lib.hid hw10
    have HBX := Lib.hid HB10.out
    clear HL2 HSH ho r3 H10 hw10
    generalize rwL X other = L at *
    obtain ⟨z, hz⟩ : ∃ z, z = rwE R other := ⟨_, rfl⟩
    rw [← hz]
    clear hz
    have z1 : (z != z) = false := by simp
    have z2 : (z == z) = true := by simp
    go_wp2_with fail
    have CX2 := CX.out
    rw [HW10.out] at CX2
    refine CX2.mono ?_
    rintro e w11 ⟨rfl, b11⟩
    have HS1 := Lib.hid (HS.out w11 b11)
    have HB10 := Lib.hid (HBX.out.trans (b11.mono HBX.out.size))
    clear CX2 CX HW10 HS b11 HBX
    go_wp2_with fail
    refine HS1.out.mono ?_
    rintro e w12 ⟨rfl, S12, P12, K12⟩
    have CA := Lib.hid (C12.out w12 S12 P12)
    have CB := Lib.hid (C13.out w12 S12 P12)
    have HB := Lib.hid (HB10.out.trans (K12.below HB10.out.size fun x e => by rcases e with e | e | e <;> rw [e] <;> first | exact HA.out | exact HP.out | exact HG.out))
    clear S12 P12 K12 C12 C13 HS1
    go_wp2_with fail
    refine CA.out.mono ?_; rintro e w' ⟨rfl, hw⟩; obtain rfl := hw.symm; clear hw CA
    go_wp2_with fail
    refine CB.out.mono ?_; rintro e w' ⟨rfl, hw⟩; obtain rfl := hw.symm; clear hw CB
    go_wp2
    go_ret
    exact ⟨rfl, HB.out⟩
theorem rows24_n (bl r : Int) (ws : List Nat) (A : Option Addr) (m c : Nat) (hm : ws.length = m) (k other : Int) (w : World) (hq : QAt w) (hw : Reads w w.heap.size A (u32s ws)) (hwo : okw ws) :
    Calls Tryd.prog 4 #[.int .i64 bl, .int .i64 r, .slice A m c, .int .i64 k, .int .i64 other] w fun e w' => e = .returned (.bool true) ∧ Below w.heap.size w w' := by
  subst hm
  exact rows24_any bl r ws A c k other w hq hw hwo
end Go.Proofs.YtohmkhmanidljaaDoor

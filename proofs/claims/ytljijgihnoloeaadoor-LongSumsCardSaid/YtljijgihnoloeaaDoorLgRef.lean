/- The document's Long by its contract. Conditions: those typed. -/
import Derived.Test.YtljijgihnoloeaaDoorLgLong
import Derived.Deep.LoopGhost
import Derived.WalkMore
namespace Go.Proofs.YtljijgihnoloeaaDoor
set_option maxRecDepth 50000
open Go.RowKit Bl

/-- the document's sum without a key -/
theorem rsum_plain (n : Nat) (hn : n ≤ 64) (text : ByteArray) (ht : text.size ≤ 10000) (w : World) :
    Calls Tryd.prog 9 #[.agg (wq iv), .int .i64 (n : Int), .string ⟨#[]⟩, .string text] w fun e w' => e = .returned (.string (tx (blkL 0 n (tl text)))) ∧ Below w.heap.size w w' := by
  have h := rsum_any n hn ⟨#[]⟩ text (by decide) ht w
  rw [keyL_nil, List.nil_append] at h
  exact h
theorem tx_app (a b : List UInt8) : tx a ++ tx b = tx (a ++ b) := tl_inj (by rw [tl_app, tl_tx, tl_tx, tl_tx])
theorem tx_half (a : List UInt8) : (tx a).extract 0 32 = tx (a.take 32) := tl_inj (by rw [tl_half, tl_tx])
theorem oN_next (n : Nat) (X : List UInt8) (k : Nat) : oN n X (k + 1) = oN n X k ++ (vN n X k).take 32 := rfl
set_option maxHeartbeats 1600000 in
theorem rlong_any (n : Nat) (hn1 : 1 ≤ n) (hn : n ≤ 3000) (text : ByteArray) (ht : text.size ≤ 9000) (w : World) :
    Calls Tryd.prog 14 #[.agg (wq iv), .int .i64 (n : Int), .string text] w fun e w' => e = .returned (.string (tx (longL n (tl text)))) ∧ Below w.heap.size w w' := by
  obtain ⟨R, hR⟩ : ∃ R, R = longL n (tl text) := ⟨_, rfl⟩
  rw [← hR]
  obtain ⟨X, hX⟩ : ∃ X, X = tl text := ⟨_, rfl⟩
  have hXl : X.length ≤ 100000 := by rw [hX, tl_length]; omega
  have HRR : Hid (R = oN n X (hN n) ++ vN n X (hN n)) := Lib.hid (by rw [hR, hX]; rfl)
  have HX := Lib.hid hX
  have VL := Lib.hid fun k => vN_length n X hXl k
  have OL := Lib.hid fun k hk => oN_length n X hXl k hk
  have CS := Lib.hid rsum_plain
  obtain ⟨FX, hFX⟩ : ∃ FX, FX = wq iv := ⟨_, rfl⟩
  have FX8 := Lib.hid (show FX.size = 8 from by rw [hFX, wq_size]; rfl)
  rw [← hFX] at CS ⊢
  clear hFX hR hX
  have hu : IntKind.u32.wrap (n : Int) = (n : Int) := by
    have e : IntKind.u32.wrap (n : Int) = (n : Int) % 4294967296 := by simp [IntKind.wrap, IntKind.bits, IntKind.signed]
    rw [e]; omega
  have S0 := Lib.hid (show RowAt (w.alloc (.cells FX 31)) w.heap.size 31 FX from RowAt.new _ _ _)
  have SB := Lib.hid (show Below w.heap.size w (w.alloc (.cells FX 31)) from (Below.refl _ w).alloc (Nat.le_refl _) _)
  have C4 := Lib.hid (of32_own n (w.alloc (.cells FX 31)) (by omega))
  go_enter Tryd.func14, Tryd.ntmps14
  go_wp2_with fail
  refine C4.out.mono ?_
  rintro e w1 ⟨g, c, rfl, hown, hb1⟩
  rw [lead_cs] at hown
  have hcv : (convert 48 9 (.slice (some ⟨g, 0, none⟩) 4 c)).run Tryd.prog w1 = .ok (.string (tx (lead n))) w1 := conv_text _ hown
  have S1 := Lib.hid (S0.out.below hb1 S0.out.lt)
  have B1 := Lib.hid (below_step SB.out hb1)
  have hts : (tx (lead n)).size = 4 := by rw [tx_size, lead_length]
  obtain ⟨TX, hTX⟩ : ∃ TX, TX = tx (lead n) ++ text := ⟨_, rfl⟩
  have HTX := Lib.hid hTX
  have HV0 : Hid (tl TX = lead n ++ X) := Lib.hid (by rw [hTX, tl_app, tl_tx, HX.out])
  have hTXs : TX.size ≤ 9004 := by rw [hTX, ByteArray.size_append]; omega
  clear hown hb1 C4 S0 SB hTX
  generalize tx (lead n) = TL at *
  by_cases h64 : n ≤ 64
  · have hd : decide ((n : Int) ≤ 64) = true := by simp; omega
    have e1 : blkL 0 n (tl TX) = R := by
      rw [HV0.out, HRR.out, show hN n = 0 from by unfold hN; omega]
      show _ = vN n X 0
      rw [vN, Nat.min_eq_left h64]
    have C := Lib.hid (CS.out n h64 TX (by omega) w1)
    rw [e1] at C
    clear e1
    go_wp2_with (first
      | refine wpList_load_row rfl 31 (.tmp 3) rfl w.heap.size rfl 31 FX (0, 0) _ S1.out Tryd.underlying31 rfl (by rw [FX8.out]; exact q_fixed8) ?_
      | (rw [← HTX.out]; refine C.out.mono ?_))
    rintro e w2 ⟨rfl, b2⟩
    have B2 := Lib.hid (below_step B1.out b2)
    clear b2
    go_wp2
    go_ret
    exact ⟨rfl, B2.out⟩
  · have hd : decide ((n : Int) ≤ 64) = false := by simp; omega
    have hh : 1 ≤ hN n := by unfold hN; omega
    have e1 : blkL 0 64 (tl TX) = vN n X 0 := by
      rw [HV0.out, vN, Nat.min_eq_right (by omega)]
    have C := Lib.hid (CS.out 64 (by decide) TX (by omega) w1)
    rw [e1] at C
    have HH1 : Hid (tx (oN n X 1) = (tx (vN n X 0)).extract 0 32) := Lib.hid (by rw [tx_half]; rfl)
    have hv0 : (tx (vN n X 0)).size = 64 := by rw [tx_size, VL.out]; omega
    obtain ⟨V0, hV0⟩ : ∃ V0, V0 = tx (vN n X 0) := ⟨_, rfl⟩
    rw [← hV0] at C hv0 HH1
    have HVV := Lib.hid hV0
    clear e1 hV0
    go_wp2_with (first
      | refine wpList_load_row rfl 31 (.tmp 3) rfl w.heap.size rfl 31 FX (0, 0) _ S1.out Tryd.underlying31 rfl (by rw [FX8.out]; exact q_fixed8) ?_
      | (rw [← HTX.out]; refine C.out.mono ?_))
    rintro e w2 ⟨rfl, b2⟩
    have S2 := Lib.hid (S1.out.below b2 S1.out.lt)
    have B2 := Lib.hid (below_step B1.out b2)
    clear b2 C
    go_wp2
    obtain ⟨B, hB⟩ : ∃ B, B = w.heap.size := ⟨_, rfl⟩
    have HBE := Lib.hid hB
    rw [← hB] at S2 B2 ⊢
    clear hB
    go_loopg [7, 8] (hN n - 1) (fun g v7 v8 wr => ∃ j : Nat, j + 1 + g = hN n ∧ v7 = .string (tx (vN n X j)) ∧ v8 = .string (tx (oN n X (j + 1))) ∧ RowAt wr B 31 FX ∧ Below B w wr)
    case atStart => exact ⟨0, by omega, by rw [HVV.out], by rw [← HH1.out], S2.out, B2.out⟩
    case round =>
      obtain ⟨j, hj, rfl, rfl, hr, hb⟩ := hrel
      have HR := Lib.hid hr
      have HB := Lib.hid hb
      have hol := OL.out (j + 1) (by omega)
      have hvl := VL.out j
      obtain ⟨TO, hTO⟩ : ∃ TO, TO = tx (oN n X (j + 1)) := ⟨_, rfl⟩
      obtain ⟨TV, hTV⟩ : ∃ TV, TV = tx (vN n X j) := ⟨_, rfl⟩
      have hos : TO.size = 32 * (j + 1) := by rw [hTO, tx_size]; exact hol
      have hvs : TV.size ≤ 64 := by rw [hTV, tx_size, hvl]; omega
      have hhb : hN n ≤ 100 := by unfold hN; omega
      obtain ⟨m, hm⟩ : ∃ m, m = n - 32 * (j + 1) := ⟨_, rfl⟩
      have hmb : 32 * (j + 1) ≤ n := by unfold hN at hj; omega
      have q0 : IntKind.i64.wrap ((n : Int) - (TO.size : Int)) = (m : Int) := by rw [← IntWalk.i64_in (m : Int) (by omega)]; congr 1; omega
      rw [← hTO, ← hTV]
      by_cases h : j + 1 < hN n
      · obtain ⟨g2, rfl⟩ : ∃ g2, gk = g2 + 1 := ⟨gk - 1, by omega⟩
        have hmore := hN_more n (j + 1) h
        have hdt : decide ((64 : Int) < (m : Int)) = true := by simp; omega
        have C := Lib.hid (CS.out 64 (by decide) TV (by omega) wr)
        have e1 : blkL 0 64 (tl TV) = vN n X (j + 1) := by rw [hTV, tl_tx, vN, Nat.min_eq_right (by omega)]
        rw [e1] at C
        obtain ⟨TN, hTN⟩ : ∃ TN, TN = tx (vN n X (j + 1)) := ⟨_, rfl⟩
        have hns : TN.size = 64 := by rw [hTN, tx_size, VL.out]; omega
        have HA : Hid (TO ++ TN.extract 0 32 = tx (oN n X (j + 1 + 1))) := Lib.hid (by rw [hTO, hTN, tx_half, tx_app]; rfl)
        rw [← hTN] at C
        have HTN := Lib.hid hTN
        have hob : TO.size ≤ 4000 := by omega
        have heb : (TN.extract 0 32).size = 32 := by rw [ByteArray.size_extract]; omega
        have HJ := Lib.hid hj
        clear hol hvl hTO hTV hos hm hmb hr hb hj hTN h hmore e1
        go_wp2_with (first
          | refine wpList_load_row rfl 31 (.tmp 3) rfl B rfl 31 FX (0, 0) _ HR.out Tryd.underlying31 rfl (by rw [FX8.out]; exact q_fixed8) ?_
          | refine C.out.mono ?_)
        rintro e w3 ⟨rfl, b3⟩
        have S3 := Lib.hid (HR.out.below b3 HR.out.lt)
        have B3 := Lib.hid (HB.out.trans (b3.mono (Nat.le_of_lt HR.out.lt)))
        clear b3 C
        go_wp2
        go_roundg g2
        case measure => omega
        case rel => exact ⟨j + 1, by have := HJ.out; omega, by rw [HTN.out], by rw [HA.out], S3.out, B3.out⟩
      · have hjn : j + 1 = hN n := by omega
        have hm64 : m ≤ 64 := by rw [hm, hjn]; unfold hN; omega
        have hdt : decide ((64 : Int) < (m : Int)) = false := by simp; omega
        have C := Lib.hid (CS.out m hm64 TV (by omega) wr)
        have e1 : blkL 0 m (tl TV) = vN n X (j + 1) := by rw [hTV, tl_tx, vN, ← hm, Nat.min_eq_left hm64]
        rw [e1] at C
        obtain ⟨TN, hTN⟩ : ∃ TN, TN = tx (vN n X (j + 1)) := ⟨_, rfl⟩
        have hns : TN.size ≤ 64 := by rw [hTN, tx_size, VL.out]; omega
        have HA : Hid (TO ++ TN = tx R) := Lib.hid (by rw [hTO, hTN, tx_app, HRR.out, ← hjn])
        rw [← hTN] at C
        have hob : TO.size ≤ 4000 := by omega
        clear hol hvl hTO hTV hos hm hmb hr hb hj hTN h e1 hjn hm64
        go_wp2_with (first
          | refine wpList_load_row rfl 31 (.tmp 3) rfl B rfl 31 FX (0, 0) _ HR.out Tryd.underlying31 rfl (by rw [FX8.out]; exact q_fixed8) ?_
          | refine C.out.mono ?_)
        rintro e w3 ⟨rfl, b3⟩
        have B3 := Lib.hid (HB.out.trans (b3.mono (Nat.le_of_lt HR.out.lt)))
        clear b3 C
        go_wp2
        go_ret
        exact ⟨by rw [← HA.out]; rfl, by rw [← HBE.out]; exact B3.out⟩
end Go.Proofs.YtljijgihnoloeaaDoor

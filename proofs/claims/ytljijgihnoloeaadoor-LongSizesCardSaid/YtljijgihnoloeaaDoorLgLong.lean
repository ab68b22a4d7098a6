/- Long and Block of package long by their contracts. Conditions: those typed. -/
import Derived.Test.YtljijgihnoloeaaDoorLgFirst
import Derived.Test.YtljijgihnoloeaaDoorBldW
namespace Go.Proofs.YtljijgihnoloeaaDoor
set_option maxRecDepth 50000
open Go.RowKit Bl

theorem tl_half (s : List UInt8) : tl ((tx s).extract 0 32) = s.take 32 := by
  unfold tl tx
  rw [ByteArray.data_extract]
  simp [List.extract_eq_take_drop]
set_option maxHeartbeats 800000 in
theorem long_bad (z : Int) (hz : z < 1 ∨ 65536 < z) (A : Option Addr) (m c : Nat) (w : World) : Calls Tryd.prog 13 #[.int .i64 z, .slice A m c] w fun e w' => e = .returned (.tuple #[.string ⟨#[]⟩, .int .i64 1]) ∧ w' = w := by
  have C := Lib.hid (halves_bad z hz w)
  clear hz
  go_enter Tryd.func13, Tryd.ntmps13
  go_wp2_with fail
  refine C.out.mono ?_
  rintro e w1 ⟨rfl, rfl⟩
  go_wp2
  go_ret2
  exact ⟨rfl, rfl⟩

set_option maxHeartbeats 800000 in
theorem long_any (n : Nat) (hn1 : 1 ≤ n) (hn : n ≤ 65536) (w : World) (hk : QAt w) (A : Option Addr) (c : Nat) (ps : List ByteArray) (hr : Reads w w.heap.size A (stv ps)) (hlen : (jn ps).length ≤ 100000) (hps : ps.length ≤ 1000000) :
    Calls Tryd.prog 13 #[.int .i64 (n : Int), .slice A ps.length c] w fun e w' => e = .returned (.tuple #[.string (tx (longL n (jn ps))), .int .i64 0]) ∧ Below w.heap.size w w' := by
  have CH := Lib.hid (halves_any n hn1 hn w)
  have HR := Lib.hid hr
  have HK := Lib.hid hk
  obtain ⟨R, hR⟩ : ∃ R, R = longL n (jn ps) := ⟨_, rfl⟩
  rw [← hR]
  obtain ⟨X, hX⟩ : ∃ X, X = jn ps := ⟨_, rfl⟩
  obtain ⟨N, hN⟩ : ∃ N, N = hN n := ⟨_, rfl⟩
  rw [← hN] at CH
  have HRR : Hid (R = oN n X N ++ vN n X N) := Lib.hid (by rw [hR, hX, hN]; rfl)
  have HNN := Lib.hid hN
  have hNb : N ≤ 2046 := by rw [hN]; unfold Go.Proofs.YtljijgihnoloeaaDoor.hN; omega
  have CF := Lib.hid fun (w1 : World) (h1 : QAt w1) (h2 : Reads w1 w1.heap.size A (stv ps)) => first_any w1 n hn1 hn h1 A c ps h2 hlen hps
  rw [← hX] at CF hlen
  have b0 : Below w.heap.size w (w.alloc (.cells #[.pointer none, .slice none 0 0] 53)) := (Below.refl _ w).alloc (Nat.le_refl _) _
  have B0 := Lib.hid b0
  have D0 := Lib.hid (BldIs.new w)
  have VL := Lib.hid fun k => vN_length n X hlen k
  have OL := Lib.hid fun k hk => oN_length n X hlen k hk
  clear hr hk hR hX hN b0
  go_enter Tryd.func13, Tryd.ntmps13
  go_wp2_with fail
  refine CH.out.mono ?_
  rintro e w1 ⟨rfl, rfl⟩
  go_wp2_with fail
  refine (CF.out _ (HK.out.next B0.out) ((HR.out.below B0.out).more B0.out.size)).mono ?_
  rintro e w2 ⟨rfl, b2⟩
  have D2 := Lib.hid (D0.out.below b2)
  have B2 := Lib.hid (below_step B0.out b2)
  clear b2 D0 B0 CF CH
  go_wp2
  obtain ⟨B, hB⟩ : ∃ B, B = w1.heap.size := ⟨_, rfl⟩
  have hBw2 : B ≤ w2.heap.size := by rw [hB]; exact B2.out.size
  have hB0 : 0 < B := by rw [hB]; exact HK.out.1
  rw [← hB] at D2 B2 ⊢
  have HBE := Lib.hid hB
  clear hB
  go_loopg [9, 10, 24] N (fun g v9 v10 v24 wr => ∃ k m : Nat, k + g = N ∧ Hid (m = n - 32 * k) ∧ v9 = .string (tx (vN n X k)) ∧ v10 = .int .i64 (m : Int) ∧ v24 = .int .i64 (k : Int) ∧ BldIs wr B B (oN n X k) ∧ Below B w1 wr)
  case atStart => exact ⟨0, n, by omega, Lib.hid (by omega), rfl, rfl, rfl, D2.out, B2.out⟩
  case round =>
    obtain ⟨k, m, hk, HM, rfl, rfl, rfl, hd, hb⟩ := hrel
    have HD := Lib.hid hd
    have HB := Lib.hid hb
    have hsz : B ≤ wr.heap.size := (Nat.le_of_lt hd.lt)
    have hol := OL.out k (by rw [← HNN.out]; omega)
    have hvl := VL.out k
    have hm := HM.out
    have HKr := Lib.hid (HK.out.below hb hB0)
    obtain ⟨TV, hTV⟩ : ∃ TV, TV = tx (vN n X k) := ⟨_, rfl⟩
    have hts : TV.size = min (n - 32 * k) 64 := by rw [hTV, tx_size]; exact hvl
    by_cases h : k < N
    · obtain ⟨g2, rfl⟩ : ∃ g2, gk = g2 + 1 := ⟨gk - 1, by omega⟩
      have hmore := hN_more n k (by rw [← HNN.out]; exact h)
      have hts2 : TV.size = 64 := by omega
      have CW := Lib.hid (write_any B B (oN n X k) (TV.extract 0 32) wr hd (by omega) (by rw [ByteArray.size_extract]; omega) hsz)
      have e1 : oN n X k ++ tl (TV.extract 0 32) = oN n X (k + 1) := by rw [hTV, tl_half]; rfl
      rw [e1] at CW
      obtain ⟨m2, hm2⟩ : ∃ m2, m2 = n - 32 * (k + 1) := ⟨_, rfl⟩
      obtain ⟨mm, hmm⟩ : ∃ mm, mm = min m2 64 := ⟨_, rfl⟩
      have q1 : IntKind.i64.wrap ((m : Int) - 32) = (m2 : Int) := by rw [← IntWalk.i64_in (m2 : Int) (by omega)]; congr 1; omega
      have q2 : (if (m2 : Int) < 64 then (m2 : Int) else 64) = (mm : Int) := by split <;> omega
      have q3 : min (m2 : Int) 64 = (mm : Int) := by omega
      have CO := Lib.hid fun (w5 : World) (h5 : QAt w5) => of_one w5 mm (by omega) (by omega) h5 TV (by omega)
      have e2 : blkL 0 mm (tl TV) = vN n X (k + 1) := by rw [hTV, tl_tx, hmm, hm2]; rfl
      rw [e2] at CO
      rw [← hTV]
      have HJ := Lib.hid (And.intro hk (And.intro h hm2))
      have hdt : decide ((k : Int) < (N : Int)) = true := by simp; omega
      have hdt2 : decide (k < N) = true := by simp; omega
      have hdt3 : k < N := h
      have hkb : k ≤ 3000 := by omega
      clear hm hm2 hmm e1 e2 hts hTV hvl hol hd hb hk h hmore
      go_wp2_with fail
      refine CW.out.mono ?_
      rintro e w3 ⟨rfl, h3, b3⟩
      have D3 := Lib.hid h3
      have B3 := Lib.hid (HB.out.trans b3)
      have K3 := Lib.hid (HK.out.below B3.out hB0)
      clear h3 b3 CW
      go_wp2_with fail
      refine (CO.out w3 K3.out).mono ?_
      rintro e w4 ⟨rfl, b4⟩
      have D4 := Lib.hid (D3.out.below b4)
      have B4 := Lib.hid (B3.out.trans (b4.mono (Nat.le_of_lt D3.out.lt)))
      clear b4
      go_wp2
      go_roundg g2
      case measure => omega
      case rel =>
        obtain ⟨j1, j2, j3⟩ := HJ.out
        exact ⟨k + 1, m2, by omega, Lib.hid j3, rfl, by go_num, by go_num, D4.out, B4.out⟩
    · obtain rfl : k = N := by omega
      have hdt : decide ((k : Int) < (k : Int)) = false := by simp
      have CW := Lib.hid (write_any B B (oN n X k) TV wr hd (by omega) (by omega) hsz)
      have e1 : oN n X k ++ tl TV = R := by rw [hTV, tl_tx]; exact HRR.out.symm
      rw [e1] at CW
      rw [← hTV]
      clear hm e1 hts hTV hvl hol hd hb hk h
      go_wp2_with fail
      refine CW.out.mono ?_
      rintro e w3 ⟨rfl, h3, b3⟩
      have B3 := Lib.hid (HB.out.trans b3)
      have CS := Lib.hid (string_any B B R w3 h3 (Nat.le_of_lt h3.lt))
      clear h3 b3 CW
      go_wp2_with fail
      refine CS.out.mono ?_
      rintro e w4 ⟨rfl, b4⟩
      have B4 := Lib.hid (B3.out.trans b4)
      clear b4
      go_wp2
      go_ret2
      exact ⟨rfl, by rw [← HBE.out]; exact B4.out⟩

theorem longL_tx (n : Nat) (hn : 1 ≤ n) (X : List UInt8) (hX : X.length ≤ 100000) : (tx (longL n X)).size = n := by rw [tx_size, longL_length n hn X hX]
set_option maxHeartbeats 800000 in
theorem block_any (w : World) (hk : QAt w) (A : Option Addr) (c : Nat) (ps : List ByteArray) (hr : Reads w w.heap.size A (stv ps)) (hlen : (jn ps).length ≤ 100000) (hps : ps.length ≤ 1000000) :
    Calls Tryd.prog 23 #[.slice A ps.length c] w fun e w' => e = .returned (.string (tx (longL 1024 (jn ps)))) ∧ Below w.heap.size w w' := by
  have C := Lib.hid (long_any 1024 (by decide) (by decide) w hk A c ps hr hlen hps)
  obtain ⟨R, hR⟩ : ∃ R, R = longL 1024 (jn ps) := ⟨_, rfl⟩
  rw [← hR] at C ⊢
  clear hR hk hr
  go_enter Tryd.func23, Tryd.ntmps23
  go_wp2_with fail
  refine C.out.mono ?_
  rintro e w1 ⟨rfl, b1⟩
  go_wp2
  go_ret
  exact ⟨rfl, b1⟩
end Go.Proofs.YtljijgihnoloeaaDoor

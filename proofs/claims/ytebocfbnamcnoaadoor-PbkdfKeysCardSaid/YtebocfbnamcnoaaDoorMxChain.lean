/- Chain of package mac by its contract: the last tag, and all put together. Conditions: those typed. -/
import Derived.Test.YtebocfbnamcnoaaDoorMxWith
namespace Go.Proofs.YtebocfbnamcnoaaDoor
set_option maxRecDepth 50000
open Go.RowKit Sha

/-- one more text, in a list that was just made -/
theorem withone_any (w : World) (M : Nat) (K X : List UInt8) (h : MacIs w M K X) (hk : KAt w) (s : ByteArray) (hlen : X.length + s.size ≤ 100000) :
    Calls Tryd.prog 28 #[.pointer (some ⟨M, 0, none⟩), .slice (some ⟨w.heap.size, 0, none⟩) 1 1] (w.alloc (.cells #[.string s] 9)) fun e w' => ∃ M', e = .returned (.pointer (some ⟨M', 0, none⟩)) ∧ MacIs w' M' K (X ++ tl s) ∧ Below w.heap.size w w' := by
  have hb : Below w.heap.size w (w.alloc (.cells #[.string s] 9)) := (Below.refl _ w).alloc (Nat.le_refl _) _
  refine (with_any _ M K X (h.below hb) (hk.next hb) (some ⟨w.heap.size, 0, none⟩) 1 [s] (fun k hk => ?_) (by rw [jn_one, tl_length]; omega) (by simp)).mono ?_
  · have hk0 : k = 0 := by simp [stv] at hk; omega
    subst hk0
    exact ⟨w.heap.size, 0, rfl, by simp, by rw [cell_of_row _ _ _ _ _ (0, 0) (heap_alloc_last w _)]; rfl⟩
  · rintro e w' ⟨M', rfl, g1, g2⟩
    rw [jn_one] at g1
    exact ⟨M', rfl, g1, below_step hb g2⟩

set_option maxHeartbeats 800000 in
theorem chain_low (w : World) (M : Nat) (m : Int) (hm : m < 1) (A : Option Addr) (n c : Nat) :
    Calls Tryd.prog 19 #[.pointer (some ⟨M, 0, none⟩), .int .i64 m, .slice A n c] w fun e w' => e = .returned (.tuple #[.string ⟨#[]⟩, .string ⟨#[]⟩]) ∧ w = w' := by
  have hd : decide (m < 1) = true := by simp; omega
  go_enter Tryd.func19, Tryd.ntmps19
  go_wp2
  go_ret2
  exact ⟨rfl, rfl⟩

set_option maxHeartbeats 1600000 in
theorem chain_any (w : World) (M : Nat) (K C : List UInt8) (h : MacIs w M K C) (hk : KAt w) (n : Nat) (h0 : n ≠ 0) (hn : n ≤ 1000000) (A : Option Addr) (c : Nat) (ps : List ByteArray) (hr : Reads w w.heap.size A (stv ps)) (hlen : C.length + (jn ps).length ≤ 10000) (hps : ps.length ≤ 1000000) :
    Calls Tryd.prog 19 #[.pointer (some ⟨M, 0, none⟩), .int .i64 (n : Int), .slice A ps.length c] w fun e w' => e = .returned (.tuple #[.string (tx (lastL K C (jn ps) (n - 1))), .string (tx (allL K C (jn ps) (n - 1)))]) ∧ Below w.heap.size w w' := by
  obtain ⟨N, rfl⟩ : ∃ N, n = N + 1 := ⟨n - 1, by omega⟩
  obtain ⟨m, hm⟩ : ∃ m, m = N + 1 := ⟨_, rfl⟩
  rw [← hm, show m - 1 = N by omega]
  have hq : (m : Int) - 1 = (N : Int) := by omega
  have hd : decide ((m : Int) < 1) = false := by simp; omega
  have hNb : N ≤ 1000000 := by omega
  have HM := Lib.hid h
  have HK := Lib.hid hk
  have CW := Lib.hid (with_any w M K C h hk A c ps hr (by omega) hps)
  obtain ⟨X, hX⟩ : ∃ X, X = jn ps := ⟨_, rfl⟩
  rw [← hX] at CW hlen ⊢
  have HL := Lib.hid hlen
  clear h hk hr hlen hps hX hm h0 hn
  go_enter Tryd.func19, Tryd.ntmps19
  go_wp2_with fail
  refine CW.out.mono ?_
  rintro e w1 ⟨M1, rfl, h1, b1⟩
  have B1 := Lib.hid b1
  have CT := Lib.hid (tag_any w1 M1 K (C ++ X) h1 (HK.out.next b1) (by have := HL.out; rw [List.length_append]; omega))
  clear h1 b1 CW
  go_wp2_with fail
  refine CT.out.mono ?_
  rintro e w2 ⟨rfl, b2⟩
  have B2 := Lib.hid (below_step B1.out b2)
  clear b2 CT
  have HT0 : Hid (tagL K (C ++ X) = lastL K C X 0) := Lib.hid rfl
  rw [HT0.out]
  have HA0 : Hid (lastL K C X 0 = allL K C X 0) := Lib.hid rfl
  go_wp2
  go_loopw [8, 9, 23] (fun v8 v9 v23 wr => ∃ k : Nat, k ≤ N ∧ v23 = .int .i64 (k : Int) ∧ v8 = .string (tx (lastL K C X k)) ∧ v9 = .string (tx (allL K C X k)) ∧ Below w.heap.size w wr) (fun _ _ v23 _ => N - (intOf v23).toNat)
  case atStart => exact ⟨0, Nat.zero_le _, rfl, rfl, by rw [HA0.out], B2.out⟩
  case round =>
    obtain ⟨k, hk, rfl, rfl, rfl, hb⟩ := hrel
    have HB := Lib.hid hb
    clear hb
    by_cases hlt : k < N
    · have hdt : decide ((k : Int) < (N : Int)) = true := by simp; omega
      have HLT := Lib.hid hlt
      clear hlt
      obtain ⟨S, hS⟩ : ∃ S, S = tx (lastL K C X k) := ⟨_, rfl⟩
      obtain ⟨U, hU⟩ : ∃ U, U = tx (allL K C X k) := ⟨_, rfl⟩
      rw [← hS, ← hU]
      have hsS : S.size = 32 := by rw [hS, tx_size, lastL_length]
      have hsU : U.size = 32 := by rw [hU, tx_size, allL_length]
      have CW := Lib.hid (withone_any wr M K C (HM.out.below HB.out) (HK.out.next HB.out) S (by have := HL.out; omega))
      have HS := Lib.hid hS
      have HU := Lib.hid hU
      have HsS := Lib.hid hsS
      have HsU := Lib.hid hsU
      clear hS hU hsS hsU
      go_wp2_with fail
      refine CW.out.mono ?_
      rintro e w3 ⟨M3, rfl, h3, b3⟩
      have B3 := Lib.hid (below_step HB.out b3)
      have CT := tag_any w3 M3 K (C ++ tl S) h3 (HK.out.next B3.out) (by have := HL.out; have := HsS.out; rw [List.length_append, tl_length]; omega)
      rw [show tagL K (C ++ tl S) = lastL K C X (k + 1) by rw [HS.out, tl_tx]; rfl] at CT
      obtain ⟨S2, hS2⟩ : ∃ S2, S2 = tx (lastL K C X (k + 1)) := ⟨_, rfl⟩
      rw [← hS2] at CT
      have hsS2 : S2.size = 32 := by rw [hS2, tx_size, lastL_length]
      have CT := Lib.hid CT
      have HS2 := Lib.hid hS2
      have HsS2 := Lib.hid hsS2
      clear h3 b3 CW hS2 hsS2
      go_wp2_with fail
      refine CT.out.mono ?_
      rintro e w4 ⟨rfl, b4⟩
      have B4 := Lib.hid (below_step B3.out b4)
      clear b4 CT
      have HA : Hid (Below w4.heap.size w4 (w4.alloc (.cells #[.string U, .string S2] 9))) := Lib.hid ((Below.refl _ w4).alloc (Nat.le_refl _) _)
      have CX := xor_two (some ⟨w4.heap.size, 0, none⟩) 2 U S2 (w4.alloc (.cells #[.string U, .string S2] 9)) (fun k hk => by
        have hk2 : k < 2 := by simpa [stv] using hk
        refine ⟨w4.heap.size, 0, rfl, by simp, ?_⟩
        rw [cell_of_row _ _ _ _ _ (0, 0) (heap_alloc_last w4 _)]
        rcases (by omega : k = 0 ∨ k = 1) with rfl | rfl <;> rfl) (Nat.le_refl _) (by rw [HsS2.out, HsU.out]) (by rw [HsU.out]; decide)
      rw [show xorB (tl U) (tl S2) = allL K C X (k + 1) by rw [HU.out, HS2.out, tl_tx, tl_tx]; rfl] at CX
      obtain ⟨U2, hU2⟩ : ∃ U2, U2 = tx (allL K C X (k + 1)) := ⟨_, rfl⟩
      rw [← hU2] at CX
      have CX := Lib.hid CX
      have HU2 := Lib.hid hU2
      clear hU2
      go_wp2_with fail
      refine CX.out.mono ?_
      rintro e w5 ⟨rfl, b5⟩
      have B5 := Lib.hid (below_step B4.out (below_step HA.out b5))
      clear b5 CX HA
      go_wp2
      go_roundw
      case rel => exact ⟨k + 1, HLT.out, by go_num, by rw [HS2.out], by rw [HU2.out], B5.out⟩
      case measure => have := HLT.out; simp [intOf]; omega
    · obtain rfl : k = N := by omega
      have hdt : decide ((k : Int) < (k : Int)) = false := by simp
      go_wp2
      go_ret2
      exact ⟨rfl, HB.out⟩
end Go.Proofs.YtebocfbnamcnoaaDoor

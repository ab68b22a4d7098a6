/- The document's Chain by its contract. Conditions: the key is of at most 1,000 bytes, what came and the text together too. -/
import Derived.Test.YtebocfbnamcnoaaDoorMxRef
import Derived.Deep.QuietTactic
import Derived.BigQuiet
namespace Go.Proofs.YtebocfbnamcnoaaDoor
set_option maxRecDepth 50000
open Go.RowKit Sha

set_option maxHeartbeats 800000 in
theorem rchain_low (FX : Array Value) (k came t : ByteArray) (m : Int) (hm : m < 1) (w : World) :
    Calls Tryd.prog 25 #[.agg FX, .string k, .string came, .string t, .int .i64 m] w fun e w' => e = .returned (.tuple #[.string ⟨#[]⟩, .string ⟨#[]⟩]) ∧ Below w.heap.size w w' := by
  have hd : decide (m < 1) = true := by simp; omega
  have B0 : Hid (Below w.heap.size w (w.alloc (.cells FX 33))) := Lib.hid ((Below.refl _ w).alloc (Nat.le_refl _) _)
  go_enter Tryd.func25, Tryd.ntmps25
  go_wp2
  go_ret2
  exact ⟨rfl, B0.out⟩

theorem drewN_below {B : Nat} {w w' : World} (h : Below B w w') (q : Nat) : Below B w (w'.drewN q) := ⟨h.os, h.tape, h.output, h.size, h.block⟩

set_option maxHeartbeats 4000000 in
theorem rchain_any (k came t : ByteArray) (hk : k.size ≤ 1000) (hct : came.size + t.size ≤ 900) (m : Nat) (h0 : m ≠ 0) (hm : m ≤ 1000000) (w : World) :
    Calls Tryd.prog 25 #[.agg (wd (kk ++ hh)), .string k, .string came, .string t, .int .i64 (m : Int)] w fun e w' => e = .returned (.tuple #[.string (tx (lastL (tl k) (tl came) (tl t) (m - 1))), .string (tx (allL (tl k) (tl came) (tl t) (m - 1)))]) ∧ Below w.heap.size w w' := by
  have hfl : (wd (kk ++ hh)).size = 72 := by rw [wd_size]; rfl
  have CT := Lib.hid fun (u : ByteArray) (hu : u.size ≤ 1000) (W : World) => rtag_any k u hk hu W
  obtain ⟨FX, hFX⟩ : ∃ FX, FX = wd (kk ++ hh) := ⟨_, rfl⟩
  rw [← hFX] at hfl CT ⊢
  have HFL := Lib.hid hfl
  obtain ⟨K, hK⟩ : ∃ K, K = tl k := ⟨_, rfl⟩
  obtain ⟨C, hC⟩ : ∃ C, C = tl came := ⟨_, rfl⟩
  obtain ⟨X, hX⟩ : ∃ X, X = tl t := ⟨_, rfl⟩
  rw [← hK] at CT ⊢
  rw [← hC, ← hX]
  have e1 : tagL K (tl (came ++ t)) = lastL K C X 0 := by
    have e : tl (came ++ t) = C ++ X := by rw [hC, hX]; unfold tl; rw [ByteArray.data_append]; simp
    rw [e]; rfl
  have e2 : ∀ q (S : ByteArray), S = tx (lastL K C X q) → tagL K (tl (came ++ S)) = lastL K C X (q + 1) := fun q S hS => by
    have e : tl (came ++ S) = C ++ lastL K C X q := by
      have h : tl (came ++ S) = tl came ++ tl S := by unfold tl; rw [ByteArray.data_append]; simp
      rw [h, hS, tl_tx, hC]
    rw [e]; rfl
  have C0 := CT.out (came ++ t) (by rw [ByteArray.size_append]; omega)
  obtain ⟨S0, hS0⟩ : ∃ S0, S0 = tx (lastL K C X 0) := ⟨_, rfl⟩
  rw [e1, ← hS0] at C0
  have hs0 : S0.size = 32 := by rw [hS0, tx_size, lastL_length]
  have HS0 := Lib.hid hS0
  have HZ0 := Lib.hid hs0
  have hs0b : S0.size ≤ 32 := by omega
  have E2 := Lib.hid e2
  have CC0 := Lib.hid C0
  have hd : decide ((m : Int) < 1) = false := by simp; omega
  have hcs : came.size ≤ 900 := by omega
  have H0 := Lib.hid h0
  clear hfl hFX hK hC hX e1 e2 C0 hS0 hs0 h0
  go_enter Tryd.func25, Tryd.ntmps25
  have R0 := Lib.hid (RowAt.new w 33 FX)
  have B0 : Hid (Below w.heap.size w (w.alloc (.cells FX 33))) := Lib.hid ((Below.refl _ w).alloc (Nat.le_refl _) _)
  have hlt0 : w.heap.size < (w.alloc (.cells FX 33)).heap.size := by simp
  go_wp2_with (first
    | refine wpList_load_of rfl 33 (.tmp 5) rfl ⟨w.heap.size, 0, none⟩ _ rfl (fx_load R0.out HFL.out) ?_)
  refine (CC0.out _).mono ?_
  rintro e w2 ⟨rfl, b2⟩
  have LF := Lib.hid fun (w' : World) (hb : Below w2.heap.size w2 w') => fx_load (((R0.out.below b2 hlt0).below hb (Nat.lt_of_lt_of_le hlt0 b2.size))) HFL.out
  have B2 := Lib.hid (below_step B0.out b2)
  clear b2 hlt0 CC0
  obtain ⟨W, cap, hcv, hbW, hBuf, hWs⟩ := bytes_of_text w2 S0
  have HW := Lib.hid hWs
  have HBF := Lib.hid hBuf
  have HBW := Lib.hid hbW
  clear hWs hBuf hbW
  go_wp2_with fail
  go_loopw [12, 14] (fun v12 v14 wr => ∃ q i : Nat, i = q + 1 ∧ i ≤ m ∧ v14 = .int .i64 (i : Int) ∧ v12 = .string (tx (lastL K C X q)) ∧ Buf wr w2.heap.size (nats (allL K C X q)) ∧ Below w2.heap.size w2 wr ∧ w2.heap.size < wr.heap.size) (fun _ v14 _ => m - (intOf v14).toNat)
  case atStart => exact ⟨0, 1, rfl, by have := H0.out; omega, rfl, by rw [HS0.out], by have h := HBF.out; rw [nb_nats, HS0.out, tl_tx] at h; exact h, HBW.out, by have := HW.out; omega⟩
  case round =>
    obtain ⟨q, i, hi, him, rfl, rfl, hB, hb, hgs⟩ := hrel
    have HBr := Lib.hid hB
    have Hbr := Lib.hid hb
    have HI := Lib.hid hi
    clear hB hb hi
    by_cases hlt : i < m
    · have hdt : decide ((i : Int) < (m : Int)) = true := by simp; omega
      have HLT := Lib.hid hlt
      clear hlt
      obtain ⟨S, hS⟩ : ∃ S, S = tx (lastL K C X q) := ⟨_, rfl⟩
      have hs : S.size = 32 := by rw [hS, tx_size, lastL_length]
      have C1 := CT.out (came ++ S) (by rw [ByteArray.size_append]; omega)
      rw [E2.out q S hS] at C1
      obtain ⟨S2, hS2⟩ : ∃ S2, S2 = tx (lastL K C X (q + 1)) := ⟨_, rfl⟩
      rw [← hS2] at C1
      have hs2 : S2.size = S0.size := by rw [HZ0.out, hS2, tx_size, lastL_length]
      rw [← hS]
      have hsl : S.size ≤ 32 := by omega
      have HS2 := Lib.hid hS2
      have CC1 := Lib.hid C1
      have Hs2 := Lib.hid hs2
      have L1 := Lib.hid (LF.out _ Hbr.out)
      clear hS hs C1 hS2 hs2
      go_wp2_with (first
        | refine wpList_load_of rfl 33 (.tmp 5) rfl ⟨w.heap.size, 0, none⟩ _ rfl L1.out ?_)
      refine (CC1.out _).mono ?_
      rintro e w3 ⟨rfl, b3⟩
      have HB3 : Hid (Buf w3 w2.heap.size (nats (allL K C X q))) := Lib.hid ⟨fun j hj => (b3.cell (p := ⟨w2.heap.size, j, none⟩) hgs).trans (HBr.out.cell j hj), fun j hj => by
        have h := HBr.out.free j hj
        unfold World.frozen? at *
        rw [b3.block w2.heap.size hgs]; exact h⟩
      have Hb3 := Lib.hid (Hbr.out.trans (b3.mono (Nat.le_of_lt hgs)))
      have hgs3 : w2.heap.size < w3.heap.size := Nat.lt_of_lt_of_le hgs b3.size
      clear b3 CC1 L1 HBr Hbr hgs
      have hL : (nats (allL K C X q)).length = S0.size := by rw [nats_length, allL_length, HZ0.out]
      have hLt := nats_lt (allL K C X q)
      have hn : (nb S2).length = (nats (allL K C X q)).length := by rw [nb_length, Hs2.out, hL]
      have hend : xorL (nats (allL K C X q)) (nb S2) = nats (allL K C X (q + 1)) := by rw [nb_nats, HS2.out, tl_tx, xorL_nats]; rfl
      have HEND := Lib.hid hend
      generalize nats (allL K C X q) = L at *
      have HL := Lib.hid hL
      have HLt := Lib.hid hLt
      have Hn := Lib.hid hn
      clear hL hLt hn hend
      go_wp2_with fail
      go_loopw [15] (fun v15 wr => ∃ j : Nat, j ≤ S0.size ∧ v15 = .int .i64 (j : Int) ∧ Buf wr w2.heap.size (partX L (nb S2) j) ∧ Below w2.heap.size w2 wr ∧ w2.heap.size < wr.heap.size) (fun v15 _ => S0.size - (intOf v15).toNat)
      case atStart => exact ⟨0, Nat.zero_le _, rfl, by rw [partX_zero]; exact HB3.out, Hb3.out, hgs3⟩
      case round =>
        obtain ⟨j, hj, rfl, hB, hb, hgs⟩ := hrel
        by_cases hlj : j < S0.size
        · have hjL : j < L.length := by rw [HL.out]; exact hlj
          have hjt : j < S2.size := by rw [Hs2.out]; exact hlj
          have hjn : j < (nb S2).length := by rw [nb_length]; exact hjt
          have hpl : j < (partX L (nb S2) j).length := by rw [partX_length L (nb S2) j Hn.out (by omega)]; exact hjL
          have hc := hB.cell j hpl
          have hf := hB.free j hpl
          rw [partX_at L (nb S2) j Hn.out hjL] at hc
          have hset := partX_set L (nb S2) j Hn.out hjL
          have hxl := HLt.out L[j] (List.getElem_mem hjL)
          rw [nb_at S2 j hjt] at hset
          generalize L[j] = x at *
          have hor := u8_xor_of x S2[j] hxl
          have Hor := Lib.hid hor
          have Hset := Lib.hid hset
          have ij0 : (0 : Int) ≤ (j : Int) := by omega
          have ij1 : (j : Int) < (S0.size : Int) := by omega
          have ij2 : (j : Int) < (S2.size : Int) := by omega
          clear hor hset hpl
          go_wp2_with fail
          refine wp_region_still_tail 11 (by kernel_rfl) (by kernel_rfl) ?_
          simp only [List.take_succ_cons, List.take_zero, List.drop_succ_cons, List.drop_zero]
          repeat still_step
          refine wpStill_nil ?_
          change wpList _ _ _ _ _ wr.drew
          go_wp2_with fail
          go_roundw
          case rel =>
            refine ⟨j + 1, by omega, by go_num, ?_, (hb.setCell (Nat.le_refl _) _).drew, by simp [World.setCell, World.drew]; exact hgs⟩
            rw [Hor.out, ← Hset.out]
            exact (hB.set j _ (by rw [partX_length L (nb S2) j Hn.out (by omega)]; exact hjL)).drew
          case measure => simp [intOf]; omega
        · obtain rfl : j = S0.size := by omega
          have hpa := partX_all L (nb S2) Hn.out
          rw [HL.out] at hpa
          rw [hpa, HEND.out] at hB
          clear hpa
          have HBe := Lib.hid hB
          have Hbe := Lib.hid hb
          clear hB hb
          go_wp2_with fail
          go_roundw
          case rel => exact ⟨q + 1, i + 1, by rw [HI.out], HLT.out, by go_num, by rw [HS2.out], HBe.out, Hbe.out, hgs⟩
          case measure => have := HLT.out; simp [intOf]; omega
    · obtain rfl : i = m := by omega
      have hdt : decide ((i : Int) < (i : Int)) = false := by simp
      have hqm : q = i - 1 := by have := HI.out; omega
      have hcs2 : ∀ n, (convert 48 9 (.slice (some ⟨w2.heap.size, 0, none⟩) S0.size cap)).run Tryd.prog (wr.drewN n) = .ok (.string (tx (allL K C X q))) (wr.drewN n) := fun n => by
        have h := conv_str (wr.drewN n) (c := cap) (nats (allL K C X q)) ((HBr.out.reads hgs).drewN n)
        rw [nats_length, allL_length, strOf_nats] at h
        rw [HZ0.out]
        exact h
      have HQ := Lib.hid hqm
      have HE := Lib.hid fun n => drewN_below (below_step B2.out (Below.mono (w := w2) (w' := wr) Hbr.out (Nat.le_refl _))) n
      clear hqm hlt
      go_wp2_with fail
      go_quiet (fail)
      go_wp2_with fail
      go_ret2
      exact ⟨by rw [← HQ.out]; rfl, HE.out _⟩
end Go.Proofs.YtebocfbnamcnoaaDoor

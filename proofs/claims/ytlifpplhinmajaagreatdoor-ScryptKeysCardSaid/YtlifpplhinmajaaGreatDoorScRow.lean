/- The document's row of a text's words, by its contract. Conditions: those typed. -/
import Derived.Test.YtlifpplhinmajaaGreatDoorScPut
namespace Go.Proofs.YtlifpplhinmajaaGreatDoor
set_option maxRecDepth 50000
open Go.RowKit Sl Sf Rm

theorem extract_nats (t : ByteArray) (q m : Nat) : nats (tl (t.extract q (q + m))) = nats (((tl t).drop q).take m) := by
  unfold nats tl
  rw [ByteArray.data_extract]
  simp [List.extract_eq_take_drop]
set_option maxHeartbeats 6400000 in
theorem rrow_any (t : ByteArray) (q m M : Nat) (hM : m = 4 * M) (hq : q + m ≤ t.size) (ht : t.size ≤ 1000000) (w : World) :
    Calls Tryz.prog 32 #[.string t, .int .i64 (q : Int), .int .i64 (m : Int)] w fun e w' => ∃ v, e = .returned v ∧ w'.ownsRow w.heap.size 36 1 v M (u32s (leW M (((tl t).drop q).take m))) ∧ Below w.heap.size w w' := by
  obtain ⟨i0, hi, hz0, hz1, hz2⟩ := info_parts Tryz.info36
  have hx := extract_nats t q m
  have hsz : (t.extract q (q + m)).size = m := by rw [ByteArray.size_extract]; omega
  obtain ⟨h, hh⟩ : ∃ h, q + m = h := ⟨_, rfl⟩
  rw [hh] at hx hsz hq
  have e1 : (q : Int) + (m : Int) = (h : Int) := by omega
  have e2 : IntKind.i64.wrap (h : Int) = (h : Int) := by rw [IntKind.wrap_i64]; omega
  have l1 : q ≤ h := by omega
  obtain ⟨W, cap, hcv, hbW, hBuf, hWs⟩ := bytes_of_text w (t.extract q h)
  have CW := words4_any _ cap (nb (t.extract q h)) M (by rw [nb_length, hsz]; exact hM) W (hBuf.reads (B := W.heap.size) (by rw [hWs]; omega)) (by rw [nb_length, hsz]; omega) (nb_lt _)
  rw [nb_length, nb_nats, hx, show hornsAt 4 (nats (((tl t).drop q).take m)) M = leW M (((tl t).drop q).take m) from rfl] at CW
  have HL := Lib.hid (leW_length M (((tl t).drop q).take m))
  have HO := Lib.hid (leW_ok M (((tl t).drop q).take m))
  have CWW := Lib.hid CW
  have HBW := Lib.hid hbW
  have hM2 : M ≤ 250000 := by omega
  generalize leW M (((tl t).drop q).take m) = L at *
  rw [hsz] at hcv CWW
  clear CW hx hBuf hbW hh hM hsz hWs
  go_enter Tryz.func32, Tryz.ntmps32
  go_wp2_with fail
  refine CWW.out.mono ?_
  rintro e w1 ⟨v, rfl, hown, hb⟩
  have HB1 := Lib.hid (below_step HBW.out hb)
  have hA : ∃ A c, v = .slice A M c ∧ ∀ j, j < M → ∃ b, A = some ⟨b, 0, none⟩ ∧ b < w1.heap.size ∧ w1.cell? ⟨b, j, none⟩ = some (.int .u64 ((L.getD j 0 : Nat) : Int)) := by
    rcases Nat.eq_zero_or_pos M with rfl | h0
    · obtain ⟨A, c, rfl, _⟩ := own_form hown
      exact ⟨A, c, rfl, fun j hj => by omega⟩
    · obtain ⟨b, c, rfl, _, hb1, _, _, hc⟩ := own_full hown h0
      exact ⟨_, c, rfl, fun j hj => ⟨b, rfl, hb1, by
        rw [hc j hj, List.getElem?_eq_getElem (by rw [u64s_length, HL.out]; exact hj), u64_at, List.getD_eq_getElem?_getD, List.getElem?_eq_getElem (by rw [HL.out]; exact hj)]; rfl⟩⟩
  obtain ⟨A, c, rfl, hA⟩ := hA
  have HA := Lib.hid hA
  clear hown hb CWW HBW hA hcv
  go_wp2
  go_loopw [9, 10] (fun v9 v10 wr => ∃ (k : Nat) (v : Value), k ≤ M ∧ v10 = .int .i64 (k : Int) ∧ v9 = v ∧ wr.ownsRow w1.heap.size 36 1 v k (u32s (L.take k)) ∧ Below w1.heap.size w1 wr) (fun _ v10 _ => M - (intOf v10).toNat)
  case atStart => exact ⟨0, _, Nat.zero_le _, rfl, rfl, by simpa [u32s] using World.ownsRow_nil _ _ _ _, Below.refl _ _⟩
  case round =>
    obtain ⟨k, v, hk, rfl, e3, hown, hb⟩ := hrel
    obtain rfl := e3.symm
    clear e3
    by_cases hlt : k < M
    · have hd : decide ((k : Int) < (M : Int)) = true := by simp; omega
      have hsz := hb.size
      obtain ⟨b, rfl, hb1, hc⟩ := HA.out k hlt
      have hcell : wr.cell? ⟨b, k, none⟩ = some (.int .u64 ((L.getD k 0 : Nat) : Int)) := (hb.cell (p := ⟨b, k, none⟩) hb1).trans hc
      have hlo := HO.out.at_ k
      have hsn : L.take (k + 1) = L.take k ++ [L.getD k 0] := by
        rw [List.take_add_one, List.getElem?_eq_getElem (by rw [HL.out]; exact hlt), List.getD_eq_getElem?_getD, List.getElem?_eq_getElem (by rw [HL.out]; exact hlt)]; rfl
      have HSN := Lib.hid hsn
      generalize L.getD k 0 = x at *
      have hw : IntKind.u32.wrap (x : Int) = (x : Int) := by rw [IntKind.wrap_u32]; omega
      clear hsn hc
      go_wp2_with (at_builtin; refine wpList_append_own _ rfl (.tmp 28) (.tmp 34) 63 rfl w1.heap.size 36 i0 (.int .u32 0) 1 4 Tryz.underlying63 hi hz0 hz1 hz2 rfl (by decide) _ _ _ rfl (hown.alloc _) ⟨wr.heap.size, 0, none⟩ 1 1 [.int .u32 (x : Int)] rfl rfl ?c1 ?c2 ?c3 ?c4 ?c5 ?_)
      case c1 => exact one_new _ _ _
      case c2 => exact one_cell _ rfl
      case c3 => unfold maxLen; omega
      case c4 => omega
      case c5 => simp; omega
      intro v' w2 hown2 hg2 _
      have R := rel_step hb hsz hown hown2 hg2
      clear hown2 hg2 hown hb
      go_wp2
      go_roundw
      case rel => exact ⟨k + 1, _, by omega, by go_num, rfl, by rw [HSN.out]; simpa [u32s] using R.1, R.2⟩
      case measure => simp [intOf]; omega
    · obtain rfl : k = M := by omega
      have hd : decide ((k : Int) < (k : Int)) = false := by simp
      rw [List.take_of_length_le (by rw [HL.out]; omega)] at hown
      have HH := Lib.hid (And.intro (own_base' hown HB1.out.size) (below_step HB1.out hb))
      clear hown hb
      go_wp2
      go_ret
      exact ⟨_, rfl, HH.out⟩
end Go.Proofs.YtlifpplhinmajaaGreatDoor

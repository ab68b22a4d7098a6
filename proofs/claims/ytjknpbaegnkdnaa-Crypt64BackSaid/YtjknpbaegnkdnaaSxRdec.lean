/- The document's Plain and Decode by their contracts. Conditions: those typed: the text is of at most 1,000 bytes, the letters are a coder's. -/
import Derived.Test.YtjknpbaegnkdnaaSxRenc
namespace Go.Proofs.Ytjknpbaegnkdnaa
set_option maxRecDepth 50000
open Go.RowKit Sx

namespace Sx
theorem decE_five {L s : List UInt8} (h : all L s = true) (h2 : decE L s ≠ 0) : decE L s = 5 := by
  unfold decE at *
  rw [if_pos h] at *
  split at h2
  · rename_i h3; rw [if_pos h3]
  · exact absurd rfl h2
end Sx
theorem text_same (s : ByteArray) : (s.toList == s.toList) = true ∧ (s.toList != s.toList) = false := by simp
theorem text_other {s t : ByteArray} (h : s ≠ t) : (s.toList == t.toList) = false ∧ (s.toList != t.toList) = true := by
  have : s.toList ≠ t.toList := fun e => h (tl_inj (by rw [ByteArray.toList_eq, ByteArray.toList_eq] at e; exact e))
  exact ⟨by rw [beq_eq_false_iff_ne]; exact this, by rw [bne_iff_ne]; exact this⟩

set_option maxHeartbeats 6400000 in
theorem rdecode_any (L s : ByteArray) (hf : Fine (tl L)) (hs : s.size ≤ 1000) (w : World) :
    Calls Try.prog 17 #[.string L, .string s] w fun e w' => e = .returned (.tuple #[.string (tx (decL (tl L) (tl s))), .int .i64 (decE (tl L) (tl s))]) ∧ Below w.heap.size w w' := by
  obtain ⟨i0, hi, hz0, hz1, hz2⟩ := info_parts sx_info_int
  obtain ⟨j0, hj, hy0, hy1, hy2⟩ := info_parts fd_info_u8
  have hLs : L.size = 64 := by rw [← tl_length]; exact hf.1
  have HF := Lib.hid hf
  clear hf
  go_enter Try.func17, Try.ntmps17
  go_wp2
  go_loopw [6, 7] (fun v6 v7 wr => ∃ (i : Nat) (bs : List Nat), i ≤ s.size ∧ v7 = .int .i64 (i : Int) ∧ Hid (all (tl L) ((tl s).take i) = true) ∧ Hid (bs = bt 6 (plc (tl L) ((tl s).take i))) ∧ BitRow w wr v6 bs) (fun _ v7 _ => s.size - (intOf v7).toNat)
  case atStart => exact ⟨0, [], Nat.zero_le _, rfl, Lib.hid rfl, Lib.hid rfl, ⟨by simp, World.ownsRow_nil _ _ _ _, Below.refl _ _⟩⟩
  case round =>
    obtain ⟨i, bs, hik, rfl, HA, HB, hrow⟩ := hrel
    by_cases hlt : i < s.size
    · have hil : i < (tl s).length := by rw [tl_length]; exact hlt
      obtain ⟨x, hx⟩ : ∃ x, x = s[i]'hlt := ⟨_, rfl⟩
      have hat : ((s[i]'hlt).toNat : Int) = (x.toNat : Int) := by rw [hx]
      have hat2 : (tl s)[i]'hil = x := hx.symm
      have hxb := x.toNat_lt
      have hxm : x ∈ tl s := by rw [← hat2]; exact List.getElem_mem hil
      have CA := Lib.hid (at_any L (by omega) x wr)
      have hlI : decide ((i : Int) < (s.size : Int)) = true := by simp; omega
      by_cases hm : x ∈ tl L
      · have hai : atI (tl L) x = ((pos (tl L) x : Nat) : Int) := if_pos hm
        rw [hai] at CA
        have hp1 := pos_lt hm
        rw [HF.out.1] at hp1
        obtain ⟨y, hy⟩ : ∃ y, y = pos (tl L) x := ⟨_, rfl⟩
        rw [← hy] at CA hp1
        have htk : (tl s).take (i + 1) = (tl s).take i ++ [x] := by rw [List.take_succ_eq_append_getElem hil, hat2]
        have hpl : plc (tl L) ((tl s).take (i + 1)) = plc (tl L) ((tl s).take i) ++ [y] := by rw [htk, hy]; unfold plc; rw [List.map_append]; rfl
        have HA2 : Hid (all (tl L) ((tl s).take (i + 1)) = true) := Lib.hid (by rw [htk]; exact all_snoc HA.out hm)
        obtain ⟨vs, hvs⟩ : ∃ vs, vs = plc (tl L) ((tl s).take i) := ⟨_, rfl⟩
        rw [← hvs] at hpl HB
        have HS : Hid (bt 6 (plc (tl L) ((tl s).take (i + 1))) = bt 6 vs ++ (dgs 1 6 y).take 6) := Lib.hid (by
          have e8 : (dgs 1 6 y).take 6 = dgs 1 6 y := List.take_of_length_le (by rw [dgs_length]; exact Nat.le_refl _)
          rw [hpl, bt_snoc, e8])
        have hvl : vs.length ≤ 1000 := by rw [hvs, plc_length, List.length_take, tl_length]; omega
        have HL : Hid (∀ j, (bt 6 vs ++ (dgs 1 6 y).take j).length ≤ 9000) := Lib.hid fun j => by
          rw [List.length_append, List.length_take, dgs_length, bt_length]; omega
        clear hvs hpl htk hy hai hm hxm hx hat2 hvl HA
        generalize x.toNat = xn at *
        go_wp2_with fail
        refine CA.out.mono ?_
        rintro e w1 ⟨rfl, rfl⟩
        go_wp2
        obtain ⟨wo, hwo⟩ : ∃ wo : World, wo = w1 := ⟨_, rfl⟩
        go_loopw [6, 9] (fun v6 v9 wr => ∃ (j K : Nat) (bs : List Nat), j ≤ 6 ∧ v9 = .int .i64 (K : Int) ∧ K ≤ 32 ∧ Hid (K = 2 ^ (6 - 1) / 2 ^ j) ∧ Hid (bs = bt 6 vs ++ (dgs 1 6 y).take j) ∧ BitRow w wr v6 bs) (fun _ v9 _ => (intOf v9).toNat)
        case atStart => exact ⟨0, 32, bs, by omega, rfl, by omega, Lib.hid rfl, Lib.hid (by rw [HB.out]; simp), hrow⟩
        case round =>
          clear HB hrow hwo CA
          obtain ⟨j, K, bs2, hj6, rfl, hK, HK, HB, hrow⟩ := hrel
          by_cases hj8 : j < 6
          · have hKp : 0 < K := by rw [HK.out]; exact half_pos 6 j hj8
            have hnx := dgs_next 6 y j hj8
            rw [← HK.out] at hnx
            obtain ⟨a, ha⟩ : ∃ a, a = y / K := ⟨_, rfl⟩
            obtain ⟨r, hr⟩ : ∃ r, r = a % 2 := ⟨_, rfl⟩
            rw [← ha, ← hr] at hnx
            have al : a ≤ y := by rw [ha]; exact Nat.div_le_self _ _
            have q1 : (y : Int) / (K : Int) = (a : Int) := by rw [ha]; exact (Int.natCast_ediv _ _).symm
            have q2 : (y : Int).tdiv (K : Int) = (a : Int) := by rw [Int.tdiv_eq_ediv_of_nonneg (by omega), q1]
            have q3 : (a : Int) % 2 = (r : Int) := by omega
            have q4 : (a : Int).tmod 2 = (r : Int) := by rw [Int.tmod_eq_emod_of_nonneg (by omega), q3]
            have q5 : IntKind.i64.wrap (a : Int) = (a : Int) := by rw [IntKind.wrap_i64]; omega
            have q6 : IntKind.i64.wrap (r : Int) = (r : Int) := by rw [IntKind.wrap_i64]; omega
            obtain ⟨K2, hK2⟩ : ∃ K2, K2 = K / 2 := ⟨_, rfl⟩
            have q7 : (K : Int) / 2 = (K2 : Int) := by omega
            have q8 : (K : Int).tdiv 2 = (K2 : Int) := by rw [Int.tdiv_eq_ediv_of_nonneg (by omega), q7]
            have q9 : IntKind.i64.wrap (K2 : Int) = (K2 : Int) := by rw [IntKind.wrap_i64]; omega
            have hd : decide ((0 : Int) < (K : Int)) = true := by simp; omega
            have hKn : ((K : Int) == 0) = false := by simp; omega
            have hKn2 : (K : Int) ≠ 0 := by omega
            have HK2 : Hid (K2 = 2 ^ (6 - 1) / 2 ^ (j + 1) ∧ K2 < K) := Lib.hid ⟨by rw [hK2, HK.out, half_more], by omega⟩
            have hl2 : bs2.length ≤ 9000 := by rw [HB.out]; exact HL.out j
            have hl3 : (bs2 ++ [r]).length ≤ 9000 := by rw [HB.out, List.append_assoc, ← hnx]; exact HL.out (j + 1)
            have HB2 : Hid (bs2 ++ [r] = bt 6 vs ++ (dgs 1 6 y).take (j + 1)) := Lib.hid (by rw [HB.out, List.append_assoc, ← hnx])
            have HL3 := Lib.hid hl3
            obtain ⟨_, hown, hb⟩ := hrow
            obtain ⟨A, c, rfl, ho1, ho2, _⟩ := own_form hown
            clear ho1 ho2 hnx ha hr hK2 HK HB hl3
            have hsz := hb.size
            go_wp2_with (first
              | (at_builtin; refine wpList_append_own _ rfl (.tmp 29) (.tmp 34) 61 rfl w.heap.size 3 i0 (.int .i64 0) 1 8 Try.underlying61 hi hz0 hz1 hz2 rfl (by decide) _ _ _ rfl (hown.alloc _) ⟨wr.heap.size, 0, none⟩ 1 1 [.int .i64 (r : Int)] rfl rfl ?c1 ?c2 ?c3 ?c4 ?c5 ?_))
            case c1 => exact one_new _ _ _
            case c2 => exact one_cell _ rfl
            case c3 => unfold maxLen; omega
            case c4 => omega
            case c5 => simp; omega
            intro v' w2 hown2 hg2 _
            have R := rel_step hb hsz hown hown2 hg2
            clear hown2 hg2 hown hb
            go_wp2
            go_roundw
            case rel => exact ⟨j + 1, K2, bs2 ++ [r], by omega, by first | rfl | trivial, by have := HK2.out.2; omega, Lib.hid HK2.out.1, HB2, ⟨by have := HL3.out; omega, by rw [ints_append, List.length_append]; exact R.1, R.2⟩⟩
            case measure =>
              have hlt2 := HK2.out.2
              simp [intOf] <;> omega
          · obtain rfl : j = 6 := by omega
            obtain rfl : K = 0 := HK.out.trans (half_none 6 (by decide))
            rw [← HS.out] at HB
            have hd : decide ((0 : Int) < ((0 : Nat) : Int)) = false := rfl
            go_wp2
            go_roundw
            case rel => exact ⟨i + 1, bs2, by omega, by go_num, HA2, HB, hrow⟩
            case measure => simp [intOf]; omega
      · have hai : atI (tl L) x = -1 := if_neg hm
        rw [hai] at CA
        have hbad := decE_bad (all_no hxm hm)
        have HBD : Hid (decE (tl L) (tl s) = 8 ∧ tx (decL (tl L) (tl s)) = ⟨#[]⟩) := Lib.hid ⟨hbad, by rw [decL_bad (by rw [hbad]; decide)]; rfl⟩
        have HW := Lib.hid hrow.below
        clear hai hm hxm hx hat2 HA HB hrow hbad
        generalize x.toNat = xn at *
        go_wp2_with fail
        refine CA.out.mono ?_
        rintro e w1 ⟨rfl, rfl⟩
        go_wp2
        go_ret2
        exact ⟨by rw [HBD.out.1, HBD.out.2]; rfl, HW.out⟩
    · obtain rfl : i = s.size := by omega
      have ht : (tl s).take s.size = tl s := List.take_of_length_le (by rw [tl_length]; exact Nat.le_refl _)
      rw [ht] at HA HB
      obtain ⟨vs, hvs⟩ : ∃ vs, vs = plc (tl L) (tl s) := ⟨_, rfl⟩
      rw [← hvs] at HB
      have hvlt : ∀ x ∈ vs, x < 64 := by rw [hvs]; exact plc_lt HF.out HA.out
      have HV := Lib.hid (And.intro hvs hvlt)
      have hvl : vs.length = s.size := by rw [hvs, plc_length, tl_length]
      obtain ⟨hfew, hown0, hbl0⟩ := hrow
      obtain ⟨A, c, rfl, ho1, ho2, _⟩ := own_form hown0
      have hbl : bs.length = 6 * vs.length := by rw [HB.out, bt_length]
      have HRD : Hid (Reads wr wr.heap.size A (ints bs)) := Lib.hid (Reads.of_own hown0)
      have HBL := Lib.hid hbl0
      have HBS : Hid (∀ x ∈ bs, x < 2) := Lib.hid (by rw [HB.out]; exact bt_lt 6 vs)
      obtain ⟨n, hn⟩ : ∃ n, n = bs.length := ⟨_, rfl⟩
      have HN : Hid (n = 6 * vs.length) := Lib.hid (by rw [hn, hbl])
      have HNB := Lib.hid hn
      rw [← hn]
      have hn6 : n ≤ 6000 := by rw [hn, hbl, hvl]; omega
      clear ho1 ho2 hown0 hbl0 hbl hvl hvlt hvs ht hlt hfew hn
      go_wp2
      obtain ⟨wo, rfl⟩ : ∃ wo : World, wo = wr := ⟨_, rfl⟩
      go_loopw [10, 11] (fun v10 v11 wq => ∃ k i : Nat, Hid (i = 8 * k ∧ 8 * k ≤ n) ∧ v11 = .int .i64 (i : Int) ∧ i ≤ n ∧ k ≤ 1000 ∧ wq.ownsRow wo.heap.size 5 1 v10 k (cs (decTo vs k)) ∧ Below wo.heap.size wo wq) (fun _ v11 _ => n + 8 - (intOf v11).toNat)
      case atStart => exact ⟨0, 0, Lib.hid ⟨rfl, Nat.zero_le _⟩, rfl, Nat.zero_le _, by omega, World.ownsRow_nil _ _ _ _, Below.refl _ _⟩
      case round =>
        obtain ⟨k, i, HI, rfl, hin, hkb, hown, hb⟩ := hrel
        obtain ⟨A2, c2, rfl, ho1, ho2, _⟩ := own_form hown
        clear ho1 ho2
        by_cases hlt : i + 8 ≤ n
        · have hd : decide ((i : Int) + 8 ≤ (n : Int)) = true := by simp; omega
          have CN := Lib.hid (number_any A c bs HBS.out i 8 (by omega) (by decide) wr ((HRD.out.below hb).more hb.size))
          rw [← HNB.out] at CN
          obtain ⟨G, hG⟩ : ∃ G, G = nb bs i 8 := ⟨_, rfl⟩
          have hGl : G < 256 := by rw [hG]; exact nb_lt HBS.out i 8
          have hGd : G = vl 6 vs / 2 ^ (6 * vs.length - 8 * k - 8) % 256 := by
            rw [hG, HB.out, HI.out.1]
            exact bt_dec vs HV.out.2 k (by have := HN.out; have := HI.out.1; omega)
          rw [← hG] at CN
          have HS : Hid (cs (decTo vs (k + 1)) = cs (decTo vs k) ++ [.int .u8 (G : Int)]) := Lib.hid (by
            rw [decTo_snoc, ← hGd, cs_append]
            congr 1
            show [Value.int .u8 ((UInt8.ofNat G).toNat : Int)] = _
            rw [UInt8.toNat_ofNat_of_lt' hGl])
          have e3 : IntKind.u8.wrap (G : Int) = (G : Int) := by rw [IntKind.wrap_u8]; omega
          have hsz := hb.size
          clear hG hGd
          go_wp2_with (first
            | (go_at_call 23; refine CN.out.mono ?_; rintro e w' ⟨rfl, hw⟩; obtain rfl := hw.symm)
            | (at_builtin; refine wpList_append_own _ rfl (.tmp 43) (.tmp 48) 35 rfl wo.heap.size 5 j0 (.int .u8 0) 1 1 Try.underlying35 hj hy0 hy1 hy2 rfl (by decide) _ _ _ rfl (hown.alloc _) ⟨wr.heap.size, 0, none⟩ 1 1 [.int .u8 (G : Int)] rfl rfl ?c1 ?c2 ?c3 ?c4 ?c5 ?_))
          case c1 => exact one_new _ _ _
          case c2 => exact one_cell _ rfl
          case c3 => unfold maxLen; omega
          case c4 => omega
          case c5 => simp; omega
          intro v' w2 hown2 hg2 _
          have R := rel_step hb hsz hown hown2 hg2
          have HIJ := Lib.hid HI.out
          clear hown2 hg2 hown hb CN
          go_wp2
          go_roundw
          case rel => exact ⟨k + 1, i + 8, Lib.hid (by have := HIJ.out; omega), by go_num, by omega, by have := HIJ.out; omega, by rw [HS.out]; exact R.1, R.2⟩
          case measure => simp [intOf] <;> omega
        · have hd : decide ((i : Int) + 8 ≤ (n : Int)) = false := by simp; omega
          have hk : k = 6 * vs.length / 8 := by have := HI.out; have := HN.out; omega
          have hdec : decTo vs k = dec vs := by rw [hk, dec_to]
          rw [hdec] at hown
          have hcv := conv_text wr hown
          have CE := Lib.hid (rencode_any L (tx (dec vs)) hLs (by rw [tx_size, dec_length]; have := HN.out; omega) wr)
          rw [tl_tx] at CE
          have hiff := dec_enc HF.out HA.out
          rw [← HV.out.1] at hiff
          have HB0 := Lib.hid (HBL.out.trans (hb.mono HBL.out.size))
          have hcv2 : ∀ w2 : World, Below wr.heap.size wr w2 → (convert 35 9 (.slice A2 k c2)).run Try.prog w2 = .ok (.string (tx (dec vs))) w2 := fun w2 h2 => conv_text w2 (own_kept (M := fun _ => False) hown (Kept.of_below h2) fun _ _ h => h)
          have HCV := Lib.hid hcv2
          clear hcv2 hown hdec hk hb
          by_cases hE : decE (tl L) (tl s) = 0
          · have hT : tx (enc (tl L) (dec vs)) = s := by rw [hiff.2 hE, tx_tl]
            have HR : Hid (decE (tl L) (tl s) = 0 ∧ tx (decL (tl L) (tl s)) = tx (dec vs)) := Lib.hid ⟨hE, by rw [decL_good hE, HV.out.1]⟩
            rw [hT] at CE
            obtain ⟨s1, s2⟩ := text_same s
            generalize tx (dec vs) = D at *
            clear hT hE hiff
            go_wp2_with fail
            refine CE.out.mono ?_
            rintro e w2 ⟨rfl, hb2⟩
            have hcv3 := HCV.out w2 hb2
            have HB2 := Lib.hid (HB0.out.trans (hb2.mono HB0.out.size))
            clear hb2 hcv
            go_wp2
            go_ret2
            exact ⟨by rw [HR.out.1, HR.out.2]; rfl, HB2.out⟩
          · have hT : tx (enc (tl L) (dec vs)) ≠ s := by
              intro h
              apply hE
              apply hiff.1
              rw [← h, tl_tx]
            have h5 := decE_five HA.out hE
            have HR : Hid (decE (tl L) (tl s) = 5 ∧ tx (decL (tl L) (tl s)) = ⟨#[]⟩) := Lib.hid ⟨h5, by rw [decL_bad hE]; rfl⟩
            obtain ⟨s1, s2⟩ := text_other hT
            generalize tx (enc (tl L) (dec vs)) = T at *
            generalize tx (dec vs) = D at *
            clear hT hE hiff h5
            go_wp2_with fail
            refine CE.out.mono ?_
            rintro e w2 ⟨rfl, hb2⟩
            have HB2 := Lib.hid (HB0.out.trans (hb2.mono HB0.out.size))
            clear hb2 hcv
            go_wp2
            go_ret2
            exact ⟨by rw [HR.out.1, HR.out.2]; rfl, HB2.out⟩
end Go.Proofs.Ytjknpbaegnkdnaa

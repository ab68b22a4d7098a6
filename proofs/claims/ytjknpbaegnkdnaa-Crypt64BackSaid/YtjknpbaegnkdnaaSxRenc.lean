/- The document's Bits, Plain and Encode by their contracts. Conditions: those typed: the text is of at most 1,000 bytes. -/
import Derived.Test.YtjknpbaegnkdnaaSxRef
import Derived.Test.YtjknpbaegnkdnaaLaid
import Derived.Laws.Strings2
namespace Go.Proofs.Ytjknpbaegnkdnaa
set_option maxRecDepth 50000
open Go.RowKit Sx

/-- bits in a list of a call's own -/
structure BitRow (w wr : World) (v : Value) (bs : List Nat) : Prop where
  few : bs.length ≤ 100000
  own : wr.ownsRow w.heap.size 3 1 v bs.length (ints bs)
  below : Below w.heap.size w wr
theorem below_len (l : List UInt8) (i : Nat) : (bb (l.take i)).length ≤ 8 * i := by rw [bb_length, List.length_take]; omega

set_option maxHeartbeats 3200000 in
theorem bits_any (s : ByteArray) (hs : s.size ≤ 1000) (w : World) :
    Calls Try.prog 22 #[.string s] w fun e w' => ∃ v, e = .returned v ∧ BitRow w w' v (bb (tl s)) := by
  obtain ⟨i0, hi, hz0, hz1, hz2⟩ := info_parts sx_info_int
  go_enter Try.func22, Try.ntmps22
  go_wp2
  go_loopw [3, 4] (fun v3 v4 wr => ∃ (i : Nat) (bs : List Nat), i ≤ s.size ∧ v4 = .int .i64 (i : Int) ∧ Hid (bs = bb ((tl s).take i)) ∧ BitRow w wr v3 bs) (fun _ v4 _ => s.size - (intOf v4).toNat)
  case atStart => exact ⟨0, [], Nat.zero_le _, rfl, Lib.hid rfl, ⟨by simp, World.ownsRow_nil _ _ _ _, Below.refl _ _⟩⟩
  case round =>
    obtain ⟨i, bs, hik, rfl, HB, hrow⟩ := hrel
    by_cases hlt : i < s.size
    · have hil : i < (tl s).length := by rw [tl_length]; exact hlt
      obtain ⟨x, hx⟩ : ∃ x, x = s[i]'hlt := ⟨_, rfl⟩
      have hat : ((s[i]'hlt).toNat : Int) = (x.toNat : Int) := by rw [hx]
      have hat2 : (tl s)[i]'hil = x := hx.symm
      have hxb := x.toNat_lt
      have HS : Hid (bb ((tl s).take (i + 1)) = bb ((tl s).take i) ++ (dgs 1 8 x.toNat).take 8) := Lib.hid (by
        have e8 : (dgs 1 8 x.toNat).take 8 = dgs 1 8 x.toNat := List.take_of_length_le (by rw [dgs_length]; exact Nat.le_refl _)
        rw [List.take_succ_eq_append_getElem hil, hat2, bb_snoc, e8])
      have HL : Hid (∀ j, (bb ((tl s).take i) ++ (dgs 1 8 x.toNat).take j).length ≤ 9000) := Lib.hid fun j => by
        have := below_len (tl s) i
        rw [List.length_append, List.length_take, dgs_length]; omega
      have hlI : decide ((i : Int) < (s.size : Int)) = true := by simp; omega
      have e0 : IntKind.i64.wrap (x.toNat : Int) = (x.toNat : Int) := by rw [IntKind.wrap_i64]; omega
      clear hx hat2
      generalize x.toNat = y at *
      go_wp2
      go_loopw [3, 6] (fun v3 v6 wr => ∃ (j K : Nat) (bs : List Nat), j ≤ 8 ∧ v6 = .int .i64 (K : Int) ∧ K ≤ 128 ∧ Hid (K = 2 ^ (8 - 1) / 2 ^ j) ∧ Hid (bs = bb ((tl s).take i) ++ (dgs 1 8 y).take j) ∧ BitRow w wr v3 bs) (fun _ v6 _ => (intOf v6).toNat)
      case atStart => exact ⟨0, 128, bs, by omega, rfl, by omega, Lib.hid rfl, Lib.hid (by rw [HB.out]; simp), hrow⟩
      case round =>
        clear HB hrow
        obtain ⟨j, K, bs2, hj, rfl, hK, HK, HB, hrow⟩ := hrel
        by_cases hj8 : j < 8
        · have hKp : 0 < K := by rw [HK.out]; exact half_pos 8 j hj8
          have hnx := dgs_next 8 y j hj8
          rw [← HK.out] at hnx
          obtain ⟨a, ha⟩ : ∃ a, a = y / K := ⟨_, rfl⟩
          obtain ⟨r, hr⟩ : ∃ r, r = a % 2 := ⟨_, rfl⟩
          rw [← ha, ← hr] at hnx
          have al : a ≤ y := by rw [ha]; exact Nat.div_le_self _ _
          have q1 : (y : Int) / (K : Int) = (a : Int) := by rw [ha]; exact (Int.natCast_ediv _ _).symm
          have q2 : (y : Int).tdiv (K : Int) = (a : Int) := by rw [Int.tdiv_eq_ediv_of_nonneg (by omega), q1]
          have q3 : (a : Int) % 2 = (r : Int) := by omega
          have q4 : (a : Int).tmod 2 = (r : Int) := by rw [Int.tmod_eq_emod_of_nonneg (by omega), q3]
          have q5 : IntKind.i64.wrap (a : Int) = (a : Int) := by rw [IntKind.wrap_i64]; omega
          have q6 : IntKind.i64.wrap (r : Int) = (r : Int) := by rw [IntKind.wrap_i64]; omega
          obtain ⟨K2, hK2⟩ : ∃ K2, K2 = K / 2 := ⟨_, rfl⟩
          have q7 : (K : Int) / 2 = (K2 : Int) := by omega
          have q8 : (K : Int).tdiv 2 = (K2 : Int) := by rw [Int.tdiv_eq_ediv_of_nonneg (by omega), q7]
          have q9 : IntKind.i64.wrap (K2 : Int) = (K2 : Int) := by rw [IntKind.wrap_i64]; omega
          have hd : decide ((0 : Int) < (K : Int)) = true := by simp; omega
          have hKn : ((K : Int) == 0) = false := by simp; omega
          have hKn2 : (K : Int) ≠ 0 := by omega
          have HK2 : Hid (K2 = 2 ^ (8 - 1) / 2 ^ (j + 1) ∧ K2 < K) := Lib.hid ⟨by rw [hK2, HK.out, half_more], by omega⟩
          have hl2 : bs2.length ≤ 9000 := by rw [HB.out]; exact HL.out j
          have hl3 : (bs2 ++ [r]).length ≤ 9000 := by rw [HB.out, List.append_assoc, ← hnx]; exact HL.out (j + 1)
          have HB2 : Hid (bs2 ++ [r] = bb ((tl s).take i) ++ (dgs 1 8 y).take (j + 1)) := Lib.hid (by rw [HB.out, List.append_assoc, ← hnx])
          have HL3 := Lib.hid hl3
          obtain ⟨_, hown, hb⟩ := hrow
          obtain ⟨A, c, rfl, ho1, ho2, _⟩ := own_form hown
          clear ho1 ho2 hnx ha hr hK2 HK HB hl3
          have hsz := hb.size
          go_wp2_with (first
            | (at_builtin; refine wpList_append_own _ rfl (.tmp 21) (.tmp 26) 61 rfl w.heap.size 3 i0 (.int .i64 0) 1 8 Try.underlying61 hi hz0 hz1 hz2 rfl (by decide) _ _ _ rfl (hown.alloc _) ⟨wr.heap.size, 0, none⟩ 1 1 [.int .i64 (r : Int)] rfl rfl ?c1 ?c2 ?c3 ?c4 ?c5 ?_))
          case c1 => exact one_new _ _ _
          case c2 => exact one_cell _ rfl
          case c3 => unfold maxLen; omega
          case c4 => omega
          case c5 => simp; omega
          intro v' w2 hown2 hg2 _
          have R := rel_step hb hsz hown hown2 hg2
          clear hown2 hg2 hown hb
          go_wp2
          go_roundw
          case rel => exact ⟨j + 1, K2, bs2 ++ [r], by omega, by first | rfl | trivial, by have := HK2.out.2; omega, Lib.hid HK2.out.1, HB2, ⟨by have := HL3.out; omega, by rw [ints_append, List.length_append]; exact R.1, R.2⟩⟩
          case measure =>
            have hlt2 := HK2.out.2
            simp [intOf] <;> omega
        · obtain rfl : j = 8 := by omega
          obtain rfl : K = 0 := HK.out.trans (half_none 8 (by decide))
          rw [← HS.out] at HB
          have hd : decide ((0 : Int) < ((0 : Nat) : Int)) = false := rfl
          go_wp2
          go_roundw
          case rel => exact ⟨i + 1, bs2, by omega, by go_num, HB, hrow⟩
          case measure => simp [intOf]; omega
    · obtain rfl : i = s.size := by omega
      rw [List.take_of_length_le (by rw [tl_length]; exact Nat.le_refl _)] at HB
      go_wp2
      go_ret
      exact ⟨_, rfl, by rw [← HB.out]; exact hrow⟩

/-- 64 letters, of which one is cut out -/
theorem cut_letter (s : ByteArray) (k : Nat) (h : k < s.size) : s.extract k (k + 1) = tx [Sx.lt (tl s) k] := by
  apply tl_inj
  rw [tl_tx, lt_text s k h]
  apply List.ext_getElem
  · simp [tl]; omega
  · intro i h1 h2
    have : i = 0 := by simpa using h2
    subst this
    simp [tl]; rfl
set_option maxHeartbeats 3200000 in
theorem rencode_any (L s : ByteArray) (hL : L.size = 64) (hs : s.size ≤ 1000) (w : World) :
    Calls Try.prog 13 #[.string L, .string s] w fun e w' => e = .returned (.string (tx (enc (tl L) (tl s)))) ∧ Below w.heap.size w w' := by
  go_enter Try.func13, Try.ntmps13
  go_wp2_with fail
  refine (bits_any s hs w).mono ?_
  rintro e w1 ⟨v, rfl, hrow⟩
  obtain ⟨hfew, hown, hbl⟩ := hrow
  obtain ⟨A, c, rfl, ho1, ho2, _⟩ := own_form hown
  obtain ⟨n, hn⟩ : ∃ n, n = (bb (tl s)).length := ⟨_, rfl⟩
  have HRD : Hid (Reads w1 w1.heap.size A (ints (bb (tl s)))) := Lib.hid (Reads.of_own hown)
  have HBL := Lib.hid hbl
  have CN := Lib.hid (fun (i : Nat) (h : i ≤ 1000000) => number_any A c (bb (tl s)) (bt_lt 8 _) i 6 h (by decide) w1 HRD.out)
  rw [← hn] at hfew CN
  have hn8 : n = 8 * (tl s).length := by rw [hn, bb_length]
  have HN := Lib.hid hn8
  rw [← hn]
  clear ho1 ho2 hown hbl hn hn8
  go_wp2
  go_loopw [6, 7] (fun v6 v7 wr => ∃ (k i : Nat) (T : ByteArray), i ≤ n + 6 ∧ v7 = .int .i64 (i : Int) ∧ v6 = .string T ∧ Hid (i = 6 * k ∧ k ≤ ne (tl s).length ∧ T = tx (encTo (tl L) (tl s) k)) ∧ T.size ≤ 2000 ∧ wr = w1) (fun _ v7 _ => n + 6 - (intOf v7).toNat)
  case atStart => exact ⟨0, 0, ⟨#[]⟩, by omega, rfl, rfl, Lib.hid ⟨rfl, Nat.zero_le _, rfl⟩, by decide, rfl⟩
  case round =>
    obtain ⟨k, i, T, hi, rfl, rfl, HT, hTs, rfl⟩ := hrel
    by_cases hlt : i < n
    · have hd : decide ((i : Int) < (n : Int)) = true := by simp; omega
      have C1 := Lib.hid (CN.out i (by omega))
      obtain ⟨G, hG⟩ : ∃ G, G = nb (bb (tl s)) i 6 := ⟨_, rfl⟩
      have hgr : G = gr (tl s) k := by rw [hG, HT.out.1, bb_gr (tl s) k (by have := HN.out; have := HT.out.1; omega)]
      have hGl : G < 64 := by rw [hgr]; exact gr_lt _ _
      rw [← hG] at C1
      have hx := cut_letter L G (by omega)
      have hr : (Instr.slice 9 (.string L) (some (.int .i64 (G : Int))) (some (.int .i64 ((G : Int) + 1))) none).run Try.prog wr = .ok (.string (tx [Sx.lt (tl L) G])) wr := by
        rw [run_slice_string wr 9 L .i64 .i64 (G : Int) ((G : Int) + 1) Try.underlying9 (by omega) (by omega) (by omega), ← hx]
        rfl
      obtain ⟨T2, hT2⟩ : ∃ T2, T2 = tx [Sx.lt (tl L) G] := ⟨_, rfl⟩
      rw [← hT2] at hr
      have hT2s : T2.size = 1 := by rw [hT2, tx_size]; rfl
      have HNX : Hid (i + 6 = 6 * (k + 1) ∧ k + 1 ≤ ne (tl s).length ∧ T ++ T2 = tx (encTo (tl L) (tl s) (k + 1))) := Lib.hid ⟨by have := HT.out.1; omega, by have := HN.out; have := HT.out.1; unfold ne; omega, by rw [encTo_snoc, tx_append, ← hgr, HT.out.2.2, hT2]⟩
      have hTs2 : T.size + 1 ≤ 2000 := by
        have h1 := congrArg ByteArray.size HNX.out.2.2
        have h2 : (T ++ T2).size = k + 1 := by rw [h1, tx_size, encTo_length]
        have h3 : (tl s).length ≤ 1000 := by rw [tl_length]; exact hs
        have h4 := HNX.out.2.1
        unfold ne at h4
        have h5 : T.size = k := by rw [HT.out.2.2, tx_size, encTo_length]
        omega
      clear hgr hG hx hT2 HT
      go_wp2_with fail
      refine C1.out.mono ?_
      rintro e w2 ⟨rfl, rfl⟩
      go_wp2
      go_roundw
      case rel => exact ⟨k + 1, i + 6, T ++ T2, by omega, by go_num, rfl, HNX, by rw [ByteArray.size_append]; omega, by trivial⟩
      case measure => simp [intOf] <;> omega
    · have hd : decide ((i : Int) < (n : Int)) = false := by simp; omega
      have HE : Hid (T = tx (enc (tl L) (tl s))) := Lib.hid (by
        rw [enc_to, HT.out.2.2]
        congr 2
        have h1 := HT.out.1
        have h2 := HT.out.2.1
        have h3 := HN.out
        unfold ne at *
        omega)
      clear HT
      go_wp2
      go_ret
      exact ⟨by rw [HE.out]; rfl, HBL.out⟩
end Go.Proofs.Ytjknpbaegnkdnaa

/- The law MacKeys, for every key, list of texts and int. Conditions: each text is no longer than what may come in; the package's table lies at its place. -/
import Derived.Test.YtmmelpifibhmlaaDoorMxAwake
namespace Go.Proofs.YtmmelpifibhmlaaDoor
set_option maxRecDepth 50000
open Go.RowKit Sha

theorem keyL_zeros (K : List UInt8) (n : Nat) (h : K.length + n ≤ 64) : keyL (K ++ List.replicate n 0) = keyL K := by
  unfold keyL cutK
  rw [if_neg (by rw [List.length_append, List.length_replicate]; omega), if_neg (by omega), List.length_append, List.length_replicate, List.append_assoc, List.replicate_append_replicate]
  congr 2
  omega
theorem tagL_zeros (K X : List UInt8) (n : Nat) (h : K.length + n ≤ 64) : tagL (K ++ List.replicate n 0) X = tagL K X := by
  unfold tagL inK outK
  rw [keyL_zeros K n h]
theorem cs_zeros (n : Nat) : cs (List.replicate n 0) = List.replicate n (.int .u8 0) := by
  unfold cs
  rw [List.map_replicate]; rfl

set_option maxHeartbeats 1600000 in
theorem mkeys_bad (k : ByteArray) (A : Option Addr) (m c : Nat) (x : Int) (w : World) (hk : KAt w) (hk1 : 300 < k.size ∨ (k.size ≤ 300 ∧ 20 < m)) (hk2 : k.size ≤ 140737488351232) (hm : m ≤ maxLen) :
    Calls Tryd.prog 5 #[.string k, .slice A m c, .int .i64 x] w fun e w' => e = .returned (.bool true) ∧ Below w.heap.size w w' := by
  unfold maxLen at hm
  have HK := Lib.hid hk
  clear hk
  rcases hk1 with hk1 | ⟨hk1, hm1⟩
  all_goals
    go_enter Tryd.func5, Tryd.ntmps5
    go_wp2_with fail
    refine (awakem_any w HK.out).mono ?_
    rintro e w1 ⟨rfl, b1⟩
    go_wp2_with fail
    refine (chain_nil _ _ _ _ _).mono ?_
    rintro e w1' ⟨rfl, rfl⟩
    go_wp2_with fail
    refine (tag_nil _).mono ?_
    rintro e w2 ⟨rfl, rfl⟩
    go_wp2_with fail
    refine (with_nil _ _ _ _).mono ?_
    rintro e w3 ⟨rfl, rfl⟩
    go_wp2
    go_ret
    have b2 := b1.alloc b1.size (.cells #[.string ⟨#[120]⟩] 9)
    exact ⟨rfl, b2.alloc b2.size _⟩
set_option maxHeartbeats 1600000 in
theorem mkeys_long (k : ByteArray) (A : Option Addr) (c : Nat) (ps : List ByteArray) (x : Int) (w : World) (hk : KAt w) (hk1 : k.size ≤ 300) (hr : Reads w w.heap.size A (stv ps)) (hps : ps.length ≤ 20) (hj : 500 < (jn ps).length) (hsz : ∀ s ∈ ps, s.size ≤ 140737488351232) :
    Calls Tryd.prog 5 #[.string k, .slice A ps.length c, .int .i64 x] w fun e w' => e = .returned (.bool true) ∧ Below w.heap.size w w' := by
  have HK := Lib.hid hk
  have HR := Lib.hid hr
  have HS := Lib.hid hsz
  clear hk hr hsz
  go_enter Tryd.func5, Tryd.ntmps5
  go_wp2_with fail
  refine (awakem_any w HK.out).mono ?_
  rintro e w1 ⟨rfl, b1⟩
  go_wp2_with fail
  refine (chain_nil _ _ _ _ _).mono ?_
  rintro e w1' ⟨rfl, rfl⟩
  go_wp2_with fail
  refine (tag_nil _).mono ?_
  rintro e w2 ⟨rfl, rfl⟩
  go_wp2_with fail
  refine (with_nil _ _ _ _).mono ?_
  rintro e w3 ⟨rfl, rfl⟩
  have b2 := b1.alloc b1.size (.cells #[.string ⟨#[120]⟩] 9)
  have b3 := b2.alloc b2.size (.cells #[.string ⟨#[120]⟩] 9)
  have B3 := Lib.hid b3
  clear b2 b3
  go_wp2_with fail
  refine (bytes_any A c ps _ ((HR.out.below B3.out).more B3.out.size) (by omega) HS.out).mono ?_
  rintro e w4 ⟨rfl, rfl⟩
  go_wp2
  go_ret
  exact ⟨rfl, B3.out⟩

set_option maxHeartbeats 3200000 in
theorem mkeys_good (k : ByteArray) (A : Option Addr) (c : Nat) (ps : List ByteArray) (x : Int) (w : World) (hk : KAt w) (hk1 : k.size ≤ 300) (hr : Reads w w.heap.size A (stv ps)) (hps : ps.length ≤ 20) (hj : (jn ps).length ≤ 500) (hsz : ∀ s ∈ ps, s.size ≤ 140737488351232) :
    Calls Tryd.prog 5 #[.string k, .slice A ps.length c, .int .i64 x] w fun e w' => e = .returned (.bool true) ∧ Below w.heap.size w w' := by
  have HK := Lib.hid hk
  have HR := Lib.hid hr
  have HS := Lib.hid hsz
  clear hk hr hsz
  go_enter Tryd.func5, Tryd.ntmps5
  go_wp2_with fail
  refine (awakem_any w HK.out).mono ?_
  rintro e w1 ⟨rfl, b1⟩
  go_wp2_with fail
  refine (chain_nil _ _ _ _ _).mono ?_
  rintro e w1' ⟨rfl, rfl⟩
  go_wp2_with fail
  refine (tag_nil _).mono ?_
  rintro e w2 ⟨rfl, rfl⟩
  go_wp2_with fail
  refine (with_nil _ _ _ _).mono ?_
  rintro e w3 ⟨rfl, rfl⟩
  have b2 := b1.alloc b1.size (.cells #[.string ⟨#[120]⟩] 9)
  have b3 := b2.alloc b2.size (.cells #[.string ⟨#[120]⟩] 9)
  generalize hW2 : World.alloc (World.alloc w1 _) _ = W2 at b3 ⊢
  clear hW2 b1 b2
  have B2 := Lib.hid b3
  clear b3
  go_wp2_with fail
  refine (bytes_any A c ps _ ((HR.out.below B2.out).more B2.out.size) (by omega) HS.out).mono ?_
  rintro e w4 ⟨rfl, rfl⟩
  go_wp2_with fail
  refine (newmac_any k (by omega) W2 (HK.out.next B2.out)).mono ?_
  rintro e w5 ⟨M, rfl, h5, b5⟩
  have H5 := Lib.hid h5
  have B5 := Lib.hid (below_step B2.out b5)
  have CT0 := Lib.hid fun (W : World) (hb : Below w5.heap.size w5 W) => tag_any W M (tl k) [] (H5.out.below hb) ((HK.out.next B5.out).next hb) (by simp)
  clear h5 b5
  obtain ⟨T0, hT0⟩ : ∃ T0, T0 = tx (tagL (tl k) []) := ⟨_, rfl⟩
  rw [← hT0] at CT0
  clear hT0
  go_wp2_with fail
  refine (CT0.out w5 (Below.refl _ _)).mono ?_
  rintro e w6 ⟨rfl, b6⟩
  have B6 := Lib.hid b6
  clear b6
  go_wp2
  go_loopw [12, 60] (fun v12 v60 wr => ∃ j M2 : Nat, j ≤ ps.length ∧ v60 = .int .i64 (j : Int) ∧ v12 = .pointer (some ⟨M2, 0, none⟩) ∧ MacIs wr M2 (tl k) (jn (ps.take j)) ∧ Below w5.heap.size w5 wr) (fun _ v60 _ => ps.length - (intOf v60).toNat)
  case atStart => exact ⟨0, M, Nat.zero_le _, rfl, rfl, by rw [List.take_zero]; exact H5.out.below B6.out, B6.out⟩
  case round =>
    obtain ⟨j, M2, hj2, rfl, rfl, hm, hb⟩ := hrel
    have HM := Lib.hid hm
    have HB := Lib.hid hb
    have HBw := Lib.hid (below_step B5.out hb)
    clear hm hb
    have hle := jn_take_le ps j
    by_cases hlt : j < ps.length
    · obtain ⟨b, off, rfl, hbB, hcell⟩ := HR.out j (by rw [stv_length]; exact hlt)
      rw [stv_at] at hcell
      have hc2 := (HBw.out.cell (p := ⟨b, off + j, none⟩) hbB).trans hcell
      have hsn := jn_snoc ps j hlt
      have hle2 := jn_take_le ps (j + 1)
      rw [hsn, List.length_append, tl_length] at hle2
      have HSN := Lib.hid hsn
      have HLT := Lib.hid hlt
      clear hsn hcell
      generalize ps[j] = s at *
      clear hlt
      have hdt : decide ((j : Int) < (ps.length : Int)) = true := by have := HLT.out; simp; omega
      have ij0 : (0 : Int) ≤ (j : Int) := by omega
      have ij1 : (j : Int) < (ps.length : Int) := by have := HLT.out; omega
      have CW := withone_any wr M2 (tl k) (jn (ps.take j)) HM.out (HK.out.next HBw.out) s (by omega)
      rw [← HSN.out] at CW
      have CW := Lib.hid CW
      clear hle hle2
      go_wp2_with fail
      refine CW.out.mono ?_
      rintro e w7 ⟨M3, rfl, h7, b7⟩
      have H7 := Lib.hid h7
      have B7 := Lib.hid (below_step HB.out b7)
      clear h7 b7 CW
      go_wp2
      go_roundw
      case rel => exact ⟨j + 1, M3, HLT.out, by go_num, rfl, H7.out, B7.out⟩
      case measure => have := HLT.out; simp [intOf]; omega
    · obtain rfl : j = ps.length := by omega
      have hdt : decide ((ps.length : Int) < (ps.length : Int)) = false := by simp
      rw [List.take_length] at HM
      clear hle hlt
      obtain ⟨X, hX⟩ : ∃ X, X = jn ps := ⟨_, rfl⟩
      have CO := Lib.hid fun (u : ByteArray) (hu : u.size ≤ 1000) (W : World) (hb : Below w.heap.size w W) => macof_any u (by omega) W (HK.out.next hb) A c ps ((HR.out.below hb).more hb.size) (by omega) (by omega)
      rw [← hX] at HM hj CO
      have HJ := Lib.hid hj
      clear hX hj
      have CT1 := Lib.hid fun (W : World) (hb : Below wr.heap.size wr W) => tag_any W M2 (tl k) X (HM.out.below hb) ((HK.out.next HBw.out).next hb) (by have := HJ.out; omega)
      have CO1 := Lib.hid fun (W : World) (hb : Below w.heap.size w W) => CO.out k (by omega) W hb
      have CO2 := Lib.hid fun (n : Nat) (hn : k.size + n ≤ 64) (W : World) (hb : Below w.heap.size w W) => show Calls Tryd.prog 8 #[.string (k ++ tx (List.replicate n 0)), .slice A ps.length c] W fun e w' => e = .returned (.string (tx (tagL (tl k) X))) ∧ Below W.heap.size W w' from by
        have h := CO.out (k ++ tx (List.replicate n 0)) (by rw [ByteArray.size_append, tx_size, List.length_replicate]; omega) W hb
        have e : tl (k ++ tx (List.replicate n 0)) = tl k ++ List.replicate n 0 := by unfold tl; rw [ByteArray.data_append]; simp [tx]
        rw [e, tagL_zeros (tl k) X n (by rw [tl_length]; omega)] at h
        exact h
      generalize tx (tagL (tl k) X) = T1 at *
      go_wp2_with fail
      refine (CT1.out wr (Below.refl _ _)).mono ?_
      rintro e w7 ⟨rfl, b7⟩
      have B7 := Lib.hid b7
      have B7w := Lib.hid (below_step HBw.out b7)
      clear b7
      go_wp2_with fail
      refine (CO1.out w7 B7w.out).mono ?_
      rintro e w8 ⟨rfl, b8⟩
      have B8 := Lib.hid (below_step B7.out b8)
      have B8w := Lib.hid (below_step B7w.out b8)
      clear b8
      go_wp2_with fail
      refine (CT0.out w8 (below_step HB.out B8.out)).mono ?_
      rintro e w9 ⟨rfl, b9⟩
      have B9 := Lib.hid (below_step B8.out b9)
      have B9w := Lib.hid (below_step B8w.out b9)
      clear b9
      by_cases hx1 : x < 0
      · go_wp2
        go_ret
        exact ⟨rfl, B9w.out⟩
      · obtain ⟨n, rfl⟩ : ∃ n : Nat, x = (n : Int) := ⟨x.toNat, by omega⟩
        have hxd : decide ((n : Int) < 0) = false := by simp
        by_cases hx2 : 64 < k.size
        · go_wp2
          go_ret
          exact ⟨rfl, B9w.out⟩
        · obtain ⟨r, hr2⟩ : ∃ r, r = 64 - k.size := ⟨_, rfl⟩
          have hq1 : (64 : Int) - (k.size : Int) = (r : Int) := by omega
          have hxe : decide (64 < (k.size : Int)) = false := by simp; omega
          by_cases hx3 : r < n
          · have hxf : decide ((r : Int) < (n : Int)) = true := by simp; omega
            clear hr2
            go_wp2
            go_ret
            exact ⟨rfl, B9w.out⟩
          · have hxf : decide ((r : Int) < (n : Int)) = false := by simp; omega
            have hsum : k.size + n ≤ 64 := by omega
            have CO3 := Lib.hid fun (W : World) (hb : Below w.heap.size w W) => CO2.out n hsum W hb
            have hn64 : n ≤ 64 := by omega
            obtain ⟨R, hR⟩ : ∃ R, R = tx (List.replicate n 0) := ⟨_, rfl⟩
            have hRs : R.size = n := by rw [hR, tx_size, List.length_replicate]
            rw [← hR] at CO3
            have HR2 := Lib.hid hR
            clear hR hr2
            go_wp2_with (refine wpList_make_part w9 rfl (.tmp 96) (.tmp 96) rfl n n rfl rfl (Nat.le_refl _) (by omega) ?_)
            intro w10 hown hg
            rw [← cs_zeros] at hown
            have hcv := conv_text w10 hown
            rw [← HR2.out] at hcv
            have HBn : Hid (Below w9.heap.size w9 w10) := Lib.hid ((Below.refl _ w9).grown hg (Nat.le_refl _) (fun k hk => by cases hk))
            have HBw10 := Lib.hid (below_step B9w.out HBn.out)
            have HB10 := Lib.hid (below_step B9.out HBn.out)
            clear hown hg
            go_wp2_with fail
            refine (CO3.out w10 HBw10.out).mono ?_
            rintro e w11 ⟨rfl, b11⟩
            have B11 := Lib.hid (below_step HB10.out b11)
            have B11w := Lib.hid (below_step HBw10.out b11)
            clear b11
            go_wp2_with fail
            refine (CT1.out w11 B11.out).mono ?_
            rintro e w12 ⟨rfl, b12⟩
            have B12w := Lib.hid (below_step B11w.out b12)
            clear b12
            go_wp2
            go_ret
            exact ⟨rfl, B12w.out⟩
theorem mkeys_any (k : ByteArray) (hk2 : k.size ≤ 140737488351232) (A : Option Addr) (c : Nat) (ps : List ByteArray) (x : Int) (w : World) (hk : KAt w) (hr : Reads w w.heap.size A (stv ps)) (hm : ps.length ≤ maxLen) (hsz : ∀ s ∈ ps, s.size ≤ 140737488351232) :
    Calls Tryd.prog 5 #[.string k, .slice A ps.length c, .int .i64 x] w fun e w' => e = .returned (.bool true) ∧ Below w.heap.size w w' := by
  by_cases h0 : 300 < k.size
  · exact mkeys_bad k A ps.length c x w hk (.inl h0) hk2 hm
  · by_cases h1 : 20 < ps.length
    · exact mkeys_bad k A ps.length c x w hk (.inr ⟨by omega, h1⟩) hk2 hm
    · by_cases h2 : 500 < (jn ps).length
      · exact mkeys_long k A c ps x w hk (by omega) hr (by omega) h2 hsz
      · exact mkeys_good k A c ps x w hk (by omega) hr (by omega) (by omega) hsz
end Go.Proofs.YtmmelpifibhmlaaDoor

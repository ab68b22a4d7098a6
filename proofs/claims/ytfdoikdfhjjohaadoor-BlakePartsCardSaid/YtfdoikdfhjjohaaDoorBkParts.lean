/- The law BlakeParts, for every number, key, list of texts and place. Conditions: each text is no longer than what may come in; the package's table lies at its place. -/
import Derived.Test.YtfdoikdfhjjohaaDoorBkAwake
import Derived.Test.YtfdoikdfhjjohaaDoorOpens
namespace Go.Proofs.YtfdoikdfhjjohaaDoor
set_option maxRecDepth 50000
open Go.RowKit Bl

theorem blkL_length (kl n : Nat) (hkl : kl ≤ 64) (hn : n ≤ 64) (X : List UInt8) (hX : X.length ≤ 900000) : (blkL kl n X).length = n := by
  unfold blkL
  have h8 : (blkSt kl n X).length = 8 := by
    unfold blkSt
    rw [Bl.comp_length]
    exact (stN_ok (h0_ok kl n hkl hn) _ _ (by unfold lz; omega)).1
  rw [List.length_take, outL_length _ h8]; omega
set_option maxHeartbeats 800000 in
theorem bparts_bad (z : Int) (key : ByteArray) (hbad : z < 1 ∨ 64 < z ∨ 64 < key.size) (A : Option Addr) (m c : Nat) (x : Int) (w : World) (hk : QAt w) :
    Calls Tryd.prog 6 #[.int .i64 z, .string key, .slice A m c, .int .i64 x] w fun e w' => e = .returned (.bool true) ∧ Below w.heap.size w w' := by
  have HK := Lib.hid hk
  have HN := Lib.hid fun w => newhash_bad z key hbad w
  clear hk hbad
  go_enter Tryd.func6, Tryd.ntmps6
  go_wp2_with fail
  refine (awake_any w HK.out).mono ?_
  rintro e w1 ⟨rfl, b1⟩
  go_wp2_with fail
  refine (sum_nil w1).mono ?_
  rintro e w1' ⟨rfl, rfl⟩
  go_wp2_with fail
  refine (addhash_nil _ _ _ _).mono ?_
  rintro e w2 ⟨rfl, rfl⟩
  have b2 := b1.alloc b1.size (.cells #[.string ⟨#[97]⟩] 9)
  go_wp2_with fail
  refine (HN.out _).mono ?_
  rintro e w3 ⟨rfl, rfl⟩
  go_wp2
  go_ret
  exact ⟨rfl, b2⟩
set_option maxHeartbeats 800000 in
theorem bparts_many (n : Nat) (hn1 : 1 ≤ n) (hn : n ≤ 64) (key : ByteArray) (hkl : key.size ≤ 64) (A : Option Addr) (m c : Nat) (x : Int) (w : World) (hk : QAt w) (hm : 20 < m) (hm2 : m ≤ maxLen) :
    Calls Tryd.prog 6 #[.int .i64 (n : Int), .string key, .slice A m c, .int .i64 x] w fun e w' => e = .returned (.bool true) ∧ Below w.heap.size w w' := by
  unfold maxLen at hm2
  have HK := Lib.hid hk
  have HN := Lib.hid fun w hk => newhash_any n hn1 hn key hkl w hk
  clear hk hn1 hn hkl
  go_enter Tryd.func6, Tryd.ntmps6
  go_wp2_with fail
  refine (awake_any w HK.out).mono ?_
  rintro e w1 ⟨rfl, b1⟩
  go_wp2_with fail
  refine (sum_nil w1).mono ?_
  rintro e w1' ⟨rfl, rfl⟩
  go_wp2_with fail
  refine (addhash_nil _ _ _ _).mono ?_
  rintro e w2 ⟨rfl, rfl⟩
  have b2 := b1.alloc b1.size (.cells #[.string ⟨#[97]⟩] 9)
  go_wp2_with fail
  refine (HN.out _ (HK.out.next b2)).mono ?_
  rintro e w3 ⟨H, rfl, h3, b3⟩
  have b4 := below_step b2 b3
  clear h3 b3 b2 b1
  go_wp2
  go_ret
  exact ⟨rfl, b4⟩
set_option maxHeartbeats 800000 in
theorem bparts_long (n : Nat) (hn1 : 1 ≤ n) (hn : n ≤ 64) (key : ByteArray) (hkl : key.size ≤ 64) (A : Option Addr) (c : Nat) (ps : List ByteArray) (x : Int) (w : World) (hk : QAt w) (hr : Reads w w.heap.size A (stv ps)) (hps : ps.length ≤ 20) (hj : 1000 < (jn ps).length) (hsz : ∀ s ∈ ps, s.size ≤ 140737488351232) :
    Calls Tryd.prog 6 #[.int .i64 (n : Int), .string key, .slice A ps.length c, .int .i64 x] w fun e w' => e = .returned (.bool true) ∧ Below w.heap.size w w' := by
  have HK := Lib.hid hk
  have HR := Lib.hid hr
  have HS := Lib.hid hsz
  have HN := Lib.hid fun w hk => newhash_any n hn1 hn key hkl w hk
  clear hk hr hsz hn1 hn hkl
  go_enter Tryd.func6, Tryd.ntmps6
  go_wp2_with fail
  refine (awake_any w HK.out).mono ?_
  rintro e w1 ⟨rfl, b1⟩
  go_wp2_with fail
  refine (sum_nil w1).mono ?_
  rintro e w1' ⟨rfl, rfl⟩
  go_wp2_with fail
  refine (addhash_nil _ _ _ _).mono ?_
  rintro e w2 ⟨rfl, rfl⟩
  have b2 := b1.alloc b1.size (.cells #[.string ⟨#[97]⟩] 9)
  go_wp2_with fail
  refine (HN.out _ (HK.out.next b2)).mono ?_
  rintro e w3 ⟨H, rfl, h3, b3⟩
  have B4 := Lib.hid (below_step b2 b3)
  clear h3 b3 b2 b1
  go_wp2_with fail
  refine (bytes_any A c ps _ ((HR.out.below B4.out).more B4.out.size) (by omega) HS.out).mono ?_
  rintro e w4 ⟨rfl, rfl⟩
  go_wp2
  go_ret
  exact ⟨rfl, B4.out⟩

set_option maxHeartbeats 1600000 in
theorem bparts_good (n : Nat) (hn1 : 1 ≤ n) (hn : n ≤ 64) (key : ByteArray) (hkl : key.size ≤ 64) (A : Option Addr) (c : Nat) (ps : List ByteArray) (x : Int) (w : World) (hk : QAt w) (hr : Reads w w.heap.size A (stv ps)) (hps : ps.length ≤ 20) (hj : (jn ps).length ≤ 1000) (hsz : ∀ s ∈ ps, s.size ≤ 140737488351232) :
    Calls Tryd.prog 6 #[.int .i64 (n : Int), .string key, .slice A ps.length c, .int .i64 x] w fun e w' => e = .returned (.bool true) ∧ Below w.heap.size w w' := by
  have HK := Lib.hid hk
  have HR := Lib.hid hr
  have HS := Lib.hid hsz
  have HN := Lib.hid fun w hk => newhash_any n hn1 hn key hkl w hk
  have HO := Lib.hid (And.intro hn1 (And.intro hn hkl))
  have hkeyl : (keyL key).length ≤ 128 := by
    unfold keyL
    split
    · simp
    · rw [fill128_length _ (by rw [tl_length]; omega)]; exact Nat.le_refl _
  obtain ⟨kL, hkL⟩ : ∃ kL, kL = keyL key := ⟨_, rfl⟩
  rw [← hkL] at hkeyl
  have HKL := Lib.hid hkL
  clear hk hr hsz hn1 hn hkl hkL
  go_enter Tryd.func6, Tryd.ntmps6
  go_wp2_with fail
  refine (awake_any w HK.out).mono ?_
  rintro e w1 ⟨rfl, b1⟩
  go_wp2_with fail
  refine (sum_nil w1).mono ?_
  rintro e w1' ⟨rfl, rfl⟩
  go_wp2_with fail
  refine (addhash_nil _ _ _ _).mono ?_
  rintro e w2 ⟨rfl, rfl⟩
  have b2 := b1.alloc b1.size (.cells #[.string ⟨#[97]⟩] 9)
  generalize hW2 : w1.alloc (.cells #[.string ⟨#[97]⟩] 9) = W2 at *
  clear hW2
  have B2 := Lib.hid b2
  have hsz2 := b2.size
  clear b2 b1
  go_wp2_with fail
  refine (HN.out W2 (HK.out.next B2.out)).mono ?_
  rintro e w5 ⟨H, rfl, h5, b5⟩
  rw [← HKL.out] at h5
  have H5 := Lib.hid h5
  have B5 := Lib.hid (below_step B2.out b5)
  clear h5 b5
  obtain ⟨B, hB⟩ : ∃ B, B = W2.heap.size := ⟨_, rfl⟩
  rw [← hB] at H5
  have hB0 : 0 < B := by have := HK.out.1; omega
  have hBw : w.heap.size ≤ B := by omega
  clear hB
  go_wp2_with fail
  refine (bytes_any A c ps _ ((HR.out.below B5.out).more B5.out.size) (by omega) HS.out).mono ?_
  rintro e w4 ⟨rfl, rfl⟩
  go_wp2
  go_loopw [51] (fun v51 wr => ∃ k : Nat, k ≤ ps.length ∧ v51 = .int .i64 (k : Int) ∧ HashIs wr B wr.heap.size H key.size n (kL ++ jn (ps.take k)) ∧ Below w.heap.size w wr) (fun v51 _ => ps.length - (intOf v51).toNat)
  case atStart => exact ⟨0, Nat.zero_le _, rfl, by rw [List.take_zero]; simpa [jn] using H5.out, B5.out⟩
  case round =>
    obtain ⟨k, hk, rfl, hh, hb⟩ := hrel
    have HH := Lib.hid hh
    have HB := Lib.hid hb
    have HKr := Lib.hid (HK.out.next hb)
    have hszr := hb.size
    have hle := jn_take_le ps k
    clear hh hb
    by_cases hlt : k < ps.length
    · obtain ⟨b, off, rfl, hbB, hcell⟩ := HR.out k (by rw [stv_length]; exact hlt)
      rw [stv_at] at hcell
      have hc2 := (HB.out.cell (p := ⟨b, off + k, none⟩) hbB).trans hcell
      have hsn := jn_snoc ps k hlt
      have hle2 := jn_take_le ps (k + 1)
      rw [hsn, List.length_append, tl_length] at hle2
      have HSN := Lib.hid hsn
      have HLT := Lib.hid hlt
      clear hsn hcell
      generalize ps[k] = s at *
      clear hlt
      have hdt : decide ((k : Int) < (ps.length : Int)) = true := by have := HLT.out; simp; omega
      have rest : ∀ wq, Below wr.heap.size wr wq → HashIs wq B wr.heap.size H key.size n (kL ++ jn (ps.take k)) ∧ Calls Tryd.prog 22 #[.pointer (some ⟨H, 0, none⟩), .slice (some ⟨wq.heap.size, 0, none⟩) 1 1] (wq.alloc (.cells #[.string s] 9)) fun e w' => e = .returned (.pointer (some ⟨H, 0, none⟩)) ∧ HashIs w' B w'.heap.size H key.size n (kL ++ jn (ps.take (k + 1))) ∧ Below w.heap.size w w' := fun wq hq => by
        have h1 := HH.out.below hq
        refine ⟨h1, (add_one wq B _ H key.size n HO.out.2.2 HO.out.2.1 _ h1 (HKr.out.next hq) hB0 s (by rw [List.length_append]; omega)).mono ?_⟩
        rintro e w' ⟨rfl, g1, g2⟩
        rw [List.append_assoc, ← HSN.out] at g1
        exact ⟨rfl, g1, (below_step HB.out hq).trans (g2.mono hBw)⟩
      have HREST := Lib.hid rest
      clear rest
      by_cases hx : (k : Int) = x
      · subst hx
        go_wp2_with fail
        refine (sumhash_any wr _ _ H key.size n HO.out.2.2 HO.out.2.1 _ HH.out HKr.out (by rw [List.length_append]; omega)).mono ?_
        rintro e w8 ⟨rfl, b8⟩
        have B8 := Lib.hid b8
        clear b8
        go_wp2_with fail
        refine ((HREST.out w8 B8.out).2).mono ?_
        rintro e w9 ⟨rfl, h9, b9⟩
        have H9 := Lib.hid h9
        have B9 := Lib.hid b9
        clear h9 b9
        go_wp2
        go_roundw
        case rel => exact ⟨k + 1, HLT.out, by go_num, H9.out, B9.out⟩
        case measure => have := HLT.out; simp [intOf]; omega
      · have hxf : ((k : Int) == x) = false := by simpa using hx
        go_wp2_with fail
        refine ((HREST.out wr (Below.refl _ _)).2).mono ?_
        rintro e w9 ⟨rfl, h9, b9⟩
        have H9 := Lib.hid h9
        have B9 := Lib.hid b9
        clear h9 b9
        go_wp2
        go_roundw
        case rel => exact ⟨k + 1, HLT.out, by go_num, H9.out, B9.out⟩
        case measure => have := HLT.out; simp [intOf]; omega
    · obtain rfl : k = ps.length := by omega
      have hdt : decide ((ps.length : Int) < (ps.length : Int)) = false := by simp
      rw [List.take_length] at HH
      clear hle
      obtain ⟨X, hX⟩ : ∃ X, X = jn ps := ⟨_, rfl⟩
      have hXl : X.length ≤ 1000 := by rw [hX]; exact hj
      rw [← hX] at HH
      have CJ := Lib.hid fun (wq : World) (hq : Below w.heap.size w wq) => show Calls Tryd.prog 20 #[.slice A ps.length c] wq fun e w' => e = .returned (.string (tx X)) ∧ wq = w' from by rw [hX]; exact joined_any A c ps wq ((HR.out.below hq).more hq.size) (by omega) (by omega)
      clear hX hj
      have hlen := blkL_length key.size n HO.out.2.2 HO.out.2.1 (kL ++ X) (by rw [List.length_append]; omega)
      have CO := Lib.hid fun (w6 : World) (hq : Below w.heap.size w w6) => by
        have hb7 : Below w6.heap.size w6 (w6.alloc (.cells #[.string (tx X)] 9)) := (Below.refl _ w6).alloc (Nat.le_refl _) _
        have h := blakeof_any (w6.alloc (.cells #[.string (tx X)] 9)) n HO.out.1 HO.out.2.1 key HO.out.2.2 ((HK.out.next hq).next hb7) (some ⟨w6.heap.size, 0, none⟩) 1 [tx X] (fun k hk => by
          have hk0 : k = 0 := by simp [stv] at hk; omega
          subst hk0
          exact ⟨w6.heap.size, 0, rfl, by simp, by rw [cell_of_row _ _ _ _ _ (0, 0) (heap_alloc_last w6 _)]; rfl⟩) (by rw [jn_one, tl_tx]; omega) (by simp)
        rw [jn_one, tl_tx, ← HKL.out] at h
        exact h
      have CS := Lib.hid fun (w6 : World) (h6 : HashIs w6 B wr.heap.size H key.size n (kL ++ X)) (hk6 : QAt w6) => sumhash_any w6 B wr.heap.size H key.size n HO.out.2.2 HO.out.2.1 (kL ++ X) h6 hk6 (by rw [List.length_append]; omega)
      obtain ⟨S, hS⟩ : ∃ S, S = tx (blkL key.size n (kL ++ X)) := ⟨_, rfl⟩
      have hSn : S.size = n := by rw [hS, tx_size]; exact hlen
      rw [← hS] at CO CS
      clear hS hlen
      go_wp2_with fail
      refine (CJ.out wr HB.out).mono ?_
      rintro e w7 ⟨rfl, rfl⟩
      have B7 := Lib.hid ((Below.refl _ wr).alloc (Nat.le_refl _) (.cells #[.string (tx X)] 9))
      go_wp2_with fail
      refine (CO.out wr HB.out).mono ?_
      rintro e w8 ⟨rfl, b8⟩
      have B8r := Lib.hid (below_step B7.out b8)
      have B8 := Lib.hid (below_step HB.out B8r.out)
      clear b8 CO
      have H8 := Lib.hid (HH.out.below B8r.out)
      have K8 := Lib.hid (HK.out.next B8.out)
      go_wp2_with fail
      refine (CS.out w8 H8.out K8.out).mono ?_
      rintro e w9 ⟨rfl, b9⟩
      have B9 := Lib.hid b9
      clear b9
      go_wp2_with fail
      refine (CS.out w9 (H8.out.below B9.out) (K8.out.next B9.out)).mono ?_
      rintro e w11 ⟨rfl, b11⟩
      have B11 := Lib.hid (below_step B8.out (below_step B9.out b11))
      clear b11
      go_wp2
      go_ret
      exact ⟨rfl, B11.out⟩
theorem bparts_any (z : Int) (key : ByteArray) (A : Option Addr) (c : Nat) (ps : List ByteArray) (x : Int) (w : World) (hk : QAt w) (hr : Reads w w.heap.size A (stv ps)) (hm : ps.length ≤ maxLen) (hsz : ∀ s ∈ ps, s.size ≤ 140737488351232) :
    Calls Tryd.prog 6 #[.int .i64 z, .string key, .slice A ps.length c, .int .i64 x] w fun e w' => e = .returned (.bool true) ∧ Below w.heap.size w w' := by
  by_cases hbad : z < 1 ∨ 64 < z ∨ 64 < key.size
  · exact bparts_bad z key hbad A _ c x w hk
  · obtain ⟨n, rfl⟩ : ∃ n : Nat, z = (n : Int) := ⟨z.toNat, by omega⟩
    by_cases h1 : 20 < ps.length
    · exact bparts_many n (by omega) (by omega) key (by omega) A ps.length c x w hk h1 hm
    · by_cases h2 : 1000 < (jn ps).length
      · exact bparts_long n (by omega) (by omega) key (by omega) A c ps x w hk hr (by omega) h2 hsz
      · exact bparts_good n (by omega) (by omega) key (by omega) A c ps x w hk hr (by omega) (by omega) hsz
end Go.Proofs.YtfdoikdfhjjohaaDoor

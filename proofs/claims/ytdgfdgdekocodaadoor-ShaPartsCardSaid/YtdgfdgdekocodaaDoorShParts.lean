/- The law ShParts, for every list of texts and every int. Conditions: each text is no longer than what may come in; the package's table lies at its place. -/
import Derived.Test.YtdgfdgdekocodaaDoorShAwake
import Derived.Test.YtdgfdgdekocodaaDoorOpens
namespace Go.Proofs.YtdgfdgdekocodaaDoor
open Go.RowKit Sha

/-- one more text, in a list that was just made -/
theorem add_one (w : World) (B T H : Nat) (X : List UInt8) (h : HashIs w B T H X) (hk : KAt w) (hB : 0 < B) (s : ByteArray) (hX : X.length + s.size ≤ 900000) :
    Calls Tryd.prog 20 #[.pointer (some ⟨H, 0, none⟩), .slice (some ⟨w.heap.size, 0, none⟩) 1 1] (w.alloc (.cells #[.string s] 9)) fun e w' => e = .returned (.pointer (some ⟨H, 0, none⟩)) ∧ HashIs w' B w'.heap.size H (X ++ tl s) ∧ Below B w w' := by
  have hT : B ≤ T ∧ T ≤ w.heap.size := by
    obtain ⟨F, v, l, bs, h1, h2, h3, h4, h5, h6, h7, h8, h9, h10, h11⟩ := h.ex
    exact ⟨by omega, h11⟩
  have hb : Below w.heap.size w (w.alloc (.cells #[.string s] 9)) := (Below.refl _ w).alloc (Nat.le_refl _) _
  refine (addhash_any _ B T H X (h.below hb) (hk.next hb) hB (some ⟨w.heap.size, 0, none⟩) 1 [s] (fun k hk => ?_) (by rw [jn_one, tl_length]; omega) (by simp)).mono ?_
  · have hk0 : k = 0 := by simp [stv] at hk; omega
    subst hk0
    exact ⟨w.heap.size, 0, rfl, by simp, .inr (.inl hT.2), by rw [cell_of_row _ _ _ _ _ (0, 0) (heap_alloc_last w _)]; rfl⟩
  · rintro e w' ⟨rfl, g1, g2⟩
    rw [jn_one] at g1
    exact ⟨rfl, g1, (hb.mono (by omega)).trans g2⟩

set_option maxHeartbeats 800000 in
theorem sparts_many (A : Option Addr) (m c : Nat) (x : Int) (w : World) (hk : KAt w) (hm : 50 < m) (hm2 : m ≤ maxLen) :
    Calls Tryd.prog 6 #[.slice A m c, .int .i64 x] w fun e w' => e = .returned (.bool true) ∧ Below w.heap.size w w' := by
  unfold maxLen at hm2
  have HK := Lib.hid hk
  clear hk
  go_enter Tryd.func6, Tryd.ntmps6
  go_wp2_with fail
  refine (awake_any w HK.out).mono ?_
  rintro e w1 ⟨rfl, b1⟩
  go_wp2_with fail
  refine (sum_nil w1).mono ?_
  rintro e w1' ⟨rfl, rfl⟩
  go_wp2_with fail
  refine (addhash_nil _ _ _ _).mono ?_
  rintro e w2 ⟨rfl, rfl⟩
  go_wp2_with fail
  refine (clone_nil _).mono ?_
  rintro e w3 ⟨rfl, rfl⟩
  go_wp2
  go_ret
  exact ⟨rfl, b1.alloc b1.size _⟩
set_option maxHeartbeats 800000 in
theorem sparts_long (A : Option Addr) (c : Nat) (ps : List ByteArray) (x : Int) (w : World) (hk : KAt w) (hr : Reads w w.heap.size A (stv ps)) (hps : ps.length ≤ 50) (hj : 1000 < (jn ps).length) (hsz : ∀ s ∈ ps, s.size ≤ 140737488351232) :
    Calls Tryd.prog 6 #[.slice A ps.length c, .int .i64 x] w fun e w' => e = .returned (.bool true) ∧ Below w.heap.size w w' := by
  have HK := Lib.hid hk
  have HR := Lib.hid hr
  have HS := Lib.hid hsz
  clear hk hr hsz
  go_enter Tryd.func6, Tryd.ntmps6
  go_wp2_with fail
  refine (awake_any w HK.out).mono ?_
  rintro e w1 ⟨rfl, b1⟩
  go_wp2_with fail
  refine (sum_nil w1).mono ?_
  rintro e w1' ⟨rfl, rfl⟩
  go_wp2_with fail
  refine (addhash_nil _ _ _ _).mono ?_
  rintro e w2 ⟨rfl, rfl⟩
  go_wp2_with fail
  refine (clone_nil _).mono ?_
  rintro e w3 ⟨rfl, rfl⟩
  have b2 := b1.alloc b1.size (.cells #[.string ⟨#[97]⟩] 9)
  go_wp2_with fail
  refine (bytes_any A c ps _ ((HR.out.below b2).more b2.size) hps HS.out).mono ?_
  rintro e w4 ⟨rfl, rfl⟩
  go_wp2
  go_ret
  exact ⟨rfl, b2⟩

set_option maxHeartbeats 1600000 in
theorem sparts_good (A : Option Addr) (c : Nat) (ps : List ByteArray) (x : Int) (w : World) (hk : KAt w) (hr : Reads w w.heap.size A (stv ps)) (hps : ps.length ≤ 50) (hj : (jn ps).length ≤ 1000) (hsz : ∀ s ∈ ps, s.size ≤ 140737488351232) :
    Calls Tryd.prog 6 #[.slice A ps.length c, .int .i64 x] w fun e w' => e = .returned (.bool true) ∧ Below w.heap.size w w' := by
  have HK := Lib.hid hk
  have HR := Lib.hid hr
  have HS := Lib.hid hsz
  clear hk hr hsz
  go_enter Tryd.func6, Tryd.ntmps6
  go_wp2_with fail
  refine (awake_any w HK.out).mono ?_
  rintro e w1 ⟨rfl, b1⟩
  go_wp2_with fail
  refine (sum_nil w1).mono ?_
  rintro e w1' ⟨rfl, rfl⟩
  go_wp2_with fail
  refine (addhash_nil _ _ _ _).mono ?_
  rintro e w2 ⟨rfl, rfl⟩
  go_wp2_with fail
  refine (clone_nil _).mono ?_
  rintro e w3 ⟨rfl, rfl⟩
  have b2 := b1.alloc b1.size (.cells #[.string ⟨#[97]⟩] 9)
  generalize hW2 : w1.alloc (.cells #[.string ⟨#[97]⟩] 9) = W2 at *
  clear hW2
  have B2 := Lib.hid b2
  have hsz2 := b2.size
  clear b2 b1
  go_wp2_with fail
  refine (bytes_any A c ps _ ((HR.out.below B2.out).more B2.out.size) hps HS.out).mono ?_
  rintro e w4 ⟨rfl, rfl⟩
  go_wp2_with fail
  refine (newhash_any W2).mono ?_
  rintro e w5 ⟨H, rfl, h5, b5⟩
  have H5 := Lib.hid h5
  have B5 := Lib.hid (below_step B2.out b5)
  clear h5 b5
  obtain ⟨B, hB⟩ : ∃ B, B = W2.heap.size := ⟨_, rfl⟩
  rw [← hB] at H5
  have hB0 : 0 < B := by have := HK.out.1; omega
  have hBw : w.heap.size ≤ B := by omega
  clear hB
  go_wp2
  go_loopw [36] (fun v36 wr => ∃ k : Nat, k ≤ ps.length ∧ v36 = .int .i64 (k : Int) ∧ HashIs wr B wr.heap.size H (jn (ps.take k)) ∧ Below w.heap.size w wr) (fun v36 _ => ps.length - (intOf v36).toNat)
  case atStart => exact ⟨0, Nat.zero_le _, rfl, by rw [List.take_zero]; exact H5.out, B5.out⟩
  case round =>
    obtain ⟨k, hk, rfl, hh, hb⟩ := hrel
    have HH := Lib.hid hh
    have HB := Lib.hid hb
    have HKr := Lib.hid (HK.out.next hb)
    have hszr := hb.size
    have hle := jn_take_le ps k
    clear hh hb
    by_cases hlt : k < ps.length
    · obtain ⟨b, off, rfl, hbB, hcell⟩ := HR.out k (by rw [stv_length]; exact hlt)
      rw [stv_at] at hcell
      have hc2 := (HB.out.cell (p := ⟨b, off + k, none⟩) hbB).trans hcell
      have hsn := jn_snoc ps k hlt
      have hle2 := jn_take_le ps (k + 1)
      rw [hsn, List.length_append, tl_length] at hle2
      have HSN := Lib.hid hsn
      have HLT := Lib.hid hlt
      clear hsn hcell
      generalize ps[k] = s at *
      clear hlt
      have hdt : decide ((k : Int) < (ps.length : Int)) = true := by have := HLT.out; simp; omega
      have rest : ∀ wq, Below wr.heap.size wr wq → HashIs wq B wr.heap.size H (jn (ps.take k)) ∧ Calls Tryd.prog 20 #[.pointer (some ⟨H, 0, none⟩), .slice (some ⟨wq.heap.size, 0, none⟩) 1 1] (wq.alloc (.cells #[.string s] 9)) fun e w' => e = .returned (.pointer (some ⟨H, 0, none⟩)) ∧ HashIs w' B w'.heap.size H (jn (ps.take (k + 1))) ∧ Below w.heap.size w w' := fun wq hq => by
        have h1 := HH.out.below hq
        refine ⟨h1, (add_one wq B _ H _ h1 (HKr.out.next hq) hB0 s (by omega)).mono ?_⟩
        rintro e w' ⟨rfl, g1, g2⟩
        rw [← HSN.out] at g1
        exact ⟨rfl, g1, (below_step HB.out hq).trans (g2.mono hBw)⟩
      have HREST := Lib.hid rest
      clear rest
      by_cases hx : (k : Int) = x
      · subst hx
        go_wp2_with fail
        refine (clone_any2 wr _ _ H _ HH.out).mono ?_
        rintro e w6 ⟨H2, rfl, h6, b6⟩
        have CA := Lib.hid (add_one w6 _ _ H2 _ h6 (HKr.out.next b6) (by have := HKr.out.1; omega) ⟨#[111, 116, 104, 101, 114]⟩ (by show _ + 5 ≤ _; omega))
        have B6 := Lib.hid b6
        clear h6 b6
        go_wp2_with fail
        refine CA.out.mono ?_
        rintro e w7 ⟨rfl, h7, b7⟩
        have B7 := Lib.hid (B6.out.trans b7)
        clear h7 b7 CA
        have h8 := (HREST.out w7 B7.out).1
        go_wp2_with fail
        refine (sumhash_any w7 _ _ H _ h8 (HKr.out.next B7.out) (by omega)).mono ?_
        rintro e w8 ⟨rfl, b8⟩
        have B8 := Lib.hid (below_step B7.out b8)
        clear h8 b8
        go_wp2_with fail
        refine ((HREST.out w8 B8.out).2).mono ?_
        rintro e w9 ⟨rfl, h9, b9⟩
        have H9 := Lib.hid h9
        have B9 := Lib.hid b9
        clear h9 b9
        go_wp2
        go_roundw
        case rel => exact ⟨k + 1, HLT.out, by go_num, H9.out, B9.out⟩
        case measure => have := HLT.out; simp [intOf]; omega
      · have hxf : ((k : Int) == x) = false := by simpa using hx
        go_wp2_with fail
        refine ((HREST.out wr (Below.refl _ _)).2).mono ?_
        rintro e w9 ⟨rfl, h9, b9⟩
        have H9 := Lib.hid h9
        have B9 := Lib.hid b9
        clear h9 b9
        go_wp2
        go_roundw
        case rel => exact ⟨k + 1, HLT.out, by go_num, H9.out, B9.out⟩
        case measure => have := HLT.out; simp [intOf]; omega
    · obtain rfl : k = ps.length := by omega
      have hdt : decide ((ps.length : Int) < (ps.length : Int)) = false := by simp
      rw [List.take_length] at HH
      clear hle
      obtain ⟨X, hX⟩ : ∃ X, X = jn ps := ⟨_, rfl⟩
      have hXl : X.length ≤ 1000 := by rw [hX]; exact hj
      rw [← hX] at HH
      have CB := Lib.hid fun (wq : World) (hq : Below w.heap.size w wq) => show Calls Tryd.prog 13 #[.slice A ps.length c] wq fun e w' => e = .returned (.int .i64 (X.length : Int)) ∧ wq = w' from by rw [hX]; exact bytes_any A c ps wq ((HR.out.below hq).more hq.size) hps HS.out
      have CJ := Lib.hid fun (wq : World) (hq : Below w.heap.size w wq) => show Calls Tryd.prog 16 #[.slice A ps.length c] wq fun e w' => e = .returned (.string (tx X)) ∧ wq = w' from by rw [hX]; exact joined_any A c ps wq ((HR.out.below hq).more hq.size) hps (by omega)
      clear hX hj
      go_wp2_with fail
      refine (sumhash_any wr _ _ H X HH.out HKr.out (by omega)).mono ?_
      rintro e w6 ⟨rfl, b6⟩
      have B6 := Lib.hid b6
      have B6w := Lib.hid (below_step HB.out b6)
      clear b6
      go_wp2_with fail
      refine (CJ.out w6 B6w.out).mono ?_
      rintro e w7 ⟨rfl, rfl⟩
      have B7 := Lib.hid ((Below.refl _ w6).alloc (Nat.le_refl _) (.cells #[.string (tx X)] 9))
      have CO := Lib.hid (shaof_any (w6.alloc (.cells #[.string (tx X)] 9)) ((HK.out.next B6w.out).next B7.out) (some ⟨w6.heap.size, 0, none⟩) 1 [tx X] (fun k hk => by
        have hk0 : k = 0 := by simp [stv] at hk; omega
        subst hk0
        exact ⟨w6.heap.size, 0, rfl, by simp, by rw [cell_of_row _ _ _ _ _ (0, 0) (heap_alloc_last w6 _)]; rfl⟩) (by rw [jn_one, tl_tx]; omega) (by simp))
      rw [jn_one, tl_tx] at CO
      go_wp2_with fail
      refine CO.out.mono ?_
      rintro e w8 ⟨rfl, b8⟩
      have B8 := Lib.hid (below_step (below_step B6w.out B7.out) b8)
      have B8r := Lib.hid (below_step (below_step B6.out B7.out) b8)
      clear b8 CO
      have h8 := HH.out.below B8r.out
      obtain ⟨F, v, l, bs, k1, k2, k3, k4, k5⟩ := h8.ex
      have H8 := Lib.hid h8
      have c0 := k1.at_
      have CT := Lib.hid (total_any w8 k2)
      clear k1 k2 k3 k4 k5 h8
      go_wp2_with fail
      refine CT.out.mono ?_
      rintro e w9 ⟨rfl, rfl⟩
      go_wp2_with fail
      refine (CB.out w8 B8.out).mono ?_
      rintro e w9 ⟨rfl, rfl⟩
      have K8 := Lib.hid (HK.out.next B8.out)
      go_wp2_with fail
      refine (sumhash_any w8 _ _ H X H8.out K8.out (by omega)).mono ?_
      rintro e w9 ⟨rfl, b9⟩
      have B9 := Lib.hid b9
      clear b9
      go_wp2_with fail
      refine (clone_any2 w9 _ _ H X (H8.out.below B9.out)).mono ?_
      rintro e w10 ⟨H3, rfl, h10, b10⟩
      have H10 := Lib.hid h10
      have B10 := Lib.hid (below_step B9.out b10)
      clear h10 b10
      go_wp2_with fail
      refine (sumhash_any w10 _ _ H3 X H10.out (K8.out.next B10.out) (by omega)).mono ?_
      rintro e w11 ⟨rfl, b11⟩
      have B11 := Lib.hid (below_step B8.out (below_step B10.out b11))
      clear b11 c0
      go_wp2
      go_ret
      exact ⟨rfl, B11.out⟩
theorem sparts_any (A : Option Addr) (c : Nat) (ps : List ByteArray) (x : Int) (w : World) (hk : KAt w) (hr : Reads w w.heap.size A (stv ps)) (hm : ps.length ≤ maxLen) (hsz : ∀ s ∈ ps, s.size ≤ 140737488351232) :
    Calls Tryd.prog 6 #[.slice A ps.length c, .int .i64 x] w fun e w' => e = .returned (.bool true) ∧ Below w.heap.size w w' := by
  by_cases h1 : 50 < ps.length
  · exact sparts_many A ps.length c x w hk h1 hm
  · by_cases h2 : 1000 < (jn ps).length
    · exact sparts_long A c ps x w hk hr (by omega) h2 hsz
    · exact sparts_good A c ps x w hk hr (by omega) (by omega) hsz
end Go.Proofs.YtdgfdgdekocodaaDoor

/- The laws CipherExpands, CipherBack, out of what package cipher and the document's side answer. Conditions: those typed. -/
import Derived.Test.YtapifeiigceemaaCiKeys
namespace Go.Proofs.Ytapifeiigceemaa
set_option maxRecDepth 50000
open Go.RowKit Ci Rot

theorem over200 (salt key : ByteArray) (h : 200 < salt.size ∨ 200 < key.size) : (200 : Int) < (salt.size : Int) ∨ ((salt.size : Int) ≤ 200 ∧ (200 : Int) < (key.size : Int)) := by omega
theorem expands_long (salt key : ByteArray) (h : 200 < salt.size ∨ 200 < key.size) (l r : Nat) (w : World) :
    Calls Try.prog 4 #[.string salt, .string key, .int .u32 (l : Int), .int .u32 (r : Int)] w fun e w' => e = .returned (.bool true) ∧ Below w.heap.size w w' := by
  rcases over200 salt key h with h1 | ⟨h1, h2⟩
  · clear h
    go_enter Try.func4, Try.ntmps4
    go_wp2_with fail
    refine (awake10_any w).mono ?_
    rintro e w1 ⟨rfl, hb1⟩
    have HB := Lib.hid hb1
    clear hb1
    go_wp2
    go_ret
    exact ⟨rfl, HB.out⟩
  · clear h
    go_enter Try.func4, Try.ntmps4
    go_wp2_with fail
    refine (awake10_any w).mono ?_
    rintro e w1 ⟨rfl, hb1⟩
    have HB := Lib.hid hb1
    clear hb1
    go_wp2
    go_ret
    exact ⟨rfl, HB.out⟩

/-- behind Expand the tables that were there are still below the heap's end -/
theorem kept_below {w w1 w2 : World} {b B : Nat} (h : Below B w w1) (hk : Kept (fun x => x = b) w1 w2) (hb : B ≤ b) (hB : B ≤ w1.heap.size) : Below B w w2 := h.trans (hk.below hB fun x hx => by rw [hx]; exact hb)

set_option maxHeartbeats 1600000 in
theorem expands_good (salt key : ByteArray) (hs : salt.size ≤ 200) (hk : key.size ≤ 200) (l r : Nat) (hl : l < 4294967296) (hr : r < 4294967296) (w : World) :
    Calls Try.prog 4 #[.string salt, .string key, .int .u32 (l : Int), .int .u32 (r : Int)] w fun e w' => e = .returned (.bool true) ∧ Below w.heap.size w w' := by
  have h1 : (salt.size : Int) ≤ 200 := by omega
  have h2 : (key.size : Int) ≤ 200 := by omega
  obtain ⟨F, hF⟩ : ∃ F, F = exB wordN salt key := ⟨_, rfl⟩
  have hFo : Ok F := by rw [hF]; exact exB_ok wordN_ok _ _
  obtain ⟨G, hG⟩ : ∃ G, G = exB F key salt := ⟨_, rfl⟩
  have hGo : Ok G := by rw [hG]; exact exB_ok hFo _ _
  have HX1 := Lib.hid (fun (w1 : World) (b : Nat) (hT : Tab w1 b 49 wordN) => expand_any w1 b wordN hT wordN_ok salt key (by omega) (by omega))
  have HX2 := Lib.hid (fun (w1 : World) (b : Nat) (hT : Tab w1 b 49 F) => expand_any w1 b F hT hFo key salt (by omega) (by omega))
  have HY1 := Lib.hid (fun (w1 : World) (d c : Nat) (hT : RTab w1 d wordN) => rexpand_any w1 d c wordN hT wordN_ok salt key (by omega) (by omega))
  have HY2 := Lib.hid (fun (w1 : World) (d c : Nat) (hT : RTab w1 d F) => rexpand_any w1 d c F hT hFo key salt (by omega) (by omega))
  rw [← hF] at HX1 HY1
  rw [← hG] at HX2 HY2
  have HS0 := Lib.hid (fun (w1 : World) (b : Nat) (hT : Tab w1 b 49 wordN) => sum_any w1 b wordN hT wordN_ok)
  have HT0 := Lib.hid (fun (w1 : World) (d c : Nat) (hT : RTab w1 d wordN) => rsum_any w1 d c wordN hT wordN_ok)
  have HE := Lib.hid (fun (w1 : World) (b : Nat) (hT : Tab w1 b 49 G) => And.intro (enc_of w1 b G hT hGo l r hl hr) (sum_any w1 b G hT hGo))
  have HRE := Lib.hid (fun (w1 : World) (d c : Nat) (hT : RTab w1 d G) => And.intro (renc_of w1 d c G hT hGo l r hl hr) (rsum_any w1 d c G hT hGo))
  generalize enL G l r = a at *
  generalize enR G l r = a2 at *
  generalize smTo G 1042 = sm at *
  generalize smTo wordN 1042 = s0 at *
  clear hG hGo hF hFo
  go_enter Try.func4, Try.ntmps4
  go_wp2_with fail
  refine (awake10_any w).mono ?_
  rintro e w1 ⟨rfl, hb1⟩
  have HB := Lib.hid hb1
  clear hb1
  go_wp2_with fail
  refine (plain_any w1).mono ?_
  rintro e w2 ⟨b, rfl, hT2, hbb, hb2⟩
  have H2 := Lib.hid (And.intro hT2 (And.intro (Nat.le_trans HB.out.size hbb) (HB.out.trans (hb2.mono HB.out.size))))
  clear hT2 hbb hb2
  go_wp2_with fail
  refine (HS0.out w2 b H2.out.1).mono ?_
  rintro e w3 ⟨rfl, hb3⟩
  have H3 := Lib.hid (And.intro (H2.out.1.below hb3 H2.out.1.lt) (And.intro H2.out.2.1 (H2.out.2.2.trans (hb3.mono H2.out.2.2.size))))
  clear hb3
  go_wp2_with fail
  refine (rplain_any w3).mono ?_
  rintro e w4 ⟨d, c, rfl, hT4, hbd, hb4⟩
  have H4 := Lib.hid (And.intro (H3.out.1.below hb4 H3.out.1.lt) (And.intro H3.out.2.1 (And.intro (H3.out.2.2.trans (hb4.mono H3.out.2.2.size)) hT4)))
  clear hT4 hbd hb4
  go_wp2_with fail
  refine (HT0.out w4 d c H4.out.2.2.2).mono ?_
  rintro e w5 ⟨rfl, rfl⟩
  go_wp2_with fail
  refine (HX1.out w5 b H4.out.1).mono ?_
  rintro e w6 ⟨rfl, hT6, hk6⟩
  have H6 := Lib.hid (And.intro hT6 (kept_below H4.out.2.2.1 hk6 H4.out.2.1 H4.out.2.2.1.size))
  clear hT6 hk6
  go_wp2_with fail
  refine (HX2.out w6 b H6.out.1).mono ?_
  rintro e w7 ⟨rfl, hT7, hk7⟩
  have H7 := Lib.hid (And.intro hT7 (kept_below H6.out.2 hk7 H4.out.2.1 H6.out.2.size))
  clear hT7 hk7
  go_wp2_with fail
  refine (rplain_any w7).mono ?_
  rintro e w8 ⟨d8, c8, rfl, hT8, hbd, hb8⟩
  have H8 := Lib.hid (And.intro hT8 (And.intro (H7.out.1.below hb8 H7.out.1.lt) (H7.out.2.trans (hb8.mono H7.out.2.size))))
  clear hT8 hbd hb8
  go_wp2_with fail
  refine (HY1.out w8 d8 c8 H8.out.1).mono ?_
  rintro e w9 ⟨d9, rfl, hT9, hbd, hb9⟩
  have H9 := Lib.hid (And.intro hT9 (And.intro (H8.out.2.1.below hb9 H8.out.2.1.lt) (H8.out.2.2.trans (hb9.mono H8.out.2.2.size))))
  clear hT9 hbd hb9
  go_wp2_with fail
  refine (HY2.out w9 d9 1042 H9.out.1).mono ?_
  rintro e wa ⟨da, rfl, hTa, hbd, hba⟩
  have HA := Lib.hid (And.intro hTa (And.intro (H9.out.2.1.below hba H9.out.2.1.lt) (H9.out.2.2.trans (hba.mono H9.out.2.2.size))))
  clear hTa hbd hba
  go_wp2_with fail
  refine ((HE.out wa b HA.out.2.1).1).mono ?_
  rintro e wb ⟨rfl, q1, rfl⟩
  go_wp2_with fail
  refine ((HRE.out _ da 1042 (HA.out.1.drewN _)).1).mono ?_
  rintro e wb ⟨rfl, q2, rfl⟩
  go_wp2_with fail
  refine ((HE.out _ b (HA.out.2.1.drewN _)).2).mono ?_
  rintro e wc ⟨rfl, hbc⟩
  have HC : Hid (RTab wc da G ∧ Below w.heap.size w wc) := Lib.hid ⟨RTab.below (HA.out.1.drewN _) hbc HA.out.1.lt, (below_drewN HA.out.2.2 _).trans (hbc.mono HA.out.2.2.size)⟩
  clear hbc
  go_wp2_with fail
  refine ((HRE.out wc da 1042 HC.out.1).2).mono ?_
  rintro e wd ⟨rfl, rfl⟩
  go_wp2
  go_ret
  exact ⟨rfl, HC.out.2⟩
theorem expands_any (salt key : ByteArray) (l r : Nat) (hl : l < 4294967296) (hr : r < 4294967296) (w : World) :
    Calls Try.prog 4 #[.string salt, .string key, .int .u32 (l : Int), .int .u32 (r : Int)] w fun e w' => e = .returned (.bool true) ∧ Below w.heap.size w w' := by
  by_cases h : 200 < salt.size ∨ 200 < key.size
  · exact expands_long salt key h l r w
  · exact expands_good salt key (by omega) (by omega) l r hl hr w

theorem or00 : bits .or .u32 0 0 = 0 := by decide +kernel
set_option maxHeartbeats 1600000 in
theorem back_long (salt key : ByteArray) (h : 200 < salt.size ∨ 200 < key.size) (l r : Nat) (w : World) :
    Calls Try.prog 5 #[.string salt, .string key, .int .u32 (l : Int), .int .u32 (r : Int)] w fun e w' => e = .returned (.bool true) ∧ Below w.heap.size w w' := by
  rcases over200 salt key h with h1 | ⟨h1, h2⟩
  · clear h
    go_enter Try.func5, Try.ntmps5
    go_wp2_with fail
    refine (awake10_any w).mono ?_
    rintro e w1 ⟨rfl, hb1⟩
    have HB := Lib.hid hb1
    clear hb1
    go_wp2_with fail
    refine (enc_nil l r w1).mono ?_
    rintro e w2 ⟨rfl, rfl⟩
    go_wp2_with fail
    refine (dec_nil l r w2).mono ?_
    rintro e w3 ⟨rfl, rfl⟩
    have ho := or00
    go_wp2_with fail
    refine (sum_nil w3).mono ?_
    rintro e w4 ⟨rfl, rfl⟩
    go_wp2_with fail
    refine (clone_nil w4).mono ?_
    rintro e w5 ⟨rfl, rfl⟩
    go_wp2_with fail
    refine (expand_nil salt key w5).mono ?_
    rintro e w6 ⟨rfl, hb6⟩
    have H6 := Lib.hid (HB.out.trans (hb6.mono HB.out.size))
    clear hb6 HB
    go_wp2
    go_ret
    exact ⟨rfl, H6.out⟩
  · clear h
    go_enter Try.func5, Try.ntmps5
    go_wp2_with fail
    refine (awake10_any w).mono ?_
    rintro e w1 ⟨rfl, hb1⟩
    have HB := Lib.hid hb1
    clear hb1
    go_wp2_with fail
    refine (enc_nil l r w1).mono ?_
    rintro e w2 ⟨rfl, rfl⟩
    go_wp2_with fail
    refine (dec_nil l r w2).mono ?_
    rintro e w3 ⟨rfl, rfl⟩
    have ho := or00
    go_wp2_with fail
    refine (sum_nil w3).mono ?_
    rintro e w4 ⟨rfl, rfl⟩
    go_wp2_with fail
    refine (clone_nil w4).mono ?_
    rintro e w5 ⟨rfl, rfl⟩
    go_wp2_with fail
    refine (expand_nil salt key w5).mono ?_
    rintro e w6 ⟨rfl, hb6⟩
    have H6 := Lib.hid (HB.out.trans (hb6.mono HB.out.size))
    clear hb6 HB
    go_wp2
    go_ret
    exact ⟨rfl, H6.out⟩
set_option maxHeartbeats 1600000 in
theorem back_good (salt key : ByteArray) (hs : salt.size ≤ 200) (hk : key.size ≤ 200) (l r : Nat) (hl : l < 4294967296) (hr : r < 4294967296) (w : World) :
    Calls Try.prog 5 #[.string salt, .string key, .int .u32 (l : Int), .int .u32 (r : Int)] w fun e w' => e = .returned (.bool true) ∧ Below w.heap.size w w' := by
  have h1 : (salt.size : Int) ≤ 200 := by omega
  have h2 : (key.size : Int) ≤ 200 := by omega
  obtain ⟨F, hF⟩ : ∃ F, F = exB wordN salt key := ⟨_, rfl⟩
  have hFo : Ok F := by rw [hF]; exact exB_ok wordN_ok _ _
  have HX1 := Lib.hid (fun (w1 : World) (b : Nat) (hT : Tab w1 b 49 wordN) => expand_any w1 b wordN hT wordN_ok salt key (by omega) (by omega))
  rw [← hF] at HX1
  have HX2 := Lib.hid (fun (w1 : World) (b : Nat) (hT : Tab w1 b 49 F) (x y : ByteArray) (hx : x.size ≤ 1) (hy : y.size ≤ 1) => expand_any w1 b F hT hFo x y (by omega) (by omega))
  have HS := Lib.hid (fun (w1 : World) (b : Nat) (hT : Tab w1 b 49 F) => And.intro (sum_any w1 b F hT hFo) (clone_any w1 b F hT))
  have HE := Lib.hid (fun (w1 : World) (b : Nat) (hT : Tab w1 b 49 F) => And.intro (enc_of w1 b F hT hFo l r hl hr) (dec_of w1 b F hT hFo l r hl hr))
  have e1 := en_lt F hFo l r hl hr
  have e2 := de_lt F hFo l r hl hr
  have HE2 := Lib.hid (fun (w1 : World) (b : Nat) (hT : Tab w1 b 49 F) => And.intro (dec_of w1 b F hT hFo (enL F l r) (enR F l r) e1.1 e1.2) (enc_of w1 b F hT hFo (deL F l r) (deR F l r) e2.1 e2.2))
  rw [(de_en F l r).1, (de_en F l r).2, (en_de F l r).1, (en_de F l r).2] at HE2
  generalize enL F l r = a at *
  generalize enR F l r = a2 at *
  generalize deL F l r = p at *
  generalize deR F l r = p2 at *
  generalize smTo F 1042 = sm at *
  clear hF hFo e1 e2
  go_enter Try.func5, Try.ntmps5
  go_wp2_with fail
  refine (awake10_any w).mono ?_
  rintro e w1 ⟨rfl, hb1⟩
  have HB := Lib.hid hb1
  clear hb1
  go_wp2_with fail
  refine (enc_nil l r w1).mono ?_
  rintro e w2 ⟨rfl, rfl⟩
  go_wp2_with fail
  refine (dec_nil l r w2).mono ?_
  rintro e w3 ⟨rfl, rfl⟩
  have ho := or00
  go_wp2_with fail
  refine (sum_nil w3).mono ?_
  rintro e w4 ⟨rfl, rfl⟩
  go_wp2_with fail
  refine (clone_nil w4).mono ?_
  rintro e w5 ⟨rfl, rfl⟩
  go_wp2_with fail
  refine (expand_nil salt key w5).mono ?_
  rintro e w6 ⟨rfl, hb6⟩
  have H6 := Lib.hid (HB.out.trans (hb6.mono HB.out.size))
  clear hb6 HB
  go_wp2_with fail
  refine (plain_any w6).mono ?_
  rintro e w7 ⟨b, rfl, hT7, hbb, hb7⟩
  have H7 := Lib.hid (And.intro hT7 (And.intro (Nat.le_trans H6.out.size hbb) (H6.out.trans (hb7.mono H6.out.size))))
  clear hT7 hbb hb7
  go_wp2_with fail
  refine (HX1.out w7 b H7.out.1).mono ?_
  rintro e w8 ⟨rfl, hT8, hk8⟩
  have H8 := Lib.hid (And.intro hT8 (kept_below H7.out.2.2 hk8 H7.out.2.1 H7.out.2.2.size))
  clear hT8 hk8
  go_wp2_with fail
  refine ((HS.out w8 b H8.out.1).1).mono ?_
  rintro e w9 ⟨rfl, hb9⟩
  have H9 := Lib.hid (And.intro (H8.out.1.below hb9 H8.out.1.lt) (H8.out.2.trans (hb9.mono H8.out.2.size)))
  clear hb9
  go_wp2_with fail
  refine ((HS.out w9 b H9.out.1).2).mono ?_
  rintro e wa ⟨d, rfl, hTa, hbd, hba⟩
  have HA := Lib.hid (And.intro hTa (And.intro (H9.out.1.below hba H9.out.1.lt) (And.intro (H9.out.2.trans (hba.mono H9.out.2.size)) (And.intro (Nat.le_trans H9.out.2.size hbd) (Nat.lt_of_lt_of_le H9.out.1.lt hbd)))))
  clear hTa hbd hba
  go_wp2_with fail
  refine (HX2.out wa d HA.out.1 _ _ (by decide) (by decide)).mono ?_
  rintro e wb ⟨rfl, hTb, hkb⟩
  have HBB : Hid (Tab wb b 49 F ∧ Below w.heap.size w wb) := Lib.hid ⟨RowAt.kept HA.out.2.1 hkb (fun e => by have := HA.out.2.2.2.2; omega), kept_below HA.out.2.2.1 hkb HA.out.2.2.2.1 HA.out.2.2.1.size⟩
  clear hTb hkb
  go_wp2_with fail
  refine ((HE.out wb b HBB.out.1).1).mono ?_
  rintro e wc ⟨rfl, q1, rfl⟩
  go_wp2_with fail
  refine ((HE2.out _ b (HBB.out.1.drewN _)).1).mono ?_
  rintro e wc ⟨rfl, q2, rfl⟩
  go_wp2_with fail
  refine ((HE.out _ b (HBB.out.1.drewN _)).2).mono ?_
  rintro e wc ⟨rfl, q3, rfl⟩
  go_wp2_with fail
  refine ((HE2.out _ b (HBB.out.1.drewN _)).2).mono ?_
  rintro e wc ⟨rfl, q4, rfl⟩
  go_wp2_with fail
  refine ((HS.out _ b (HBB.out.1.drewN _)).1).mono ?_
  rintro e wd ⟨rfl, hbd⟩
  have HD : Hid (Below w.heap.size w wd) := Lib.hid ((below_drewN HBB.out.2 _).trans (hbd.mono HBB.out.2.size))
  clear hbd
  go_wp2
  go_ret
  exact ⟨rfl, HD.out⟩
theorem back_any (salt key : ByteArray) (l r : Nat) (hl : l < 4294967296) (hr : r < 4294967296) (w : World) :
    Calls Try.prog 5 #[.string salt, .string key, .int .u32 (l : Int), .int .u32 (r : Int)] w fun e w' => e = .returned (.bool true) ∧ Below w.heap.size w w' := by
  by_cases h : 200 < salt.size ∨ 200 < key.size
  · exact back_long salt key h l r w
  · exact back_good salt key (by omega) (by omega) l r hl hr w
end Go.Proofs.Ytapifeiigceemaa

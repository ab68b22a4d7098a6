/- The law CipherKeys, out of what package cipher and the document's side answer. Conditions: those typed. -/
import Derived.Test.YtapifeiigceemaaCiNew
import Derived.Test.YtapifeiigceemaaCiRex
import Derived.Test.YtapifeiigceemaaCiBig
namespace Go.Proofs.Ytapifeiigceemaa
set_option maxRecDepth 50000
open Go.RowKit Ci Rot

theorem enc_of (w : World) (b : Nat) (g : Nat → Nat) (hT : Tab w b 49 g) (hg : Ok g) (l r : Nat) (hl : l < 4294967296) (hr : r < 4294967296) :
    Calls Try.prog 10 #[.pointer (some ⟨b, 0, none⟩), .int .u32 (l : Int), .int .u32 (r : Int)] w fun e w' => e = .returned (.tuple #[.int .u32 (enL g l r : Int), .int .u32 (enR g l r : Int)]) ∧ ∃ q, w' = w.drewN q := enc_any w b g hT hg l r hl hr
theorem dec_of (w : World) (b : Nat) (g : Nat → Nat) (hT : Tab w b 49 g) (hg : Ok g) (l r : Nat) (hl : l < 4294967296) (hr : r < 4294967296) :
    Calls Try.prog 12 #[.pointer (some ⟨b, 0, none⟩), .int .u32 (l : Int), .int .u32 (r : Int)] w fun e w' => e = .returned (.tuple #[.int .u32 (deL g l r : Int), .int .u32 (deR g l r : Int)]) ∧ ∃ q, w' = w.drewN q := dec_any w b g hT hg l r hl hr
theorem renc_of (w : World) (b c : Nat) (g : Nat → Nat) (hT : RTab w b g) (hg : Ok g) (l r : Nat) (hl : l < 4294967296) (hr : r < 4294967296) :
    Calls Try.prog 11 #[.slice (some ⟨b, 0, none⟩) 1042 c, .int .u32 (l : Int), .int .u32 (r : Int)] w fun e w' => e = .returned (.tuple #[.int .u32 (enL g l r : Int), .int .u32 (enR g l r : Int)]) ∧ ∃ q, w' = w.drewN q := renc_any w b c g hT hg l r hl hr
theorem rdec_of (w : World) (b c : Nat) (g : Nat → Nat) (hT : RTab w b g) (hg : Ok g) (l r : Nat) (hl : l < 4294967296) (hr : r < 4294967296) :
    Calls Try.prog 13 #[.slice (some ⟨b, 0, none⟩) 1042 c, .int .u32 (l : Int), .int .u32 (r : Int)] w fun e w' => e = .returned (.tuple #[.int .u32 (deL g l r : Int), .int .u32 (deR g l r : Int)]) ∧ ∃ q, w' = w.drewN q := rdec_any w b c g hT hg l r hl hr

theorem zeros8 : ∀ i, bt (tx (List.replicate 8 0)) i = 0 := fun i => by
  by_cases h : i < 8
  · exact (by decide +kernel : ∀ i : _root_.Fin 8, bt (tx (List.replicate 8 0)) i = 0) ⟨i, h⟩
  · unfold bt
    rw [dif_neg (by rw [tx_size]; simpa using h)]

set_option maxHeartbeats 1600000 in
theorem awake10_any (w : World) : Calls Try.prog 6 #[] w fun e w' => e = .returned (.bool true) ∧ Below w.heap.size w w' := by
  obtain ⟨i0, hi, hz0, hz1, hz2⟩ := info_parts fd_info_u8
  go_enter Try.func6, Try.ntmps6
  go_wp2_with (at_make; refine wpList_make_full _ rfl _ _ 41 rfl w.heap.size 5 i0 (.int .u8 0) 1 Try.underlying41 hi hz0 hz1 _ _ _ _ 8 rfl rfl rfl rfl ?c1 ?c2 ?c3 ?_)
  case c1 => simp [hz2]
  case c2 => unfold maxLen; omega
  case c3 => exact Nat.le_refl _
  intro w1 hown1 hg1
  have hb1 : Below w.heap.size w w1 := (Below.refl _ _).grown hg1 (Nat.le_refl _) (by simp)
  rw [made_one] at hown1
  have hcv := conv_text (l := List.replicate 8 0) w1 (by simpa [cs] using hown1)
  have HB1 := Lib.hid hb1
  clear hown1 hg1 hb1 hi hz0 hz1 hz2
  obtain ⟨z, hz⟩ : ∃ z, z = tx (List.replicate 8 0) := ⟨_, rfl⟩
  rw [← hz] at hcv
  have hzs : z.size = 8 := by rw [hz, tx_size]; rfl
  have HEX := Lib.hid (example_is ⟨#[]⟩ z rfl (by rw [hz]; exact zeros8))
  have HZS := Lib.hid hzs
  clear hz hzs
  go_wp2_with fail
  refine (new_any z (by rw [HZS.out]; decide) (by rw [HZS.out]; decide) w1).mono ?_
  rintro e w2 ⟨b, rfl, hT, hb, hbl⟩
  have HT := Lib.hid (And.intro hT (And.intro hb hbl))
  clear hT hb hbl hcv
  have HE := Lib.hid (by
    have h := enc_of w2 b (exB wordN ⟨#[]⟩ z) HT.out.1 (exB_ok wordN_ok _ _) 0 0 (by decide) (by decide)
    rw [HEX.out.1, HEX.out.2] at h
    exact h)
  go_wp2_with fail
  refine HE.out.mono ?_
  rintro e w3 ⟨rfl, q, rfl⟩
  go_wp2
  go_ret
  exact ⟨rfl, below_drewN (HB1.out.trans (HT.out.2.2.mono HB1.out.size)) q⟩

theorem rplain_any (w : World) : Calls Try.prog 9 #[] w fun e w' => ∃ d c, e = .returned (.slice (some ⟨d, 0, none⟩) 1042 c) ∧ RTab w' d wordN ∧ w.heap.size ≤ d ∧ Below w.heap.size w w' := by
  have HW := Lib.hid (wordsOk 0 1042 (by decide) w)
  go_enter Try.func9, Try.ntmps9
  go_wp2_with fail
  refine HW.out.mono ?_
  rintro e w1 ⟨v, rfl, hown, hb1⟩
  obtain ⟨A, c, rfl, hnl, hpos, _⟩ := own_form hown
  clear hnl
  obtain ⟨gb, rfl, hgb⟩ := hpos (by decide)
  have HF : Hid (RTab w1 gb wordN ∧ w.heap.size ≤ gb ∧ Below w.heap.size w w1) := Lib.hid ⟨RTab.own hown (fun i hi => by rw [List.getElem?_eq_getElem (by rw [wordsL_length]; exact hi), wordsL_at 0 i 1042 hi, Nat.zero_add]), hgb, hb1⟩
  clear hown hb1 hgb
  go_wp2
  go_ret
  exact ⟨gb, c, rfl, HF.out⟩

theorem keys_bad (key : ByteArray) (h : key.size = 0 ∨ 72 < key.size) (l r : Nat) (w : World) :
    Calls Try.prog 3 #[.string key, .int .u32 (l : Int), .int .u32 (r : Int)] w fun e w' => e = .returned (.bool true) ∧ Below w.heap.size w w' := by
  have HN := Lib.hid (fun w1 : World => new_bad key h w1)
  have hcase : (key.toList ≠ [] ∧ key.toList.isEmpty = false ∧ (key.toList == []) = false ∧ (72 : Int) < (key.size : Int)) ∨ (key.toList = [] ∧ key.toList.isEmpty = true ∧ (key.toList == []) = true) := by
    by_cases h0 : key.size = 0
    · exact .inr (text_none key h0)
    · obtain ⟨a, b, c⟩ := text_some key h0
      exact .inl ⟨a, b, c, by omega⟩
  clear h
  rcases hcase with ⟨k1, k2, k3, k4⟩ | ⟨k1, k2, k3⟩
  · go_enter Try.func3, Try.ntmps3
    go_wp2_with fail
    refine (awake10_any w).mono ?_
    rintro e w1 ⟨rfl, hb1⟩
    have HB := Lib.hid hb1
    clear hb1
    go_wp2_with fail
    refine (HN.out w1).mono ?_
    rintro e w2 ⟨rfl, rfl⟩
    go_wp2
    go_ret
    exact ⟨rfl, HB.out⟩
  · go_enter Try.func3, Try.ntmps3
    go_wp2_with fail
    refine (awake10_any w).mono ?_
    rintro e w1 ⟨rfl, hb1⟩
    have HB := Lib.hid hb1
    clear hb1
    go_wp2_with fail
    refine (HN.out w1).mono ?_
    rintro e w2 ⟨rfl, rfl⟩
    go_wp2
    go_ret
    exact ⟨rfl, HB.out⟩

set_option maxHeartbeats 1600000 in
theorem keys_good (key : ByteArray) (h0 : key.size ≠ 0) (h : key.size ≤ 72) (l r : Nat) (hl : l < 4294967296) (hr : r < 4294967296) (w : World) :
    Calls Try.prog 3 #[.string key, .int .u32 (l : Int), .int .u32 (r : Int)] w fun e w' => e = .returned (.bool true) ∧ Below w.heap.size w w' := by
  obtain ⟨k1, k2, k3⟩ := text_some key h0
  have k4 : (key.size : Int) ≤ 72 := by omega
  obtain ⟨G, hG⟩ : ∃ G, G = exB wordN ⟨#[]⟩ key := ⟨_, rfl⟩
  have hGo : Ok G := by rw [hG]; exact exB_ok wordN_ok _ _
  have HN := Lib.hid (fun w1 : World => new_any key h0 h w1)
  rw [← hG] at HN
  have HX := Lib.hid (fun (w1 : World) (d c : Nat) (hT : RTab w1 d wordN) => rexpand_any w1 d c wordN hT wordN_ok ⟨#[]⟩ key (by decide) (by omega))
  rw [← hG] at HX
  have HE := Lib.hid (fun (w1 : World) (b : Nat) (hT : Tab w1 b 49 G) => And.intro (enc_of w1 b G hT hGo l r hl hr) (And.intro (dec_of w1 b G hT hGo l r hl hr) (sum_any w1 b G hT hGo)))
  have HRE := Lib.hid (fun (w1 : World) (d : Nat) (hT : RTab w1 d G) => And.intro (renc_of w1 d 1042 G hT hGo l r hl hr) (And.intro (rdec_of w1 d 1042 G hT hGo l r hl hr) (rsum_any w1 d 1042 G hT hGo)))
  generalize enL G l r = a at *
  generalize enR G l r = a2 at *
  generalize deL G l r = p at *
  generalize deR G l r = p2 at *
  generalize smTo G 1042 = sm at *
  clear hG hGo
  go_enter Try.func3, Try.ntmps3
  go_wp2_with fail
  refine (awake10_any w).mono ?_
  rintro e w1 ⟨rfl, hb1⟩
  have HB := Lib.hid hb1
  clear hb1
  go_wp2_with fail
  refine (HN.out w1).mono ?_
  rintro e w2 ⟨b, rfl, hT2, hbb, hb2⟩
  have H2 := Lib.hid (And.intro hT2 (HB.out.trans (hb2.mono HB.out.size)))
  clear hT2 hbb hb2
  go_wp2_with fail
  refine (rplain_any w2).mono ?_
  rintro e w3 ⟨d, c, rfl, hT3, hbd, hb3⟩
  have H3 := Lib.hid (And.intro hT3 (And.intro (H2.out.1.below hb3 H2.out.1.lt) (H2.out.2.trans (hb3.mono H2.out.2.size))))
  clear hT3 hbd hb3
  go_wp2_with fail
  refine (HX.out w3 d c H3.out.1).mono ?_
  rintro e w4 ⟨d2, rfl, hT4, hbd, hb4⟩
  have H4 := Lib.hid (And.intro hT4 (And.intro (H3.out.2.1.below hb4 H3.out.2.1.lt) (H3.out.2.2.trans (hb4.mono H3.out.2.2.size))))
  clear hT4 hbd hb4
  go_wp2_with fail
  refine ((HE.out w4 b H4.out.2.1).1).mono ?_
  rintro e w5 ⟨rfl, q1, rfl⟩
  go_wp2_with fail
  refine ((HRE.out _ d2 (H4.out.1.drewN _)).1).mono ?_
  rintro e w5 ⟨rfl, q2, rfl⟩
  go_wp2_with fail
  refine ((HE.out _ b (H4.out.2.1.drewN _)).2.1).mono ?_
  rintro e w5 ⟨rfl, q3, rfl⟩
  go_wp2_with fail
  refine ((HRE.out _ d2 (H4.out.1.drewN _)).2.1).mono ?_
  rintro e w5 ⟨rfl, q4, rfl⟩
  go_wp2_with fail
  refine ((HE.out _ b (H4.out.2.1.drewN _)).2.2).mono ?_
  rintro e w6 ⟨rfl, hb6⟩
  have H6 : Hid (RTab w6 d2 G ∧ Below w.heap.size w w6) := Lib.hid ⟨RTab.below (H4.out.1.drewN _) hb6 H4.out.1.lt, (below_drewN H4.out.2.2 _).trans (hb6.mono H4.out.2.2.size)⟩
  clear hb6
  go_wp2_with fail
  refine ((HRE.out w6 d2 H6.out.1).2.2).mono ?_
  rintro e w7 ⟨rfl, rfl⟩
  go_wp2
  go_ret
  exact ⟨rfl, H6.out.2⟩
theorem keys_any (key : ByteArray) (l r : Nat) (hl : l < 4294967296) (hr : r < 4294967296) (w : World) :
    Calls Try.prog 3 #[.string key, .int .u32 (l : Int), .int .u32 (r : Int)] w fun e w' => e = .returned (.bool true) ∧ Below w.heap.size w w' := by
  by_cases h : key.size = 0 ∨ 72 < key.size
  · exact keys_bad key h l r w
  · exact keys_good key (by omega) (by omega) l r hl hr w
end Go.Proofs.Ytapifeiigceemaa

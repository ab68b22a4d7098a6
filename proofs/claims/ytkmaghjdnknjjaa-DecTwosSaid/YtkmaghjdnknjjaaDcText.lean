/- Text of package dec by its contract: the digits of any int. No condition. -/
import Derived.Test.YtkmaghjdnknjjaaDcTurn
import Derived.Test.YtkmaghjdnknjjaaDcRtext
import Derived.Test.YtkmaghjdnknjjaaLaid
import Derived.Laws.AppendOwn
namespace Go.Proofs.Ytkmaghjdnknjjaa
set_option maxRecDepth 50000
open Go.RowKit De

/-- how far the rounds have still to go -/
def dcM : Value → Value → Nat
  | v0, .bool true => (intOf v0).toNat + 1
  | _, _ => 0
/-- the row so far: its digits, the last one first -/
def DcRow (w0 w : World) (v : Value) (l : List UInt8) : Prop := w.ownsRow w0.heap.size 5 1 v l.length (cs l) ∧ Below w0.heap.size w0 w
/-- the digits that are still to come, and those that are there -/
def DcSt (N m : Nat) (bm : Bool) (l : List UInt8) : Prop := (bm = true → dt N = dt m ++ l.reverse) ∧ (bm = false → dt N = l.reverse)
theorem DcSt.less {N m : Nat} {l : List UInt8} (h : DcSt N m true l) (hN : N < 9223372036854775808) : l.length ≤ 18 := by
  have h1 := h.1 rfl
  have h2 := dt_short N hN
  have h3 := dt_length_pos m
  rw [h1, List.length_append, List.length_reverse] at h2
  omega
theorem DcSt.low {N m : Nat} {l : List UInt8} (h : DcSt N m true l) (hm : m < 10) : DcSt N 0 false (l ++ [dg m]) :=
  ⟨fun e => (by cases e), fun _ => by rw [h.1 rfl, dt_lt hm]; simp⟩
theorem DcSt.high {N m : Nat} {l : List UInt8} (h : DcSt N m true l) (hm : 10 ≤ m) : DcSt N (m / 10) true (l ++ [dg (m % 10)]) :=
  ⟨fun _ => by rw [h.1 rfl, dt_ge hm]; simp, fun e => by cases e⟩

set_option maxHeartbeats 3200000 in
theorem text_nat (N : Nat) (hN : N < 9223372036854775808) (w : World) :
    Calls Try.prog 10 #[.int .i64 (N : Int)] w fun e w' => e = .returned (.string (tx (dt N))) ∧ Below w.heap.size w w' := by
  obtain ⟨i0, hi, hz0, hz1, hz2⟩ := info_parts Try.info5
  have d0 : decide ((N : Int) < 0) = false := by simp
  go_enter Try.func10, Try.ntmps10
  go_wp2
  go_loopw [0, 3, 4] (fun v0 v3 v4 wr => ∃ (m : Nat) (bm : Bool) (l : List UInt8), m < 9223372036854775808 ∧ v0 = .int .i64 (m : Int) ∧ v4 = .bool bm ∧ Hid (DcSt N m bm l) ∧ DcRow w wr v3 l) (fun v0 _ v4 _ => dcM v0 v4)
  case atStart => exact ⟨N, true, [], hN, rfl, rfl, Lib.hid ⟨fun _ => by simp, fun e => by cases e⟩, World.ownsRow_nil _ _ _ _, Below.refl _ _⟩
  case round =>
    obtain ⟨m, bm, l, hm, rfl, rfl, HS, hrow⟩ := hrel
    cases bm with
    | true =>
      have hl18 := HS.out.less hN
      obtain ⟨k, hk⟩ : ∃ k, k = m % 10 := ⟨_, rfl⟩
      obtain ⟨q, hq⟩ : ∃ q, q = m / 10 := ⟨_, rfl⟩
      have hk10 : k < 10 := by omega
      have CG := Lib.hid (fun w => digit_any k hk10 w)
      have e1 : (m : Int).tmod 10 = (k : Int) := by rw [Int.tmod_eq_emod_of_nonneg (by omega)]; omega
      have e2 : (m : Int) % 10 = (k : Int) := by omega
      have e3 : (m : Int).tdiv 10 = (q : Int) := by rw [Int.tdiv_eq_ediv_of_nonneg (by omega)]; omega
      have e4 : (m : Int) / 10 = (q : Int) := by omega
      have e5 : IntKind.i64.wrap (q : Int) = (q : Int) := by rw [IntKind.wrap_i64]; omega
      have hq2 : q < 9223372036854775808 := by omega
      have hcase : ∃ b2 : Bool, Hid (DcSt N q b2 (l ++ [dg k])) ∧ decide ((0 : Int) < (q : Int)) = b2 ∧ decide (0 < q) = b2 ∧ Hid (dcM (.int .i64 (q : Int)) (.bool b2) < m + 1) := by
        by_cases h10 : m < 10
        · refine ⟨false, Lib.hid ?_, by simp; omega, by simp; omega, Lib.hid (by simp [dcM])⟩
          have := HS.out.low h10
          rwa [show q = 0 by omega, show k = m by omega]
        · refine ⟨true, Lib.hid ?_, by simp; omega, by simp; omega, Lib.hid ?_⟩
          · rw [hq, hk]; exact HS.out.high (by omega)
          · show (intOf (.int .i64 (q : Int))).toNat + 1 < m + 1
            have : (intOf (.int .i64 (q : Int))).toNat = q := by simp [intOf]
            omega
      obtain ⟨b2, HS2, d2, d3, HM⟩ := hcase
      have HCS : Hid (cs (l ++ [dg k]) = cs l ++ [.int .u8 ((dg k).toNat : Int)]) := Lib.hid (by rw [cs_append]; rfl)
      obtain ⟨hown, hb⟩ := hrow
      obtain ⟨A, c, rfl, ho1, ho2, _⟩ := own_form hown
      clear ho1 ho2 hk hq hm HS
      have hsz := hb.size
      generalize dg k = x at *
      generalize x.toNat = xn at *
      go_wp2_with (first
        | (go_at_call 20; refine (CG.out _).mono ?_; rintro e w' ⟨rfl, hw⟩; obtain rfl := hw.symm)
        | (at_builtin; refine wpList_append_own _ rfl (.tmp 10) (.tmp 14) 40 rfl w.heap.size 5 i0 (.int .u8 0) 1 1 Try.underlying40 hi hz0 hz1 hz2 rfl (by decide) _ _ _ rfl (hown.alloc _) ⟨wr.heap.size, 0, none⟩ 1 1 [.int .u8 (xn : Int)] rfl rfl ?c1 ?c2 ?c3 ?c4 ?c5 ?_))
      case c1 => exact one_new _ _ _
      case c2 => exact one_cell _ rfl
      case c3 => unfold maxLen; omega
      case c4 => omega
      case c5 => simp; omega
      intro v' w2 hown2 hg2 _
      have R := rel_step hb hsz hown hown2 hg2
      clear hown2 hg2 hown hb CG
      go_wp2
      go_roundw
      case rel => exact ⟨q, b2, l ++ [x], hq2, rfl, rfl, HS2, by rw [DcRow, HCS.out, List.length_append]; exact R⟩
      case measure => exact Nat.lt_of_lt_of_le HM.out (by simp [dcM, intOf])
    | false =>
      have he : dt N = l.reverse := HS.out.2 rfl
      have hl19 : l.length ≤ 19 := by
        have := dt_short N hN
        rwa [he, List.length_reverse] at this
      have hl0 : 0 < l.length := by
        have := dt_length_pos N
        rwa [he, List.length_reverse] at this
      obtain ⟨hown, hb⟩ := hrow
      obtain ⟨A, c, rfl, ho1, ho2, _⟩ := own_form hown
      obtain ⟨g, rfl, hgb⟩ := ho2 hl0
      have HT := Lib.hid (turn_any w.heap.size g l.length c l wr rfl (by omega) hown hgb)
      have HB := Lib.hid hb
      have HE : Hid (tx (dt N) = tx l.reverse) := Lib.hid (by rw [he])
      clear ho1 ho2 he hown HS hb
      generalize hr : l.reverse = R at *
      generalize l.length = n at *
      clear hr
      go_wp2_with fail
      refine HT.out.mono ?_
      rintro e w2 ⟨rfl, hown, hb⟩
      have hcv := conv_text w2 hown
      have HB2 := Lib.hid (HB.out.trans hb)
      clear hown hb
      go_wp2
      go_ret
      exact ⟨by rw [HE.out]; rfl, HB2.out⟩

theorem text_neg (n : Int) (h : n < 0) (w : World) :
    Calls Try.prog 10 #[.int .i64 n] w fun e w' => e = .returned (.string ⟨#[]⟩) ∧ Below w.heap.size w w' := by
  have d0 : decide (n < 0) = true := by simp [h]
  go_enter Try.func10, Try.ntmps10
  go_wp2
  go_ret
  exact ⟨rfl, Below.refl _ _⟩
/-- the digits of any int -/
theorem text_any (n : Int) (h : n < 9223372036854775808) (w : World) :
    Calls Try.prog 10 #[.int .i64 n] w fun e w' => e = .returned (.string (tT n)) ∧ Below w.heap.size w w' := by
  by_cases hn : n < 0
  · rw [tT_neg hn]; exact text_neg n hn w
  · obtain ⟨m, rfl⟩ := Int.eq_ofNat_of_zero_le (show 0 ≤ n by omega)
    have := text_nat m (by omega) w
    rw [tT_nat]
    exact this
end Go.Proofs.Ytkmaghjdnknjjaa

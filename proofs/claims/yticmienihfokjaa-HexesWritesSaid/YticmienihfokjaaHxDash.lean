/- Dash and Undash of package hexes by their contracts; chapter 14's example. Conditions: a text of Dash of at most 2^47 bytes, of Undash of at most 2^48. -/
import Derived.Test.YticmienihfokjaaHxWords
namespace Go.Proofs.Yticmienihfokjaa
set_option maxRecDepth 50000
open Go.RowKit Hx

theorem one_text (w : World) (s : ByteArray) : Reads (w.alloc (.cells #[.string s] 9)) (w.alloc (.cells #[.string s] 9)).heap.size (some ⟨w.heap.size, 0, none⟩) (stv [s]) := fun k hk => by
  refine ⟨w.heap.size, 0, rfl, by simp, ?_⟩
  rw [cell_of_row _ w.heap.size (0 + k) _ _ _ (heap_alloc_new w _)]
  match k, hk with
  | 0, _ => rfl
theorem two_text (w : World) (s1 s2 : ByteArray) : Reads (w.alloc (.cells #[.string s1, .string s2] 9)) (w.alloc (.cells #[.string s1, .string s2] 9)).heap.size (some ⟨w.heap.size, 0, none⟩) (stv [s1, s2]) := fun k hk => by
  refine ⟨w.heap.size, 0, rfl, by simp, ?_⟩
  rw [cell_of_row _ w.heap.size (0 + k) _ _ _ (heap_alloc_new w _)]
  match k, hk with
  | 0, _ => rfl
  | 1, _ => rfl
theorem jn_one (s1 : ByteArray) : jn [s1] = tl s1 := by simp [jn]
/-- Encode of one text, in the world in which its list was just made -/
theorem encode_one (s : ByteArray) (hs : s.size ≤ 140737488355328) (w : World) :
    Calls Try.prog 13 #[.slice (some ⟨w.heap.size, 0, none⟩) 1 1] (w.alloc (.cells #[.string s] 9)) fun e w' => e = .returned (.string (tx (enc (tl s)))) ∧ Below w.heap.size w w' := by
  refine (encode_any (some ⟨w.heap.size, 0, none⟩) 1 [s] (by simp) _ (one_text w s) (fits_one s hs)).mono ?_
  rintro e w' ⟨rfl, hb⟩
  exact ⟨by rw [jn_one], ((Below.refl w.heap.size w).alloc (Nat.le_refl _) _).trans (hb.mono (by simp))⟩

theorem dash_any (s : ByteArray) (hs : s.size ≤ 140737488355328) (w : World) :
    Calls Try.prog 17 #[.string s] w fun e w' => e = .returned (.string (tx (dashL (tl s)))) ∧ Below w.heap.size w w' := by
  by_cases h : tl s = []
  · obtain rfl := text_is h
    obtain ⟨h1, h2⟩ := text_none
    clear h
    go_enter Try.func17, Try.ntmps17
    go_wp2
    go_ret
    exact ⟨rfl, Below.refl _ _⟩
  · obtain ⟨h1, h2, h3⟩ := text_some s h
    have HD : Hid (dashL (tl s) = enc (tl s)) := Lib.hid (if_neg h)
    have C := Lib.hid (encode_one s hs w)
    clear h
    go_enter Try.func17, Try.ntmps17
    go_wp2_with fail
    refine C.out.mono ?_
    rintro e w1 ⟨rfl, hq⟩
    have HQ := Lib.hid hq
    clear hq
    go_wp2
    go_ret
    exact ⟨by rw [HD.out]; rfl, HQ.out⟩

theorem undash_any (s : ByteArray) (hs : s.size ≤ 281474976710656) (w : World) :
    Calls Try.prog 9 #[.string s] w fun e w' => e = .returned (.tuple #[.string (tx (undL s)), .int .i64 (undE s)]) ∧ Below w.heap.size w w' := by
  by_cases h : tl s = []
  · obtain rfl := text_is h
    obtain ⟨h1, h2⟩ := text_none
    clear h
    go_enter Try.func9, Try.ntmps9
    go_wp2
    go_ret2
    exact ⟨rfl, Below.refl _ _⟩
  · obtain ⟨h1, h2, h3⟩ := text_some s h
    by_cases hd : tl s = [45]
    · obtain rfl := text_is hd
      have h5 := text_dash
      clear h hd
      go_enter Try.func9, Try.ntmps9
      go_wp2
      go_ret2
      exact ⟨rfl, Below.refl _ _⟩
    · have h4 := text_not hd
      have HU : Hid (undL s = decL s ∧ undE s = decE s) := Lib.hid ⟨by unfold undL; rw [if_neg h, if_neg hd], by unfold undE; rw [if_neg h, if_neg hd]⟩
      have C := Lib.hid (decode_any s hs)
      clear h hd
      go_enter Try.func9, Try.ntmps9
      go_wp2_with fail
      refine (C.out _).mono ?_
      rintro e w1 ⟨rfl, hb⟩
      have HB := Lib.hid hb
      clear hb
      go_wp2
      go_ret2
      exact ⟨by rw [HU.out.1, HU.out.2]; rfl, HB.out⟩

theorem awake_any (w : World) : Calls Try.prog 6 #[] w fun e w' => e = .returned (.bool true) ∧ Below w.heap.size w w' := by
  have C1 : Hid (∀ w, Calls Try.prog 7 #[.string ⟨#[54]⟩] w fun e w' => ∃ T : ByteArray, e = .returned (.tuple #[.string T, .int .i64 9]) ∧ Below w.heap.size w w') := Lib.hid fun w =>
    (decode_any ⟨#[54]⟩ (by decide) w).mono fun e w' ⟨h1, h2⟩ => ⟨_, h1, h2⟩
  have C2 : Hid (∀ w, Calls Try.prog 7 #[.string ⟨#[54, 65]⟩] w fun e w' => ∃ T : ByteArray, e = .returned (.tuple #[.string T, .int .i64 8]) ∧ Below w.heap.size w w') := Lib.hid fun w =>
    (decode_any ⟨#[54, 65]⟩ (by decide) w).mono fun e w' ⟨h1, h2⟩ => ⟨_, h1, h2⟩
  have C3 : Hid (∀ w : World, Calls Try.prog 13 #[.slice (some ⟨w.heap.size, 0, none⟩) 2 2] (w.alloc (.cells #[.string ⟨#[97]⟩, .string ⟨#[255]⟩] 9)) fun e w' => e = .returned (.string ⟨#[54, 49, 102, 102]⟩) ∧ Below w.heap.size w w') := Lib.hid fun w => by
    refine (encode_any (some ⟨w.heap.size, 0, none⟩) 2 [⟨#[97]⟩, ⟨#[255]⟩] (by simp) _ (two_text w _ _) (fits_short _ (by decide))).mono ?_
    rintro e w' ⟨rfl, hb⟩
    exact ⟨rfl, ((Below.refl w.heap.size w).alloc (Nat.le_refl _) _).trans (hb.mono (by simp))⟩
  go_enter Try.func6, Try.ntmps6
  go_wp2_with fail
  refine (C1.out _).mono ?_
  rintro e w1 ⟨T1, rfl, hb1⟩
  have B1 := Lib.hid hb1
  clear hb1
  go_wp2_with fail
  refine (C2.out _).mono ?_
  rintro e w2 ⟨T2, rfl, hb2⟩
  have B2 := Lib.hid (below_step B1.out hb2)
  clear hb2
  go_wp2_with fail
  refine (C3.out _).mono ?_
  rintro e w3 ⟨rfl, hb3⟩
  have B3 := Lib.hid (below_step B2.out hb3)
  clear hb3
  go_wp2
  go_ret
  exact ⟨rfl, B3.out⟩
end Go.Proofs.Yticmienihfokjaa

/- The document's Right and First by their contracts. Conditions: those typed. -/
import Derived.Test.YtgjaamiileoknaaPlGood
namespace Go.Proofs.Ytgjaamiileoknaa
set_option maxRecDepth 50000
open Go.RowKit

theorem rfirst_any (p s : Int) (w : World) : Calls Try.prog 23 #[.int .i64 p, .int .i64 s] w fun e w' => e = .returned (.int .i64 (firN p s)) ∧ w = w' := by
  by_cases h1 : p = 0
  · by_cases h2 : s = 0
    · have H := Lib.hid (show firN p s = 2 from if_pos ⟨h1, h2⟩)
      go_enter Try.func23, Try.ntmps23
      go_wp2
      go_ret
      exact ⟨by rw [H.out]; rfl, rfl⟩
    · have H := Lib.hid (show firN p s = 0 from if_neg fun h => h2 h.2)
      go_enter Try.func23, Try.ntmps23
      go_wp2
      go_ret
      exact ⟨by rw [H.out]; rfl, rfl⟩
  · have H := Lib.hid (show firN p s = 0 from if_neg fun h => h1 h.1)
    go_enter Try.func23, Try.ntmps23
    go_wp2
    go_ret
    exact ⟨by rw [H.out]; rfl, rfl⟩
theorem rfirst_is (p s f : Int) (hf : firN p s = f) (w : World) : Calls Try.prog 23 #[.int .i64 p, .int .i64 s] w fun e w' => e = .returned (.int .i64 f) ∧ w = w' := hf ▸ rfirst_any p s w

set_option maxHeartbeats 3200000 in
theorem right_bad (a t l m b c g z : Nat) (p s k i : Int) (w : World)
    (h : l < 1 ∨ 1 ≤ l ∧ p < 0 ∨ 1 ≤ l ∧ 0 ≤ p ∧ (t : Int) ≤ p ∨ 1 ≤ l ∧ 0 ≤ p ∧ p < t ∧ s < 0 ∨ 1 ≤ l ∧ 0 ≤ p ∧ p < t ∧ 0 ≤ s ∧ 3 < s ∨ 1 ≤ l ∧ 0 ≤ p ∧ p < t ∧ 0 ≤ s ∧ s ≤ 3 ∧ k < 0 ∨ 1 ≤ l ∧ 0 ≤ p ∧ p < t ∧ 0 ≤ s ∧ s ≤ 3 ∧ 0 ≤ k ∧ (l : Int) ≤ k) :
    Calls Try.prog 9 #[spv a t l m b c g z, .int .i64 p, .int .i64 s, .int .i64 k, .int .i64 i] w fun e w' => e = .returned (.bool false) ∧ Below w.heap.size w w' := by
  have HB := Lib.hid (one_box w (.cells (spc a t l m b c g z) 33))
  rcases h with h1 | ⟨h1, h2⟩ | ⟨h1, h2, h3⟩ | ⟨h1, h2, h3, h4⟩ | ⟨h1, h2, h3, h4, h5⟩ | ⟨h1, h2, h3, h4, h5, h6⟩ | ⟨h1, h2, h3, h4, h5, h6, h7⟩
  · obtain rfl : l = 0 := by omega
    go_enter Try.func9, Try.ntmps9
    go_wp2
    go_ret
    exact ⟨rfl, HB.out⟩
  all_goals
    go_enter Try.func9, Try.ntmps9
    go_wp2
    go_ret
    exact ⟨rfl, HB.out⟩
set_option maxHeartbeats 3200000 in
theorem right_good (a t l m b c g z : Nat) (p s k i f : Int) (x : Bool) (h1 : 1 ≤ l) (h2 : 0 ≤ p) (h3 : p < t) (h4 : 0 ≤ s) (h5 : s ≤ 3) (h6 : 0 ≤ k) (h7 : k < l) (hf : firN p s = f) (hx : inB i f ((g : Int) - 1) = x) (w : World) :
    Calls Try.prog 9 #[spv a t l m b c g z, .int .i64 p, .int .i64 s, .int .i64 k, .int .i64 i] w fun e w' => e = .returned (.bool x) ∧ Below w.heap.size w w' := by
  have HB := Lib.hid (one_box w (.cells (spc a t l m b c g z) 33))
  have CF := Lib.hid (rfirst_is p s f hf)
  have HX : Hid (inB i f ((g : Int) - 1) = (decide (f ≤ i) && decide (i ≤ (g : Int) - 1))) := Lib.hid rfl
  have HX2 := Lib.hid hx
  clear hf hx
  by_cases hi : f ≤ i
  · by_cases hj : i < (g : Int)
    · have hx : x = true := by rw [← HX2.out, HX.out, decide_eq_true hi, decide_eq_true (by omega)]; rfl
      subst hx
      go_enter Try.func9, Try.ntmps9
      go_wp2_with fail
      refine (CF.out _).mono ?_
      rintro e w' ⟨rfl, rfl⟩
      go_wp2
      go_ret
      exact ⟨rfl, HB.out⟩
    · have hx : x = false := by rw [← HX2.out, HX.out, decide_eq_true hi, decide_eq_false (by omega)]; rfl
      subst hx
      have hj2 : decide (i < (g : Int)) = false := decide_eq_false hj
      clear hj
      go_enter Try.func9, Try.ntmps9
      go_wp2_with fail
      refine (CF.out _).mono ?_
      rintro e w' ⟨rfl, rfl⟩
      go_wp2
      go_ret
      exact ⟨rfl, HB.out⟩
  · have hx : x = false := by rw [← HX2.out, HX.out, decide_eq_false hi]; rfl
    subst hx
    have hi1 : i < f := by omega
    have hi2 : decide (f ≤ i) = false := decide_eq_false hi
    clear hi
    go_enter Try.func9, Try.ntmps9
    go_wp2_with fail
    refine (CF.out _).mono ?_
    rintro e w' ⟨rfl, rfl⟩
    go_wp2
    go_ret
    exact ⟨rfl, HB.out⟩
theorem right_any (a t l m b c g z : Nat) (p s k i : Int) (x : Bool) (hx : reB t l g p s k i = x) (w : World) :
    Calls Try.prog 9 #[spv a t l m b c g z, .int .i64 p, .int .i64 s, .int .i64 k, .int .i64 i] w fun e w' => e = .returned (.bool x) ∧ Below w.heap.size w w' := by
  by_cases h : 1 ≤ l ∧ 0 ≤ p ∧ p < t ∧ 0 ≤ s ∧ s ≤ 3 ∧ 0 ≤ k ∧ k < l
  · obtain ⟨h1, h2, h3, h4, h5, h6, h7⟩ := h
    refine right_good a t l m b c g z p s k i _ x h1 h2 h3 h4 h5 h6 h7 rfl ?_ w
    rw [← hx]
    have e1 : hasB t p s = true := by simp [hasB, inB]; omega
    have e2 : inB k 0 ((l : Int) - 1) = true := by simp [inB]; omega
    rw [reB, e1, e2]; rfl
  · have e : x = false := by
      cases x
      · rfl
      · exfalso
        obtain ⟨h1, h2, h3, h4, h5, h6, h7, h8⟩ := re_yes hx
        omega
    subst e
    exact right_bad a t l m b c g z p s k i w (by omega)
end Go.Proofs.Ytgjaamiileoknaa

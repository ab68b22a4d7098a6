/- The law CipherKeys, out of what package cipher and the document's side answer. Conditions: those typed. -/
import Derived.Test.YtglmfagmlfjceaaCiNew
import Derived.Test.YtglmfagmlfjceaaCiRex
namespace Go.Proofs.Ytglmfagmlfjceaa
set_option maxRecDepth 50000
open Go.RowKit Ci Rot

theorem enc_of (w : World) (b : Nat) (g : Nat → Nat) (hT : Tab w b 55 g) (hg : Ok g) (l r : Nat) (hl : l < 4294967296) (hr : r < 4294967296) :
    Calls Try.prog 10 #[.pointer (some ⟨b, 0, none⟩), .int .u32 (l : Int), .int .u32 (r : Int)] w fun e w' => e = .returned (.tuple #[.int .u32 (enL g l r : Int), .int .u32 (enR g l r : Int)]) ∧ ∃ q, w' = w.drewN q := enc_any w b g hT hg l r hl hr
theorem renc_of (w : World) (b c : Nat) (g : Nat → Nat) (hT : RTab w b g) (hg : Ok g) (l r : Nat) (hl : l < 4294967296) (hr : r < 4294967296) :
    Calls Try.prog 11 #[.slice (some ⟨b, 0, none⟩) 1042 c, .int .u32 (l : Int), .int .u32 (r : Int)] w fun e w' => e = .returned (.tuple #[.int .u32 (enL g l r : Int), .int .u32 (enR g l r : Int)]) ∧ ∃ q, w' = w.drewN q := renc_any w b c g hT hg l r hl hr
theorem zeros8 : ∀ i, bt (tx (List.replicate 8 0)) i = 0 := fun i => by
  by_cases h : i < 8
  · exact (by decide +kernel : ∀ i : _root_.Fin 8, bt (tx (List.replicate 8 0)) i = 0) ⟨i, h⟩
  · unfold bt
    rw [dif_neg (by rw [tx_size]; simpa using h)]

theorem rplain_any (w : World) : Calls Try.prog 9 #[] w fun e w' => ∃ d c, e = .returned (.slice (some ⟨d, 0, none⟩) 1042 c) ∧ RTab w' d wordN ∧ w.heap.size ≤ d ∧ Below w.heap.size w w' := by
  have HW := Lib.hid (wordsOk 0 1042 (by decide) w)
  go_enter Try.func9, Try.ntmps9
  go_wp2_with fail
  refine HW.out.mono ?_
  rintro e w1 ⟨v, rfl, hown, hb1⟩
  obtain ⟨A, c, rfl, hnl, hpos, _⟩ := own_form hown
  clear hnl
  obtain ⟨gb, rfl, hgb⟩ := hpos (by decide)
  have HF : Hid (RTab w1 gb wordN ∧ w.heap.size ≤ gb ∧ Below w.heap.size w w1) := Lib.hid ⟨RTab.own hown (fun i hi => by rw [List.getElem?_eq_getElem (by rw [wordsL_length]; exact hi), wordsL_at 0 i 1042 hi, Nat.zero_add]), hgb, hb1⟩
  clear hown hb1 hgb
  go_wp2
  go_ret
  exact ⟨gb, c, rfl, HF.out⟩

end Go.Proofs.Ytglmfagmlfjceaa

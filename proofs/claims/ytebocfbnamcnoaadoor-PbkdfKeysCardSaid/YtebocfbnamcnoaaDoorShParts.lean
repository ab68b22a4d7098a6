/- The law ShParts, for every list of texts and every int. Conditions: each text is no longer than what may come in; the package's table lies at its place. -/
import Derived.Test.YtebocfbnamcnoaaDoorShAwake
import Derived.Test.YtebocfbnamcnoaaDoorOpens
namespace Go.Proofs.YtebocfbnamcnoaaDoor
set_option maxRecDepth 50000
open Go.RowKit Sha

/-- one more text, in a list that was just made -/
theorem add_one (w : World) (B T H : Nat) (X : List UInt8) (h : HashIs w B T H X) (hk : KAt w) (hB : 0 < B) (s : ByteArray) (hX : X.length + s.size ≤ 900000) :
    Calls Tryd.prog 36 #[.pointer (some ⟨H, 0, none⟩), .slice (some ⟨w.heap.size, 0, none⟩) 1 1] (w.alloc (.cells #[.string s] 9)) fun e w' => e = .returned (.pointer (some ⟨H, 0, none⟩)) ∧ HashIs w' B w'.heap.size H (X ++ tl s) ∧ Below B w w' := by
  have hT : B ≤ T ∧ T ≤ w.heap.size := by
    obtain ⟨F, v, l, bs, h1, h2, h3, h4, h5, h6, h7, h8, h9, h10, h11⟩ := h.ex
    exact ⟨by omega, h11⟩
  have hb : Below w.heap.size w (w.alloc (.cells #[.string s] 9)) := (Below.refl _ w).alloc (Nat.le_refl _) _
  refine (addhash_any _ B T H X (h.below hb) (hk.next hb) hB (some ⟨w.heap.size, 0, none⟩) 1 [s] (fun k hk => ?_) (by rw [jn_one, tl_length]; omega) (by simp)).mono ?_
  · have hk0 : k = 0 := by simp [stv] at hk; omega
    subst hk0
    exact ⟨w.heap.size, 0, rfl, by simp, .inr (.inl hT.2), by rw [cell_of_row _ _ _ _ _ (0, 0) (heap_alloc_last w _)]; rfl⟩
  · rintro e w' ⟨rfl, g1, g2⟩
    rw [jn_one] at g1
    exact ⟨rfl, g1, (hb.mono (by omega)).trans g2⟩

end Go.Proofs.YtebocfbnamcnoaaDoor

/- The document's bytes of a word as an owned row, either way round. No condition but those typed. -/
import Derived.Test.YtebocfbnamcnoaaDoorTurned
namespace Go.Proofs.YtebocfbnamcnoaaDoor
set_option maxRecDepth 50000
open Go.RowKit

theorem rev_bytes (n x : Nat) : (bytesOf ups n x).reverse = bytesOf (downs n) n x := by
  refine List.ext_getElem (by simp [bytesOf]) fun i h1 h2 => ?_
  simp only [bytesOf, List.length_map, List.length_range] at h2
  simp [bytesOf, List.getElem_reverse, ups, downs]
theorem cells_own {w : World} {base : Nat} {n c : Nat} {g : Nat} {xs : List Value} (h : w.ownsRow base 5 1 (.slice (some ⟨g, 0, none⟩) n c) n xs) : ∀ j u, xs[j]? = some u → w.cell? ((⟨g, 0, none⟩ : Addr).add j) = some u := h.cells rfl
theorem u8s_one (l : List Nat) : ∀ u ∈ u8s l, u.oneCell' = true := by
  intro u hu
  obtain ⟨x, _, rfl⟩ := List.mem_map.1 hu
  rfl

/-- the document's bytes of a word, as a slice value of some cells -/
theorem of32_own (x : Nat) (w : World) (hx : x < 2 ^ 32) : Calls Tryd.prog 24 #[.int .u32 (x : Int)] w fun e w' => ∃ g c, e = .returned (.slice (some ⟨g, 0, none⟩) 4 c) ∧ w'.ownsRow w.heap.size 5 1 (.slice (some ⟨g, 0, none⟩) 4 c) 4 (u8s (bytesOf ups 4 x)) ∧ Below w.heap.size w w' :=
  (of32_any x w hx).mono fun e w' ⟨v, he, hown, hb⟩ => by
    obtain ⟨A, c, rfl, _, hA, _⟩ := own_form hown
    obtain ⟨g, rfl, _⟩ := hA (by omega)
    exact ⟨g, c, he, hown, hb⟩
theorem of64_own (x : Nat) (w : World) (hx : x < 2 ^ 64) : Calls Tryd.prog 74 #[.int .u64 (x : Int)] w fun e w' => ∃ g c, e = .returned (.slice (some ⟨g, 0, none⟩) 8 c) ∧ w'.ownsRow w.heap.size 5 1 (.slice (some ⟨g, 0, none⟩) 8 c) 8 (u8s (bytesOf ups 8 x)) ∧ Below w.heap.size w w' :=
  (of64_any x w hx).mono fun e w' ⟨v, he, hown, hb⟩ => by
    obtain ⟨A, c, rfl, _, hA, _⟩ := own_form hown
    obtain ⟨g, rfl, _⟩ := hA (by omega)
    exact ⟨g, c, he, hown, hb⟩
theorem turned_own (n : Nat) (hn : 0 < n ∧ n ≤ 8) (x g c : Nat) (w : World) {B : Nat} (hown : w.ownsRow B 5 1 (.slice (some ⟨g, 0, none⟩) n c) n (u8s (bytesOf ups n x))) :
    Calls Tryd.prog 23 #[.slice (some ⟨g, 0, none⟩) n c] w fun e w' => ∃ g c, e = .returned (.slice (some ⟨g, 0, none⟩) n c) ∧ w'.ownsRow w.heap.size 5 1 (.slice (some ⟨g, 0, none⟩) n c) n (u8s (bytesOf (downs n) n x)) ∧ Below w.heap.size w w' := by
  have h := turned_any (some ⟨g, 0, none⟩) c (bytesOf ups n x) w (Reads.of_own hown) (by rw [bytesOf_length]; omega)
  rw [bytesOf_length, rev_bytes] at h
  refine h.mono fun e w' ⟨v, he, hown, hb⟩ => ?_
  obtain ⟨A, c, rfl, _, hA, _⟩ := own_form hown
  obtain ⟨g, rfl, _⟩ := hA (by omega)
  exact ⟨g, c, he, hown, hb⟩
end Go.Proofs.YtebocfbnamcnoaaDoor

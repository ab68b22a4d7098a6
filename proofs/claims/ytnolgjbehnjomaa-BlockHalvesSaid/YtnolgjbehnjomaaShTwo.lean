/- The document's bytes of a word as an owned row, either way round. No condition but those typed. -/
import Derived.Test.YtnolgjbehnjomaaSmall
namespace Go.Proofs.Ytnolgjbehnjomaa
set_option maxRecDepth 50000
open Go.RowKit

theorem cells_own {w : World} {base : Nat} {n c : Nat} {g : Nat} {xs : List Value} (h : w.ownsRow base 5 1 (.slice (some ⟨g, 0, none⟩) n c) n xs) : ∀ j u, xs[j]? = some u → w.cell? ((⟨g, 0, none⟩ : Addr).add j) = some u := h.cells rfl
theorem u8s_one (l : List Nat) : ∀ u ∈ u8s l, u.oneCell' = true := by
  intro u hu
  obtain ⟨x, _, rfl⟩ := List.mem_map.1 hu
  rfl

theorem of64_own (x : Nat) (w : World) (hx : x < 2 ^ 64) : Calls Try.prog 18 #[.int .u64 (x : Int)] w fun e w' => ∃ g c, e = .returned (.slice (some ⟨g, 0, none⟩) 8 c) ∧ w'.ownsRow w.heap.size 5 1 (.slice (some ⟨g, 0, none⟩) 8 c) 8 (u8s (bytesOf ups 8 x)) ∧ Below w.heap.size w w' :=
  (of64_any x w hx).mono fun e w' ⟨v, he, hown, hb⟩ => by
    obtain ⟨A, c, rfl, _, hA, _⟩ := own_form hown
    obtain ⟨g, rfl, _⟩ := hA (by omega)
    exact ⟨g, c, he, hown, hb⟩
end Go.Proofs.Ytnolgjbehnjomaa

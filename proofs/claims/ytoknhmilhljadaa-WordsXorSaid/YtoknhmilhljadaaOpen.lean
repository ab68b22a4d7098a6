/- Arguments opened: a slice of bytes or words, as a list of naturals. No condition. -/
import Derived.Test.YtoknhmilhljadaaLaid
namespace Go.Proofs.Ytoknhmilhljadaa
open Go.ChangeShapes Go.WideShapes Go.ChangeAt Go.RowKit

theorem Try.cells5 : Try.prog.cellsOf 5 = 1 := by kernel_rfl
theorem Try.cells26 : Try.prog.cellsOf 26 = 1 := by kernel_rfl
theorem Try.cells29 : Try.prog.cellsOf 29 = 1 := by kernel_rfl

section
variable {H : Type} {enc : TypeId × Value → H} {W : World} {v : Value} {d : DataW H} {ps : List MemPlace} {r : Reach} {b0 : Nat}
theorem open_u8s (hval : Value.okWide Try.prog W r b0 25 v) (h : DataW.Trod enc Try.prog W 0 (fun _ => true) true 25 v d ps) (hlt : ∀ x ∈ ps, x.block < W.heap.size) :
    ∃ A c, ∃ xs : List Nat, v = .slice A xs.length c ∧ xs.length ≤ maxLen ∧ (∀ x ∈ xs, x < 256) ∧ Reads W W.heap.size A (u8s xs) := by
  obtain ⟨A, c, zs, rfl, h1, h2, hwf, hR⟩ := open_list Try.underlying25 Try.underlying5 Try.cells5 hval h hlt
  obtain ⟨xs, rfl, hx⟩ := nats_of zs 256 wf_u8 hwf
  rw [List.length_map] at *
  rw [List.map_map] at hR
  exact ⟨A, c, xs, rfl, by omega, hx, hR⟩
theorem open_u32s (hval : Value.okWide Try.prog W r b0 22 v) (h : DataW.Trod enc Try.prog W 0 (fun _ => true) true 22 v d ps) (hlt : ∀ x ∈ ps, x.block < W.heap.size) :
    ∃ A c, ∃ xs : List Nat, v = .slice A xs.length c ∧ xs.length ≤ maxLen ∧ (∀ x ∈ xs, x < 2 ^ 32) ∧ Reads W W.heap.size A (u32s xs) := by
  obtain ⟨A, c, zs, rfl, h1, h2, hwf, hR⟩ := open_list Try.underlying22 Try.underlying26 Try.cells26 hval h hlt
  obtain ⟨xs, rfl, hx⟩ := nats_of zs 4294967296 wf_u32 hwf
  rw [List.length_map] at *
  rw [List.map_map] at hR
  exact ⟨A, c, xs, rfl, by omega, hx, hR⟩
theorem open_u64s (hval : Value.okWide Try.prog W r b0 23 v) (h : DataW.Trod enc Try.prog W 0 (fun _ => true) true 23 v d ps) (hlt : ∀ x ∈ ps, x.block < W.heap.size) :
    ∃ A c, ∃ xs : List Nat, v = .slice A xs.length c ∧ xs.length ≤ maxLen ∧ (∀ x ∈ xs, x < 2 ^ 64) ∧ Reads W W.heap.size A (u64s xs) := by
  obtain ⟨A, c, zs, rfl, h1, h2, hwf, hR⟩ := open_list Try.underlying23 Try.underlying29 Try.cells29 hval h hlt
  obtain ⟨xs, rfl, hx⟩ := nats_of zs 18446744073709551616 wf_u64 hwf
  rw [List.length_map] at *
  rw [List.map_map] at hR
  exact ⟨A, c, xs, rfl, by omega, hx, hR⟩
end
end Go.Proofs.Ytoknhmilhljadaa

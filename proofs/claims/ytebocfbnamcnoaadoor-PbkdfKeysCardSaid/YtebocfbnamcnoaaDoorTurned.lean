/- The document's Turned: bytes the other way round. Condition: the slice is of at most a million bytes. -/
import Derived.Test.YtebocfbnamcnoaaDoorSmall
namespace Go.Proofs.YtebocfbnamcnoaaDoor
set_option maxRecDepth 50000
open Go.RowKit

theorem drop_rev (xs : List Nat) (q : Nat) (h : q < xs.length) : (xs.drop q).reverse = (xs.drop (q + 1)).reverse ++ [xs[q]] := by
  rw [List.drop_eq_getElem_cons h, List.reverse_cons]

set_option maxHeartbeats 800000 in
theorem turned_any (A : Option Addr) (c : Nat) (xs : List Nat) (w : World) (hr : Reads w w.heap.size A (u8s xs)) (hlen : xs.length ≤ 1000000) :
    Calls Tryd.prog 23 #[.slice A xs.length c] w fun e w' => ∃ v, e = .returned v ∧ w'.ownsRow w.heap.size 5 1 v xs.length (u8s xs.reverse) ∧ Below w.heap.size w w' := by
  obtain ⟨i0, hi, hz0, hz1, hz2⟩ := info_parts Tryd.info5
  have hlen63 : xs.length ≤ 9223372036854775807 := by omega
  have Hr := Lib.hid hr
  clear hr
  go_enter Tryd.func23, Tryd.ntmps23
  go_wp2
  go_loopw [3, 4] (fun v i wr => ∃ j : Nat, j ≤ xs.length ∧ i = .int .i64 ((j : Int) - 1) ∧ wr.ownsRow w.heap.size 5 1 v (xs.length - j) (u8s (xs.drop j).reverse) ∧ Below w.heap.size w wr) (fun _ i _ => (intOf i + 1).toNat)
  case atStart => exact ⟨xs.length, Nat.le_refl _, rfl, by simpa [u8s] using World.ownsRow_nil _ _ _ _, Below.refl _ _⟩
  case round =>
    obtain ⟨j, hj, rfl, hown, hb⟩ := hrel
    by_cases hlt : 0 < j
    · obtain ⟨q, rfl⟩ : ∃ q, j = q + 1 := ⟨j - 1, by omega⟩
      have hsz := hb.size
      obtain ⟨b, off, rfl, hbB, hcell⟩ := (Hr.out.below hb) q (by rw [u8s_length]; omega)
      rw [u8_at] at hcell
      have hd := drop_rev xs q (by omega)
      have Hd := Lib.hid hd
      clear hd
      generalize xs[q] = x at *
      go_wp2_with (at_builtin; refine wpList_append_own _ rfl (.tmp 12) (.tmp 17) 48 rfl w.heap.size 5 i0 (.int .u8 0) 1 1 Tryd.underlying48 hi hz0 hz1 hz2 rfl (by decide) _ _ _ rfl (hown.alloc _) ⟨wr.heap.size, 0, none⟩ 1 1 [.int .u8 (x : Int)] rfl rfl ?c1 ?c2 ?c3 ?c4 ?c5 ?_)
      case c1 => exact one_new _ _ _
      case c2 => exact one_cell _ rfl
      case c3 => unfold maxLen; omega
      case c4 => omega
      case c5 => simp; omega
      intro v' w2 hown2 hg2 _
      have R := rel_step hb hsz hown hown2 hg2
      clear hown2 hg2 hown hb hcell
      go_wp2
      go_roundw
      case rel => exact ⟨q, by omega, by simp, by rw [Hd.out, u8s_append]; have := R.1; rw [show xs.length - (q + 1) + 1 = xs.length - q from by omega] at this; simpa [u8s] using this, R.2⟩
      case measure => simp [intOf]
    · obtain rfl : j = 0 := by omega
      go_wp2
      go_ret
      exact ⟨_, rfl, hown, hb⟩
end Go.Proofs.YtebocfbnamcnoaaDoor

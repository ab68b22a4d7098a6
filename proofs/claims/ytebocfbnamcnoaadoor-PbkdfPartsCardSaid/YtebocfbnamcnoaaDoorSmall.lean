/- Little32, Big32, Little64, Big64 of package words and the document's Of32, Of64, Turned, by their contracts. Conditions: the words fit their kind, the slices are of at most a million cells. -/
import Derived.Test.YtebocfbnamcnoaaDoorLaid
import Derived.LoopTactic
import Derived.IntWalk
import Derived.Lib.Hide
import Derived.Outline
namespace Go.Proofs.YtebocfbnamcnoaaDoor
set_option maxRecDepth 50000
open Go.RowKit

def ups (i : Nat) : Nat := i
def downs (n i : Nat) : Nat := n - 1 - i
theorem high_downs (n : Nat) (hn : n ≤ 8) : Orders 32 (downs n) n := high_any n hn

theorem big32_any (A : Option Addr) (c : Nat) (xs : List Nat) (w : World) (hr : Reads w w.heap.size A (u32s xs)) (hlen : xs.length ≤ 1000000) (hx : ∀ x ∈ xs, x < 2 ^ 32) :
    Calls Tryd.prog 20 #[.slice A xs.length c] w fun e w' => ∃ v, e = .returned v ∧ w'.ownsRow w.heap.size 5 1 v (4 * xs.length) (u8s (xs.flatMap (bytesOf (downs 4) 4))) ∧ Below w.heap.size w w' := by
  have C := laid32_any 32 (downs 4) (fun i h => by unfold downs; omega) (high_downs 4 (by omega)) A c xs w hr hlen hx
  have H := Lib.hid C
  clear C hr hx
  go_enter Tryd.func20, Tryd.ntmps20
  go_wp2_with fail
  refine (H.out).mono ?_
  rintro e w' ⟨v, rfl, hown, hb⟩
  go_wp2
  go_ret
  exact ⟨_, rfl, hown, hb⟩
theorem big64_any (A : Option Addr) (c : Nat) (xs : List Nat) (w : World) (hr : Reads w w.heap.size A (u64s xs)) (hlen : xs.length ≤ 1000000) (hx : ∀ x ∈ xs, x < 2 ^ 64) :
    Calls Tryd.prog 71 #[.slice A xs.length c] w fun e w' => ∃ v, e = .returned v ∧ w'.ownsRow w.heap.size 5 1 v (8 * xs.length) (u8s (xs.flatMap (bytesOf (downs 8) 8))) ∧ Below w.heap.size w w' := by
  have C := laid64_any 32 (downs 8) (fun i h => by unfold downs; omega) (high_downs 8 (by omega)) A c xs w hr hlen hx
  have H := Lib.hid C
  clear C hr hx
  go_enter Tryd.func71, Tryd.ntmps71
  go_wp2_with fail
  refine (H.out).mono ?_
  rintro e w' ⟨v, rfl, hown, hb⟩
  go_wp2
  go_ret
  exact ⟨_, rfl, hown, hb⟩

theorem div_next (x i : Nat) : x / 2 ^ (8 * i) / 256 = x / 2 ^ (8 * (i + 1)) := by
  rw [Nat.div_div_eq_div_mul, Nat.mul_add, Nat.pow_add]
theorem div_le_self' (x i : Nat) : x / 2 ^ (8 * i) ≤ x := Nat.div_le_self _ _

set_option maxHeartbeats 800000 in
theorem of32_any (x : Nat) (w : World) (hx : x < 2 ^ 32) : Calls Tryd.prog 24 #[.int .u32 (x : Int)] w fun e w' => ∃ v, e = .returned v ∧ w'.ownsRow w.heap.size 5 1 v 4 (u8s (bytesOf ups 4 x)) ∧ Below w.heap.size w w' := by
  obtain ⟨i0, hi, hz0, hz1, hz2⟩ := info_parts Tryd.info5
  have hx2 : x ≤ 4294967295 := by omega
  go_enter Tryd.func24, Tryd.ntmps24
  go_wp2
  go_loopw [0, 3, 4] (fun y v i wr => ∃ k : Nat, k ≤ 4 ∧ i = .int .i64 k ∧ y = .int .u32 (x / 2 ^ (8 * k) : Nat) ∧ wr.ownsRow w.heap.size 5 1 v k (u8s (bytesOf ups k x)) ∧ Below w.heap.size w wr) (fun _ _ i _ => 4 - (intOf i).toNat)
  case atStart => exact ⟨0, Nat.zero_le _, rfl, by simp, by simpa [bytesOf, u8s] using World.ownsRow_nil _ _ _ _, Below.refl _ _⟩
  case round =>
    obtain ⟨k, hk, rfl, rfl, hown, hb⟩ := hrel
    by_cases hlt : k < 4
    · have hsz := hb.size
      have hle := div_le_self' x k
      have hn := div_next x k
      have Hn := Lib.hid hn
      have hbs : bytesOf ups (k + 1) x = bytesOf ups k x ++ [x / 2 ^ (8 * k) % 256] := bytesOf_snoc ups k x
      have Hbs := Lib.hid hbs
      clear hn hbs
      generalize x / 2 ^ (8 * k) = y at *
      go_wp2_with (at_builtin; refine wpList_append_own _ rfl (.tmp 9) (.tmp 13) 48 rfl w.heap.size 5 i0 (.int .u8 0) 1 1 Tryd.underlying48 hi hz0 hz1 hz2 rfl (by decide) _ _ _ rfl (hown.alloc _) ⟨wr.heap.size, 0, none⟩ 1 1 [.int .u8 ((y : Int) % 256)] rfl rfl ?c1 ?c2 ?c3 ?c4 ?c5 ?_)
      case c1 => exact one_new _ _ _
      case c2 => exact one_cell _ rfl
      case c3 => unfold maxLen; omega
      case c4 => omega
      case c5 => simp; omega
      intro v' w2 hown2 hg2 _
      have R := rel_step hb hsz hown hown2 hg2
      clear hown2 hg2 hown hb
      go_wp2
      go_roundw
      case rel => exact ⟨k + 1, by omega, by go_num, by rw [← Hn.out]; simp, by rw [Hbs.out, u8s_append]; simpa [u8s] using R.1, R.2⟩
      case measure => simp [intOf]; omega
    · obtain rfl : k = 4 := by omega
      go_wp2
      go_ret
      exact ⟨_, rfl, hown, hb⟩

set_option maxHeartbeats 800000 in
theorem of64_any (x : Nat) (w : World) (hx : x < 2 ^ 64) : Calls Tryd.prog 74 #[.int .u64 (x : Int)] w fun e w' => ∃ v, e = .returned v ∧ w'.ownsRow w.heap.size 5 1 v 8 (u8s (bytesOf ups 8 x)) ∧ Below w.heap.size w w' := by
  obtain ⟨i0, hi, hz0, hz1, hz2⟩ := info_parts Tryd.info5
  have hx2 : x ≤ 18446744073709551615 := by omega
  go_enter Tryd.func74, Tryd.ntmps74
  go_wp2
  go_loopw [0, 3, 4] (fun y v i wr => ∃ k : Nat, k ≤ 8 ∧ i = .int .i64 k ∧ y = .int .u64 (x / 2 ^ (8 * k) : Nat) ∧ wr.ownsRow w.heap.size 5 1 v k (u8s (bytesOf ups k x)) ∧ Below w.heap.size w wr) (fun _ _ i _ => 8 - (intOf i).toNat)
  case atStart => exact ⟨0, Nat.zero_le _, rfl, by simp, by simpa [bytesOf, u8s] using World.ownsRow_nil _ _ _ _, Below.refl _ _⟩
  case round =>
    obtain ⟨k, hk, rfl, rfl, hown, hb⟩ := hrel
    by_cases hlt : k < 8
    · have hsz := hb.size
      have hle := div_le_self' x k
      have hn := div_next x k
      have Hn := Lib.hid hn
      have hbs : bytesOf ups (k + 1) x = bytesOf ups k x ++ [x / 2 ^ (8 * k) % 256] := bytesOf_snoc ups k x
      have Hbs := Lib.hid hbs
      clear hn hbs
      generalize x / 2 ^ (8 * k) = y at *
      go_wp2_with (at_builtin; refine wpList_append_own _ rfl (.tmp 9) (.tmp 13) 48 rfl w.heap.size 5 i0 (.int .u8 0) 1 1 Tryd.underlying48 hi hz0 hz1 hz2 rfl (by decide) _ _ _ rfl (hown.alloc _) ⟨wr.heap.size, 0, none⟩ 1 1 [.int .u8 ((y : Int) % 256)] rfl rfl ?c1 ?c2 ?c3 ?c4 ?c5 ?_)
      case c1 => exact one_new _ _ _
      case c2 => exact one_cell _ rfl
      case c3 => unfold maxLen; omega
      case c4 => omega
      case c5 => simp; omega
      intro v' w2 hown2 hg2 _
      have R := rel_step hb hsz hown hown2 hg2
      clear hown2 hg2 hown hb
      go_wp2
      go_roundw
      case rel => exact ⟨k + 1, by omega, by go_num, by rw [← Hn.out]; simp, by rw [Hbs.out, u8s_append]; simpa [u8s] using R.1, R.2⟩
      case measure => simp [intOf]; omega
    · obtain rfl : k = 8 := by omega
      go_wp2
      go_ret
      exact ⟨_, rfl, hown, hb⟩
end Go.Proofs.YtebocfbnamcnoaaDoor

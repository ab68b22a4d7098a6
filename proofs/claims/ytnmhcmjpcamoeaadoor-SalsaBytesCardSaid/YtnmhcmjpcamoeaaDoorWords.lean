/- The document's Words, at 4 and at 8 bytes each, and its Swapped, at 4, by their contracts. Conditions: at most 1000000 bytes. -/
import Derived.Test.YtnmhcmjpcamoeaaDoorTaken
namespace Go.Proofs.YtnmhcmjpcamoeaaDoor
set_option maxRecDepth 50000
open Go.RowKit

/-- the d highest of n bytes, put together by 256s -/
def hornTo (f : Nat → Nat) (n : Nat) : Nat → Nat
  | 0 => 0
  | d + 1 => 256 * hornTo f n d + f (n - 1 - d)
def hornsAt (n : Nat) (bs : List Nat) (k : Nat) : List Nat := (List.range k).map fun j => hornTo (fun i => bs.getD (n * j + i) 0) n n
theorem hornTo_lt (f : Nat → Nat) (n : Nat) (hf : ∀ i, f i < 256) : ∀ d, hornTo f n d < 256 ^ d
  | 0 => by simp [hornTo]
  | d + 1 => by
    have h := hornTo_lt f n hf d
    have h2 := hf (n - 1 - d)
    rw [hornTo, Nat.pow_succ]; omega
theorem hornsAt_snoc (n : Nat) (bs : List Nat) (k : Nat) : hornsAt n bs (k + 1) = hornsAt n bs k ++ [hornTo (fun i => bs.getD (n * k + i) 0) n n] := by
  unfold hornsAt; rw [List.range_succ, List.map_append]; rfl
theorem getD_at (bs : List Nat) (i : Nat) (h : i < bs.length) : bs.getD i 0 = bs[i] := by simp [List.getD, List.getElem?_eq_getElem h]

set_option maxHeartbeats 1600000 in
theorem words4_any (A : Option Addr) (c : Nat) (bs : List Nat) (M : Nat) (hM : bs.length = 4 * M) (w : World) (hr : Reads w w.heap.size A (u8s bs)) (hlen : bs.length ≤ 1000000) (hx : ∀ x ∈ bs, x < 256) :
    Calls Tryd.prog 16 #[.slice A bs.length c, .int .i64 4] w fun e w' => ∃ v, e = .returned (.tuple #[v, .bool true]) ∧ w'.ownsRow w.heap.size 43 1 v M (u64s (hornsAt 4 bs M)) ∧ Below w.heap.size w w' := by
  obtain ⟨i0, hi, hz0, hz1, hz2⟩ := info_parts Tryd.info43
  have hlen63 : M ≤ 250000 := by omega
  have Hx := Lib.hid hx
  have Hr := Lib.hid hr
  have HM := Lib.hid hM
  rw [hM]
  clear hx hr hM hlen
  go_enter Tryd.func16, Tryd.ntmps16
  go_wp2
  go_loopw [6, 7] (fun v i wr => ∃ k : Nat, k ≤ M ∧ i = .int .i64 (4 * (k : Int)) ∧ wr.ownsRow w.heap.size 43 1 v k (u64s (hornsAt 4 bs k)) ∧ Below w.heap.size w wr) (fun _ i _ => 4 * M - (intOf i).toNat)
  case atStart => exact ⟨0, Nat.zero_le _, rfl, by simpa [hornsAt, u64s] using World.ownsRow_nil _ _ _ _, Below.refl _ _⟩
  case round =>
    obtain ⟨k, hk, rfl, hown, hb⟩ := hrel
    by_cases hlt : k < M
    · have hsz := hb.size
      go_wp2
      obtain ⟨wo, rfl⟩ : ∃ wo : World, wo = wr := ⟨_, rfl⟩
      have Hown := Lib.hid hown
      have Hb := Lib.hid hb
      clear hown hb
      go_loop [8, 9] (fun v i => ∃ q : Nat, q ≤ 4 ∧ i = .int .i64 ((q : Int) - 1) ∧ v = .int .u64 (hornTo (fun i => bs.getD (4 * k + i) 0) 4 (4 - q) : Nat)) (fun _ i => (intOf i + 1).toNat)
      case atStart => exact ⟨4, Nat.le_refl _, rfl, rfl⟩
      case round =>
        obtain ⟨q, hq, rfl, rfl⟩ := hrel
        by_cases hq0 : 0 < q
        · obtain ⟨r, rfl⟩ : ∃ r, q = r + 1 := ⟨q - 1, by omega⟩
          have hlb : 4 * k + r < bs.length := by have := HM.out; omega
          obtain ⟨b, off, rfl, hbB, hcell⟩ := (Hr.out.below Hb.out) (4 * k + r) (by rw [u8s_length]; exact hlb)
          rw [u8_at] at hcell
          have hx0 := Hx.out bs[4 * k + r] (List.getElem_mem hlb)
          have hle := hornTo_lt (fun i => bs.getD (4 * k + i) 0) 4 (fun i => getD_lt bs Hx.out _) (4 - (r + 1))
          have hle2 : 256 ^ (4 - (r + 1)) ≤ 256 ^ 7 := Nat.pow_le_pow_right (by omega) (by omega)
          have hst : hornTo (fun i => bs.getD (4 * k + i) 0) 4 (4 - r) = 256 * hornTo (fun i => bs.getD (4 * k + i) 0) 4 (4 - (r + 1)) + bs[4 * k + r] := by
            rw [show 4 - r = 4 - (r + 1) + 1 from by omega, hornTo, show 4 - 1 - (4 - (r + 1)) = r from by omega, getD_at bs _ hlb]
          have Hst := Lib.hid hst
          clear hst
          generalize bs[4 * k + r] = x at *
          generalize hornTo (fun i => bs.getD (4 * k + i) 0) 4 (4 - (r + 1)) = y at *
          have hy2 : y ≤ 72057594037927935 := by omega
          clear hle hle2
          go_wp2
          go_round
          case rel => exact ⟨r, by omega, by simp, by rw [Hst.out]; simp⟩
          case measure => simp [intOf]
        · obtain rfl : q = 0 := by omega
          have hsn := hornsAt_snoc 4 bs k
          have Hsn := Lib.hid hsn
          clear hsn
          simp only [Nat.sub_zero] at *
          have hown := Hown.out
          have hb := Hb.out
          generalize hornTo (fun i => bs.getD (4 * k + i) 0) 4 4 = y at *
          go_wp2_with (at_builtin; refine wpList_append_own _ rfl (.tmp 38) (.tmp 40) 40 rfl w.heap.size 43 i0 (.int .u64 0) 1 8 Tryd.underlying40 hi hz0 hz1 hz2 rfl (by decide) _ _ _ rfl (hown.alloc _) ⟨wo.heap.size, 0, none⟩ 1 1 [.int .u64 (y : Int)] rfl rfl ?c1 ?c2 ?c3 ?c4 ?c5 ?_)
          case c1 => exact one_new _ _ _
          case c2 => exact one_cell _ rfl
          case c3 => unfold maxLen; omega
          case c4 => omega
          case c5 => simp; omega
          intro v' w2 hown2 hg2 _
          have R := rel_step hb hsz hown hown2 hg2
          clear hown2 hg2 hown hb
          go_wp2
          go_roundw
          case rel => exact ⟨k + 1, by omega, by simp; omega, by rw [Hsn.out]; simpa [u64s] using R.1, R.2⟩
          case measure => simp [intOf]; omega
    · obtain rfl : k = M := by omega
      go_wp2
      go_ret2
      exact ⟨_, rfl, hown, hb⟩

theorem words4_bad (A : Option Addr) (c n : Nat) (hn : n % 4 ≠ 0) (hlen : n ≤ 1000000) (w : World) :
    Calls Tryd.prog 16 #[.slice A n c, .int .i64 4] w fun e w' => e = .returned (.tuple #[.slice none 0 0, .bool false]) ∧ w = w' := by
  have h1 : ¬ (n : Int) % 4 = 0 := by omega
  go_enter Tryd.func16, Tryd.ntmps16
  go_wp2
  go_ret2
  exact ⟨rfl, rfl⟩

set_option maxHeartbeats 1600000 in
theorem words8_any (A : Option Addr) (c : Nat) (bs : List Nat) (M : Nat) (hM : bs.length = 8 * M) (w : World) (hr : Reads w w.heap.size A (u8s bs)) (hlen : bs.length ≤ 1000000) (hx : ∀ x ∈ bs, x < 256) :
    Calls Tryd.prog 16 #[.slice A bs.length c, .int .i64 8] w fun e w' => ∃ v, e = .returned (.tuple #[v, .bool true]) ∧ w'.ownsRow w.heap.size 43 1 v M (u64s (hornsAt 8 bs M)) ∧ Below w.heap.size w w' := by
  obtain ⟨i0, hi, hz0, hz1, hz2⟩ := info_parts Tryd.info43
  have hlen63 : M ≤ 125000 := by omega
  have Hx := Lib.hid hx
  have Hr := Lib.hid hr
  have HM := Lib.hid hM
  rw [hM]
  clear hx hr hM hlen
  go_enter Tryd.func16, Tryd.ntmps16
  go_wp2
  go_loopw [6, 7] (fun v i wr => ∃ k : Nat, k ≤ M ∧ i = .int .i64 (8 * (k : Int)) ∧ wr.ownsRow w.heap.size 43 1 v k (u64s (hornsAt 8 bs k)) ∧ Below w.heap.size w wr) (fun _ i _ => 8 * M - (intOf i).toNat)
  case atStart => exact ⟨0, Nat.zero_le _, rfl, by simpa [hornsAt, u64s] using World.ownsRow_nil _ _ _ _, Below.refl _ _⟩
  case round =>
    obtain ⟨k, hk, rfl, hown, hb⟩ := hrel
    by_cases hlt : k < M
    · have hsz := hb.size
      go_wp2
      obtain ⟨wo, rfl⟩ : ∃ wo : World, wo = wr := ⟨_, rfl⟩
      have Hown := Lib.hid hown
      have Hb := Lib.hid hb
      clear hown hb
      go_loop [8, 9] (fun v i => ∃ q : Nat, q ≤ 8 ∧ i = .int .i64 ((q : Int) - 1) ∧ v = .int .u64 (hornTo (fun i => bs.getD (8 * k + i) 0) 8 (8 - q) : Nat)) (fun _ i => (intOf i + 1).toNat)
      case atStart => exact ⟨8, Nat.le_refl _, rfl, rfl⟩
      case round =>
        obtain ⟨q, hq, rfl, rfl⟩ := hrel
        by_cases hq0 : 0 < q
        · obtain ⟨r, rfl⟩ : ∃ r, q = r + 1 := ⟨q - 1, by omega⟩
          have hlb : 8 * k + r < bs.length := by have := HM.out; omega
          obtain ⟨b, off, rfl, hbB, hcell⟩ := (Hr.out.below Hb.out) (8 * k + r) (by rw [u8s_length]; exact hlb)
          rw [u8_at] at hcell
          have hx0 := Hx.out bs[8 * k + r] (List.getElem_mem hlb)
          have hle := hornTo_lt (fun i => bs.getD (8 * k + i) 0) 8 (fun i => getD_lt bs Hx.out _) (8 - (r + 1))
          have hle2 : 256 ^ (8 - (r + 1)) ≤ 256 ^ 7 := Nat.pow_le_pow_right (by omega) (by omega)
          have hst : hornTo (fun i => bs.getD (8 * k + i) 0) 8 (8 - r) = 256 * hornTo (fun i => bs.getD (8 * k + i) 0) 8 (8 - (r + 1)) + bs[8 * k + r] := by
            rw [show 8 - r = 8 - (r + 1) + 1 from by omega, hornTo, show 8 - 1 - (8 - (r + 1)) = r from by omega, getD_at bs _ hlb]
          have Hst := Lib.hid hst
          clear hst
          generalize bs[8 * k + r] = x at *
          generalize hornTo (fun i => bs.getD (8 * k + i) 0) 8 (8 - (r + 1)) = y at *
          have hy2 : y ≤ 72057594037927935 := by omega
          clear hle hle2
          go_wp2
          go_round
          case rel => exact ⟨r, by omega, by simp, by rw [Hst.out]; simp⟩
          case measure => simp [intOf]
        · obtain rfl : q = 0 := by omega
          have hsn := hornsAt_snoc 8 bs k
          have Hsn := Lib.hid hsn
          clear hsn
          simp only [Nat.sub_zero] at *
          have hown := Hown.out
          have hb := Hb.out
          generalize hornTo (fun i => bs.getD (8 * k + i) 0) 8 8 = y at *
          go_wp2_with (at_builtin; refine wpList_append_own _ rfl (.tmp 38) (.tmp 40) 40 rfl w.heap.size 43 i0 (.int .u64 0) 1 8 Tryd.underlying40 hi hz0 hz1 hz2 rfl (by decide) _ _ _ rfl (hown.alloc _) ⟨wo.heap.size, 0, none⟩ 1 1 [.int .u64 (y : Int)] rfl rfl ?c1 ?c2 ?c3 ?c4 ?c5 ?_)
          case c1 => exact one_new _ _ _
          case c2 => exact one_cell _ rfl
          case c3 => unfold maxLen; omega
          case c4 => omega
          case c5 => simp; omega
          intro v' w2 hown2 hg2 _
          have R := rel_step hb hsz hown hown2 hg2
          clear hown2 hg2 hown hb
          go_wp2
          go_roundw
          case rel => exact ⟨k + 1, by omega, by simp; omega, by rw [Hsn.out]; simpa [u64s] using R.1, R.2⟩
          case measure => simp [intOf]; omega
    · obtain rfl : k = M := by omega
      go_wp2
      go_ret2
      exact ⟨_, rfl, hown, hb⟩

theorem words8_bad (A : Option Addr) (c n : Nat) (hn : n % 8 ≠ 0) (hlen : n ≤ 1000000) (w : World) :
    Calls Tryd.prog 16 #[.slice A n c, .int .i64 8] w fun e w' => e = .returned (.tuple #[.slice none 0 0, .bool false]) ∧ w = w' := by
  have h1 : ¬ (n : Int) % 8 = 0 := by omega
  go_enter Tryd.func16, Tryd.ntmps16
  go_wp2
  go_ret2
  exact ⟨rfl, rfl⟩

/-- bytes, four by four the other way round -/
def swapAt (bs : List Nat) (k : Nat) : List Nat := (List.range k).flatMap fun j => [bs.getD (4 * j + 3) 0, bs.getD (4 * j + 2) 0, bs.getD (4 * j + 1) 0, bs.getD (4 * j) 0]
theorem swapAt_snoc (bs : List Nat) (k : Nat) : swapAt bs (k + 1) = swapAt bs k ++ [bs.getD (4 * k + 3) 0, bs.getD (4 * k + 2) 0, bs.getD (4 * k + 1) 0, bs.getD (4 * k) 0] := by
  unfold swapAt; rw [List.range_succ, List.flatMap_append]; simp
/-- the d last of four bytes, from the last on -/
def tailOf (f : Nat → Nat) : Nat → List Nat
  | 0 => []
  | d + 1 => tailOf f d ++ [f (3 - d)]

end Go.Proofs.YtnmhcmjpcamoeaaDoor

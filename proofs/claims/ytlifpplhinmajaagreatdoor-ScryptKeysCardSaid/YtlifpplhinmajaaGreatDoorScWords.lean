/- Words of 32 bits of bytes, lowest first, and back: Take32, Little32, and the document's Words, by their contracts. Conditions: those typed. -/
import Derived.Test.YtlifpplhinmajaaGreatDoorWb
namespace Go.Proofs.YtlifpplhinmajaaGreatDoor
set_option maxRecDepth 50000
open Go.RowKit

theorem low_any (n : Nat) : Orders 68 (fun i => i) n := ⟨fun args w => enters Tryz.func68 (by kernel_rfl) (by kernel_rfl) args w, fun i w _ => by
  go_enter Tryz.func68, Tryz.ntmps68
  go_wp2
  go_ret
  exact ⟨rfl, rfl⟩⟩
theorem low_ups (n : Nat) : Orders 68 ups n := low_any n
theorem little32_any (A : Option Addr) (c : Nat) (xs : List Nat) (w : World) (hr : Reads w w.heap.size A (u32s xs)) (hlen : xs.length ≤ 1000000) (hx : ∀ x ∈ xs, x < 2 ^ 32) :
    Calls Tryz.prog 51 #[.slice A xs.length c] w fun e w' => ∃ v, e = .returned v ∧ w'.ownsRow w.heap.size 5 1 v (4 * xs.length) (u8s (xs.flatMap (bytesOf ups 4))) ∧ Below w.heap.size w w' := by
  have C := laid32_any 68 ups (fun i h => h) (low_ups 4) A c xs w hr hlen hx
  have H := Lib.hid C
  clear C hr hx
  go_enter Tryz.func51, Tryz.ntmps51
  go_wp2_with fail
  refine (H.out).mono ?_
  rintro e w' ⟨v, rfl, hown, hb⟩
  go_wp2
  go_ret
  exact ⟨_, rfl, hown, hb⟩
theorem take32_any (A : Option Addr) (c : Nat) (bs : List Nat) (M : Nat) (hM : bs.length = 4 * M) (w : World) (hr : Reads w w.heap.size A (u8s bs)) (hlen : bs.length ≤ 1000000) (hx : ∀ x ∈ bs, x < 256) :
    Calls Tryz.prog 43 #[.slice A bs.length c] w fun e w' => ∃ v, e = .returned (.tuple #[v, .int .i64 0]) ∧ w'.ownsRow w.heap.size 36 1 v M (u32s (wordsAt ups 4 M bs (4 * M))) ∧ Below w.heap.size w w' := by
  have C := taken32_any 68 ups (fun i h => h) (low_ups 4) A c bs M hM w hr hlen hx
  have H := Lib.hid C
  clear C hr hx hM
  go_enter Tryz.func43, Tryz.ntmps43
  go_wp2_with fail
  refine (H.out).mono ?_
  rintro e w' ⟨v, rfl, hown, hb⟩
  go_wp2
  go_ret2
  exact ⟨_, rfl, hown, hb⟩
/-- the d highest of n bytes, put together by 256s -/
def hornTo (f : Nat → Nat) (n : Nat) : Nat → Nat
  | 0 => 0
  | d + 1 => 256 * hornTo f n d + f (n - 1 - d)
def hornsAt (n : Nat) (bs : List Nat) (k : Nat) : List Nat := (List.range k).map fun j => hornTo (fun i => bs.getD (n * j + i) 0) n n
theorem hornTo_lt (f : Nat → Nat) (n : Nat) (hf : ∀ i, f i < 256) : ∀ d, hornTo f n d < 256 ^ d
  | 0 => by simp [hornTo]
  | d + 1 => by
    have h := hornTo_lt f n hf d
    have h2 := hf (n - 1 - d)
    rw [hornTo, Nat.pow_succ]; omega
theorem hornsAt_snoc (n : Nat) (bs : List Nat) (k : Nat) : hornsAt n bs (k + 1) = hornsAt n bs k ++ [hornTo (fun i => bs.getD (n * k + i) 0) n n] := by
  unfold hornsAt; rw [List.range_succ, List.map_append]; rfl
theorem getD_at (bs : List Nat) (i : Nat) (h : i < bs.length) : bs.getD i 0 = bs[i] := by simp [List.getD, List.getElem?_eq_getElem h]
set_option maxHeartbeats 1600000 in
theorem words4_any (A : Option Addr) (c : Nat) (bs : List Nat) (M : Nat) (hM : bs.length = 4 * M) (w : World) (hr : Reads w w.heap.size A (u8s bs)) (hlen : bs.length ≤ 1000000) (hx : ∀ x ∈ bs, x < 256) :
    Calls Tryz.prog 53 #[.slice A bs.length c, .int .i64 4] w fun e w' => ∃ v, e = .returned (.tuple #[v, .bool true]) ∧ w'.ownsRow w.heap.size 96 1 v M (u64s (hornsAt 4 bs M)) ∧ Below w.heap.size w w' := by
  obtain ⟨i0, hi, hz0, hz1, hz2⟩ := info_parts Tryz.info96
  have hlen63 : M ≤ 250000 := by omega
  have Hx := Lib.hid hx
  have Hr := Lib.hid hr
  have HM := Lib.hid hM
  rw [hM]
  clear hx hr hM hlen
  go_enter Tryz.func53, Tryz.ntmps53
  go_wp2
  go_loopw [6, 7] (fun v i wr => ∃ k : Nat, k ≤ M ∧ i = .int .i64 (4 * (k : Int)) ∧ wr.ownsRow w.heap.size 96 1 v k (u64s (hornsAt 4 bs k)) ∧ Below w.heap.size w wr) (fun _ i _ => 4 * M - (intOf i).toNat)
  case atStart => exact ⟨0, Nat.zero_le _, rfl, by simpa [hornsAt, u64s] using World.ownsRow_nil _ _ _ _, Below.refl _ _⟩
  case round =>
    obtain ⟨k, hk, rfl, hown, hb⟩ := hrel
    by_cases hlt : k < M
    · have hsz := hb.size
      go_wp2
      obtain ⟨wo, rfl⟩ : ∃ wo : World, wo = wr := ⟨_, rfl⟩
      have Hown := Lib.hid hown
      have Hb := Lib.hid hb
      clear hown hb
      go_loop [8, 9] (fun v i => ∃ q : Nat, q ≤ 4 ∧ i = .int .i64 ((q : Int) - 1) ∧ v = .int .u64 (hornTo (fun i => bs.getD (4 * k + i) 0) 4 (4 - q) : Nat)) (fun _ i => (intOf i + 1).toNat)
      case atStart => exact ⟨4, Nat.le_refl _, rfl, rfl⟩
      case round =>
        obtain ⟨q, hq, rfl, rfl⟩ := hrel
        by_cases hq0 : 0 < q
        · obtain ⟨r, rfl⟩ : ∃ r, q = r + 1 := ⟨q - 1, by omega⟩
          have hlb : 4 * k + r < bs.length := by have := HM.out; omega
          obtain ⟨b, off, rfl, hbB, hcell⟩ := (Hr.out.below Hb.out) (4 * k + r) (by rw [u8s_length]; exact hlb)
          rw [u8_at] at hcell
          have hx0 := Hx.out bs[4 * k + r] (List.getElem_mem hlb)
          have hle := hornTo_lt (fun i => bs.getD (4 * k + i) 0) 4 (fun i => getD_lt bs Hx.out _) (4 - (r + 1))
          have hle2 : 256 ^ (4 - (r + 1)) ≤ 256 ^ 7 := Nat.pow_le_pow_right (by omega) (by omega)
          have hst : hornTo (fun i => bs.getD (4 * k + i) 0) 4 (4 - r) = 256 * hornTo (fun i => bs.getD (4 * k + i) 0) 4 (4 - (r + 1)) + bs[4 * k + r] := by
            rw [show 4 - r = 4 - (r + 1) + 1 from by omega, hornTo, show 4 - 1 - (4 - (r + 1)) = r from by omega, getD_at bs _ hlb]
          have Hst := Lib.hid hst
          clear hst
          generalize bs[4 * k + r] = x at *
          generalize hornTo (fun i => bs.getD (4 * k + i) 0) 4 (4 - (r + 1)) = y at *
          have hy2 : y ≤ 72057594037927935 := by omega
          clear hle hle2
          go_wp2
          go_round
          case rel => exact ⟨r, by omega, by simp, by rw [Hst.out]; simp⟩
          case measure => simp [intOf]
        · obtain rfl : q = 0 := by omega
          have hsn := hornsAt_snoc 4 bs k
          have Hsn := Lib.hid hsn
          clear hsn
          simp only [Nat.sub_zero] at *
          have hown := Hown.out
          have hb := Hb.out
          generalize hornTo (fun i => bs.getD (4 * k + i) 0) 4 4 = y at *
          go_wp2_with (at_builtin; refine wpList_append_own _ rfl (.tmp 38) (.tmp 40) 93 rfl w.heap.size 96 i0 (.int .u64 0) 1 8 Tryz.underlying93 hi hz0 hz1 hz2 rfl (by decide) _ _ _ rfl (hown.alloc _) ⟨wo.heap.size, 0, none⟩ 1 1 [.int .u64 (y : Int)] rfl rfl ?c1 ?c2 ?c3 ?c4 ?c5 ?_)
          case c1 => exact one_new _ _ _
          case c2 => exact one_cell _ rfl
          case c3 => unfold maxLen; omega
          case c4 => omega
          case c5 => simp; omega
          intro v' w2 hown2 hg2 _
          have R := rel_step hb hsz hown hown2 hg2
          clear hown2 hg2 hown hb
          go_wp2
          go_roundw
          case rel => exact ⟨k + 1, by omega, by simp; omega, by rw [Hsn.out]; simpa [u64s] using R.1, R.2⟩
          case measure => simp [intOf]; omega
    · obtain rfl : k = M := by omega
      go_wp2
      go_ret2
      exact ⟨_, rfl, hown, hb⟩
theorem orTo_ups (f : Nat → Nat) (hf : ∀ i, f i < 256) (m : Nat) : orTo ups f (m + 1) = orTo ups f m + f m * 2 ^ (8 * m) := by
  have h : orTo ups f m < 2 ^ (8 * m) := orTo_lt ups m (fun i h => h) f hf m (Nat.le_refl _)
  rw [orTo, Nat.or_comm, show f m * 2 ^ (8 * ups m) = 2 ^ (8 * m) * f m from by rw [Nat.mul_comm]; rfl, ← Nat.two_pow_add_eq_or_of_lt h, Nat.add_comm, Nat.mul_comm]
theorem ups4 (f : Nat → Nat) (hf : ∀ i, f i < 256) : orTo ups f 4 = hornTo f 4 4 := by
  rw [orTo_ups f hf 3, orTo_ups f hf 2, orTo_ups f hf 1, orTo_ups f hf 0]
  simp [hornTo, orTo]; omega
theorem or_low (a b i : Nat) (h : b < 2 ^ i) : (a * 2 ^ i) ||| b = a * 2 ^ i + b := by
  rw [Nat.mul_comm]; exact (Nat.two_pow_add_eq_or_of_lt h a).symm
theorem link (p : Nat → Nat) (n M : Nat) (bs cs : List Nat) (h : ∀ j, j < M → orTo p (fun i => bs.getD (j * n + i) 0) n = hornTo (fun i => cs.getD (n * j + i) 0) n n) : wordsAt p n M bs (n * M) = hornsAt n cs M := by
  unfold wordsAt hornsAt
  refine List.map_congr_left fun j hj => ?_
  have hj : j < M := List.mem_range.1 hj
  rw [← h j hj]
  unfold wordAt
  have : (j + 1) * n ≤ M * n := Nat.mul_le_mul_right _ hj
  rw [Nat.add_mul, Nat.mul_comm M] at this
  rw [show min n (n * M - j * n) = n from by omega]
theorem link4 (M : Nat) (bs : List Nat) (hx : ∀ x ∈ bs, x < 256) : wordsAt ups 4 M bs (4 * M) = hornsAt 4 bs M :=
  link ups 4 M bs bs fun j _ => by rw [ups4 _ (fun i => getD_lt bs hx _), Nat.mul_comm]
theorem horns_length (n : Nat) (bs : List Nat) (M : Nat) : (hornsAt n bs M).length = M := by simp [hornsAt]
theorem horns_lt4 (bs : List Nat) (hx : ∀ x ∈ bs, x < 256) (M : Nat) : ∀ x ∈ hornsAt 4 bs M, x < 2 ^ 32 := by
  intro x h
  obtain ⟨j, _, rfl⟩ := List.mem_map.1 h
  exact hornTo_lt _ 4 (fun i => getD_lt bs hx _) 4
end Go.Proofs.YtlifpplhinmajaaGreatDoor

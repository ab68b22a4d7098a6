/- Sums of any length of RFC 9106 on lists of bytes; Halves by its contract, and the document's. Condition: those typed. -/
import Derived.Test.YtljijgihnoloeaaDoorBkRsum
import Derived.Test.YtljijgihnoloeaaDoorBkAwake
import Derived.Test.YtljijgihnoloeaaDoorLow32
import Derived.Deep.LoopGhost
import Derived.WalkMore
namespace Go.Proofs.YtljijgihnoloeaaDoor
set_option maxRecDepth 50000
open Go.RowKit Bl

theorem blkL_length0 (n : Nat) (hn : n ≤ 64) (X : List UInt8) (hX : X.length ≤ 900000) : (blkL 0 n X).length = n := by
  have hz : (blkSt 0 n X).length = 8 := by
    unfold blkSt
    rw [comp_length]
    exact (stN_ok (h0_ok 0 n (by decide) hn) _ _ (by unfold lz; omega)).1
  unfold blkL
  rw [List.length_take, outL_length _ hz]
  omega
/-- the bytes of the length -/
def lead (n : Nat) : List UInt8 := bytesL (bytesOf ups 4 n)
theorem lead_length (n : Nat) : (lead n).length = 4 := by unfold lead bytesL; rw [List.length_map, bytesOf_length]
theorem lead_cs (n : Nat) : u8s (bytesOf ups 4 n) = cs (lead n) := (cs_bytesL _ (bytesOf_lt _ _ _)).symm
/-- the sums one behind the other -/
def vN (n : Nat) (X : List UInt8) : Nat → List UInt8
  | 0 => blkL 0 (min n 64) (lead n ++ X)
  | k + 1 => blkL 0 (min (n - 32 * (k + 1)) 64) (vN n X k)
/-- what is put out of the first k -/
def oN (n : Nat) (X : List UInt8) : Nat → List UInt8
  | 0 => []
  | k + 1 => oN n X k ++ (vN n X k).take 32
/-- how often 32 bytes are put out -/
def hN (n : Nat) : Nat := (n + 31) / 32 - 2
/-- the sum of so many bytes -/
def longL (n : Nat) (X : List UInt8) : List UInt8 := oN n X (hN n) ++ vN n X (hN n)
theorem vN_length (n : Nat) (X : List UInt8) (hX : X.length ≤ 100000) : ∀ k, (vN n X k).length = min (n - 32 * k) 64
  | 0 => by
    rw [vN, blkL_length0 _ (Nat.min_le_right _ _) _ (by rw [List.length_append, lead_length]; omega)]
    simp
  | k + 1 => by
    have h := vN_length n X hX k
    rw [vN, blkL_length0 _ (Nat.min_le_right _ _) _ (by rw [h]; omega)]
theorem hN_more (n k : Nat) (h : k < hN n) : 64 < n - 32 * k := by unfold hN at h; omega
theorem oN_length (n : Nat) (X : List UInt8) (hX : X.length ≤ 100000) : ∀ k, k ≤ hN n → (oN n X k).length = 32 * k
  | 0, _ => rfl
  | k + 1, h => by
    have h1 := oN_length n X hX k (by omega)
    have h2 := hN_more n k h
    rw [oN, List.length_append, h1, List.length_take, vN_length n X hX k]
    omega
theorem longL_length (n : Nat) (hn : 1 ≤ n) (X : List UInt8) (hX : X.length ≤ 100000) : (longL n X).length = n := by
  unfold longL
  rw [List.length_append, oN_length n X hX _ (Nat.le_refl _), vN_length n X hX]
  unfold hN
  omega

theorem halves_bad (z : Int) (hz : z < 1 ∨ 65536 < z) (w : World) : Calls Tryd.prog 15 #[.int .i64 z] w fun e w' => e = .returned (.tuple #[.int .i64 0, .int .i64 1]) ∧ w' = w := by
  have hb : z < 1 ∨ (1 ≤ z ∧ 65536 < z) := by omega
  clear hz
  rcases hb with h | ⟨h, h2⟩
  all_goals
    go_enter Tryd.func15, Tryd.ntmps15
    go_wp2
    go_ret2
    exact ⟨rfl, rfl⟩
set_option maxHeartbeats 800000 in
theorem halves_any (n : Nat) (h1 : 1 ≤ n) (h2 : n ≤ 65536) (w : World) : Calls Tryd.prog 15 #[.int .i64 (n : Int)] w fun e w' => e = .returned (.tuple #[.int .i64 (hN n : Int), .int .i64 0]) ∧ w' = w := by
  go_enter Tryd.func15, Tryd.ntmps15
  go_wp2
  · go_ret2
    refine ⟨?_, rfl⟩
    have e : ((hN n : Nat) : Int) = ((n : Int) + 32 - 1) / 32 - 2 := by unfold hN; omega
    rw [e]; rfl
  · go_ret2
    refine ⟨?_, rfl⟩
    have e : ((hN n : Nat) : Int) = 0 := by unfold hN; omega
    rw [e]; rfl
set_option maxHeartbeats 800000 in
theorem rhalves_any (n : Nat) (h2 : n ≤ 65536) (w : World) : Calls Tryd.prog 16 #[.int .i64 (n : Int)] w fun e w' => e = .returned (.int .i64 (hN n : Int)) ∧ w' = w := by
  go_enter Tryd.func16, Tryd.ntmps16
  go_wp2
  go_loopg [0, 3] (hN n) (fun g v0 v3 wr => ∃ k m : Nat, k + g = hN n ∧ Hid (m = n - 32 * k) ∧ v0 = .int .i64 (m : Int) ∧ v3 = .int .i64 (k : Int) ∧ wr = w)
  case atStart => exact ⟨0, n, by omega, Lib.hid (by omega), rfl, rfl, rfl⟩
  case round =>
    obtain ⟨k, m, hk, HM, rfl, rfl, rfl⟩ := hrel
    have hm := HM.out
    by_cases h : k < hN n
    · have h64 := hN_more n k h
      obtain ⟨g2, rfl⟩ : ∃ g2, gk = g2 + 1 := ⟨gk - 1, by omega⟩
      have d1 : decide ((64 : Int) < (m : Int)) = true := by simp; omega
      have hkb : k ≤ 3000 := by unfold hN at h; omega
      have hml : 64 < m ∧ m ≤ 65536 := by omega
      clear hm
      go_wp2
      go_roundg g2
      case measure => omega
      case rel => exact ⟨k + 1, m - 32, by omega, Lib.hid (by have := HM.out; omega), by congr 1; omega, by go_num, rfl⟩
    · obtain rfl : k = hN n := by omega
      have d1 : decide ((64 : Int) < (m : Int)) = false := by simp; unfold hN at hm; omega
      clear hm
      go_wp2
      go_ret
      exact ⟨rfl, rfl⟩
end Go.Proofs.YtljijgihnoloeaaDoor

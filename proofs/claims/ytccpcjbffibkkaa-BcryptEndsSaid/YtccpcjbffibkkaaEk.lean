/- Within and Power of package size by their contracts. Condition: ints are ints. Rounds and Setup of package eks, and the document's Setup, by their contracts. Conditions: those typed. The document's Setup by its contract. Conditions: those typed. -/
import Derived.Test.YtccpcjbffibkkaaKit
import Derived.LoopTactic
import Derived.IntWalk
import Derived.Lib.Hide
import Derived.Test.YtccpcjbffibkkaaCp
import Derived.Test.YtccpcjbffibkkaaCir
namespace Go.Proofs.Ytccpcjbffibkkaa
set_option maxRecDepth 50000
open Go.RowKit

/-- is n from a to b? -/
def inB (n a b : Int) : Bool := decide (a ≤ n) && decide (n ≤ b)
theorem within_any (n a b : Int) (w : World) : Calls Try.prog 31 #[.int .i64 n, .int .i64 a, .int .i64 b] w fun e w' => e = .returned (.bool (inB n a b)) ∧ w' = w := by
  have h : inB n a b = (decide (a ≤ n) && decide (n ≤ b)) := rfl
  have H := Lib.hid h
  clear h
  by_cases h : a ≤ n
  all_goals
    go_enter Try.func31, Try.ntmps31
    go_wp2
    go_ret
    refine ⟨?_, rfl⟩
    rw [H.out]
    first
      | (simp [h]; done)
      | (simp; intro _; omega)
theorem within_yes (n a b : Int) (h : a ≤ n) (h2 : n ≤ b) (w : World) : Calls Try.prog 31 #[.int .i64 n, .int .i64 a, .int .i64 b] w fun e w' => e = .returned (.bool true) ∧ w' = w := by
  have e : inB n a b = true := by simp [inB, h, h2]
  exact e ▸ within_any n a b w
theorem within_no (n a b : Int) (h : n < a ∨ b < n) (w : World) : Calls Try.prog 31 #[.int .i64 n, .int .i64 a, .int .i64 b] w fun e w' => e = .returned (.bool false) ∧ w' = w := by
  have e : inB n a b = false := by unfold inB; simp; omega
  exact e ▸ within_any n a b w
theorem pow_le (k n : Nat) (h : k ≤ n) : 2 ^ k ≤ 2 ^ n := Nat.pow_le_pow_right (by omega) h
set_option maxHeartbeats 800000 in
theorem power_yes (m : Nat) (hm : m ≤ 62) (w : World) : Calls Try.prog 32 #[.int .i64 (m : Int)] w fun e w' => e = .returned (.tuple #[.int .i64 ((2 ^ m : Nat) : Int), .int .i64 0]) ∧ w' = w := by
  have hp : (1 : Int) * 2 ^ m = ((2 ^ m : Nat) : Int) := by rw [Int.one_mul, Int.natCast_pow]; rfl
  have hb := pow_le m 62 (by omega)
  have Hp := Lib.hid hp
  clear hp
  go_enter Try.func32, Try.ntmps32
  go_wp2
  go_ret2
  refine ⟨?_, rfl⟩
  have hz : (2 : Int) ^ m = ((2 ^ m : Nat) : Int) := by simp
  have hb2 : 2 ^ m ≤ 4611686018427387904 := hb
  rw [hz]
  generalize 2 ^ m = P at *
  have hw : wrap64 (P : Int) = (P : Int) := by unfold wrap64; omega
  rw [hw]
  rfl
end Go.Proofs.Ytccpcjbffibkkaa

namespace Go.Proofs.Ytccpcjbffibkkaa
set_option maxRecDepth 50000
open Go.RowKit Ci

theorem rounds_bad (c : Int) (h : c < 4 ∨ 31 < c) (w : World) : Calls Try.prog 15 #[.int .i64 c] w fun e w' => e = .returned (.tuple #[.int .i64 0, .int .i64 2]) ∧ w' = w := by
  have C := Lib.hid (within_no c 4 31 h)
  clear h
  go_enter Try.func15, Try.ntmps15
  go_wp2_with fail
  refine (C.out w).mono ?_
  rintro e w1 ⟨rfl, rfl⟩
  go_wp2
  go_ret2
  exact ⟨rfl, rfl⟩
theorem rounds_any (c : Nat) (h4 : 4 ≤ c) (h31 : c ≤ 31) (w : World) : Calls Try.prog 15 #[.int .i64 (c : Int)] w fun e w' => e = .returned (.tuple #[.int .i64 ((2 ^ c : Nat) : Int), .int .i64 0]) ∧ w' = w := by
  have C := Lib.hid (within_yes c 4 31 (by omega) (by omega))
  have D := Lib.hid (power_yes c (by omega))
  clear h4 h31
  generalize 2 ^ c = P at *
  go_enter Try.func15, Try.ntmps15
  go_wp2_with fail
  refine (C.out w).mono ?_
  rintro e w1 ⟨rfl, rfl⟩
  go_wp2_with fail
  refine (D.out _).mono ?_
  rintro e w2 ⟨rfl, rfl⟩
  go_wp2
  go_ret2
  exact ⟨rfl, rfl⟩

theorem setup_params (c : Int) (h : c < 4 ∨ 31 < c) (salt key : ByteArray) (w : World) : Calls Try.prog 16 #[.int .i64 c, .string salt, .string key] w fun e w' => e = .returned (.tuple #[.pointer none, .int .i64 2]) ∧ w' = w := by
  have C := Lib.hid (rounds_bad c h)
  clear h
  go_enter Try.func16, Try.ntmps16
  go_wp2_with fail
  refine (C.out w).mono ?_
  rintro e w1 ⟨rfl, rfl⟩
  go_wp2
  go_ret2
  exact ⟨rfl, rfl⟩
theorem setup_size (c : Nat) (h4 : 4 ≤ c) (h31 : c ≤ 31) (salt key : ByteArray) (h : salt.size ≠ 16) (w : World) : Calls Try.prog 16 #[.int .i64 (c : Int), .string salt, .string key] w fun e w' => e = .returned (.tuple #[.pointer none, .int .i64 9]) ∧ w' = w := by
  have C := Lib.hid (rounds_any c h4 h31)
  have hz : (salt.size : Int) ≠ 16 := by omega
  clear h4 h31 h
  generalize 2 ^ c = P at *
  go_enter Try.func16, Try.ntmps16
  go_wp2_with fail
  refine (C.out w).mono ?_
  rintro e w1 ⟨rfl, rfl⟩
  go_wp2
  go_ret2
  exact ⟨rfl, rfl⟩
theorem setup_long (c : Nat) (h4 : 4 ≤ c) (h31 : c ≤ 31) (salt key : ByteArray) (h : salt.size = 16) (hk : key.size = 0 ∨ 72 < key.size) (w : World) : Calls Try.prog 16 #[.int .i64 (c : Int), .string salt, .string key] w fun e w' => e = .returned (.tuple #[.pointer none, .int .i64 3]) ∧ w' = w := by
  have C := Lib.hid (rounds_any c h4 h31)
  have D := Lib.hid (within_no (key.size : Int) 1 72 (by omega))
  have hz : (salt.size : Int) = 16 := by omega
  clear h4 h31 h hk
  generalize 2 ^ c = P at *
  go_enter Try.func16, Try.ntmps16
  go_wp2_with fail
  refine (C.out w).mono ?_
  rintro e w1 ⟨rfl, rfl⟩
  go_wp2_with fail
  refine (D.out _).mono ?_
  rintro e w2 ⟨rfl, rfl⟩
  go_wp2
  go_ret2
  exact ⟨rfl, rfl⟩

/-- behind Expand the tables that were there are still below the heap's end -/
theorem kept_below {w w1 w2 : World} {b B : Nat} (h : Below B w w1) (hk : Kept (fun x => x = b) w1 w2) (hb : B ≤ b) (hB : B ≤ w1.heap.size) : Below B w w2 := h.trans (hk.below hB fun x hx => by rw [hx]; exact hb)

set_option maxHeartbeats 1600000 in
theorem setup_any (c : Nat) (h4 : 4 ≤ c) (h31 : c ≤ 31) (salt key : ByteArray) (h : salt.size = 16) (hk : key.size ≠ 0) (hk2 : key.size ≤ 72) (w : World) :
    Calls Try.prog 16 #[.int .i64 (c : Int), .string salt, .string key] w fun e w' => ∃ b, e = .returned (.tuple #[.pointer (some ⟨b, 0, none⟩), .int .i64 0]) ∧ Tab w' b 91 (ekTo (exB wordN salt key) salt key (2 ^ c)) ∧ w.heap.size ≤ b ∧ Below w.heap.size w w' := by
  have C := Lib.hid (rounds_any c h4 h31)
  have D := Lib.hid (within_yes (key.size : Int) 1 72 (by omega) (by omega))
  have hz : (salt.size : Int) = 16 := by omega
  have hn : 2 ^ c ≤ 2147483648 := pow_le c 31 h31
  have hX := fun (w1 : World) (b : Nat) (hT : Tab w1 b 91 wordN) => expand_any w1 b wordN hT wordN_ok salt key (by omega) (by omega)
  obtain ⟨F, hF⟩ : ∃ F, F = exB wordN salt key := ⟨_, rfl⟩
  have hFo : Ok F := by rw [hF]; exact exB_ok wordN_ok _ _
  rw [← hF] at hX ⊢
  have HX := Lib.hid hX
  have HY := Lib.hid (fun (w1 : World) (b k : Nat) (hT : Tab w1 b 91 (ekTo F salt key k)) => expand_any w1 b _ hT (ekTo_ok hFo salt key k) ⟨#[]⟩ key (by decide) (by omega))
  have HZ := Lib.hid (fun (w1 : World) (b k : Nat) (hT : Tab w1 b 91 (exB (ekTo F salt key k) ⟨#[]⟩ key)) => expand_any w1 b _ hT (exB_ok (ekTo_ok hFo salt key k) _ _) ⟨#[]⟩ salt (by decide) (by omega))
  clear hX hF hFo h4 h31 h hk hk2
  generalize 2 ^ c = n at *
  go_enter Try.func16, Try.ntmps16
  go_wp2_with fail
  refine (C.out w).mono ?_
  rintro e w1 ⟨rfl, rfl⟩
  go_wp2_with fail
  refine (D.out _).mono ?_
  rintro e w2 ⟨rfl, rfl⟩
  go_wp2_with fail
  refine (plain_any _).mono ?_
  rintro e w3 ⟨b, rfl, hT, hb, hbl⟩
  have H3 := Lib.hid (And.intro hT (And.intro hb hbl))
  clear hT hb hbl
  go_wp2_with fail
  refine (HX.out w3 b H3.out.1).mono ?_
  rintro e w4 ⟨rfl, hT4, hk4⟩
  have H4 := Lib.hid (And.intro hT4 (kept_below H3.out.2.2 hk4 H3.out.2.1 H3.out.2.2.size))
  clear hT4 hk4
  go_wp2
  go_loopw [34] (fun v34 wr => ∃ k : Nat, k ≤ n ∧ v34 = .int .i64 (k : Int) ∧ Hid (Tab wr b 91 (ekTo F salt key k) ∧ Below w2.heap.size w2 wr)) (fun v _ => n - (intOf v).toNat)
  case atStart => exact ⟨0, by omega, by simp, H4⟩
  case round =>
    obtain ⟨k, hk, rfl, HS⟩ := hrel
    by_cases hlt : k < n
    · have hkn : (k : Int) < (n : Int) := by omega
      go_wp2_with fail
      refine (HY.out wr b k HS.out.1).mono ?_
      rintro e w5 ⟨rfl, hT5, hk5⟩
      have H5 := Lib.hid (And.intro hT5 (kept_below HS.out.2 hk5 H3.out.2.1 HS.out.2.size))
      clear hT5 hk5
      go_wp2_with fail
      refine (HZ.out w5 b k H5.out.1).mono ?_
      rintro e w6 ⟨rfl, hT6, hk6⟩
      have H6 := Lib.hid (And.intro hT6 (kept_below H5.out.2 hk6 H3.out.2.1 H5.out.2.size))
      clear hT6 hk6
      go_wp2
      go_roundw
      case rel => exact ⟨k + 1, by omega, by go_num, Lib.hid ⟨H6.out.1, H6.out.2⟩⟩
      case measure => simp [intOf]; omega
    · obtain rfl : k = n := by omega
      go_wp2
      go_ret2
      exact ⟨b, rfl, HS.out.1, H3.out.2.1, HS.out.2⟩
end Go.Proofs.Ytccpcjbffibkkaa

namespace Go.Proofs.Ytccpcjbffibkkaa
set_option maxRecDepth 50000
open Go.RowKit Ci

set_option maxHeartbeats 1600000 in
theorem rsetup_any (n : Nat) (hn : n ≤ 2147483648) (salt key : ByteArray) (hs : salt.size ≤ 140737488351232) (hk : key.size ≤ 140737488351232) (g : Nat → Nat) (hg : Ok g) (w : World) (d c : Nat) (hT : RTab w d g) :
    Calls Try.prog 20 #[.slice (some ⟨d, 0, none⟩) 1042 c, .int .i64 (n : Int), .string salt, .string key] w fun e w' => ∃ d2, e = .returned (.slice (some ⟨d2, 0, none⟩) 1042 1042) ∧ RTab w' d2 (ekTo (exB g salt key) salt key n) ∧ Below w.heap.size w w' := by
  have hX := fun (w1 : World) (d c : Nat) (hT : RTab w1 d g) => rexpand_any w1 d c g hT hg salt key (by omega) (by omega)
  obtain ⟨F, hF⟩ : ∃ F, F = exB g salt key := ⟨_, rfl⟩
  have hFo : Ok F := by rw [hF]; exact exB_ok hg _ _
  rw [← hF] at hX ⊢
  have HX := Lib.hid (hX w d c hT)
  have HY := Lib.hid (fun (w1 : World) (b k : Nat) (hT : RTab w1 b (ekTo F salt key k)) => rexpand_any w1 b 1042 _ hT (ekTo_ok hFo salt key k) ⟨#[]⟩ key (by decide) (by omega))
  have HZ := Lib.hid (fun (w1 : World) (b k : Nat) (hT : RTab w1 b (exB (ekTo F salt key k) ⟨#[]⟩ key)) => rexpand_any w1 b 1042 _ hT (exB_ok (ekTo_ok hFo salt key k) _ _) ⟨#[]⟩ salt (by decide) (by omega))
  clear hX hF hFo hT hs hk hg
  go_enter Try.func20, Try.ntmps20
  go_wp2_with fail
  refine HX.out.mono ?_
  rintro e w1 ⟨d1, rfl, hT1, _, hb1⟩
  have H1 := Lib.hid (And.intro hT1 hb1)
  clear hT1 hb1
  go_wp2
  go_loopw [9, 10] (fun v9 v10 wr => ∃ k d2 : Nat, k ≤ n ∧ v10 = .int .i64 (k : Int) ∧ v9 = .slice (some ⟨d2, 0, none⟩) 1042 1042 ∧ Hid (RTab wr d2 (ekTo F salt key k) ∧ Below w.heap.size w wr)) (fun _ v _ => n - (intOf v).toNat)
  case atStart => exact ⟨0, d1, by omega, by simp, rfl, H1⟩
  case round =>
    obtain ⟨k, d2, hk, rfl, rfl, HS⟩ := hrel
    by_cases hlt : k < n
    · have hkn : (k : Int) < (n : Int) := by omega
      go_wp2_with fail
      refine (HY.out wr d2 k HS.out.1).mono ?_
      rintro e w5 ⟨d5, rfl, hT5, _, hb5⟩
      have H5 := Lib.hid (And.intro hT5 (HS.out.2.trans (hb5.mono HS.out.2.size)))
      clear hT5 hb5
      go_wp2_with fail
      refine (HZ.out w5 d5 k H5.out.1).mono ?_
      rintro e w6 ⟨d6, rfl, hT6, _, hb6⟩
      have H6 := Lib.hid (And.intro hT6 (H5.out.2.trans (hb6.mono H5.out.2.size)))
      clear hT6 hb6
      go_wp2
      go_roundw
      case rel => exact ⟨k + 1, d6, by omega, by go_num, rfl, Lib.hid ⟨H6.out.1, H6.out.2⟩⟩
      case measure => simp [intOf]; omega
    · obtain rfl : k = n := by omega
      go_wp2
      go_ret
      exact ⟨d2, rfl, HS.out.1, HS.out.2⟩
end Go.Proofs.Ytccpcjbffibkkaa

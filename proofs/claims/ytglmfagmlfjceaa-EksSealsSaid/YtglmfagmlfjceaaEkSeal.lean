/- seal and Seal of package eks by their contracts. Conditions: those typed. -/
import Derived.Test.YtglmfagmlfjceaaEkSize
import Derived.Test.YtglmfagmlfjceaaEkPure
import Derived.Test.YtglmfagmlfjceaaCiKeys
namespace Go.Proofs.Ytglmfagmlfjceaa
set_option maxRecDepth 50000
open Go.RowKit Ci Rot

set_option maxHeartbeats 1600000 in
theorem seal1_any (w : World) (b : Nat) (g : Nat → Nat) (hT : Tab w b 55 g) (hg : Ok g) (t : Nat) (ht : t ≤ 1024) (l r : Nat) (hl : l < 4294967296) (hr : r < 4294967296) :
    Calls Try.prog 29 #[.pointer (some ⟨b, 0, none⟩), .int .i64 (t : Int), .int .u32 (l : Int), .int .u32 (r : Int)] w fun e w' => e = .returned (.tuple #[.int .u32 ((enTo g l r t).1 : Int), .int .u32 ((enTo g l r t).2 : Int)]) ∧ ∃ q, w' = w.drewN q := by
  have HT := Lib.hid hT
  clear hT
  go_enter Try.func29, Try.ntmps29
  go_wp2
  go_loopw [2, 3, 11] (fun v2 v3 v11 wr => ∃ k x y : Nat, k ≤ t ∧ v11 = .int .i64 (k : Int) ∧ v2 = .int .u32 (x : Int) ∧ v3 = .int .u32 (y : Int) ∧ Hid (enTo g l r k = (x, y)) ∧ x < 4294967296 ∧ y < 4294967296 ∧ ∃ q, wr = w.drewN q)
    (fun _ _ v _ => t - (intOf v).toNat)
  case atStart => exact ⟨0, l, r, by omega, by simp, rfl, rfl, Lib.hid rfl, hl, hr, 0, rfl⟩
  case round =>
    obtain ⟨k, x, y, hk, rfl, rfl, rfl, HR, hx, hy, q, rfl⟩ := hrel
    by_cases h : k < t
    · have hkI : (k : Int) < (t : Int) := by omega
      have C := Lib.hid (enc_of (w.drewN q) b g (HT.out.drewN q) hg x y hx hy)
      have hb := en_lt g hg x y hx hy
      have HN : Hid (enTo g l r (k + 1) = (enL g x y, enR g x y)) := Lib.hid (by simp only [enTo, HR.out])
      generalize enL g x y = x2 at *
      generalize enR g x y = y2 at *
      have hb1 := hb.1
      have hb2 := hb.2
      clear HR hb
      go_wp2_with fail
      refine C.out.mono ?_
      rintro e w1 ⟨rfl, q2, rfl⟩
      go_wp2
      go_roundw
      case rel => exact ⟨k + 1, x2, y2, by omega, by go_num, rfl, rfl, HN, hb1, hb2, _, rfl⟩
      case measure => simp [intOf]; omega
    · obtain rfl : k = t := by omega
      go_wp2
      go_ret2
      exact ⟨by rw [HR.out]; rfl, _, rfl⟩

theorem seal_nil (t : Int) (A : Option Addr) (n c : Nat) (w : World) : Calls Try.prog 15 #[.pointer none, .int .i64 t, .slice A n c] w fun e w' => e = .returned (.tuple #[.slice none 0 0, .int .i64 11]) ∧ w' = w := by
  go_enter Try.func15, Try.ntmps15
  go_wp2
  go_ret2
  exact ⟨rfl, rfl⟩
theorem seal_arg (b : Nat) (t : Int) (ht : t < 0 ∨ 1024 < t) (A : Option Addr) (n c : Nat) (w : World) : Calls Try.prog 15 #[.pointer (some ⟨b, 0, none⟩), .int .i64 t, .slice A n c] w fun e w' => e = .returned (.tuple #[.slice none 0 0, .int .i64 1]) ∧ w' = w := by
  have C := Lib.hid (within_no t 0 1024 ht)
  clear ht
  go_enter Try.func15, Try.ntmps15
  go_wp2_with fail
  refine (C.out w).mono ?_
  rintro e w1 ⟨rfl, rfl⟩
  go_wp2
  go_ret2
  exact ⟨rfl, rfl⟩
theorem seal_size (b t : Nat) (ht : t ≤ 1024) (A : Option Addr) (n c : Nat) (hn : n % 2 = 1) (w : World) : Calls Try.prog 15 #[.pointer (some ⟨b, 0, none⟩), .int .i64 (t : Int), .slice A n c] w fun e w' => e = .returned (.tuple #[.slice none 0 0, .int .i64 9]) ∧ w' = w := by
  have C := Lib.hid (within_yes t 0 1024 (by omega) (by omega))
  have hm : ((n : Int)).tmod 2 = 1 := by rw [Int.tmod_eq_emod_of_nonneg (by omega)]; omega
  have hm2 : ((n : Int)) % 2 = 1 := by omega
  clear hn
  go_enter Try.func15, Try.ntmps15
  go_wp2_with fail
  refine (C.out w).mono ?_
  rintro e w1 ⟨rfl, rfl⟩
  go_wp2
  go_ret2
  exact ⟨rfl, rfl⟩
end Go.Proofs.Ytglmfagmlfjceaa

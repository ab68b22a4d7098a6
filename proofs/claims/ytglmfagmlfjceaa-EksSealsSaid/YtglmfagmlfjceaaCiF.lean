/- f, Encrypt, Decrypt of package cipher by their contracts. Conditions: those typed. -/
import Derived.Test.YtglmfagmlfjceaaCiTab
import Derived.Deep.LoopGhost
import Derived.WalkMore
import Derived.Laws.BitsAllLaws
import Derived.BigQuiet
namespace Go.Proofs.Ytglmfagmlfjceaa
set_option maxRecDepth 50000
open Go.RowKit Ci

set_option maxHeartbeats 1600000 in
theorem f_any (w : World) (b : Nat) (g : Nat → Nat) (hT : Tab w b 55 g) (hg : Ok g) (x : Nat) (hx : x < 4294967296) :
    Calls Try.prog 23 #[.pointer (some ⟨b, 0, none⟩), .int .u32 (x : Int)] w fun e w' => e = .returned (.int .u32 (fB g x : Int)) ∧ ∃ q, w' = w.drewN q := by
  obtain ⟨x1, e1⟩ : ∃ y, y = x / 16777216 := ⟨_, rfl⟩
  obtain ⟨x2, e2⟩ : ∃ y, y = x / 65536 % 256 := ⟨_, rfl⟩
  obtain ⟨x3, e3⟩ : ∃ y, y = x / 256 % 256 := ⟨_, rfl⟩
  obtain ⟨x4, e4⟩ : ∃ y, y = x % 256 := ⟨_, rfl⟩
  have i1 : x1 < 256 := by omega
  have i2 : x2 < 256 := by omega
  have i3 : x3 < 256 := by omega
  have i4 : x4 < 256 := by omega
  have c1 := hT.cell (18 + x1) (by omega)
  have c2 := hT.cell (274 + x2) (by omega)
  have c3 := hT.cell (530 + x3) (by omega)
  have c4 := hT.cell (786 + x4) (by omega)
  have b1 := hg (18 + x1) (by omega)
  have b2 := hg (274 + x2) (by omega)
  have b3 := hg (530 + x3) (by omega)
  have b4 := hg (786 + x4) (by omega)
  have hf : fB g x = ((((g (18 + x1) + g (274 + x2)) % 4294967296) ^^^ g (530 + x3)) + g (786 + x4)) % 4294967296 := by rw [e1, e2, e3, e4]; rfl
  rw [hf]
  generalize g (18 + x1) = g1 at *
  generalize g (274 + x2) = g2 at *
  generalize g (530 + x3) = g3 at *
  generalize g (786 + x4) = g4 at *
  have d1 : ((x : Int) / 16777216) = (x1 : Int) := by omega
  have d1' : IntKind.u8.wrap (x1 : Int) = (x1 : Int) := by simp [IntKind.wrap, IntKind.bits, IntKind.signed]; omega
  have d2 : IntKind.u8.wrap ((x : Int) / 65536) = (x2 : Int) := by simp [IntKind.wrap, IntKind.bits, IntKind.signed]; omega
  have d3 : IntKind.u8.wrap ((x : Int) / 256) = (x3 : Int) := by simp [IntKind.wrap, IntKind.bits, IntKind.signed]; omega
  have d4 : IntKind.u8.wrap (x : Int) = (x4 : Int) := by simp [IntKind.wrap, IntKind.bits, IntKind.signed]; omega
  clear hf e1 e2 e3 e4
  have ex : bits .xor .u32 (((g1 : Int) + (g2 : Int)) % 4294967296) (g3 : Int) = (((g1 + g2) % 4294967296 ^^^ g3 : Nat) : Int) := by
    rw [show (((g1 : Int) + (g2 : Int)) % 4294967296) = (((g1 + g2) % 4294967296 : Nat) : Int) by omega, u32_xor_nat _ _ (by omega) b3]
  go_enter Try.func23, Try.ntmps23
  go_wp2
  go_quiet (fail)
  go_wp2
  go_quiet (fail)
  go_wp2
  go_ret
  exact ⟨by simp, _, World.drewN_drewN _ _ _⟩

set_option maxHeartbeats 1600000 in
theorem enc_any (w : World) (b : Nat) (g : Nat → Nat) (hT : Tab w b 55 g) (hg : Ok g) (l r : Nat) (hl : l < 4294967296) (hr : r < 4294967296) :
    Calls Try.prog 10 #[.pointer (some ⟨b, 0, none⟩), .int .u32 (l : Int), .int .u32 (r : Int)] w fun e w' => e = .returned (.tuple #[.int .u32 (crL (fB g) g l r : Int), .int .u32 (crR (fB g) g l r : Int)]) ∧ ∃ q, w' = w.drewN q := by
  have hq : ∀ i, i < 18 → g i < 4294967296 := fun i hi => hg i (by omega)
  have HT := Lib.hid hT
  clear hT
  go_enter Try.func10, Try.ntmps10
  go_wp2
  go_loopw [1, 2, 11] (fun v1 v2 v11 wr => ∃ k x y : Nat, k ≤ 16 ∧ v11 = .int .i64 (k : Int) ∧ v1 = .int .u32 (x : Int) ∧ v2 = .int .u32 (y : Int) ∧ Hid (rnd (fB g) g l r k = (x, y)) ∧ x < 4294967296 ∧ y < 4294967296 ∧ ∃ q, wr = w.drewN q)
    (fun _ _ v _ => 16 - (intOf v).toNat)
  case atStart => exact ⟨0, l, r, by omega, by simp, rfl, rfl, Lib.hid rfl, hl, hr, 0, rfl⟩
  case round =>
    obtain ⟨k, x, y, hk, rfl, rfl, rfl, HR, hx, hy, q, rfl⟩ := hrel
    by_cases h : k < 16
    · have hkI : (k : Int) < 16 := by omega
      have hc := HT.out.cell k (by omega)
      obtain ⟨p, hp⟩ : ∃ p, p = g k := ⟨_, rfl⟩
      rw [← hp] at hc
      have hpq : g k = p := by rw [hp]
      have hpb : p < 4294967296 := by rw [← hpq]; exact hq k (by omega)
      have hx1 := u32_xor_nat x p hx hpb
      obtain ⟨x', hx'⟩ : ∃ x', x' = x ^^^ p := ⟨_, rfl⟩
      rw [← hx'] at hx1
      have hxb : x' < 4294967296 := by rw [hx']; exact xor_lt _ _ hx hpb
      have C := Lib.hid (f_any (w.drewN q) b g (HT.out.drewN q) hg x' hxb)
      obtain ⟨z, hz⟩ : ∃ z, z = fB g x' := ⟨_, rfl⟩
      have hzb : z < 4294967296 := by rw [hz]; exact fB_lt g x'
      rw [← hz] at C
      have hy1 := u32_xor_nat y z hy hzb
      obtain ⟨y', hy'⟩ : ∃ y', y' = y ^^^ z := ⟨_, rfl⟩
      rw [← hy'] at hy1
      have hyb : y' < 4294967296 := by rw [hy']; exact xor_lt _ _ hy hzb
      have HN : Hid (rnd (fB g) g l r (k + 1) = (y', x')) := Lib.hid (by simp only [rnd, HR.out, hpq]; rw [← hx', ← hz, ← hy'])
      clear hx' hy' hz hpq hp HR
      go_wp2_with fail
      refine C.out.mono ?_
      rintro e w1 ⟨rfl, q2, rfl⟩
      go_wp2
      go_roundw
      case rel => exact ⟨k + 1, y', x', by omega, by go_num, rfl, rfl, HN, hyb, hxb, _, rfl⟩
      case measure => simp [intOf]; omega
    · obtain rfl : k = 16 := by omega
      have h16 := HT.out.cell 16 (by omega)
      have h17 := HT.out.cell 17 (by omega)
      have hL : crL (fB g) g l r = y ^^^ g 17 := by unfold crL; rw [HR.out]
      have hR : crR (fB g) g l r = x ^^^ g 16 := by unfold crR; rw [HR.out]
      have HL := Lib.hid hL
      have HR2 := Lib.hid hR
      have ex := u32_xor_nat x (g 16) hx (hg 16 (by omega))
      have ey := u32_xor_nat y (g 17) hy (hg 17 (by omega))
      generalize g 16 = g16 at *
      generalize g 17 = g17 at *
      clear hL hR HR h
      first | rw [show (17 : Int) - ((16 : Nat) : Int) = 1 from rfl] | rw [show ((16 : Nat) : Int) = 16 from rfl]
      go_wp2
      go_quiet (fail)
      go_wp2
      go_ret2
      exact ⟨by rw [HL.out, HR2.out]; rfl, _, by first | rfl | exact World.drewN_drewN _ _ _⟩

end Go.Proofs.Ytglmfagmlfjceaa

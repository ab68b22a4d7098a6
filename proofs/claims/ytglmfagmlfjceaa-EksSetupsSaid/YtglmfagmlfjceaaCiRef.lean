/- The document's f, Encrypt, Decrypt, word by their contracts. Conditions: those typed. -/
import Derived.Test.YtglmfagmlfjceaaCiTab
import Derived.Test.YtglmfagmlfjceaaCiNext
import Derived.Deep.LoopGhost
import Derived.WalkMore
import Derived.Laws.BitsAllLaws
import Derived.BigQuiet
namespace Go.Proofs.Ytglmfagmlfjceaa
set_option maxRecDepth 50000
open Go.RowKit Ci

/-- block b begins with the words g -/
def RTab (w : World) (b : Nat) (g : Nat → Nat) : Prop := ∃ C, RowAt w b 22 C ∧ ∀ i, i < 1042 → C[i]? = some (.int .u32 (g i : Int))
section
variable {w w' : World} {b : Nat} {g : Nat → Nat}
theorem RTab.cell (h : RTab w b g) (i : Nat) (hi : i < 1042) : w.cell? ⟨b, i, none⟩ = some (.int .u32 (g i : Int)) := by
  obtain ⟨C, h1, h2⟩ := h
  rw [h1.cell, h2 i hi]
theorem RTab.free (h : RTab w b g) (i : Nat) : w.frozen? ⟨b, i, none⟩ = false := by
  obtain ⟨C, h1, h2⟩ := h
  exact h1.frozen i
theorem RTab.lt (h : RTab w b g) : b < w.heap.size := by
  obtain ⟨C, h1, h2⟩ := h
  exact h1.lt
theorem RTab.set (h : RTab w b g) (i v : Nat) : RTab (w.setCell ⟨b, i, none⟩ (.int .u32 (v : Int))) b (upd g i v) := by
  obtain ⟨C, h1, h2⟩ := h
  refine ⟨_, h1.setCell i _, fun j hj => ?_⟩
  have h3 := h2 j hj
  have hlt := (Array.getElem?_eq_some_iff.1 h3).1
  unfold upd
  by_cases hij : i = j
  · subst hij; simp [hlt]
  · rw [Array.getElem?_setIfInBounds_ne hij, h3, if_neg (Ne.symm hij)]
theorem RTab.drewN (h : RTab w b g) (k : Nat) : RTab (w.drewN k) b g := h
theorem RTab.below {B : Nat} (h : RTab w b g) (hb : Below B w w') (hB : b < B) : RTab w' b g := by
  obtain ⟨C, h1, h2⟩ := h
  exact ⟨C, h1.below hb hB, h2⟩
theorem RTab.alloc (h : RTab w b g) (o : Obj) : RTab (w.alloc o) b g := by
  obtain ⟨C, h1, h2⟩ := h
  exact ⟨C, h1.alloc o, h2⟩
end

set_option maxHeartbeats 1600000 in
theorem rf_any (w : World) (b c : Nat) (g : Nat → Nat) (hT : RTab w b g) (hg : Ok g) (x : Nat) (hx : x < 4294967296) :
    Calls Try.prog 24 #[.slice (some ⟨b, 0, none⟩) 1042 c, .int .u32 (x : Int)] w fun e w' => e = .returned (.int .u32 (fB g x : Int)) ∧ ∃ q, w' = w.drewN q := by
  obtain ⟨x1, e1⟩ : ∃ y, y = x / 16777216 := ⟨_, rfl⟩
  obtain ⟨x2, e2⟩ : ∃ y, y = x / 65536 % 256 := ⟨_, rfl⟩
  obtain ⟨x3, e3⟩ : ∃ y, y = x / 256 % 256 := ⟨_, rfl⟩
  obtain ⟨x4, e4⟩ : ∃ y, y = x % 256 := ⟨_, rfl⟩
  have i1 : x1 < 256 := by omega
  have i2 : x2 < 256 := by omega
  have i3 : x3 < 256 := by omega
  have i4 : x4 < 256 := by omega
  have c1 := hT.cell (18 + x1) (by omega)
  have c2 := hT.cell (274 + x2) (by omega)
  have c3 := hT.cell (530 + x3) (by omega)
  have c4 := hT.cell (786 + x4) (by omega)
  have b1 := hg (18 + x1) (by omega)
  have b2 := hg (274 + x2) (by omega)
  have b3 := hg (530 + x3) (by omega)
  have b4 := hg (786 + x4) (by omega)
  have hf : fB g x = ((((g (18 + x1) + g (274 + x2)) % 4294967296) ^^^ g (530 + x3)) + g (786 + x4)) % 4294967296 := by rw [e1, e2, e3, e4]; rfl
  rw [hf]
  generalize g (18 + x1) = g1 at *
  generalize g (274 + x2) = g2 at *
  generalize g (530 + x3) = g3 at *
  generalize g (786 + x4) = g4 at *
  have d1 : ((x : Int) / 16777216) = (x1 : Int) := by omega
  have d2 : ((x : Int) / 65536 % 256) = (x2 : Int) := by omega
  have d3 : ((x : Int) / 256 % 256) = (x3 : Int) := by omega
  have d4 : ((x : Int) % 256) = (x4 : Int) := by omega
  have t2 : ((x : Int) / 65536).tmod 256 = (x2 : Int) := by rw [Int.tmod_eq_emod_of_nonneg (by omega)]; exact d2
  have t3 : ((x : Int) / 256).tmod 256 = (x3 : Int) := by rw [Int.tmod_eq_emod_of_nonneg (by omega)]; exact d3
  have t4 : ((x : Int)).tmod 256 = (x4 : Int) := by rw [Int.tmod_eq_emod_of_nonneg (by omega)]; exact d4
  obtain ⟨k1, hk1⟩ : ∃ k, k = 18 + x1 := ⟨_, rfl⟩
  rw [← hk1] at c1
  have j1 : (18 : Int) + (x1 : Int) = (k1 : Int) := by omega
  have k1b : k1 < 1042 := by omega
  obtain ⟨k2, hk2⟩ : ∃ k, k = 274 + x2 := ⟨_, rfl⟩
  rw [← hk2] at c2
  have j2 : (274 : Int) + (x2 : Int) = (k2 : Int) := by omega
  have k2b : k2 < 1042 := by omega
  obtain ⟨k3, hk3⟩ : ∃ k, k = 530 + x3 := ⟨_, rfl⟩
  rw [← hk3] at c3
  have j3 : (530 : Int) + (x3 : Int) = (k3 : Int) := by omega
  have k3b : k3 < 1042 := by omega
  obtain ⟨k4, hk4⟩ : ∃ k, k = 786 + x4 := ⟨_, rfl⟩
  rw [← hk4] at c4
  have j4 : (786 : Int) + (x4 : Int) = (k4 : Int) := by omega
  have k4b : k4 < 1042 := by omega
  clear hf e1 e2 e3 e4 hk1 hk2 hk3 hk4
  have ex : bits .xor .u32 (((g1 : Int) + (g2 : Int)) % 4294967296) (g3 : Int) = (((g1 + g2) % 4294967296 ^^^ g3 : Nat) : Int) := by
    rw [show (((g1 : Int) + (g2 : Int)) % 4294967296) = (((g1 + g2) % 4294967296 : Nat) : Int) by omega, u32_xor_nat _ _ (by omega) b3]
  go_enter Try.func24, Try.ntmps24
  go_wp2
  go_quiet (fail)
  go_wp2
  go_ret
  exact ⟨by simp, _, rfl⟩
set_option maxHeartbeats 1600000 in
theorem renc_any (w : World) (b c : Nat) (g : Nat → Nat) (hT : RTab w b g) (hg : Ok g) (l r : Nat) (hl : l < 4294967296) (hr : r < 4294967296) :
    Calls Try.prog 11 #[.slice (some ⟨b, 0, none⟩) 1042 c, .int .u32 (l : Int), .int .u32 (r : Int)] w fun e w' => e = .returned (.tuple #[.int .u32 (crL (fB g) g l r : Int), .int .u32 (crR (fB g) g l r : Int)]) ∧ ∃ q, w' = w.drewN q := by
  have hq : ∀ i, i < 18 → g i < 4294967296 := fun i hi => hg i (by omega)
  have HT := Lib.hid hT
  clear hT
  go_enter Try.func11, Try.ntmps11
  go_wp2
  go_loopw [1, 2, 8] (fun v1 v2 v11 wr => ∃ k x y : Nat, k ≤ 16 ∧ v11 = .int .i64 (k : Int) ∧ v1 = .int .u32 (x : Int) ∧ v2 = .int .u32 (y : Int) ∧ Hid (rnd (fB g) g l r k = (x, y)) ∧ x < 4294967296 ∧ y < 4294967296 ∧ ∃ q, wr = w.drewN q)
    (fun _ _ v _ => 16 - (intOf v).toNat)
  case atStart => exact ⟨0, l, r, by omega, by simp, rfl, rfl, Lib.hid rfl, hl, hr, 0, rfl⟩
  case round =>
    obtain ⟨k, x, y, hk, rfl, rfl, rfl, HR, hx, hy, q, rfl⟩ := hrel
    by_cases h : k < 16
    · have hkI : (k : Int) < 16 := by omega
      have hc := HT.out.cell k (by omega)
      obtain ⟨p, hp⟩ : ∃ p, p = g k := ⟨_, rfl⟩
      rw [← hp] at hc
      have hpq : g k = p := by rw [hp]
      have hpb : p < 4294967296 := by rw [← hpq]; exact hq k (by omega)
      have hx1 := u32_xor_nat x p hx hpb
      obtain ⟨x', hx'⟩ : ∃ x', x' = x ^^^ p := ⟨_, rfl⟩
      rw [← hx'] at hx1
      have hxb : x' < 4294967296 := by rw [hx']; exact xor_lt _ _ hx hpb
      have C := Lib.hid (rf_any (w.drewN q) b c g (HT.out.drewN q) hg x' hxb)
      obtain ⟨z, hz⟩ : ∃ z, z = fB g x' := ⟨_, rfl⟩
      have hzb : z < 4294967296 := by rw [hz]; exact fB_lt g x'
      rw [← hz] at C
      have hy1 := u32_xor_nat y z hy hzb
      obtain ⟨y', hy'⟩ : ∃ y', y' = y ^^^ z := ⟨_, rfl⟩
      rw [← hy'] at hy1
      have hyb : y' < 4294967296 := by rw [hy']; exact xor_lt _ _ hy hzb
      have HN : Hid (rnd (fB g) g l r (k + 1) = (y', x')) := Lib.hid (by simp only [rnd, HR.out, hpq]; rw [← hx', ← hz, ← hy'])
      clear hx' hy' hz hpq hp HR
      go_wp2_with fail
      refine C.out.mono ?_
      rintro e w1 ⟨rfl, q2, rfl⟩
      go_wp2
      go_roundw
      case rel => exact ⟨k + 1, y', x', by omega, by go_num, rfl, rfl, HN, hyb, hxb, _, rfl⟩
      case measure => simp [intOf]; omega
    · obtain rfl : k = 16 := by omega
      have h16 := HT.out.cell 16 (by omega)
      have h17 := HT.out.cell 17 (by omega)
      have hL : crL (fB g) g l r = y ^^^ g 17 := by unfold crL; rw [HR.out]
      have hR : crR (fB g) g l r = x ^^^ g 16 := by unfold crR; rw [HR.out]
      have HL := Lib.hid hL
      have HR2 := Lib.hid hR
      have ex := u32_xor_nat x (g 16) hx (hg 16 (by omega))
      have ey := u32_xor_nat y (g 17) hy (hg 17 (by omega))
      generalize g 16 = g16 at *
      generalize g 17 = g17 at *
      clear hL hR HR h
      first | rw [show (17 : Int) - ((16 : Nat) : Int) = 1 from rfl] | rw [show ((16 : Nat) : Int) = 16 from rfl]
      go_wp2
      go_quiet (fail)
      go_wp2
      go_ret2
      exact ⟨by rw [HL.out, HR2.out]; rfl, _, by first | rfl | exact World.drewN_drewN _ _ _⟩

set_option maxHeartbeats 1600000 in
theorem rword_any (w : World) (s : ByteArray) (hs : s.size ≤ 140737488351232) (i : Nat) (hi : i < 1048576) :
    Calls Try.prog 30 #[.string s, .int .i64 (i : Int)] w fun e w' => e = .returned (.int .u32 (wd s i : Int)) ∧ w' = w := by
  go_enter Try.func30, Try.ntmps30
  go_wp2
  go_loopw [5, 6] (fun v5 v6 wr => ∃ k n : Nat, k ≤ 4 ∧ v5 = .int .u32 (n : Int) ∧ v6 = .int .i64 (k : Int) ∧ Hid (n = wdTo s i k) ∧ wr = w) (fun _ v _ => 4 - (intOf v).toNat)
  case atStart => exact ⟨0, 0, by omega, rfl, rfl, Lib.hid rfl, rfl⟩
  case round =>
    obtain ⟨k, n, hk, rfl, rfl, HN, rfl⟩ := hrel
    by_cases h : k < 4
    · have hkI : (k : Int) < 4 := by omega
      have hn : n < 16777216 := by
        have := wdTo_lt s i k
        rw [← HN.out] at this
        have e : 256 ^ k ≤ 256 ^ 3 := Nat.pow_le_pow_right (by decide) (by omega)
        omega
      by_cases h0 : s.size = 0
      · have hsI : ¬ (0 : Int) < (s.size : Int) := by omega
        have HN2 : Hid (0 = wdTo s i (k + 1)) := Lib.hid (wdTo_none s h0 i (k + 1)).symm
        have hn0 : n = 0 := by rw [HN.out]; exact wdTo_none s h0 i k
        subst hn0
        clear HN
        go_wp2
        go_roundw
        case rel => exact ⟨k + 1, 0, by omega, by simp, by go_num, HN2, trivial⟩
        case measure => simp [intOf]; omega
      · have hsI : (0 : Int) < (s.size : Int) := by omega
        obtain ⟨j, hj⟩ : ∃ j, j = 4 * i + k := ⟨_, rfl⟩
        obtain ⟨p, hp⟩ : ∃ p, p = j % s.size := ⟨_, rfl⟩
        have hpl : p < s.size := by rw [hp]; exact Nat.mod_lt _ (by omega)
        have j1 : (4 : Int) * (i : Int) + (k : Int) = (j : Int) := by omega
        have htm : ((j : Int)).tmod (s.size : Int) = (p : Int) := by rw [Int.tmod_eq_emod_of_nonneg (by omega), hp]; exact (Int.natCast_emod j s.size).symm
        obtain ⟨d, hd⟩ : ∃ d : Nat, d = (s[p]'hpl).toNat := ⟨_, rfl⟩
        have hdI : ((s[p]'hpl).toNat : Int) = (d : Int) := by rw [hd]
        have hdb : d < 256 := by rw [hd]; exact UInt8.toNat_lt _
        have hbt : bt s p = d := by unfold bt; rw [dif_pos hpl, hd]
        have HN2 : Hid (n * 256 + d = wdTo s i (k + 1)) := Lib.hid (by rw [wdTo, ← HN.out, ← hj, ← hp, hbt])
        obtain ⟨m, hm⟩ : ∃ m, m = n * 256 + d := ⟨_, rfl⟩
        rw [← hm] at HN2
        have hmI : (n : Int) * 256 + (d : Int) = (m : Int) := by omega
        have hmb : m < 4294967296 := by omega
        have hnw : (n : Int) * 256 % 4294967296 = (n : Int) * 256 := by omega
        have hplI : (p : Int) < (s.size : Int) := by omega
        have hjb : j < 4194310 := by omega
        clear hj hp hd hbt HN hm
        go_wp2
        go_roundw
        case rel => exact ⟨k + 1, m, by omega, rfl, by go_num, HN2, trivial⟩
        case measure => simp [intOf]; omega
    · obtain rfl : k = 4 := by omega
      have HW : Hid (wd s i = n) := Lib.hid HN.out.symm
      clear HN h
      go_wp2
      go_ret
      exact ⟨by rw [HW.out]; rfl, rfl⟩
end Go.Proofs.Ytglmfagmlfjceaa

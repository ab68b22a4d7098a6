/- The document's f, Encrypt, Decrypt, word by their contracts. Conditions: those typed. The document's Sum and Expand by their contracts. Conditions: those typed. The law CipherKeys, out of what package cipher and the document's side answer. Conditions: those typed. -/
import Derived.Test.YtccpcjbffibkkaaCia
import Derived.Deep.LoopGhost
import Derived.WalkMore
import Derived.Laws.BitsAllLaws
import Derived.BigQuiet
import Derived.Test.YtccpcjbffibkkaaCiEx1
import Derived.Test.YtccpcjbffibkkaaCie
import Derived.Test.YtccpcjbffibkkaaPi
namespace Go.Proofs.Ytccpcjbffibkkaa
set_option maxRecDepth 50000
open Go.RowKit Ci

/-- block b begins with the words g -/
def RTab (w : World) (b : Nat) (g : Nat → Nat) : Prop := ∃ C, RowAt w b 52 C ∧ ∀ i, i < 1042 → C[i]? = some (.int .u32 (g i : Int))
section
variable {w w' : World} {b : Nat} {g : Nat → Nat}
theorem RTab.cell (h : RTab w b g) (i : Nat) (hi : i < 1042) : w.cell? ⟨b, i, none⟩ = some (.int .u32 (g i : Int)) := by
  obtain ⟨C, h1, h2⟩ := h
  rw [h1.cell, h2 i hi]
theorem RTab.free (h : RTab w b g) (i : Nat) : w.frozen? ⟨b, i, none⟩ = false := by
  obtain ⟨C, h1, h2⟩ := h
  exact h1.frozen i
theorem RTab.lt (h : RTab w b g) : b < w.heap.size := by
  obtain ⟨C, h1, h2⟩ := h
  exact h1.lt
theorem RTab.set (h : RTab w b g) (i v : Nat) : RTab (w.setCell ⟨b, i, none⟩ (.int .u32 (v : Int))) b (upd g i v) := by
  obtain ⟨C, h1, h2⟩ := h
  refine ⟨_, h1.setCell i _, fun j hj => ?_⟩
  have h3 := h2 j hj
  have hlt := (Array.getElem?_eq_some_iff.1 h3).1
  unfold upd
  by_cases hij : i = j
  · subst hij; simp [hlt]
  · rw [Array.getElem?_setIfInBounds_ne hij, h3, if_neg (Ne.symm hij)]
theorem RTab.drewN (h : RTab w b g) (k : Nat) : RTab (w.drewN k) b g := h
theorem RTab.below {B : Nat} (h : RTab w b g) (hb : Below B w w') (hB : b < B) : RTab w' b g := by
  obtain ⟨C, h1, h2⟩ := h
  exact ⟨C, h1.below hb hB, h2⟩
theorem RTab.alloc (h : RTab w b g) (o : Obj) : RTab (w.alloc o) b g := by
  obtain ⟨C, h1, h2⟩ := h
  exact ⟨C, h1.alloc o, h2⟩
end

set_option maxHeartbeats 1600000 in
theorem rf_any (w : World) (b c : Nat) (g : Nat → Nat) (hT : RTab w b g) (hg : Ok g) (x : Nat) (hx : x < 4294967296) :
    Calls Try.prog 50 #[.slice (some ⟨b, 0, none⟩) 1042 c, .int .u32 (x : Int)] w fun e w' => e = .returned (.int .u32 (fB g x : Int)) ∧ ∃ q, w' = w.drewN q := by
  obtain ⟨x1, e1⟩ : ∃ y, y = x / 16777216 := ⟨_, rfl⟩
  obtain ⟨x2, e2⟩ : ∃ y, y = x / 65536 % 256 := ⟨_, rfl⟩
  obtain ⟨x3, e3⟩ : ∃ y, y = x / 256 % 256 := ⟨_, rfl⟩
  obtain ⟨x4, e4⟩ : ∃ y, y = x % 256 := ⟨_, rfl⟩
  have i1 : x1 < 256 := by omega
  have i2 : x2 < 256 := by omega
  have i3 : x3 < 256 := by omega
  have i4 : x4 < 256 := by omega
  have c1 := hT.cell (18 + x1) (by omega)
  have c2 := hT.cell (274 + x2) (by omega)
  have c3 := hT.cell (530 + x3) (by omega)
  have c4 := hT.cell (786 + x4) (by omega)
  have b1 := hg (18 + x1) (by omega)
  have b2 := hg (274 + x2) (by omega)
  have b3 := hg (530 + x3) (by omega)
  have b4 := hg (786 + x4) (by omega)
  have hf : fB g x = ((((g (18 + x1) + g (274 + x2)) % 4294967296) ^^^ g (530 + x3)) + g (786 + x4)) % 4294967296 := by rw [e1, e2, e3, e4]; rfl
  rw [hf]
  generalize g (18 + x1) = g1 at *
  generalize g (274 + x2) = g2 at *
  generalize g (530 + x3) = g3 at *
  generalize g (786 + x4) = g4 at *
  have d1 : ((x : Int) / 16777216) = (x1 : Int) := by omega
  have d2 : ((x : Int) / 65536 % 256) = (x2 : Int) := by omega
  have d3 : ((x : Int) / 256 % 256) = (x3 : Int) := by omega
  have d4 : ((x : Int) % 256) = (x4 : Int) := by omega
  have t2 : ((x : Int) / 65536).tmod 256 = (x2 : Int) := by rw [Int.tmod_eq_emod_of_nonneg (by omega)]; exact d2
  have t3 : ((x : Int) / 256).tmod 256 = (x3 : Int) := by rw [Int.tmod_eq_emod_of_nonneg (by omega)]; exact d3
  have t4 : ((x : Int)).tmod 256 = (x4 : Int) := by rw [Int.tmod_eq_emod_of_nonneg (by omega)]; exact d4
  obtain ⟨k1, hk1⟩ : ∃ k, k = 18 + x1 := ⟨_, rfl⟩
  rw [← hk1] at c1
  have j1 : (18 : Int) + (x1 : Int) = (k1 : Int) := by omega
  have k1b : k1 < 1042 := by omega
  obtain ⟨k2, hk2⟩ : ∃ k, k = 274 + x2 := ⟨_, rfl⟩
  rw [← hk2] at c2
  have j2 : (274 : Int) + (x2 : Int) = (k2 : Int) := by omega
  have k2b : k2 < 1042 := by omega
  obtain ⟨k3, hk3⟩ : ∃ k, k = 530 + x3 := ⟨_, rfl⟩
  rw [← hk3] at c3
  have j3 : (530 : Int) + (x3 : Int) = (k3 : Int) := by omega
  have k3b : k3 < 1042 := by omega
  obtain ⟨k4, hk4⟩ : ∃ k, k = 786 + x4 := ⟨_, rfl⟩
  rw [← hk4] at c4
  have j4 : (786 : Int) + (x4 : Int) = (k4 : Int) := by omega
  have k4b : k4 < 1042 := by omega
  clear hf e1 e2 e3 e4 hk1 hk2 hk3 hk4
  have ex : bits .xor .u32 (((g1 : Int) + (g2 : Int)) % 4294967296) (g3 : Int) = (((g1 + g2) % 4294967296 ^^^ g3 : Nat) : Int) := by
    rw [show (((g1 : Int) + (g2 : Int)) % 4294967296) = (((g1 + g2) % 4294967296 : Nat) : Int) by omega, u32_xor_nat _ _ (by omega) b3]
  go_enter Try.func50, Try.ntmps50
  go_wp2
  go_quiet (fail)
  go_wp2
  go_ret
  exact ⟨by simp, _, rfl⟩
set_option maxHeartbeats 1600000 in
theorem renc_any (w : World) (b c : Nat) (g : Nat → Nat) (hT : RTab w b g) (hg : Ok g) (l r : Nat) (hl : l < 4294967296) (hr : r < 4294967296) :
    Calls Try.prog 40 #[.slice (some ⟨b, 0, none⟩) 1042 c, .int .u32 (l : Int), .int .u32 (r : Int)] w fun e w' => e = .returned (.tuple #[.int .u32 (crL (fB g) g l r : Int), .int .u32 (crR (fB g) g l r : Int)]) ∧ ∃ q, w' = w.drewN q := by
  have hq : ∀ i, i < 18 → g i < 4294967296 := fun i hi => hg i (by omega)
  have HT := Lib.hid hT
  clear hT
  go_enter Try.func40, Try.ntmps40
  go_wp2
  go_loopw [1, 2, 8] (fun v1 v2 v11 wr => ∃ k x y : Nat, k ≤ 16 ∧ v11 = .int .i64 (k : Int) ∧ v1 = .int .u32 (x : Int) ∧ v2 = .int .u32 (y : Int) ∧ Hid (rnd (fB g) g l r k = (x, y)) ∧ x < 4294967296 ∧ y < 4294967296 ∧ ∃ q, wr = w.drewN q)
    (fun _ _ v _ => 16 - (intOf v).toNat)
  case atStart => exact ⟨0, l, r, by omega, by simp, rfl, rfl, Lib.hid rfl, hl, hr, 0, rfl⟩
  case round =>
    obtain ⟨k, x, y, hk, rfl, rfl, rfl, HR, hx, hy, q, rfl⟩ := hrel
    by_cases h : k < 16
    · have hkI : (k : Int) < 16 := by omega
      have hc := HT.out.cell k (by omega)
      obtain ⟨p, hp⟩ : ∃ p, p = g k := ⟨_, rfl⟩
      rw [← hp] at hc
      have hpq : g k = p := by rw [hp]
      have hpb : p < 4294967296 := by rw [← hpq]; exact hq k (by omega)
      have hx1 := u32_xor_nat x p hx hpb
      obtain ⟨x', hx'⟩ : ∃ x', x' = x ^^^ p := ⟨_, rfl⟩
      rw [← hx'] at hx1
      have hxb : x' < 4294967296 := by rw [hx']; exact xor_lt _ _ hx hpb
      have C := Lib.hid (rf_any (w.drewN q) b c g (HT.out.drewN q) hg x' hxb)
      obtain ⟨z, hz⟩ : ∃ z, z = fB g x' := ⟨_, rfl⟩
      have hzb : z < 4294967296 := by rw [hz]; exact fB_lt g x'
      rw [← hz] at C
      have hy1 := u32_xor_nat y z hy hzb
      obtain ⟨y', hy'⟩ : ∃ y', y' = y ^^^ z := ⟨_, rfl⟩
      rw [← hy'] at hy1
      have hyb : y' < 4294967296 := by rw [hy']; exact xor_lt _ _ hy hzb
      have HN : Hid (rnd (fB g) g l r (k + 1) = (y', x')) := Lib.hid (by simp only [rnd, HR.out, hpq]; rw [← hx', ← hz, ← hy'])
      clear hx' hy' hz hpq hp HR
      go_wp2_with fail
      refine C.out.mono ?_
      rintro e w1 ⟨rfl, q2, rfl⟩
      go_wp2
      go_roundw
      case rel => exact ⟨k + 1, y', x', by omega, by go_num, rfl, rfl, HN, hyb, hxb, _, rfl⟩
      case measure => simp [intOf]; omega
    · obtain rfl : k = 16 := by omega
      have h16 := HT.out.cell 16 (by omega)
      have h17 := HT.out.cell 17 (by omega)
      have hL : crL (fB g) g l r = y ^^^ g 17 := by unfold crL; rw [HR.out]
      have hR : crR (fB g) g l r = x ^^^ g 16 := by unfold crR; rw [HR.out]
      have HL := Lib.hid hL
      have HR2 := Lib.hid hR
      have ex := u32_xor_nat x (g 16) hx (hg 16 (by omega))
      have ey := u32_xor_nat y (g 17) hy (hg 17 (by omega))
      generalize g 16 = g16 at *
      generalize g 17 = g17 at *
      clear hL hR HR h
      first | rw [show (17 : Int) - ((16 : Nat) : Int) = 1 from rfl] | rw [show ((16 : Nat) : Int) = 16 from rfl]
      go_wp2
      go_quiet (fail)
      go_wp2
      go_ret2
      exact ⟨by rw [HL.out, HR2.out]; rfl, _, by first | rfl | exact World.drewN_drewN _ _ _⟩

set_option maxHeartbeats 1600000 in
theorem rword_any (w : World) (s : ByteArray) (hs : s.size ≤ 140737488351232) (i : Nat) (hi : i < 1048576) :
    Calls Try.prog 49 #[.string s, .int .i64 (i : Int)] w fun e w' => e = .returned (.int .u32 (wd s i : Int)) ∧ w' = w := by
  go_enter Try.func49, Try.ntmps49
  go_wp2
  go_loopw [5, 6] (fun v5 v6 wr => ∃ k n : Nat, k ≤ 4 ∧ v5 = .int .u32 (n : Int) ∧ v6 = .int .i64 (k : Int) ∧ Hid (n = wdTo s i k) ∧ wr = w) (fun _ v _ => 4 - (intOf v).toNat)
  case atStart => exact ⟨0, 0, by omega, rfl, rfl, Lib.hid rfl, rfl⟩
  case round =>
    obtain ⟨k, n, hk, rfl, rfl, HN, rfl⟩ := hrel
    by_cases h : k < 4
    · have hkI : (k : Int) < 4 := by omega
      have hn : n < 16777216 := by
        have := wdTo_lt s i k
        rw [← HN.out] at this
        have e : 256 ^ k ≤ 256 ^ 3 := Nat.pow_le_pow_right (by decide) (by omega)
        omega
      by_cases h0 : s.size = 0
      · have hsI : ¬ (0 : Int) < (s.size : Int) := by omega
        have HN2 : Hid (0 = wdTo s i (k + 1)) := Lib.hid (wdTo_none s h0 i (k + 1)).symm
        have hn0 : n = 0 := by rw [HN.out]; exact wdTo_none s h0 i k
        subst hn0
        clear HN
        go_wp2
        go_roundw
        case rel => exact ⟨k + 1, 0, by omega, by simp, by go_num, HN2, trivial⟩
        case measure => simp [intOf]; omega
      · have hsI : (0 : Int) < (s.size : Int) := by omega
        obtain ⟨j, hj⟩ : ∃ j, j = 4 * i + k := ⟨_, rfl⟩
        obtain ⟨p, hp⟩ : ∃ p, p = j % s.size := ⟨_, rfl⟩
        have hpl : p < s.size := by rw [hp]; exact Nat.mod_lt _ (by omega)
        have j1 : (4 : Int) * (i : Int) + (k : Int) = (j : Int) := by omega
        have htm : ((j : Int)).tmod (s.size : Int) = (p : Int) := by rw [Int.tmod_eq_emod_of_nonneg (by omega), hp]; exact (Int.natCast_emod j s.size).symm
        obtain ⟨d, hd⟩ : ∃ d : Nat, d = (s[p]'hpl).toNat := ⟨_, rfl⟩
        have hdI : ((s[p]'hpl).toNat : Int) = (d : Int) := by rw [hd]
        have hdb : d < 256 := by rw [hd]; exact UInt8.toNat_lt _
        have hbt : bt s p = d := by unfold bt; rw [dif_pos hpl, hd]
        have HN2 : Hid (n * 256 + d = wdTo s i (k + 1)) := Lib.hid (by rw [wdTo, ← HN.out, ← hj, ← hp, hbt])
        obtain ⟨m, hm⟩ : ∃ m, m = n * 256 + d := ⟨_, rfl⟩
        rw [← hm] at HN2
        have hmI : (n : Int) * 256 + (d : Int) = (m : Int) := by omega
        have hmb : m < 4294967296 := by omega
        have hnw : (n : Int) * 256 % 4294967296 = (n : Int) * 256 := by omega
        have hplI : (p : Int) < (s.size : Int) := by omega
        have hjb : j < 4194310 := by omega
        clear hj hp hd hbt HN hm
        go_wp2
        go_roundw
        case rel => exact ⟨k + 1, m, by omega, rfl, by go_num, HN2, trivial⟩
        case measure => simp [intOf]; omega
    · obtain rfl : k = 4 := by omega
      have HW : Hid (wd s i = n) := Lib.hid HN.out.symm
      clear HN h
      go_wp2
      go_ret
      exact ⟨by rw [HW.out]; rfl, rfl⟩
end Go.Proofs.Ytccpcjbffibkkaa

namespace Go.Proofs.Ytccpcjbffibkkaa
set_option maxRecDepth 50000
open Go.RowKit Ci

theorem RTab.congr {w : World} {b : Nat} {g k : Nat → Nat} (h : RTab w b g) (e : ∀ i, i < 1042 → g i = k i) : RTab w b k := by
  obtain ⟨C, h1, h2⟩ := h
  exact ⟨C, h1, fun i hi => by rw [← e i hi]; exact h2 i hi⟩
/-- a row of 1,042 words that the call owns -/
theorem RTab.own {w : World} {B b c : Nat} {xs : List Nat} {g : Nat → Nat} (h : w.ownsRow B 52 1 (.slice (some ⟨b, 0, none⟩) 1042 c) 1042 (u32s xs)) (hx : ∀ i, (hi : i < 1042) → xs[i]? = some (g i)) : RTab w b g := by
  obtain ⟨hl, h⟩ := h
  rcases h with ⟨h, _⟩ | ⟨g', cap, cur, hv, _, hb, _, _, hcs, hcur⟩
  · simp at h
  · cases hv
    refine ⟨cur, hb, fun i hi => ?_⟩
    have h1 : (u32s xs)[i]? = some (.int .u32 (g i : Int)) := by unfold u32s; rw [List.getElem?_map, hx i hi]; rfl
    rw [← hcur, List.getElem?_take] at h1
    rw [if_pos (by omega)] at h1
    rw [← Array.getElem?_toList]; exact h1
def rkTo (g : Nat → Nat) (key : ByteArray) (k : Nat) : Nat → Nat := fun i => if i < k then keyTo g key 18 i else 0

/-- how the worlds stand in one round -/
def RxW (b d : Nat) (w0 : World) (g : Nat → Nat) (S : Nat → Nat → Nat) (k : Nat) (w : World) : Prop := RTab w d (S k) ∧ Below w0.heap.size w0 w ∧ RTab w b g
theorem RxW.stable {b d : Nat} {w0 w w' : World} {g : Nat → Nat} {S : Nat → Nat → Nat} {k : Nat} (h : RxW b d w0 g S k w) (hb : Below w.heap.size w w') : RxW b d w0 g S k w' :=
  ⟨h.1.below hb h.1.lt, h.2.1.trans (hb.mono h.2.1.size), h.2.2.below hb h.2.2.lt⟩

set_option maxHeartbeats 4000000 in
theorem rexpand_any (w : World) (b c : Nat) (g : Nat → Nat) (hT : RTab w b g) (hg : Ok g) (salt key : ByteArray) (hs : salt.size ≤ 140737488351232) (hk : key.size ≤ 140737488351232) :
    Calls Try.prog 39 #[.slice (some ⟨b, 0, none⟩) 1042 c, .string salt, .string key] w fun e w' => ∃ d, e = .returned (.slice (some ⟨d, 0, none⟩) 1042 1042) ∧ RTab w' d (exB g salt key) ∧ w.heap.size ≤ d ∧ Below w.heap.size w w' := by
  have hbl := hT.lt
  have HT := Lib.hid hT
  have HG := Lib.hid hg
  clear hT hg
  obtain ⟨i0, hi, hz0, hz1, hz2⟩ := info_parts Try.info52
  go_enter Try.func39, Try.ntmps39
  go_wp2_with (at_make; refine wpList_make_full _ rfl _ _ 30 rfl w.heap.size 52 i0 (.int .u32 0) 1 Try.underlying30 hi hz0 hz1 _ _ _ _ 1042 rfl rfl rfl rfl ?c1 ?c2 ?c3 ?_)
  case c1 => simp [hz2]
  case c2 => unfold maxLen; omega
  case c3 => exact Nat.le_refl _
  intro w1 hown1 hg1
  have hb1 : Below w.heap.size w w1 := (Below.refl _ _).grown hg1 (Nat.le_refl _) (by simp)
  rw [made_one] at hown1
  have HR1 : Hid (RTab w1 w.heap.size (rkTo g key 0) ∧ Below w.heap.size w w1) := Lib.hid ⟨RTab.own (xs := List.replicate 1042 0) (by simpa [u32s] using hown1) (fun i hi => by rw [List.getElem?_replicate, if_pos hi]; rfl), hb1⟩
  clear hown1 hg1 hb1
  obtain ⟨d, hd⟩ : ∃ d, d = w.heap.size := ⟨_, rfl⟩
  have HR2 : Hid (RTab w1 d (rkTo g key 0) ∧ Below w.heap.size w w1) := by rw [hd]; exact HR1
  clear HR1
  have HD := Lib.hid hd
  rw [← hd]
  have hdw : b < d := by omega
  have HBD := Lib.hid hdw
  clear hd hdw hi hz0 hz1 hz2
  go_wp2
  go_loopw [8] (fun v8 wr => ∃ k : Nat, k ≤ 1042 ∧ v8 = .int .i64 (k : Int) ∧ Hid (RTab wr d (rkTo g key k) ∧ Below w.heap.size w wr)) (fun v _ => 1042 - (intOf v).toNat)
  case atStart => exact ⟨0, by omega, rfl, HR2⟩
  case round =>
    obtain ⟨k, hk2, rfl, HS⟩ := hrel
    by_cases h : k < 1042
    · have hkI : (k : Int) < 1042 := by omega
      obtain ⟨x, hx⟩ : ∃ x, x = g k := ⟨_, rfl⟩
      have hxb : x < 4294967296 := by rw [hx]; exact HG.out k h
      have HTr : Hid (RTab wr b g) := Lib.hid (HT.out.below HS.out.2 hbl)
      have cT := HTr.out.cell k h
      rw [← hx] at cT
      have cD := HS.out.1.cell k h
      have fD := HS.out.1.free k
      obtain ⟨o, ho⟩ : ∃ o, o = rkTo g key k k := ⟨_, rfl⟩
      rw [← ho] at cD
      clear ho
      obtain ⟨G, hG⟩ : ∃ G, G = rkTo g key k := ⟨_, rfl⟩
      rw [← hG] at HS
      have HD1 : Hid (RTab (wr.setCell ⟨d, k, none⟩ (.int .u32 (x : Int))) d (upd G k x) ∧ Below w.heap.size w (wr.setCell ⟨d, k, none⟩ (.int .u32 (x : Int))) ∧ RTab (wr.setCell ⟨d, k, none⟩ (.int .u32 (x : Int))) b g) :=
        Lib.hid ⟨HS.out.1.set k x, HS.out.2.setCell (by rw [HD.out]; exact Nat.le_refl _) _, HTr.out.below (Below.setCell (p := ⟨d, k, none⟩) (Below.refl d wr) (Nat.le_refl _) _) HBD.out⟩
      by_cases h18 : k < 18
      · have hk18 : (k : Int) < 18 := by omega
        obtain ⟨y, hy⟩ : ∃ y, y = wd key k := ⟨_, rfl⟩
        have hyb : y < 4294967296 := by rw [hy]; exact wd_lt _ _
        have hxy := u32_xor_nat x y hxb hyb
        obtain ⟨z, hz⟩ : ∃ z, z = x ^^^ y := ⟨_, rfl⟩
        rw [← hz] at hxy
        have HC := Lib.hid (fun w1 : World => rword_any w1 key hk k (by omega))
        rw [← hy] at HC
        have HN : Hid (∀ i, i < 1042 → upd (upd G k x) k z i = rkTo g key (k + 1) i) := Lib.hid (fun i hi => by
          rw [hG]
          unfold upd rkTo
          by_cases e : i = k
          · subst e
            rw [if_pos rfl, if_pos (by omega), keyTo_at, if_pos h18, hz, hx, hy]
          · rw [if_neg e, if_neg e]
            by_cases e2 : i < k
            · rw [if_pos e2, if_pos (by omega)]
            · rw [if_neg e2, if_neg (by omega)])
        have HX : Hid (g k = x) := Lib.hid hx.symm
        clear hx hy hz hG
        go_wp2
        obtain ⟨wa, hwa⟩ : ∃ wa, wa = wr.setCell ⟨d, k, none⟩ (.int .u32 (x : Int)) := ⟨_, rfl⟩
        rw [← hwa] at HD1 ⊢
        clear hwa cT cD fD HS HTr
        refine wp_region_seq [11] [.slice (some ⟨d, 0, none⟩) 1042 1042, .int .i64 (k : Int), .slice (some ⟨b, 0, none⟩) 1042 c, .int .i64 (k : Int), .pointer (some ⟨b, k, none⟩), .int .u32 (x : Int), .string key, .int .i64 (k : Int), .int .u32 (y : Int), .int .u32 (z : Int), .pointer (some ⟨d, k, none⟩), undef] (RxW b d w g fun t => if t = 0 then upd G k x else upd (upd G k x) k z) (by kernel_rfl) (by kernel_rfl) rfl ?_ ⟨?_, ?_, ?_, ?_, ?_, ?_, ?_, ?_, ?_, ?_, ?_, ?_, trivial⟩ ?_
        · exact ⟨HD1.out.1.drewN 1, below_drewN HD1.out.2.1 1, HD1.out.2.2.drewN 1⟩
        · exact seq_head (by kernel_rfl) (fun _ _ h hb => h.stable hb) fun a w2 C hW => op_move (.inl rfl) (C.was 7 (by kernel_rfl))
        · exact seq_head (by kernel_rfl) (fun _ _ h hb => h.stable hb) fun a w2 C hW => op_move (.inl rfl) (C.was 8 (by kernel_rfl))
        · exact seq_head (by kernel_rfl) (fun _ _ h hb => h.stable hb) fun a w2 C hW => op_move (.inl rfl) (C.was 0 (by kernel_rfl))
        · exact seq_head (by kernel_rfl) (fun _ _ h hb => h.stable hb) fun a w2 C hW => op_move (.inl rfl) (C.was 8 (by kernel_rfl))
        · exact seq_head (by kernel_rfl) (fun _ _ h hb => h.stable hb) fun a w2 C hW => op_value (v := .pointer (some ⟨b, k, none⟩)) (by rw [show (⟨b, k, none⟩ : Addr) = ⟨b, 0 + k, none⟩ by rw [Nat.zero_add]]; exact ixt_run rfl (C.on (j := 2) (by kernel_rfl) rfl rfl) (C.on (j := 3) (by kernel_rfl) rfl rfl) h) rfl
        · exact seq_head (by kernel_rfl) (fun _ _ h hb => h.stable hb) fun a w2 C hW => op_value (ldu_run rfl (C.on (j := 4) (by kernel_rfl) rfl rfl) ((hW.2.2.cell k h).trans (by rw [HX.out]; rfl))) rfl
        · exact seq_head (by kernel_rfl) (fun _ _ h hb => h.stable hb) fun a w2 C hW => op_move (.inl rfl) (C.was 2 (by kernel_rfl))
        · exact seq_head (by kernel_rfl) (fun _ _ h hb => h.stable hb) fun a w2 C hW => op_move (.inl rfl) (C.was 8 (by kernel_rfl))
        · exact seq_head (by kernel_rfl) (fun _ _ h hb => h.stable hb) fun a w2 C hW => op_call2 rfl (reg_enters Try.func49 (by kernel_rfl) (by kernel_rfl)) (C.on (j := 6) (by kernel_rfl) rfl rfl) (C.on (j := 7) (by kernel_rfl) rfl rfl) ((HC.out w2).mono fun e w' ⟨e1, e2⟩ => ⟨_, e1, rfl, e2 ▸ Below.refl _ _⟩)
        · exact seq_head (by kernel_rfl) (fun _ _ h hb => h.stable hb) fun a w2 C hW => op_bin rfl (C.on (j := 5) (by kernel_rfl) rfl rfl) (C.on (j := 8) (by kernel_rfl) rfl rfl) rfl (by simp [go_sem, hxy]) rfl
        · exact seq_head (by kernel_rfl) (fun _ _ h hb => h.stable hb) fun a w2 C hW => op_value (v := .pointer (some ⟨d, k, none⟩)) (by rw [show (⟨d, k, none⟩ : Addr) = ⟨d, 0 + k, none⟩ by rw [Nat.zero_add]]; exact ixt_run rfl (C.on (j := 0) (by kernel_rfl) rfl rfl) (C.on (j := 1) (by kernel_rfl) rfl rfl) h) rfl
        · exact seq_turn 0 (by kernel_rfl) fun a w2 C hW => st_does rfl (C.on (j := 10) (by kernel_rfl) rfl rfl) (C.on (j := 9) (by kernel_rfl) rfl rfl) (hW.1.cell k h) (hW.1.free k) ⟨hW.1.set k z, hW.2.1.setCell (by rw [HD.out]; exact Nat.le_refl _) _, hW.2.2.below (Below.setCell (p := ⟨d, k, none⟩) (Below.refl d w2) (Nat.le_refl _) _) HBD.out⟩
        intro wu hz
        have HZ : Hid (RTab wu d (upd (upd G k x) k z) ∧ Below w.heap.size w wu) := Lib.hid ⟨hz.1, hz.2.1⟩
        clear hz HD1
        simp only [setAll, setAt, List.setIfInBounds_toArray, List.set_cons_succ, List.set_cons_zero]
        go_wp2
        go_roundw
        case rel => exact ⟨k + 1, by omega, by go_num, Lib.hid ⟨HZ.out.1.congr HN.out, HZ.out.2⟩⟩
        case measure => simp [intOf]; omega
      · have hk18 : (18 : Int) ≤ (k : Int) := by omega
        have HN : Hid (∀ i, i < 1042 → upd G k x i = rkTo g key (k + 1) i) := Lib.hid (fun i hi => by
          rw [hG]
          unfold upd rkTo
          by_cases e : i = k
          · subst e
            rw [if_pos rfl, if_pos (by omega), keyTo_at, if_neg h18, hx]
          · rw [if_neg e]
            by_cases e2 : i < k
            · rw [if_pos e2, if_pos (by omega)]
            · rw [if_neg e2, if_neg (by omega)])
        clear hx hG
        go_wp2
        go_roundw
        case rel => exact ⟨k + 1, by omega, by go_num, Lib.hid ⟨HD1.out.1.congr HN.out, HD1.out.2.1⟩⟩
        case measure => simp [intOf]; omega
    · obtain rfl : k = 1042 := by omega
      have HK : Hid (RTab wr d (keyTo g key 18) ∧ Below w.heap.size w wr) := Lib.hid ⟨HS.out.1.congr fun i hi => by unfold rkTo; rw [if_pos hi], HS.out.2⟩
      have HGE : Hid (exB g salt key = (chTo salt (keyTo g key 18) 521).g) := Lib.hid rfl
      have hok : Ok (keyTo g key 18) := keyTo_ok key HG.out 18
      generalize keyTo g key 18 = G at *
      have HGO := Lib.hid hok
      clear HS HR2 hok
      rw [show ((1042 : Nat) : Int) = 1042 from rfl]
      go_wp2
      go_loopw [9, 10, 11] (fun v9 v10 v11 wx => ∃ m i l r : Nat, m ≤ 521 ∧ Hid (i = 2 * m) ∧ v11 = .int .i64 (i : Int) ∧ v9 = .int .u32 (l : Int) ∧ v10 = .int .u32 (r : Int) ∧ Hid (l = (chTo salt G m).l ∧ r = (chTo salt G m).r) ∧ Hid (RTab wx d (chTo salt G m).g ∧ Below w.heap.size w wx)) (fun _ _ v _ => 1042 - (intOf v).toNat)
      case atStart => exact ⟨0, 0, 0, 0, by omega, Lib.hid rfl, rfl, rfl, rfl, Lib.hid ⟨rfl, rfl⟩, HK⟩
      case round =>
        obtain ⟨m, i, l, r, hm, HI, rfl, rfl, rfl, HLR, HS⟩ := hrel
        by_cases h2 : m < 521
        · have hin : i + 1 < 1042 := by have := HI.out; omega
          obtain ⟨G1, hG1⟩ : ∃ G1, G1 = (chTo salt G m).g := ⟨_, rfl⟩
          obtain ⟨hok1, hok2, hok3⟩ := chTo_ok salt G HGO.out m
          rw [← hG1] at hok1 HS
          rw [← HLR.out.1] at hok2
          rw [← HLR.out.2] at hok3
          obtain ⟨x, hx⟩ : ∃ x, x = wd salt i := ⟨_, rfl⟩
          obtain ⟨i1, hi1⟩ : ∃ i1, i1 = i + 1 := ⟨_, rfl⟩
          have hi1I : (i : Int) + 1 = (i1 : Int) := by omega
          have hi1b : i1 < 1042 := by omega
          have hi1I2 : (i1 : Int) < 1042 := by omega
          have hib : (i : Int) < 1042 := by omega
          obtain ⟨y, hy⟩ : ∃ y, y = wd salt i1 := ⟨_, rfl⟩
          have hxb : x < 4294967296 := by rw [hx]; exact wd_lt _ _
          have hyb : y < 4294967296 := by rw [hy]; exact wd_lt _ _
          have hlx := u32_xor_nat l x hok2 hxb
          have hry := u32_xor_nat r y hok3 hyb
          obtain ⟨l1, hl1⟩ : ∃ l1, l1 = l ^^^ x := ⟨_, rfl⟩
          obtain ⟨r1, hr1⟩ : ∃ r1, r1 = r ^^^ y := ⟨_, rfl⟩
          have hl1b : l1 < 4294967296 := by rw [hl1]; exact xor_lt _ _ hok2 hxb
          have hr1b : r1 < 4294967296 := by rw [hr1]; exact xor_lt _ _ hok3 hyb
          rw [← hl1] at hlx
          rw [← hr1] at hry
          obtain ⟨a, ha⟩ : ∃ a, a = enL G1 l1 r1 := ⟨_, rfl⟩
          obtain ⟨a2, ha2⟩ : ∃ a2, a2 = enR G1 l1 r1 := ⟨_, rfl⟩
          have HST : Hid ((chTo salt G (m + 1)) = ⟨upd (upd G1 i a) i1 a2, a, a2⟩) := Lib.hid (by
            show stp salt (chTo salt G m) m = _
            unfold stp
            rw [← hG1, ← HLR.out.1, ← HLR.out.2, ← HI.out, ← hi1, ← hx, ← hy, ← hl1, ← hr1, ← ha, ← ha2])
          have HC1 := Lib.hid (fun w1 : World => rword_any w1 salt hs i (by omega))
          have HC2 := Lib.hid (fun w1 : World => rword_any w1 salt hs i1 (by omega))
          rw [← hx] at HC1
          rw [← hy] at HC2
          have HE := Lib.hid (by
            have h := renc_any wr d 1042 G1 HS.out.1 hok1 l1 r1 hl1b hr1b
            rw [show crL (fB G1) G1 l1 r1 = a from ha.symm, show crR (fB G1) G1 l1 r1 = a2 from ha2.symm] at h
            exact h)
          have cA := HS.out.1.cell i (by omega)
          have fA := HS.out.1.free i
          have hR2 : ∀ q, RTab ((wr.drewN q).setCell ⟨d, i, none⟩ (.int .u32 (a : Int))) d (upd G1 i a) := fun q => RTab.set (w := wr.drewN q) HS.out.1 i a
          have cB := fun q => (hR2 q).cell i1 (by omega)
          have fB' := fun q => (hR2 q).free i1
          have HI1 := Lib.hid hi1
          have HI2 := Lib.hid (And.intro hi1b hin)
          generalize hob : G1 i = o1 at cA
          have hob2 : ∃ o2, o2 = upd G1 i a i1 := ⟨_, rfl⟩
          obtain ⟨o2, ho2⟩ := hob2
          rw [← ho2] at cB
          have HR3 := Lib.hid hR2
          clear hG1 hx hy hi1 hl1 hr1 ha ha2 hok1 hob ho2 hR2
          go_wp2_with fail
          refine (HC1.out wr).mono ?_
          rintro e w1 ⟨rfl, rfl⟩
          go_wp2_with fail
          refine (HC2.out w1).mono ?_
          rintro e w2 ⟨rfl, rfl⟩
          go_wp2_with fail
          refine HE.out.mono ?_
          rintro e w3 ⟨rfl, q, rfl⟩
          have cB1 := cB q
          have fB1 := fB' q
          clear cB fB'
          go_wp2
          go_roundw
          case rel =>
            refine ⟨m + 1, i + 2, a, a2, by omega, Lib.hid (by have := HI.out; omega), by have := HI1.out; go_num, rfl, rfl, Lib.hid (by rw [HST.out]; exact ⟨rfl, rfl⟩), Lib.hid ⟨by rw [HST.out]; exact (HR3.out q).set i1 a2, ?_⟩⟩
            exact ((below_drewN HS.out.2 q).setCell (p := ⟨d, i, none⟩) (by rw [HD.out]; exact Nat.le_refl _) _).setCell (p := ⟨d, i1, none⟩) (by rw [HD.out]; exact Nat.le_refl _) _
          case measure => have := HI1.out; simp [intOf]; omega
        · obtain rfl : m = 521 := by omega
          obtain rfl : i = 1042 := HI.out
          rw [show ((1042 : Nat) : Int) = 1042 from rfl]
          go_wp2
          go_ret
          exact ⟨d, rfl, by rw [HGE.out]; exact HS.out.1, by rw [HD.out]; exact Nat.le_refl _, HS.out.2⟩
end Go.Proofs.Ytccpcjbffibkkaa

namespace Go.Proofs.Ytccpcjbffibkkaa
set_option maxRecDepth 50000
open Go.RowKit Ci

theorem enc_of (w : World) (b : Nat) (g : Nat → Nat) (hT : Tab w b 91 g) (hg : Ok g) (l r : Nat) (hl : l < 4294967296) (hr : r < 4294967296) :
    Calls Try.prog 48 #[.pointer (some ⟨b, 0, none⟩), .int .u32 (l : Int), .int .u32 (r : Int)] w fun e w' => e = .returned (.tuple #[.int .u32 (enL g l r : Int), .int .u32 (enR g l r : Int)]) ∧ ∃ q, w' = w.drewN q := enc_any w b g hT hg l r hl hr
theorem renc_of (w : World) (b c : Nat) (g : Nat → Nat) (hT : RTab w b g) (hg : Ok g) (l r : Nat) (hl : l < 4294967296) (hr : r < 4294967296) :
    Calls Try.prog 40 #[.slice (some ⟨b, 0, none⟩) 1042 c, .int .u32 (l : Int), .int .u32 (r : Int)] w fun e w' => e = .returned (.tuple #[.int .u32 (enL g l r : Int), .int .u32 (enR g l r : Int)]) ∧ ∃ q, w' = w.drewN q := renc_any w b c g hT hg l r hl hr
theorem zeros8 : ∀ i, bt (tx (List.replicate 8 0)) i = 0 := fun i => by
  by_cases h : i < 8
  · exact (by decide +kernel : ∀ i : _root_.Fin 8, bt (tx (List.replicate 8 0)) i = 0) ⟨i, h⟩
  · unfold bt
    rw [dif_neg (by rw [tx_size]; simpa using h)]

theorem rplain_any (w : World) : Calls Try.prog 11 #[] w fun e w' => ∃ d c, e = .returned (.slice (some ⟨d, 0, none⟩) 1042 c) ∧ RTab w' d wordN ∧ w.heap.size ≤ d ∧ Below w.heap.size w w' := by
  have HW := Lib.hid (wordsOk 0 1042 (by decide) w)
  go_enter Try.func11, Try.ntmps11
  go_wp2_with fail
  refine HW.out.mono ?_
  rintro e w1 ⟨v, rfl, hown, hb1⟩
  obtain ⟨A, c, rfl, hnl, hpos, _⟩ := own_form hown
  clear hnl
  obtain ⟨gb, rfl, hgb⟩ := hpos (by decide)
  have HF : Hid (RTab w1 gb wordN ∧ w.heap.size ≤ gb ∧ Below w.heap.size w w1) := Lib.hid ⟨RTab.own hown (fun i hi => by rw [List.getElem?_eq_getElem (by rw [wordsL_length]; exact hi), wordsL_at 0 i 1042 hi, Nat.zero_add]), hgb, hb1⟩
  clear hown hb1 hgb
  go_wp2
  go_ret
  exact ⟨gb, c, rfl, HF.out⟩

end Go.Proofs.Ytccpcjbffibkkaa

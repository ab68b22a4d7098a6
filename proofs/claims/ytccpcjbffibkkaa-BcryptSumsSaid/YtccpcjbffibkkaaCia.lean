/- The words in memory: a block of 1,042 words. No condition but those typed. f, Encrypt, Decrypt of package cipher by their contracts. Conditions: those typed. around of package cipher by its contract: the words of a text, one a call. Conditions: those typed. each of package cipher by its contract: whatever is handed each part, in order. Conditions: those typed. Operations on a Cipher in memory, one by one, as they stand in a statement whose order is open. Conditions: those typed. -/
import Derived.Test.YtccpcjbffibkkaaArr
import Derived.Test.YtccpcjbffibkkaaLaid
import Derived.Test.YtccpcjbffibkkaaCp
import Derived.Lib.Hide
import Derived.Deep.LoopGhost
import Derived.WalkMore
import Derived.Laws.BitsAllLaws
import Derived.BigQuiet
import Derived.Test.YtccpcjbffibkkaaFh
import Derived.Laws.EntriesVeiled
import Derived.Test.YtccpcjbffibkkaaGen
import Derived.Test.YtccpcjbffibkkaaKit
namespace Go.Proofs.Ytccpcjbffibkkaa
set_option maxRecDepth 50000
open Go.RowKit Ci

def ta (g : Nat → Nat) : Array Value := ((List.range 1042).map fun i => Value.int .u32 (g i : Int)).toArray
theorem ta_size (g : Nat → Nat) : (ta g).size = 1042 := by simp [ta]
theorem ta_at (g : Nat → Nat) (i : Nat) (h : i < 1042) : (ta g)[i]? = some (.int .u32 (g i : Int)) := by simp [ta, h]
theorem ta_set (g : Nat → Nat) (i v : Nat) (_h : i < 1042) : (ta g).setIfInBounds i (.int .u32 (v : Int)) = ta (upd g i v) := by
  apply Array.ext
  · simp [ta]
  · intro j h1 h2
    simp [ta_size] at h1
    have a1 : (ta (upd g i v))[j]? = some (.int .u32 (upd g i v j : Int)) := ta_at _ j h1
    rw [Array.getElem?_eq_getElem h2] at a1
    injection a1 with a1
    rw [a1, Array.getElem_setIfInBounds (by rw [ta_size]; exact h1)]
    unfold upd
    by_cases hj : i = j
    · subst hj; simp
    · rw [if_neg hj, if_neg (Ne.symm hj)]
      have a2 := ta_at g j h1
      rw [Array.getElem?_eq_getElem (by rw [ta_size]; exact h1)] at a2
      injection a2
theorem ta_congr (g h : Nat → Nat) (e : ∀ i, i < 1042 → g i = h i) : ta g = ta h := by
  unfold ta
  congr 1
  apply List.map_congr_left
  intro i hi
  rw [e i (by simpa using hi)]
theorem ta_one (g : Nat → Nat) : (ta g).all (·.oneCell') = true := by
  rw [Array.all_eq_true]
  intro i h
  have a := ta_at g i (by rw [ta_size] at h; exact h)
  rw [Array.getElem?_eq_getElem h] at a
  injection a with a
  rw [a]; rfl
/-- block b holds the words g -/
def Tab (w : World) (b : Nat) (t : TypeId) (g : Nat → Nat) : Prop := RowAt w b t (ta g)
theorem Tab.cell {w : World} {b : Nat} {t : TypeId} {g : Nat → Nat} (h : Tab w b t g) (i : Nat) (hi : i < 1042) : w.cell? ⟨b, i, none⟩ = some (.int .u32 (g i : Int)) := by rw [RowAt.cell h, ta_at g i hi]
theorem Tab.free {w : World} {b : Nat} {t : TypeId} {g : Nat → Nat} (h : Tab w b t g) (i : Nat) : w.frozen? ⟨b, i, none⟩ = false := RowAt.frozen h i
theorem Tab.lt {w : World} {b : Nat} {t : TypeId} {g : Nat → Nat} (h : Tab w b t g) : b < w.heap.size := RowAt.lt h
theorem Tab.set {w : World} {b : Nat} {t : TypeId} {g : Nat → Nat} (h : Tab w b t g) (i v : Nat) (hi : i < 1042) : Tab (w.setCell ⟨b, i, none⟩ (.int .u32 (v : Int))) b t (upd g i v) := by
  unfold Tab; rw [← ta_set g i v hi]; exact RowAt.setCell h i _
theorem Tab.drewN {w : World} {b : Nat} {t : TypeId} {g : Nat → Nat} (h : Tab w b t g) (k : Nat) : Tab (w.drewN k) b t g := h
theorem Tab.below {w w' : World} {b B : Nat} {t : TypeId} {g : Nat → Nat} (h : Tab w b t g) (hb : Below B w w') (hB : b < B) : Tab w' b t g := RowAt.below h hb hB
theorem Tab.alloc {w : World} {b : Nat} {t : TypeId} {g : Nat → Nat} (h : Tab w b t g) (o : Obj) : Tab (w.alloc o) b t g := RowAt.alloc h o
end Go.Proofs.Ytccpcjbffibkkaa

namespace Go.Proofs.Ytccpcjbffibkkaa
set_option maxRecDepth 50000
open Go.RowKit Ci

set_option maxHeartbeats 1600000 in
theorem f_any (w : World) (b : Nat) (g : Nat → Nat) (hT : Tab w b 91 g) (hg : Ok g) (x : Nat) (hx : x < 4294967296) :
    Calls Try.prog 55 #[.pointer (some ⟨b, 0, none⟩), .int .u32 (x : Int)] w fun e w' => e = .returned (.int .u32 (fB g x : Int)) ∧ ∃ q, w' = w.drewN q := by
  obtain ⟨x1, e1⟩ : ∃ y, y = x / 16777216 := ⟨_, rfl⟩
  obtain ⟨x2, e2⟩ : ∃ y, y = x / 65536 % 256 := ⟨_, rfl⟩
  obtain ⟨x3, e3⟩ : ∃ y, y = x / 256 % 256 := ⟨_, rfl⟩
  obtain ⟨x4, e4⟩ : ∃ y, y = x % 256 := ⟨_, rfl⟩
  have i1 : x1 < 256 := by omega
  have i2 : x2 < 256 := by omega
  have i3 : x3 < 256 := by omega
  have i4 : x4 < 256 := by omega
  have c1 := hT.cell (18 + x1) (by omega)
  have c2 := hT.cell (274 + x2) (by omega)
  have c3 := hT.cell (530 + x3) (by omega)
  have c4 := hT.cell (786 + x4) (by omega)
  have b1 := hg (18 + x1) (by omega)
  have b2 := hg (274 + x2) (by omega)
  have b3 := hg (530 + x3) (by omega)
  have b4 := hg (786 + x4) (by omega)
  have hf : fB g x = ((((g (18 + x1) + g (274 + x2)) % 4294967296) ^^^ g (530 + x3)) + g (786 + x4)) % 4294967296 := by rw [e1, e2, e3, e4]; rfl
  rw [hf]
  generalize g (18 + x1) = g1 at *
  generalize g (274 + x2) = g2 at *
  generalize g (530 + x3) = g3 at *
  generalize g (786 + x4) = g4 at *
  have d1 : ((x : Int) / 16777216) = (x1 : Int) := by omega
  have d1' : IntKind.u8.wrap (x1 : Int) = (x1 : Int) := by simp [IntKind.wrap, IntKind.bits, IntKind.signed]; omega
  have d2 : IntKind.u8.wrap ((x : Int) / 65536) = (x2 : Int) := by simp [IntKind.wrap, IntKind.bits, IntKind.signed]; omega
  have d3 : IntKind.u8.wrap ((x : Int) / 256) = (x3 : Int) := by simp [IntKind.wrap, IntKind.bits, IntKind.signed]; omega
  have d4 : IntKind.u8.wrap (x : Int) = (x4 : Int) := by simp [IntKind.wrap, IntKind.bits, IntKind.signed]; omega
  clear hf e1 e2 e3 e4
  have ex : bits .xor .u32 (((g1 : Int) + (g2 : Int)) % 4294967296) (g3 : Int) = (((g1 + g2) % 4294967296 ^^^ g3 : Nat) : Int) := by
    rw [show (((g1 : Int) + (g2 : Int)) % 4294967296) = (((g1 + g2) % 4294967296 : Nat) : Int) by omega, u32_xor_nat _ _ (by omega) b3]
  go_enter Try.func55, Try.ntmps55
  go_wp2
  go_quiet (fail)
  go_wp2
  go_quiet (fail)
  go_wp2
  go_ret
  exact ⟨by simp, _, World.drewN_drewN _ _ _⟩

set_option maxHeartbeats 1600000 in
theorem enc_any (w : World) (b : Nat) (g : Nat → Nat) (hT : Tab w b 91 g) (hg : Ok g) (l r : Nat) (hl : l < 4294967296) (hr : r < 4294967296) :
    Calls Try.prog 48 #[.pointer (some ⟨b, 0, none⟩), .int .u32 (l : Int), .int .u32 (r : Int)] w fun e w' => e = .returned (.tuple #[.int .u32 (crL (fB g) g l r : Int), .int .u32 (crR (fB g) g l r : Int)]) ∧ ∃ q, w' = w.drewN q := by
  have hq : ∀ i, i < 18 → g i < 4294967296 := fun i hi => hg i (by omega)
  have HT := Lib.hid hT
  clear hT
  go_enter Try.func48, Try.ntmps48
  go_wp2
  go_loopw [1, 2, 11] (fun v1 v2 v11 wr => ∃ k x y : Nat, k ≤ 16 ∧ v11 = .int .i64 (k : Int) ∧ v1 = .int .u32 (x : Int) ∧ v2 = .int .u32 (y : Int) ∧ Hid (rnd (fB g) g l r k = (x, y)) ∧ x < 4294967296 ∧ y < 4294967296 ∧ ∃ q, wr = w.drewN q)
    (fun _ _ v _ => 16 - (intOf v).toNat)
  case atStart => exact ⟨0, l, r, by omega, by simp, rfl, rfl, Lib.hid rfl, hl, hr, 0, rfl⟩
  case round =>
    obtain ⟨k, x, y, hk, rfl, rfl, rfl, HR, hx, hy, q, rfl⟩ := hrel
    by_cases h : k < 16
    · have hkI : (k : Int) < 16 := by omega
      have hc := HT.out.cell k (by omega)
      obtain ⟨p, hp⟩ : ∃ p, p = g k := ⟨_, rfl⟩
      rw [← hp] at hc
      have hpq : g k = p := by rw [hp]
      have hpb : p < 4294967296 := by rw [← hpq]; exact hq k (by omega)
      have hx1 := u32_xor_nat x p hx hpb
      obtain ⟨x', hx'⟩ : ∃ x', x' = x ^^^ p := ⟨_, rfl⟩
      rw [← hx'] at hx1
      have hxb : x' < 4294967296 := by rw [hx']; exact xor_lt _ _ hx hpb
      have C := Lib.hid (f_any (w.drewN q) b g (HT.out.drewN q) hg x' hxb)
      obtain ⟨z, hz⟩ : ∃ z, z = fB g x' := ⟨_, rfl⟩
      have hzb : z < 4294967296 := by rw [hz]; exact fB_lt g x'
      rw [← hz] at C
      have hy1 := u32_xor_nat y z hy hzb
      obtain ⟨y', hy'⟩ : ∃ y', y' = y ^^^ z := ⟨_, rfl⟩
      rw [← hy'] at hy1
      have hyb : y' < 4294967296 := by rw [hy']; exact xor_lt _ _ hy hzb
      have HN : Hid (rnd (fB g) g l r (k + 1) = (y', x')) := Lib.hid (by simp only [rnd, HR.out, hpq]; rw [← hx', ← hz, ← hy'])
      clear hx' hy' hz hpq hp HR
      go_wp2_with fail
      refine C.out.mono ?_
      rintro e w1 ⟨rfl, q2, rfl⟩
      go_wp2
      go_roundw
      case rel => exact ⟨k + 1, y', x', by omega, by go_num, rfl, rfl, HN, hyb, hxb, _, rfl⟩
      case measure => simp [intOf]; omega
    · obtain rfl : k = 16 := by omega
      have h16 := HT.out.cell 16 (by omega)
      have h17 := HT.out.cell 17 (by omega)
      have hL : crL (fB g) g l r = y ^^^ g 17 := by unfold crL; rw [HR.out]
      have hR : crR (fB g) g l r = x ^^^ g 16 := by unfold crR; rw [HR.out]
      have HL := Lib.hid hL
      have HR2 := Lib.hid hR
      have ex := u32_xor_nat x (g 16) hx (hg 16 (by omega))
      have ey := u32_xor_nat y (g 17) hy (hg 17 (by omega))
      generalize g 16 = g16 at *
      generalize g 17 = g17 at *
      clear hL hR HR h
      first | rw [show (17 : Int) - ((16 : Nat) : Int) = 1 from rfl] | rw [show ((16 : Nat) : Int) = 16 from rfl]
      go_wp2
      go_quiet (fail)
      go_wp2
      go_ret2
      exact ⟨by rw [HL.out, HR2.out]; rfl, _, by first | rfl | exact World.drewN_drewN _ _ _⟩

end Go.Proofs.Ytccpcjbffibkkaa

namespace Go.Proofs.Ytccpcjbffibkkaa
set_option maxRecDepth 50000
open Go.RowKit Ci

/-- a text in block T, and in block P where its word i begins -/
structure NextIs (w : World) (T P : Nat) (s : ByteArray) (i : Nat) : Prop where
  text : RowAt w T 9 #[.string s]
  place : ∃ p : Nat, RowAt w P 3 #[.int .i64 (p : Int)] ∧ (0 < s.size → p = 4 * i % s.size)
theorem NextIs.kept {w w' : World} {T P : Nat} {s : ByteArray} {i : Nat} {M : Nat → Prop} (h : NextIs w T P s i) (hk : Kept M w w') (hT : ¬ M T) (hP : ¬ M P) : NextIs w' T P s i := by
  obtain ⟨p, h1, h2⟩ := h.place
  exact ⟨(hk.block T h.text.lt hT).trans h.text, p, (hk.block P h1.lt hP).trans h1, h2⟩
theorem NextIs.lt {w : World} {T P : Nat} {s : ByteArray} {i : Nat} (h : NextIs w T P s i) : T < w.heap.size ∧ P < w.heap.size := by
  obtain ⟨p, h1, _⟩ := h.place
  exact ⟨h.text.lt, h1.lt⟩
theorem NextIs.ne {w : World} {T P : Nat} {s : ByteArray} {i : Nat} (h : NextIs w T P s i) : T ≠ P := by
  obtain ⟨p, h1, _⟩ := h.place
  intro e
  subst e
  have := h.text.symm.trans h1
  simp at this
/-- one byte more behind a word's bytes -/
theorem shl8_or (a d : Nat) (ha : a < 16777216) (hd : d < 256) : bits .or .u32 ((a : Int) * 256) (d : Int) = ((a * 256 + d : Nat) : Int) := by
  have e : (a : Int) * 256 = ((256 * a : Nat) : Int) := by omega
  have e2 : a * 256 + d = 256 * a + d := by omega
  rw [e2, e, u32_or_nat _ _ (by omega) (by omega), show (256 : Nat) * a = 2 ^ 8 * a from rfl, Nat.two_pow_add_eq_or_of_lt (show d < 2 ^ 8 from hd)]
theorem text_none (s : ByteArray) (h : s.size = 0) : s.toList = [] ∧ s.toList.isEmpty = true ∧ (s.toList == []) = true := by
  have hke : s = ⟨#[]⟩ := by
    apply tl_inj
    have := tl_length s
    rw [h] at this
    exact List.eq_nil_of_length_eq_zero this
  have e : s.toList = [] := by rw [hke, ByteArray.toList_eq]
  exact ⟨e, by rw [e]; rfl, by rw [e]; rfl⟩
theorem text_some (s : ByteArray) (h : s.size ≠ 0) : s.toList ≠ [] ∧ s.toList.isEmpty = false ∧ (s.toList == []) = false := by
  have hne : s.toList = [] → False := fun e => by
    have := congrArg List.length e
    rw [ByteArray.toList_eq] at this
    have e2 := tl_length s
    unfold tl at e2
    simp [e2] at this
    exact h (by simpa using this)
  refine ⟨hne, ?_, ?_⟩
  · cases hc : s.toList with
    | nil => exact (hne hc).elim
    | cons _ _ => rfl
  · cases hc : s.toList with
    | nil => exact (hne hc).elim
    | cons _ _ => rfl
theorem mod_next (a n p : Nat) (hn : 0 < n) (h : p = a % n) : (a + 1) % n = if p + 1 = n then 0 else p + 1 := by
  subst h
  rw [Nat.add_mod]
  have h1 := Nat.mod_lt a hn
  split
  · rename_i h2
    by_cases h3 : n = 1
    · subst h3; omega
    · rw [Nat.mod_eq_of_lt (show 1 < n by omega), h2, Nat.mod_self]
  · by_cases h3 : n = 1
    · subst h3; omega
    · rw [Nat.mod_eq_of_lt (show 1 < n by omega), Nat.mod_eq_of_lt (by omega)]

theorem row_set {w : World} {b : Nat} {t : TypeId} {u v : Value} (h : RowAt w b t #[u]) : RowAt (w.setCell ⟨b, 0, none⟩ v) b t #[v] := h.setCell 0 v

set_option maxHeartbeats 1600000 in
theorem next_any (w : World) (T P : Nat) (s : ByteArray) (i : Nat) (hs : s.size ≤ 140737488351232) (h : NextIs w T P s i) :
    Calls Try.prog 54 #[.pointer (some ⟨T, 0, none⟩), .pointer (some ⟨P, 0, none⟩)] w fun e w' => e = .returned (.int .u32 (wd s i : Int)) ∧ NextIs w' T P s (i + 1) ∧ Kept (fun b => b = P) w w' := by
  have hne := h.ne
  obtain ⟨HT, p0, HP, hp0⟩ := h
  by_cases h0 : s.size = 0
  · have cT : w.cell? ⟨T, 0, none⟩ = some (.string s) := by rw [HT.cell 0]; rfl
    obtain ⟨hsemp, hse2, hse⟩ := text_none s h0
    have hw : wd s i = 0 := wdTo_none s h0 i 4
    rw [hw]
    have HF := Lib.hid (show NextIs w T P s (i + 1) from ⟨HT, p0, HP, fun h => by omega⟩)
    clear HT HP hp0 h0 hw
    go_enter Try.func54, Try.ntmps54
    go_wp2
    go_ret
    exact ⟨rfl, HF.out, Kept.refl _ _⟩
  · have hpos : 0 < s.size := by omega
    have hp := hp0 hpos
    have cT : w.cell? ⟨T, 0, none⟩ = some (.string s) := by rw [HT.cell 0]; rfl
    obtain ⟨hsz, hsne2, hsne⟩ := text_some s h0
    have KT := Lib.hid HT
    have KP := Lib.hid (show RowAt w P 3 #[.int .i64 (p0 : Int)] from HP)
    have HQ := Lib.hid hp
    clear HT HP hp hp0 h0
    go_enter Try.func54, Try.ntmps54
    go_wp2
    go_loopw [3, 7] (fun v3 v7 wr => ∃ k n p : Nat, k ≤ 4 ∧ v3 = .int .u32 (n : Int) ∧ v7 = .int .i64 (k : Int) ∧ Hid (n = wdTo s i k) ∧ Hid (p = (4 * i + k) % s.size) ∧ Hid (RowAt wr T 9 #[.string s]) ∧ Hid (RowAt wr P 3 #[.int .i64 (p : Int)]) ∧ Hid (Kept (fun b => b = P) w wr)) (fun _ v _ => 4 - (intOf v).toNat)
    case atStart => exact ⟨0, 0, p0, by omega, rfl, rfl, Lib.hid rfl, Lib.hid HQ.out, KT, KP, Lib.hid (Kept.refl _ _)⟩
    case round =>
      obtain ⟨k, n, p, hk, rfl, rfl, HN, HPV, RT, RP, HK⟩ := hrel
      by_cases h : k < 4
      · have hkI : (k : Int) < 4 := by omega
        have hn : n < 16777216 := by
          have := wdTo_lt s i k
          rw [← HN.out] at this
          have e : 256 ^ k ≤ 256 ^ 3 := Nat.pow_le_pow_right (by decide) (by omega)
          omega
        have hpl : p < s.size := by rw [HPV.out]; exact Nat.mod_lt _ hpos
        have c1 : wr.cell? ⟨T, 0, none⟩ = some (.string s) := by rw [RT.out.cell 0]; rfl
        have c2 : wr.cell? ⟨P, 0, none⟩ = some (.int .i64 (p : Int)) := by rw [RP.out.cell 0]; rfl
        have f2 := RP.out.frozen 0
        obtain ⟨d, hd⟩ : ∃ d : Nat, d = (s[p]'hpl).toNat := ⟨_, rfl⟩
        have hdI : ((s[p]'hpl).toNat : Int) = (d : Int) := by rw [hd]
        have hdb : d < 256 := by rw [hd]; exact UInt8.toNat_lt _
        have hbt : bt s p = d := by unfold bt; rw [dif_pos hpl, hd]
        have hor := shl8_or n d hn hdb
        have hsh : (n : Int) * 256 % 4294967296 = (n : Int) * 256 := by omega
        have HN2 : Hid (n * 256 + d = wdTo s i (k + 1)) := Lib.hid (by rw [wdTo, ← HPV.out, ← HN.out, hbt])
        have hmn := mod_next (4 * i + k) s.size p hpos HPV.out
        have hplI : (p : Int) < (s.size : Int) := by omega
        obtain ⟨m, hm⟩ : ∃ m, m = n * 256 + d := ⟨_, rfl⟩
        rw [← hm] at hor HN2
        clear hd hbt HN HPV cT hm
        by_cases he : p + 1 = s.size
        · rw [if_pos he] at hmn
          have heI : (p : Int) + 1 = (s.size : Int) := by omega
          have HM := Lib.hid hmn
          clear hmn he
          go_wp2
          go_roundw
          case rel =>
            have R1 := row_set (v := .int .i64 0) (row_set (v := .int .i64 (s.size : Int)) RP.out)
            exact ⟨k + 1, m, 0, by omega, rfl, by go_num, HN2, Lib.hid (by rw [← Nat.add_assoc]; exact HM.out.symm), Lib.hid ((RT.out.setOther _ (Ne.symm hne) _).setOther _ (Ne.symm hne) _), Lib.hid R1, Lib.hid ((HK.out.set (.inl rfl) _).set (.inl rfl) _)⟩
          case measure => simp [intOf]; omega
        · rw [if_neg he] at hmn
          have heI : ¬ (p : Int) + 1 = (s.size : Int) := by omega
          have HM := Lib.hid hmn
          clear hmn he
          go_wp2
          go_roundw
          case rel =>
            have R1 := row_set (v := .int .i64 ((p : Int) + 1)) RP.out
            exact ⟨k + 1, m, p + 1, by omega, rfl, by go_num, HN2, Lib.hid (by rw [← Nat.add_assoc]; exact HM.out.symm), Lib.hid (RT.out.setOther _ (Ne.symm hne) _), Lib.hid R1, Lib.hid (HK.out.set (.inl rfl) _)⟩
          case measure => simp [intOf]; omega
      · obtain rfl : k = 4 := by omega
        have HW : Hid (wd s i = n) := Lib.hid HN.out.symm
        clear HN h cT
        go_wp2
        go_ret
        exact ⟨by rw [HW.out]; rfl, ⟨RT.out, p, RP.out, fun _ => HPV.out⟩, HK.out⟩

theorem alloc_size (w : World) (o : Obj) : (w.alloc o).heap.size = w.heap.size + 1 := by show (w.heap.push o).size = _; simp
theorem around_any (w : World) (s : ByteArray) : Calls Try.prog 46 #[.string s] w fun e w' => ∃ T P, e = .returned (.func (.func 54) #[] #[.pointer (some ⟨T, 0, none⟩), .pointer (some ⟨P, 0, none⟩)]) ∧ NextIs w' T P s 0 ∧ w.heap.size ≤ T ∧ w.heap.size ≤ P ∧ Below w.heap.size w w' := by
  go_enter Try.func46, Try.ntmps46
  go_wp2
  go_ret
  have h1 : RowAt (w.alloc (.cells #[.string s] 9)) w.heap.size 9 #[.string s] := RowAt.new _ _ _
  have h2 := RowAt.new (w.alloc (.cells #[.string s] 9)) 3 #[.int .i64 0]
  refine ⟨w.heap.size, w.heap.size + 1, rfl, ⟨?_, 0, ?_, fun _ => (Nat.zero_mod _).symm⟩, Nat.le_refl _, Nat.le_succ _, ?_⟩
  · exact h1.alloc _
  · rw [alloc_size] at h2; exact h2
  · exact ((Below.refl _ w).alloc (Nat.le_refl _) _).alloc (by rw [alloc_size]; omega) _
end Go.Proofs.Ytccpcjbffibkkaa

namespace Go.Proofs.Ytccpcjbffibkkaa
set_option maxRecDepth 50000
open Go.RowKit Ci

/-- the parts: where they begin, how many words they have -/
def pOff (k : Nat) : Nat := if k = 0 then 0 else 18 + 256 * (k - 1)
def pLen (k : Nat) : Nat := if k = 0 then 18 else 256

theorem each_any (w : World) (b : Nat) (F : FuncId) (cap : Array Value) (hE : ∀ (args : Array Value) (w : World), (callFunc F args).run Try.prog w = .ok (.enter F args) w) (I : Nat → World → Prop)
    (h0 : I 0 w)
    (hF : ∀ k w', k < 5 → I k w' → Calls Try.prog F (#[.slice (some ⟨b, pOff k, none⟩) (pLen k) (pLen k)] ++ cap) w' fun e w2 => e = .returned (.tuple #[]) ∧ I (k + 1) w2) :
    Calls Try.prog 44 #[.pointer (some ⟨b, 0, none⟩), .func (.func F) #[] cap] w fun e w' => e = .returned (.tuple #[]) ∧ I 5 w' := by
  have C0 := Lib.hid (hF 0 w (by decide) h0)
  have HF := Lib.hid hF
  clear hF
  go_enter Try.func44, Try.ntmps44
  go_wp2_with fail
  refine C0.out.mono ?_
  rintro e w1 ⟨rfl, h1⟩
  go_wp2
  go_loopw [11] (fun v wr => ∃ k : Nat, k ≤ 4 ∧ v = .int .i64 (k : Int) ∧ Hid (I (k + 1) wr)) (fun v _ => 4 - (intOf v).toNat)
  case atStart => exact ⟨0, by omega, rfl, Lib.hid h1⟩
  case round =>
    obtain ⟨k, hk, rfl, HI⟩ := hrel
    by_cases h : k < 4
    · have hkI : (k : Int) < 4 := by omega
      have C := Lib.hid (HF.out (k + 1) wr (by omega) HI.out)
      have e1 : pOff (k + 1) = 18 + k * 256 := by unfold pOff; rw [if_neg (by omega)]; omega
      have e2 : pLen (k + 1) = 256 := by unfold pLen; rw [if_neg (by omega)]
      rw [e1, e2] at C
      clear e1 e2 h1 h0 C0
      go_wp2_with fail
      refine C.out.mono ?_
      rintro e w2 ⟨rfl, h2⟩
      go_wp2
      go_roundw
      case rel => exact ⟨k + 1, by omega, by go_num, Lib.hid h2⟩
      case measure => simp [intOf]; omega
    · obtain rfl : k = 4 := by omega
      go_wp2
      go_end0
      exact ⟨rfl, HI.out⟩
end Go.Proofs.Ytccpcjbffibkkaa

namespace Go.Proofs.Ytccpcjbffibkkaa
set_option maxRecDepth 50000
open Go.RowKit Ci

section
variable {w : World} {ev : Operand → Value} {x y : Operand} {o : Oper} {B i : Nat}
theorem nil_run (hop : o.op = .nilCheck x) (hx : ev x = .pointer (some ⟨B, i, none⟩)) : (execOp ev o).run Try.prog w = .ok (.value (.pointer (some ⟨B, i, none⟩))) w := by
  simp [execOp, hop, hx, go_sem]
theorem fld0_run (hop : o.op = .fieldAddr 91 x 0) (hx : ev x = .pointer (some ⟨B, 0, none⟩)) : (execOp ev o).run Try.prog w = .ok (.value (.pointer (some ⟨B, 0, none⟩))) w := by
  simp [execOp, hop, hx, go_sem]
theorem ix18_run (hop : o.op = .indexAddr 87 x y) (hx : ev x = .pointer (some ⟨B, 0, none⟩)) (hy : ev y = .int .i64 (i : Int)) (hi : i < 18) : (execOp ev o).run Try.prog w = .ok (.value (.pointer (some ⟨B, i, none⟩))) w := by
  have h1 : (i : Int) < 18 := by omega
  simp [execOp, hop, hx, hy, go_sem, h1]
theorem ixs_run {n c off : Nat} (hop : o.op = .indexAddr 29 x y) (hx : ev x = .slice (some ⟨B, off, none⟩) n c) (hy : ev y = .int .i64 (i : Int)) (hi : i < n) : (execOp ev o).run Try.prog w = .ok (.value (.pointer (some ⟨B, off + i, none⟩))) w := by
  have h1 : (i : Int) < (n : Int) := by omega
  simp [execOp, hop, hx, hy, go_sem, h1]
theorem ixt_run {n c off : Nat} (hop : o.op = .indexAddr 30 x y) (hx : ev x = .slice (some ⟨B, off, none⟩) n c) (hy : ev y = .int .i64 (i : Int)) (hi : i < n) : (execOp ev o).run Try.prog w = .ok (.value (.pointer (some ⟨B, off + i, none⟩))) w := by
  have h1 : (i : Int) < (n : Int) := by omega
  simp [execOp, hop, hx, hy, go_sem, h1]
theorem ldu_run {v : Value} (hop : o.op = .load 52 x) (hx : ev x = .pointer (some ⟨B, i, none⟩)) (hc : w.cell? ⟨B, i, none⟩ = some v) : (execOp ev o).run Try.prog w = .ok (.value v) w := by
  simp [execOp, hop, hx, hc, go_sem]
theorem ldi_run {v : Value} (hop : o.op = .load 3 x) (hx : ev x = .pointer (some ⟨B, i, none⟩)) (hc : w.cell? ⟨B, i, none⟩ = some v) : (execOp ev o).run Try.prog w = .ok (.value v) w := by
  simp [execOp, hop, hx, hc, go_sem]
theorem ldc_run {v : Value} (hop : o.op = .load 43 x) (hx : ev x = .pointer (some ⟨B, i, none⟩)) (hc : w.cell? ⟨B, i, none⟩ = some v) : (execOp ev o).run Try.prog w = .ok (.value v) w := by
  simp [execOp, hop, hx, hc, go_sem]
theorem ldf_run {v : Value} (hop : o.op = .load 94 x) (hx : ev x = .pointer (some ⟨B, i, none⟩)) (hc : w.cell? ⟨B, i, none⟩ = some v) : (execOp ev o).run Try.prog w = .ok (.value v) w := by
  simp [execOp, hop, hx, hc, go_sem]
theorem st_run {v : Value} {z : Int} (hop : o.op = .store 52 x y) (hx : ev x = .pointer (some ⟨B, i, none⟩)) (hy : ev y = .int .u32 z) (hc : w.cell? ⟨B, i, none⟩ = some v) (hf : w.frozen? ⟨B, i, none⟩ = false) : (execOp ev o).run Try.prog w = .ok .skip (w.setCell ⟨B, i, none⟩ (.int .u32 z)) := by
  simp [execOp, hop, hx, hy, hc, hf, go_sem]
theorem callv_run {f : FuncId} {cap : Array Value} (hop : o.op = .call { callee := .value x, args := #[], argTypes := #[] }) (he : ∀ (args : Array Value) (w : World), (callFunc f args).run Try.prog w = .ok (.enter f args) w) (hx : ev x = .func (.func f) #[] cap) : (execOp ev o).run Try.prog w = .ok (.enter f cap) w := by
  simp [execOp, hop, hx, resolve, Deferred.ofValue, invoke, he]
end
section
variable {w : World} {a : Act} {Q : Exit → Act → World → Prop} {o : Oper}
theorem st_does {W' : World → Prop} {x y : Operand} {B i : Nat} {v : Value} {z : Int} (hop : o.op = .store 52 x y) (hx : a.eval x = .pointer (some ⟨B, i, none⟩)) (hy : a.eval y = .int .u32 z) (hc : w.cell? ⟨B, i, none⟩ = some v) (hf : w.frozen? ⟨B, i, none⟩ = false)
    (h : W' (w.setCell ⟨B, i, none⟩ (.int .u32 z))) : o.wp Try.prog a w (fun a' w' => a' = a.put o.dst undef ∧ W' w') Q := by
  unfold Oper.wp
  rw [st_run hop hx hy hc hf]
  exact ⟨rfl, h⟩
end
end Go.Proofs.Ytccpcjbffibkkaa

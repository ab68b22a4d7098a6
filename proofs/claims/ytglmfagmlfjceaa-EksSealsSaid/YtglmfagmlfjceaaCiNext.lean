/- around of package cipher by its contract: the words of a text, one a call. Conditions: those typed. -/
import Derived.Test.YtglmfagmlfjceaaCiTab
import Derived.Test.YtglmfagmlfjceaaFdHeld
import Derived.Deep.LoopGhost
import Derived.WalkMore
import Derived.Laws.BitsAllLaws
import Derived.Laws.EntriesVeiled
namespace Go.Proofs.Ytglmfagmlfjceaa
set_option maxRecDepth 50000
open Go.RowKit Ci

/-- a text in block T, and in block P where its word i begins -/
structure NextIs (w : World) (T P : Nat) (s : ByteArray) (i : Nat) : Prop where
  text : RowAt w T 9 #[.string s]
  place : ∃ p : Nat, RowAt w P 3 #[.int .i64 (p : Int)] ∧ (0 < s.size → p = 4 * i % s.size)
theorem NextIs.kept {w w' : World} {T P : Nat} {s : ByteArray} {i : Nat} {M : Nat → Prop} (h : NextIs w T P s i) (hk : Kept M w w') (hT : ¬ M T) (hP : ¬ M P) : NextIs w' T P s i := by
  obtain ⟨p, h1, h2⟩ := h.place
  exact ⟨(hk.block T h.text.lt hT).trans h.text, p, (hk.block P h1.lt hP).trans h1, h2⟩
theorem NextIs.lt {w : World} {T P : Nat} {s : ByteArray} {i : Nat} (h : NextIs w T P s i) : T < w.heap.size ∧ P < w.heap.size := by
  obtain ⟨p, h1, _⟩ := h.place
  exact ⟨h.text.lt, h1.lt⟩
theorem NextIs.ne {w : World} {T P : Nat} {s : ByteArray} {i : Nat} (h : NextIs w T P s i) : T ≠ P := by
  obtain ⟨p, h1, _⟩ := h.place
  intro e
  subst e
  have := h.text.symm.trans h1
  simp at this
/-- one byte more behind a word's bytes -/
theorem shl8_or (a d : Nat) (ha : a < 16777216) (hd : d < 256) : bits .or .u32 ((a : Int) * 256) (d : Int) = ((a * 256 + d : Nat) : Int) := by
  have e : (a : Int) * 256 = ((256 * a : Nat) : Int) := by omega
  have e2 : a * 256 + d = 256 * a + d := by omega
  rw [e2, e, u32_or_nat _ _ (by omega) (by omega), show (256 : Nat) * a = 2 ^ 8 * a from rfl, Nat.two_pow_add_eq_or_of_lt (show d < 2 ^ 8 from hd)]
theorem text_none (s : ByteArray) (h : s.size = 0) : s.toList = [] ∧ s.toList.isEmpty = true ∧ (s.toList == []) = true := by
  have hke : s = ⟨#[]⟩ := by
    apply tl_inj
    have := tl_length s
    rw [h] at this
    exact List.eq_nil_of_length_eq_zero this
  have e : s.toList = [] := by rw [hke, ByteArray.toList_eq]
  exact ⟨e, by rw [e]; rfl, by rw [e]; rfl⟩
theorem text_some (s : ByteArray) (h : s.size ≠ 0) : s.toList ≠ [] ∧ s.toList.isEmpty = false ∧ (s.toList == []) = false := by
  have hne : s.toList = [] → False := fun e => by
    have := congrArg List.length e
    rw [ByteArray.toList_eq] at this
    have e2 := tl_length s
    unfold tl at e2
    simp [e2] at this
    exact h (by simpa using this)
  refine ⟨hne, ?_, ?_⟩
  · cases hc : s.toList with
    | nil => exact (hne hc).elim
    | cons _ _ => rfl
  · cases hc : s.toList with
    | nil => exact (hne hc).elim
    | cons _ _ => rfl
theorem mod_next (a n p : Nat) (hn : 0 < n) (h : p = a % n) : (a + 1) % n = if p + 1 = n then 0 else p + 1 := by
  subst h
  rw [Nat.add_mod]
  have h1 := Nat.mod_lt a hn
  split
  · rename_i h2
    by_cases h3 : n = 1
    · subst h3; omega
    · rw [Nat.mod_eq_of_lt (show 1 < n by omega), h2, Nat.mod_self]
  · by_cases h3 : n = 1
    · subst h3; omega
    · rw [Nat.mod_eq_of_lt (show 1 < n by omega), Nat.mod_eq_of_lt (by omega)]

theorem row_set {w : World} {b : Nat} {t : TypeId} {u v : Value} (h : RowAt w b t #[u]) : RowAt (w.setCell ⟨b, 0, none⟩ v) b t #[v] := h.setCell 0 v

set_option maxHeartbeats 1600000 in
theorem next_any (w : World) (T P : Nat) (s : ByteArray) (i : Nat) (hs : s.size ≤ 140737488351232) (h : NextIs w T P s i) :
    Calls Try.prog 36 #[.pointer (some ⟨T, 0, none⟩), .pointer (some ⟨P, 0, none⟩)] w fun e w' => e = .returned (.int .u32 (wd s i : Int)) ∧ NextIs w' T P s (i + 1) ∧ Kept (fun b => b = P) w w' := by
  have hne := h.ne
  obtain ⟨HT, p0, HP, hp0⟩ := h
  by_cases h0 : s.size = 0
  · have cT : w.cell? ⟨T, 0, none⟩ = some (.string s) := by rw [HT.cell 0]; rfl
    obtain ⟨hsemp, hse2, hse⟩ := text_none s h0
    have hw : wd s i = 0 := wdTo_none s h0 i 4
    rw [hw]
    have HF := Lib.hid (show NextIs w T P s (i + 1) from ⟨HT, p0, HP, fun h => by omega⟩)
    clear HT HP hp0 h0 hw
    go_enter Try.func36, Try.ntmps36
    go_wp2
    go_ret
    exact ⟨rfl, HF.out, Kept.refl _ _⟩
  · have hpos : 0 < s.size := by omega
    have hp := hp0 hpos
    have cT : w.cell? ⟨T, 0, none⟩ = some (.string s) := by rw [HT.cell 0]; rfl
    obtain ⟨hsz, hsne2, hsne⟩ := text_some s h0
    have KT := Lib.hid HT
    have KP := Lib.hid (show RowAt w P 3 #[.int .i64 (p0 : Int)] from HP)
    have HQ := Lib.hid hp
    clear HT HP hp hp0 h0
    go_enter Try.func36, Try.ntmps36
    go_wp2
    go_loopw [3, 7] (fun v3 v7 wr => ∃ k n p : Nat, k ≤ 4 ∧ v3 = .int .u32 (n : Int) ∧ v7 = .int .i64 (k : Int) ∧ Hid (n = wdTo s i k) ∧ Hid (p = (4 * i + k) % s.size) ∧ Hid (RowAt wr T 9 #[.string s]) ∧ Hid (RowAt wr P 3 #[.int .i64 (p : Int)]) ∧ Hid (Kept (fun b => b = P) w wr)) (fun _ v _ => 4 - (intOf v).toNat)
    case atStart => exact ⟨0, 0, p0, by omega, rfl, rfl, Lib.hid rfl, Lib.hid HQ.out, KT, KP, Lib.hid (Kept.refl _ _)⟩
    case round =>
      obtain ⟨k, n, p, hk, rfl, rfl, HN, HPV, RT, RP, HK⟩ := hrel
      by_cases h : k < 4
      · have hkI : (k : Int) < 4 := by omega
        have hn : n < 16777216 := by
          have := wdTo_lt s i k
          rw [← HN.out] at this
          have e : 256 ^ k ≤ 256 ^ 3 := Nat.pow_le_pow_right (by decide) (by omega)
          omega
        have hpl : p < s.size := by rw [HPV.out]; exact Nat.mod_lt _ hpos
        have c1 : wr.cell? ⟨T, 0, none⟩ = some (.string s) := by rw [RT.out.cell 0]; rfl
        have c2 : wr.cell? ⟨P, 0, none⟩ = some (.int .i64 (p : Int)) := by rw [RP.out.cell 0]; rfl
        have f2 := RP.out.frozen 0
        obtain ⟨d, hd⟩ : ∃ d : Nat, d = (s[p]'hpl).toNat := ⟨_, rfl⟩
        have hdI : ((s[p]'hpl).toNat : Int) = (d : Int) := by rw [hd]
        have hdb : d < 256 := by rw [hd]; exact UInt8.toNat_lt _
        have hbt : bt s p = d := by unfold bt; rw [dif_pos hpl, hd]
        have hor := shl8_or n d hn hdb
        have hsh : (n : Int) * 256 % 4294967296 = (n : Int) * 256 := by omega
        have HN2 : Hid (n * 256 + d = wdTo s i (k + 1)) := Lib.hid (by rw [wdTo, ← HPV.out, ← HN.out, hbt])
        have hmn := mod_next (4 * i + k) s.size p hpos HPV.out
        have hplI : (p : Int) < (s.size : Int) := by omega
        obtain ⟨m, hm⟩ : ∃ m, m = n * 256 + d := ⟨_, rfl⟩
        rw [← hm] at hor HN2
        clear hd hbt HN HPV cT hm
        by_cases he : p + 1 = s.size
        · rw [if_pos he] at hmn
          have heI : (p : Int) + 1 = (s.size : Int) := by omega
          have HM := Lib.hid hmn
          clear hmn he
          go_wp2
          go_roundw
          case rel =>
            have R1 := row_set (v := .int .i64 0) (row_set (v := .int .i64 (s.size : Int)) RP.out)
            exact ⟨k + 1, m, 0, by omega, rfl, by go_num, HN2, Lib.hid (by rw [← Nat.add_assoc]; exact HM.out.symm), Lib.hid ((RT.out.setOther _ (Ne.symm hne) _).setOther _ (Ne.symm hne) _), Lib.hid R1, Lib.hid ((HK.out.set (.inl rfl) _).set (.inl rfl) _)⟩
          case measure => simp [intOf]; omega
        · rw [if_neg he] at hmn
          have heI : ¬ (p : Int) + 1 = (s.size : Int) := by omega
          have HM := Lib.hid hmn
          clear hmn he
          go_wp2
          go_roundw
          case rel =>
            have R1 := row_set (v := .int .i64 ((p : Int) + 1)) RP.out
            exact ⟨k + 1, m, p + 1, by omega, rfl, by go_num, HN2, Lib.hid (by rw [← Nat.add_assoc]; exact HM.out.symm), Lib.hid (RT.out.setOther _ (Ne.symm hne) _), Lib.hid R1, Lib.hid (HK.out.set (.inl rfl) _)⟩
          case measure => simp [intOf]; omega
      · obtain rfl : k = 4 := by omega
        have HW : Hid (wd s i = n) := Lib.hid HN.out.symm
        clear HN h cT
        go_wp2
        go_ret
        exact ⟨by rw [HW.out]; rfl, ⟨RT.out, p, RP.out, fun _ => HPV.out⟩, HK.out⟩

theorem alloc_size (w : World) (o : Obj) : (w.alloc o).heap.size = w.heap.size + 1 := by show (w.heap.push o).size = _; simp
theorem around_any (w : World) (s : ByteArray) : Calls Try.prog 32 #[.string s] w fun e w' => ∃ T P, e = .returned (.func (.func 36) #[] #[.pointer (some ⟨T, 0, none⟩), .pointer (some ⟨P, 0, none⟩)]) ∧ NextIs w' T P s 0 ∧ w.heap.size ≤ T ∧ w.heap.size ≤ P ∧ Below w.heap.size w w' := by
  go_enter Try.func32, Try.ntmps32
  go_wp2
  go_ret
  have h1 : RowAt (w.alloc (.cells #[.string s] 9)) w.heap.size 9 #[.string s] := RowAt.new _ _ _
  have h2 := RowAt.new (w.alloc (.cells #[.string s] 9)) 3 #[.int .i64 0]
  refine ⟨w.heap.size, w.heap.size + 1, rfl, ⟨?_, 0, ?_, fun _ => (Nat.zero_mod _).symm⟩, Nat.le_refl _, Nat.le_succ _, ?_⟩
  · exact h1.alloc _
  · rw [alloc_size] at h2; exact h2
  · exact ((Below.refl _ w).alloc (Nat.le_refl _) _).alloc (by rw [alloc_size]; omega) _
end Go.Proofs.Ytglmfagmlfjceaa

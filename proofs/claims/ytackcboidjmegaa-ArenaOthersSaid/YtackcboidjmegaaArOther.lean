/- The chapter's example; the law ArenaOthers. No condition. -/
import Derived.Test.YtackcboidjmegaaArGet
namespace Go.Proofs.Ytackcboidjmegaa
set_option maxRecDepth 50000
open Go.RowKit Bb

theorem RowAt.step {w w' : World} {b : Nat} {t : TypeId} {C : Array Value} (h : RowAt w b t C) (hb : Below w.heap.size w w') : RowAt w' b t C := h.below hb h.lt
theorem Kept.under {M : Nat → Prop} {w w' : World} {N : Nat} (h : Kept M w w') (hM : ∀ k, M k → N ≤ k) (hN : N ≤ w.heap.size) : Below N w w' := h.below hN hM

set_option maxHeartbeats 1600000 in
theorem awake20_any (w : World) : Calls Try.prog 5 #[] w fun e w' => e = .returned (.bool true) ∧ Below w.heap.size w w' := by
  have CN := Lib.hid (anew_any 3 (by decide) w)
  go_enter Try.func5, Try.ntmps5
  go_wp2_with fail
  refine CN.out.mono ?_
  rintro e w1 ⟨rfl, hA, hb⟩
  have B1 := Lib.hid hb
  obtain ⟨a, ha⟩ : ∃ a, a = w.heap.size := ⟨_, rfl⟩
  rw [← ha] at hA
  have EA := Lib.hid ha
  have C1 := Lib.hid (ares_any hA 2 (by decide) (by decide) (by decide))
  have hs1 := hb.size
  rw [← ha]
  clear ha CN hb hA
  go_wp2_with fail
  refine C1.out.mono ?_
  rintro e w2 ⟨⟨p, g, rfl, hL, hp, hg⟩, hA, hK⟩
  have B2 := Lib.hid (B1.out.trans (hK.under (N := w.heap.size) (fun k e => by rw [e, EA.out]; exact Nat.le_refl _) hs1))
  have C2 := Lib.hid (ares_full hA 2 (by decide) (by decide) (by decide) (by decide))
  have HA := Lib.hid hA
  have HL := Lib.hid hL
  have hs2 := B2.out.size
  clear C1 hA hL hK B1
  go_wp2_with fail
  refine C2.out.mono ?_
  rintro e w3 ⟨rfl, q, rfl⟩
  have C3 := Lib.hid (arel_any (w := w2.drewN q) HA.out (HL.out.drewN q) (by decide) (by decide) (by decide) (by decide))
  have HB := Lib.hid (below_drewN B2.out q)
  clear C2 B2
  go_wp2_with fail
  refine C3.out.mono ?_
  rintro e w4 ⟨rfl, hO, hA4, hK4⟩
  have HB4 := Lib.hid (HB.out.trans (hK4.under (N := w.heap.size) (fun k e => by
    have := EA.out
    rcases e with e | e | e <;> omega) (by simpa using hs2)))
  have C4 := Lib.hid (used_any hA4)
  have HA4 := Lib.hid hA4
  clear hA4 hK4 hO HA HL HB C3
  go_wp2_with fail
  refine C4.out.mono ?_
  rintro e w5 ⟨rfl, hb5⟩
  have HA5 := Lib.hid (RowAt.step HA4.out hb5)
  have HB5 := Lib.hid (HB4.out.trans (hb5.mono HB4.out.size))
  have C5 := Lib.hid (high_any (show AreAt w5 a 3 _ _ _ from HA5.out))
  clear hb5 HA4 HB4 C4
  go_wp2_with fail
  refine C5.out.mono ?_
  rintro e w6 ⟨rfl, hb6⟩
  have HB6 := Lib.hid (HB5.out.trans (hb6.mono HB5.out.size))
  clear hb6 C5 HB5
  go_wp2
  go_ret
  exact ⟨rfl, HB6.out⟩

set_option maxHeartbeats 3200000 in
theorem others20_any (B n : Int) (w : World) : Calls Try.prog 4 #[.int .i64 B, .int .i64 n] w fun e w' => e = .returned (.bool true) ∧ Below w.heap.size w w' := by
  have CA := Lib.hid (awake20_any w)
  have CR := Lib.hid (fun w => ares_nil n w)
  have CL := Lib.hid (fun w => arel_nil none w)
  have C11 := Lib.hid (fun w => budget_nil w)
  have C12 := Lib.hid (fun w => used_nil w)
  have C13 := Lib.hid (fun w => high_nil w)
  have C14 := Lib.hid (fun w => lent_nil w)
  have C15 := Lib.hid (fun w => mark_nil w)
  have C16 := Lib.hid (fun w => len_nil w)
  have C17 := Lib.hid (fun w => pclean_nil w)
  have C18 := Lib.hid (fun w => at_nil n w)
  go_enter Try.func4, Try.ntmps4
  go_wp2_with fail
  refine CA.out.mono ?_; rintro e w1 ⟨rfl, hb⟩; have HB := Lib.hid hb; clear hb CA
  go_wp2_with fail
  refine (CR.out _).mono ?_; rintro e w' ⟨rfl, hw⟩; obtain rfl := hw.symm; clear hw CR
  go_wp2_with fail
  refine (CL.out _).mono ?_; rintro e w' ⟨rfl, hw⟩; obtain rfl := hw.symm; clear hw CL
  go_wp2_with fail
  refine (C11.out _).mono ?_; rintro e w2 ⟨rfl, hb⟩; have HB2 := Lib.hid (HB.out.trans (hb.mono HB.out.size)); clear hb HB C11
  go_wp2_with fail
  refine (C12.out _).mono ?_; rintro e w3 ⟨rfl, hb⟩; have HB := Lib.hid (HB2.out.trans (hb.mono HB2.out.size)); clear hb HB2 C12
  go_wp2_with fail
  refine (C13.out _).mono ?_; rintro e w4 ⟨rfl, hb⟩; have HB2 := Lib.hid (HB.out.trans (hb.mono HB.out.size)); clear hb HB C13
  go_wp2_with fail
  refine (C14.out _).mono ?_; rintro e w5 ⟨rfl, hb⟩; have HB := Lib.hid (HB2.out.trans (hb.mono HB2.out.size)); clear hb HB2 C14
  go_wp2_with fail
  refine (C15.out _).mono ?_; rintro e w' ⟨rfl, hw⟩; obtain rfl := hw.symm; clear hw C15
  go_wp2_with fail
  refine (C16.out _).mono ?_; rintro e w' ⟨rfl, hw⟩; obtain rfl := hw.symm; clear hw C16
  go_wp2_with fail
  refine (C17.out _).mono ?_; rintro e w' ⟨rfl, hw⟩; obtain rfl := hw.symm; clear hw C17
  go_wp2_with fail
  refine (C18.out _).mono ?_; rintro e w' ⟨rfl, hw⟩; obtain rfl := hw.symm; clear hw C18
  by_cases hx : B < 0 ∨ 4194304 < B ∨ 100 < n
  · have hh : decide (B < 0) = true ∨ decide (B < 0) = false ∧ decide (4194304 < B) = true ∨ decide (B < 0) = false ∧ decide (4194304 < B) = false ∧ decide (100 < n) = true := by simp; omega
    clear hx
    rcases hh with d1 | ⟨d1, d2⟩ | ⟨d1, d2, d3⟩
    all_goals
      go_wp2
      go_ret
      exact ⟨rfl, HB.out⟩
  obtain ⟨b, rfl⟩ := Int.eq_ofNat_of_zero_le (show 0 ≤ B by omega)
  have hb : b ≤ 4194304 := by omega
  have hn : n ≤ 100 := by omega
  have d1 : decide ((b : Int) < 0) = false := by simp
  have d2 : decide ((4194304 : Int) < (b : Int)) = false := by simp; omega
  have d2' : decide (4194304 < b) = false := by simp; omega
  have d3 : decide (100 < n) = false := by simp; omega
  clear hx
  have CN := Lib.hid (fun w => anew_any b hb w)
  go_wp2_with fail
  refine (CN.out _).mono ?_
  rintro e w6 ⟨rfl, hA, hb6⟩
  obtain ⟨a, ha⟩ : ∃ a, a = w5.heap.size := ⟨_, rfl⟩
  rw [← ha] at hA ⊢
  have HB6 := Lib.hid (HB.out.trans (hb6.mono HB.out.size))
  have HA := Lib.hid hA
  have hw5 := HB.out.size
  have hwa : w.heap.size ≤ a := by omega
  clear hb6 ha hA HB
  go_wp2_with fail
  refine (CN.out _).mono ?_
  rintro e w7 ⟨rfl, hA7, hb7⟩
  have hA := RowAt.step HA.out hb7
  have haa : w6.heap.size ≠ a := by have := RowAt.lt HA.out; omega
  obtain ⟨a', ha⟩ : ∃ a', a' = w6.heap.size := ⟨_, rfl⟩
  rw [← ha] at hA7 haa ⊢
  have HB7 := Lib.hid (HB6.out.trans (hb7.mono HB6.out.size))
  have HA7 := Lib.hid hA7
  have hw6 := HB6.out.size
  have hwa' : w.heap.size ≤ a' := by omega
  have HA6 : Hid (AreAt w7 a b 0 0 0) := Lib.hid hA
  clear hb7 ha hA hA7 HA HB6 CN
  have hw7 := HB7.out.size
  by_cases hn0 : n < 0
  · have C := Lib.hid (ares_neg ⟨a, 0, none⟩ n hn0 w7)
    have d4 : decide (n < 0) = true := by simp; omega
    go_wp2_with fail
    refine C.out.mono ?_; rintro e w' ⟨rfl, hw⟩; obtain rfl := hw.symm
    go_wp2
    go_ret
    exact ⟨rfl, HB7.out⟩
  have d4 : decide (n < 0) = false := by simp; omega
  obtain ⟨k, rfl⟩ := Int.eq_ofNat_of_zero_le (show 0 ≤ n by omega)
  by_cases hf : (b : Int) < (k : Int)
  · have C := Lib.hid (ares_full HA6.out (k : Int) (by omega) (by omega) hb (by omega))
    have d5 : decide ((b : Int) < (k : Int)) = true := by simp; omega
    have d5' : decide (b < k) = true := by simp; omega
    go_wp2_with fail
    refine C.out.mono ?_; rintro e w' ⟨rfl, q, rfl⟩
    go_wp2
    go_ret
    exact ⟨rfl, below_drewN HB7.out q⟩
  have C := Lib.hid (ares_any HA6.out k (by omega) hb (by decide))
  clear HA6
  go_wp2_with fail
  refine C.out.mono ?_
  rintro e w8 ⟨⟨p, g, rfl, hL, hp, hg⟩, hA, hK⟩
  rw [Nat.zero_add, Nat.max_eq_right (Nat.zero_le k)] at hA
  have hA' := RowAt.kept HA7.out hK haa
  have HB8 := Lib.hid (HB7.out.trans (hK.under (N := w.heap.size) (fun j e => by omega) hw7))
  have hw8 := HB8.out.size
  have CO := Lib.hid (arel_other hL.row hA' hA haa.symm)
  have CU := Lib.hid (used_any hA)
  have HA := Lib.hid hA
  have HA' : Hid (AreAt w8 a' b 0 0 0) := Lib.hid hA'
  have HL := Lib.hid hL
  have hln : (List.replicate k zb).length = k := List.length_replicate ..
  have hpw : w.heap.size ≤ p := by omega
  have hgw : w.heap.size ≤ g := by omega
  clear C hL hA hA' hK HB7 HA7
  generalize List.replicate k zb = l at *
  go_wp2_with fail
  refine CO.out.mono ?_; rintro e w' ⟨rfl, hw⟩; obtain rfl := hw.symm; clear hw CO
  go_wp2_with fail
  refine CU.out.mono ?_
  rintro e w9 ⟨rfl, hb9⟩
  have CU' := Lib.hid (used_any (show AreAt w9 a' b 0 0 0 from RowAt.step HA'.out hb9))
  have HA9 := Lib.hid (show AreAt w9 a b k k 1 from RowAt.step HA.out hb9)
  have HL9 := Lib.hid (show LiveAt w9 p a g l from ⟨RowAt.step HL.out.row hb9, RowAt.step HL.out.blk hb9, HL.out.ok⟩)
  have HB9 := Lib.hid (HB8.out.trans (hb9.mono hw8))
  clear hb9 CU HA HA' HL HB8
  go_wp2_with fail
  refine CU'.out.mono ?_
  rintro e w10 ⟨rfl, hb10⟩
  have HB10 := Lib.hid (HB9.out.trans (hb10.mono HB9.out.size))
  have hw10 := HB10.out.size
  have CR := Lib.hid (arel_any (show AreAt w10 a b k k 1 from RowAt.step HA9.out hb10) (show LiveAt w10 p a g l from ⟨RowAt.step HL9.out.row hb10, RowAt.step HL9.out.blk hb10, HL9.out.ok⟩) (by omega) (by omega) (by decide) (by decide))
  clear hb10 CU' HA9 HL9 HB9
  go_wp2_with fail
  refine CR.out.mono ?_
  rintro e w11 ⟨rfl, hO, hA, hK⟩
  rw [hln, Nat.sub_self] at hA
  have HB11 := Lib.hid (HB10.out.trans (hK.under (N := w.heap.size) (fun j e => by rcases e with e | e | e <;> omega) hw10))
  have CO := Lib.hid (arel_off hO)
  have HA : Hid (AreAt w11 a b 0 k 0) := Lib.hid hA
  have CU := Lib.hid (used_any hA)
  clear hO hA hK CR HB10
  go_wp2_with fail
  refine CO.out.mono ?_; rintro e w' ⟨rfl, hw⟩; obtain rfl := hw.symm; clear hw CO
  go_wp2_with fail
  refine CU.out.mono ?_
  rintro e w12 ⟨rfl, hb12⟩
  have CH := Lib.hid (high_any (show AreAt w12 a b 0 k 0 from RowAt.step HA.out hb12))
  have HB12 := Lib.hid (HB11.out.trans (hb12.mono HB11.out.size))
  clear hb12 CU HA HB11
  go_wp2_with fail
  refine CH.out.mono ?_
  rintro e w13 ⟨rfl, hb13⟩
  have HB13 := Lib.hid (HB12.out.trans (hb13.mono HB12.out.size))
  clear hb13 CH HB12
  go_wp2
  go_ret
  exact ⟨rfl, HB13.out⟩
end Go.Proofs.Ytackcboidjmegaa

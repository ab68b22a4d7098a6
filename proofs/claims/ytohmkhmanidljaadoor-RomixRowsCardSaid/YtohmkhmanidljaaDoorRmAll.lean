/- all of the law and the document's Copy, by their contracts. Conditions: those typed. -/
import Derived.Test.YtohmkhmanidljaaDoorRmRows
namespace Go.Proofs.YtohmkhmanidljaaDoor
set_option maxRecDepth 50000
open Go.RowKit Bb Sl Sf Rm

theorem take_snoc (X : List (List Nat)) (i : Nat) (h : i < X.length) : X.take (i + 1) = X.take i ++ [X.getD i []] := by
  rw [List.take_add_one, List.getElem?_eq_getElem h, List.getD_eq_getElem?_getD, List.getElem?_eq_getElem h]; rfl

section
variable {w w' : World} {s p a g n r : Nat} {X : List (List Nat)}
set_option maxHeartbeats 3200000 in
theorem all_any (hS : St w s p a g n r X) (hX : X.length ≤ 1000000) : Calls Tryd.prog 8 #[.pointer (some ⟨s, 0, none⟩)] w fun e w' => ∃ v cs, e = .returned v ∧ Lst w' w.heap.size w'.heap.size v X cs ∧ Below w.heap.size w w' := by
  have HW := rows_any hS.row hS.pce hS.r1 hS.r2 hS.n1
  rw [← hS.len] at HW
  have HW := Lib.hid HW
  have HR := Lib.hid fun (wr : World) (hb : Below w.heap.size w wr) (i : Nat) (hi : i < X.length) => row_in (hS.step hb) i hi
  have HL := Lib.hid fun (i : Nat) (hi : i < X.length) => (hS.rok i hi).1
  have HT := Lib.hid fun (i : Nat) (hi : i < X.length) => take_snoc X i hi
  have HTL : Hid (∀ i, i ≤ X.length → (X.take i).length = i) := Lib.hid fun i hi => by rw [List.length_take]; omega
  have HTA : Hid (X.take X.length = X) := Lib.hid (List.take_of_length_le (Nat.le_refl _))
  obtain ⟨m, hm⟩ : ∃ m, 32 * r = m := ⟨_, rfl⟩
  rw [hm] at HR HL
  obtain ⟨R, hR⟩ : ∃ R, X.length = R := ⟨_, rfl⟩
  rw [hR] at HW HR HL HT HTL HTA hX
  clear hS hm hR
  go_enter Tryd.func8, Tryd.ntmps8
  go_wp2_with fail
  refine HW.out.mono ?_; rintro e w' ⟨rfl, hw⟩; obtain rfl := hw.symm; clear hw HW
  go_wp2
  go_loopw [3, 4, 5, 6, 9] (fun v3 _ _ _ v9 wr => ∃ i cs v, i ≤ R ∧ v9 = .int .i64 ((i : Nat) : Int) ∧ v3 = v ∧ Lst wr w.heap.size wr.heap.size v (X.take i) cs ∧ Below w.heap.size w wr) (fun _ _ _ _ v9 _ => R - (intOf v9).toNat)
  case atStart => exact ⟨0, [], _, by omega, rfl, rfl, Lst.nil _ _ _, Below.refl _ _⟩
  case round =>
    obtain ⟨i, cs, v3, hi, rfl, e3, L1, b1⟩ := hrel
    obtain rfl := e3.symm
    by_cases h : i < R
    · have hd : decide ((i : Int) < (R : Int)) = true := by simp; omega
      have CR := Lib.hid (HR.out wr b1 i h)
      have hl := HL.out i h
      have H1 := Lib.hid (And.intro L1 b1)
      clear L1 b1
      obtain ⟨x, hx⟩ : ∃ x, X.getD i [] = x := ⟨_, rfl⟩
      rw [hx] at CR hl
      have HT1 := HT.out i h
      rw [hx] at HT1
      have HT1 := Lib.hid HT1
      clear hx
      go_wp2_with fail
      refine CR.out.mono ?_
      rintro e w2 ⟨G, rfl, R2, hG, b2⟩
      have L2 := H1.out.1.below b2
      have b3 := H1.out.2.trans (b2.mono H1.out.2.size)
      have hne : ∀ b o, some (⟨G, 0, none⟩ : Addr) = some ⟨b, o, none⟩ → v3.ownBlock ≠ some b := fun b o e => by
        cases e; exact own_unlike L2.own R2 rfl
      obtain ⟨w3, hw3⟩ : ∃ w3, w3 = w2.alloc (.cells #[.slice (some ⟨G, 0, none⟩) m m] 22) := ⟨_, rfl⟩
      have R3 : RowAt w3 w2.heap.size 22 #[.slice (some ⟨G, 0, none⟩) m m] := by rw [hw3]; exact RowAt.new _ _ _
      have b4 : Below w2.heap.size w2 w3 := by rw [hw3]; exact (Below.refl _ _).alloc (Nat.le_refl _) _
      have L3 := (L2.more b2.size).below b4
      have hrd : Reads w3 w3.heap.size (some ⟨G, 0, none⟩) (u32s x) := row_reads (R2.below b4 R2.lt) (Nat.lt_of_lt_of_le R2.lt b4.size)
      obtain ⟨v4, w4, hap, L4, g4⟩ := L3.app (by have := b3.size; have := b4.size; omega) b4.size (l := x) (c := m) (by rw [hl]; exact R3) hrd hne (by rw [HTL.out i (by omega)]; omega) 30
      have b5 := (b3.trans (b4.mono b3.size)).grown g4 (by have := b3.size; have := b4.size; omega) (fun k hk => (L3.own.lt k hk).1)
      rw [← HT1.out] at L4
      have H4 := Lib.hid (And.intro L4 b5)
      rw [hw3] at hap
      have HAP := Lib.hid hap
      clear L2 b3 hne R3 b4 L3 hrd hap L4 g4 b5 hw3 H1 b2 R2 hG CR
      go_wp2_with (at_builtin; refine wpList_append_of rfl (.tmp 18) (.tmp 20) 30 rfl _ _ _ rfl rfl HAP.out ?_)
      clear HAP
      go_wp2
      go_roundw
      case rel => exact ⟨i + 1, _, _, by omega, by go_num, rfl, H4.out⟩
      case measure => simp [intOf]; omega
    · obtain rfl : i = R := by omega
      have hd : decide ((i : Int) < (i : Int)) = false := by simp
      rw [HTA.out] at L1
      have H1 := Lib.hid (And.intro L1 b1)
      clear L1 b1
      go_wp2
      go_ret
      exact ⟨_, rfl, ⟨_, H1.out.1⟩, H1.out.2⟩

set_option maxHeartbeats 3200000 in
theorem copy_any {v : Value} (hv : Rws w w.heap.size v X) (hX : X.length ≤ 1000000) (hXr : ∀ i, i < X.length → (X.getD i []).length ≤ 1000000) : Calls Tryd.prog 27 #[v] w fun e w' => ∃ v cs, e = .returned v ∧ Lst w' w.heap.size w'.heap.size v X cs ∧ Below w.heap.size w w' := by
  obtain ⟨A, c, rfl, hA⟩ := hv
  have HA := Lib.hid hA
  have HX := Lib.hid hXr
  have HT := Lib.hid fun (i : Nat) (hi : i < X.length) => take_snoc X i hi
  have HTL : Hid (∀ i, i ≤ X.length → (X.take i).length = i) := Lib.hid fun i hi => by rw [List.length_take]; omega
  have HTA : Hid (X.take X.length = X) := Lib.hid (List.take_of_length_le (Nat.le_refl _))
  obtain ⟨R, hR⟩ : ∃ R, X.length = R := ⟨_, rfl⟩
  rw [hR] at HA HX HT HTL HTA hX ⊢
  clear hA hXr hR
  go_enter Tryd.func27, Tryd.ntmps27
  go_wp2
  go_loopw [3, 4] (fun v3 v4 wr => ∃ i cs v, i ≤ R ∧ v4 = .int .i64 ((i : Nat) : Int) ∧ v3 = v ∧ Lst wr w.heap.size wr.heap.size v (X.take i) cs ∧ Below w.heap.size w wr) (fun _ v4 _ => R - (intOf v4).toNat)
  case atStart => exact ⟨0, [], _, by omega, rfl, rfl, Lst.nil _ _ _, Below.refl _ _⟩
  case round =>
    obtain ⟨i, cs, v3, hi, rfl, e3, L1, b1⟩ := hrel
    obtain rfl := e3.symm
    by_cases h : i < R
    · have hd : decide ((i : Int) < (R : Int)) = true := by simp; omega
      obtain ⟨b, o, a, c', rfl, hlt, hc, hr⟩ := HA.out i h
      have hxl := HX.out i h
      have HT1 := Lib.hid (HT.out i h)
      obtain ⟨x, hx⟩ : ∃ x, X.getD i [] = x := ⟨_, rfl⟩
      rw [hx] at hc hr hxl HT1
      clear hx
      obtain ⟨v5, w5, hap, ho5, b5⟩ := app_copy ((hr.below b1).more b1.size) hxl 22 (c := c')
      obtain ⟨A5, c5, rfl, hl5, hA5, _⟩ := own_form ho5
      have hp0 : (0 : Int) ≤ (i : Int) := by omega
      have hp1 : (i : Int) < (R : Int) := by omega
      have k1 : (wr.alloc (.cells #[] 50)).cell? ⟨b, o + i, none⟩ = some (.slice a x.length c') := ((b1.alloc b1.size (.cells #[] 50)).cell (p := ⟨b, o + i, none⟩) hlt).trans hc
      have L2 := L1.below b5
      have b3 := b1.trans (b5.mono b1.size)
      have hne : ∀ b o, A5 = some ⟨b, o, none⟩ → v3.ownBlock ≠ some b := fun b o e => own_apart L2.own ho5 rfl (by rw [e]; rfl)
      obtain ⟨w6, hw6⟩ : ∃ w6, w6 = w5.alloc (.cells #[.slice A5 x.length c5] 22) := ⟨_, rfl⟩
      have R3 : RowAt w6 w5.heap.size 22 #[.slice A5 x.length c5] := by rw [hw6]; exact RowAt.new _ _ _
      have b4 : Below w5.heap.size w5 w6 := by rw [hw6]; exact (Below.refl _ _).alloc (Nat.le_refl _) _
      have L3 := (L2.more b5.size).below b4
      have hrd : Reads w6 w6.heap.size A5 (u32s x) := ((Reads.of_own ho5).below b4).more b4.size
      obtain ⟨v4, w4, hap4, L4, g4⟩ := L3.app (by have := b3.size; have := b4.size; omega) b4.size (l := x) (c := c5) R3 hrd hne (by rw [HTL.out i (by omega)]; omega) 30
      have b6 := (b3.trans (b4.mono b3.size)).grown g4 (by have := b3.size; have := b4.size; omega) (fun k hk => (L3.own.lt k hk).1)
      rw [← HT1.out] at L4
      have H4 := Lib.hid (And.intro L4 b6)
      rw [hw6] at hap4
      have HAP := Lib.hid hap
      have HAP4 := Lib.hid hap4
      clear L2 b3 hne R3 b4 L3 hrd hap4 hap L4 g4 b6 hw6 L1 b1 b5 ho5 hl5 hA5 hc hr hlt
      go_wp2_with (first
        | (at_builtin; refine wpList_append_of rfl (.tmp 12) (.tmp 16) 22 rfl _ _ _ rfl rfl HAP.out ?_)
        | (at_builtin; refine wpList_append_of rfl (.tmp 11) (.tmp 18) 30 rfl _ _ _ rfl rfl HAP4.out ?_))
      clear HAP HAP4
      go_wp2
      go_roundw
      case rel => exact ⟨i + 1, _, _, by omega, by go_num, rfl, H4.out⟩
      case measure => simp [intOf]; omega
    · obtain rfl : i = R := by omega
      have hd : decide ((i : Int) < (i : Int)) = false := by simp
      rw [HTA.out] at L1
      have H1 := Lib.hid (And.intro L1 b1)
      clear L1 b1
      go_wp2
      go_ret
      exact ⟨_, rfl, ⟨_, H1.out.1⟩, H1.out.2⟩
end
end Go.Proofs.YtohmkhmanidljaaDoor

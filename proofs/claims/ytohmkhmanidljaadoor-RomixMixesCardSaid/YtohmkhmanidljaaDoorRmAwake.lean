/- Chapter 24's example by the calls' contracts; a list of rows that stays while a store is mixed. Condition: the table of package salsa reads as it was laid. -/
import Derived.Test.YtohmkhmanidljaaDoorRmStore
import Derived.Test.YtohmkhmanidljaaDoorRmRef
namespace Go.Proofs.YtohmkhmanidljaaDoor
set_option maxRecDepth 50000
open Go.RowKit Bb Sl Sf Rm

section
variable {w w' : World} {s p a g n r : Nat} {X Y : List (List Nat)} {N B : Nat} {v : Value} {cs : List Value}
theorem rd_off {b : Nat} {a : Option Addr} {l W : List Nat} (hr : Reads w B a (u32s l)) (hg : RowAt w g 95 (wq W)) (h0 : 0 < l.length) (o : Nat) (e : a = some ⟨b, o, none⟩) : b ≠ g := by
  intro e2
  subst e2
  obtain ⟨b', o', e', _, hc⟩ := hr 0 (by rw [u32s_length]; exact h0)
  rw [e] at e'
  cases e'
  rw [RowAt.cell hg] at hc
  by_cases h : o + 0 < W.length
  · rw [wq_at W _ h, u32_at] at hc; simp at hc
  · rw [Array.getElem?_eq_none (by rw [wq_size]; omega)] at hc; cases hc
theorem Lst.kept {W : List Nat} (h : Lst w N B v X cs) (hg : RowAt w g 95 (wq W)) (hk : Kept (fun b => b = g) w w') (hB : B ≤ w.heap.size) : Lst w' N B v X cs := by
  refine ⟨own_kept h.own hk fun k e e2 => own_unlike h.own hg rfl (by rw [e, e2]), h.lt, fun i hi => ?_⟩
  obtain ⟨a, c, e, hr, hn⟩ := h.row i hi
  refine ⟨a, c, e, fun k hk' => ?_, hn⟩
  obtain ⟨b, o, e2, hl, hc⟩ := hr k hk'
  have h0 : 0 < (X.getD i []).length := by rw [u32s_length] at hk'; omega
  exact ⟨b, o, e2, hl, (World.cell?_of_block (w := w) (a := ⟨b, o + k, none⟩) (hk.block b (by omega) (rd_off hr hg h0 o e2))).trans hc⟩
end

set_option maxHeartbeats 3200000 in
theorem awake24_any (w : World) (hq : QAt w) : Calls Tryd.prog 5 #[] w fun e w' => e = .returned (.bool true) ∧ Below w.heap.size w w' := by
  obtain ⟨w1, hw1⟩ : ∃ w1, w1 = w.alloc (.cells #[.int .u32 7] 50) := ⟨_, rfl⟩
  have b1 : Below w.heap.size w w1 := by rw [hw1]; exact (Below.refl _ _).alloc (Nat.le_refl _) _
  have R1 : RowAt w1 w.heap.size 50 (wd [7]) := by rw [hw1]; exact RowAt.new _ _ _
  have CS := Lib.hid (store_any (n := 1) (r := 1) (ws := [7]) (c := 1) (by decide) (by decide) (by decide) (row_reads R1 R1.lt) (by decide) (fun x hx => by simp at hx; subst hx; decide))
  have HW := Lib.hid hw1
  have HQ := Lib.hid (And.intro (hq.next b1) b1)
  clear hq hw1 b1 R1
  go_enter Tryd.func5, Tryd.ntmps5
  go_wp2_with fail
  have CS2 := CS.out
  rw [HW.out] at CS2
  refine CS2.mono ?_
  rintro e w2 ⟨s, p, a, g, X, rfl, S2, hg, b2⟩
  have hl := S2.len
  have CR := rows_any S2.row S2.pce S2.r1 S2.r2 S2.n1
  have HX := Lib.hid (show X.length = 8 from hl)
  rw [← HW.out] at b2 hg
  have CR := Lib.hid (show Calls Tryd.prog 7 #[.pointer (some ⟨s, 0, none⟩)] w2 fun e w' => e = .returned (.int .i64 8) ∧ w' = w2 from CR)
  have CM := Lib.hid (show Calls Tryd.prog 9 #[.pointer (some ⟨s, 0, none⟩), .int .i64 0, .int .i64 1, .int .i64 1] w2 _ from smix_in S2 (HQ.out.1.next b2) 0 1 1 (by rw [HX.out]; decide) (by decide) (by rw [HX.out]; decide) (by rw [HX.out]; decide))
  have HB := Lib.hid (And.intro (HQ.out.2.trans (b2.mono HQ.out.2.size)) (Nat.le_trans HQ.out.2.size hg))
  clear CS CS2 HQ HX S2 hl hg b2
  go_wp2_with fail
  refine CR.out.mono ?_; rintro e w' ⟨rfl, hw⟩; obtain rfl := hw.symm; clear hw CR
  go_wp2_with fail
  refine CM.out.mono ?_; rintro e w3 ⟨rfl, _, K3, _⟩
  have HB3 := Lib.hid (HB.out.1.trans (K3.below HB.out.1.size fun x e => by rw [e]; exact HB.out.2))
  clear HB K3 CM HW
  go_wp2
  go_ret
  exact ⟨rfl, HB3.out⟩
end Go.Proofs.YtohmkhmanidljaaDoor

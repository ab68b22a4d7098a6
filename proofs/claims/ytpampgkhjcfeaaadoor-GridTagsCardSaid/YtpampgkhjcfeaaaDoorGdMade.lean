/- A grid of parameters with an arena of its own, and the chapter's example, by their contracts. Conditions: those typed. -/
import Derived.Test.YtpampgkhjcfeaaaDoorGdNew
namespace Go.Proofs.YtpampgkhjcfeaaaDoor
set_option maxRecDepth 50000
open Go.RowKit Bb

theorem LiveAt.kept {w w' : World} {p h G : Nat} {L : List (List Nat)} {M : Nat → Prop} (H : LiveAt w p h G L) (hk : Kept M w w') (hp : ¬ M p) (hg : ¬ M G) : LiveAt w' p h G L := ⟨RowAt.kept H.row hk hp, RowAt.kept H.blk hk hg, H.ok⟩
/-- parameters that have no shape: no grid -/
theorem made_bad (a t m l z : Int) (h : mayB a t m l z = false) (w : World) : Calls Tryd.prog 11 #[pav a t m l z] w fun e w' => e = .returned (.pointer none) ∧ Below w.heap.size w w' := by
  have CO := Lib.hid (of_bad a t m l z h)
  have HP := Lib.hid (RowAt.new w 23 (pac a t m l z))
  have HB := Lib.hid (one_box w (.cells (pac a t m l z) 23))
  clear h
  go_enter Tryd.func11, Tryd.ntmps11
  go_wp2_with fail
  refine (CO.out _).mono ?_
  rintro e w2 ⟨rfl, hb⟩
  have HB2 := Lib.hid (below_step HB.out hb)
  have HB3 := Lib.hid (HB2.out.alloc HB2.out.size (.cells spzc 47))
  clear hb CO HP HB HB2
  go_wp2
  go_ret
  exact ⟨rfl, HB3.out⟩
section
variable {pa pt pm pl pz : Int} {a t l m b c g z : Nat} (CO : ∀ w : World, Calls Tryd.prog 18 #[pav pa pt pm pl pz] w fun e w' => e = .returned (.tuple #[spv a t l m b c g z, .int .i64 0]) ∧ Below w.heap.size w w')
include CO
/-- too many -/
theorem made_many (hf : fewB t l b = false) (w : World) : Calls Tryd.prog 11 #[pav pa pt pm pl pz] w fun e w' => e = .returned (.pointer none) ∧ Below w.heap.size w w' := by
  have CF := Lib.hid (few_any a t l m b c g z)
  rw [hf] at CF
  have CO := Lib.hid CO
  have HP := Lib.hid (RowAt.new w 23 (pac pa pt pm pl pz))
  have HB := Lib.hid (one_box w (.cells (pac pa pt pm pl pz) 23))
  clear hf
  go_enter Tryd.func11, Tryd.ntmps11
  go_wp2_with fail
  refine (CO.out _).mono ?_
  rintro e w2 ⟨rfl, hb⟩
  have HB2 := Lib.hid (below_step HB.out hb)
  have HB3 := Lib.hid (HB2.out.alloc HB2.out.size (.cells (spc a t l m b c g z) 47))
  have HS := Lib.hid (RowAt.new w2 47 (spc a t l m b c g z))
  clear hb CO HP HB HB2
  go_wp2_with (refine wpList_load_want rfl 47 _ rfl _ _ rfl (sp_load HS.out) ?_)
  refine (CF.out _).mono ?_
  rintro e w3 ⟨rfl, hb⟩
  have HB4 := Lib.hid (below_step HB3.out hb)
  clear hb CF HS HB3
  go_wp2
  go_ret
  exact ⟨rfl, HB4.out⟩
set_option maxHeartbeats 1600000 in
/-- the grid -/
theorem made_any (hf : fewB t l b = true) (hN : ∀ x ∈ [a, t, l, m, b, c, g, z], x ≤ 140737488351232) (hb1 : 1 ≤ b) (w : World) : Calls Tryd.prog 11 #[pav pa pt pm pl pz] w fun e w' => ∃ q p h G, e = .returned (.pointer (some ⟨q, 0, none⟩)) ∧ GrAt w' q p h G a t l m b c g z (List.replicate b zb) ∧ w.heap.size ≤ G ∧ Below w.heap.size w w' := by
  have hb80 : b ≤ 80 := by
    unfold fewB at hf
    simp only [Bool.and_eq_true, decide_eq_true_eq] at hf
    omega
  have CF := Lib.hid (few_any a t l m b c g z)
  rw [hf] at CF
  have CA := Lib.hid (anew_any b (by omega))
  have CO := Lib.hid CO
  have HP := Lib.hid (RowAt.new w 23 (pac pa pt pm pl pz))
  have HB := Lib.hid (one_box w (.cells (pac pa pt pm pl pz) 23))
  have HN := Lib.hid hN
  clear hf hN
  go_enter Tryd.func11, Tryd.ntmps11
  go_wp2_with fail
  refine (CO.out _).mono ?_
  rintro e w2 ⟨rfl, hb⟩
  have HB2 := Lib.hid (below_step HB.out hb)
  have HB3 := Lib.hid (HB2.out.alloc HB2.out.size (.cells (spc a t l m b c g z) 47))
  have HS := Lib.hid (RowAt.new w2 47 (spc a t l m b c g z))
  clear hb CO HP HB HB2
  go_wp2_with (refine wpList_load_want rfl 47 _ rfl _ _ rfl (sp_load HS.out) ?_)
  refine (CF.out _).mono ?_
  rintro e w3 ⟨rfl, hb⟩
  have HS3 := Lib.hid (RowAt.step HS.out hb)
  have k4 : w3.cell? ⟨w2.heap.size, 4, none⟩ = some (.int .i64 (b : Int)) := (HS3.out.cell 4).trans rfl
  have HB4 := Lib.hid (below_step HB3.out hb)
  clear hb CF HS HB3
  go_wp2_with fail
  refine (CA.out _).mono ?_
  rintro e w4 ⟨rfl, hA, hb⟩
  have HS4 := Lib.hid (RowAt.step HS3.out hb)
  have k5 : w4.cell? ⟨w2.heap.size, 4, none⟩ = some (.int .i64 (b : Int)) := (HS4.out.cell 4).trans rfl
  have HB5 := Lib.hid (below_step HB4.out hb)
  have CR := Lib.hid (ares_any hA b (by omega) (by omega) (by omega))
  have HA := Lib.hid hA
  have hw3 := HB4.out.size
  clear hb CA HS3 HB4 k4 hA
  go_wp2_with fail
  refine CR.out.mono ?_
  rintro e w5 ⟨⟨p, G, rfl, hL, hp, hG⟩, hA, hk⟩
  have HL := Lib.hid hL
  have HS5 := Lib.hid (RowAt.kept HS4.out hk (RowAt.unlike HS4.out HA.out (by rfl)))
  have HB6 := Lib.hid (HB5.out.trans (hk.below (B := w.heap.size) HB5.out.size fun x hx => by omega))
  have CN := Lib.hid (gnew_at hL.row HN.out hb1 false (by simp))
  have hw4 := HB5.out.size
  clear hL hA hk CR HS4 HB5 k5 HA
  go_wp2_with (refine wpList_load_want rfl 47 _ rfl _ _ rfl (sp_load HS5.out) ?_)
  refine CN.out.mono ?_
  rintro e w6 ⟨hq, hb⟩
  rw [if_neg (by simp)] at hq
  obtain ⟨q, rfl, hq, hR⟩ := hq
  have HL6 := Lib.hid (HL.out.step hb)
  have HB7 := Lib.hid (below_step HB6.out hb)
  have HR := Lib.hid hR
  clear hb CN HS5 HB6 HL hR
  go_wp2
  go_ret
  exact ⟨q, p, w3.heap.size, G, rfl, ⟨HR.out, HL6.out⟩, by omega, HB7.out⟩
end

set_option maxHeartbeats 1600000 in
/-- the chapter's example -/
theorem awake31_any (w : World) : Calls Tryd.prog 5 #[] w fun e w' => e = .returned (.bool true) ∧ Below w.heap.size w w' := by
  have CO := Lib.hid (of_walk 1 1 16 2 32 8 16 8 2 (by unfold Mok; omega) rfl rfl rfl rfl)
  have CA := Lib.hid (anew_any 31 (by omega))
  have HN : Hid (∀ x ∈ [1, 1, 2, 16, 16, 8, 2, 32], x ≤ 140737488351232) := Lib.hid (by simp)
  go_enter Tryd.func5, Tryd.ntmps5
  go_wp2_with fail
  refine (CO.out _).mono ?_
  rintro e w1 ⟨rfl, hb⟩
  have HB1 := Lib.hid (hb.alloc hb.size (.cells (spc 1 1 2 16 16 8 2 32) 47))
  have HS1 := Lib.hid (RowAt.new w1 47 (spc 1 1 2 16 16 8 2 32))
  clear hb CO
  go_wp2_with fail
  refine (CA.out _).mono ?_
  rintro e w2 ⟨rfl, hA, hb⟩
  have HS2 := Lib.hid (RowAt.step HS1.out hb)
  have HB2 := Lib.hid (below_step HB1.out hb)
  have CR := Lib.hid (ares_any hA 15 (by omega) (by omega) (by omega))
  have HA := Lib.hid hA
  have har2 := HB1.out.size
  clear hb CA HS1 HB1 hA
  generalize (w1.alloc _).heap.size = ar at *
  go_wp2_with fail
  refine CR.out.mono ?_
  rintro e w3 ⟨⟨p, G, rfl, hL, hp, hG⟩, hA, hk⟩
  have HS3 := Lib.hid (RowAt.kept HS2.out hk (RowAt.unlike HS2.out HA.out (by rfl)))
  have HB3 := Lib.hid (HB2.out.trans (hk.below (B := w.heap.size) HB2.out.size fun x hx => by omega))
  have CR2 := Lib.hid (ares_any hA 16 (by omega) (by omega) (by omega))
  have HL := Lib.hid hL
  have HA3 := Lib.hid hA
  clear hk CR HS2 HB2 HA hL hA
  go_wp2_with fail
  refine CR2.out.mono ?_
  rintro e w4 ⟨⟨p2, G2, rfl, hL, hp2, hG2⟩, hA, hk⟩
  have HS4 := Lib.hid (RowAt.kept HS3.out hk (RowAt.unlike HS3.out HA3.out (by rfl)))
  have HB4 := Lib.hid (HB3.out.trans (hk.below (B := w.heap.size) HB3.out.size fun x hx => by omega))
  have HP4 := Lib.hid (HL.out.kept hk (RowAt.unlike HL.out.row HA3.out (by rfl)) (RowAt.unlike HL.out.blk HA3.out (by rfl)))
  have HL4 := Lib.hid hL
  have hn15 : (List.replicate 15 zb).length = 15 := by simp
  have hn16 : (List.replicate 16 zb).length = 16 := by simp
  have CN := Lib.hid (gnew_at HP4.out.row HN.out (by omega) true (by simp))
  clear hk CR2 HS3 HB3 HL HA3 hL hA
  go_wp2_with (refine wpList_load_want rfl 47 _ rfl _ _ rfl (sp_load HS4.out) ?_)
  refine CN.out.mono ?_
  rintro e w5 ⟨he, hb⟩
  simp only [if_true] at he
  subst he
  have HS5 := Lib.hid (RowAt.step HS4.out hb)
  have HB5 := Lib.hid (below_step HB4.out hb)
  have CN2 := Lib.hid (gnew_at (HL4.out.step hb).row HN.out (by omega) false (by simp))
  have CN3 := Lib.hid (gnew_none p2)
  clear hb CN HS4 HB4 HP4
  go_wp2_with (refine wpList_load_want rfl 47 _ rfl _ _ rfl (sp_load HS5.out) ?_)
  refine CN2.out.mono ?_
  rintro e w6 ⟨hq, hb⟩
  rw [if_neg (by simp)] at hq
  obtain ⟨q, rfl, hq, hR⟩ := hq
  have HR := Lib.hid hR
  have HB6 := Lib.hid (below_step HB5.out hb)
  clear hb CN2 HS5 HB5 HL4 hR
  go_wp2_with (refine wpList_value_want rfl _ (spz_run rfl) ?_)
  refine (CN3.out _).mono ?_
  rintro e w7 ⟨rfl, hb⟩
  have HB7 := Lib.hid (below_step HB6.out hb)
  have k6 : w7.cell? ⟨q, 6, none⟩ = some (.int .i64 8) := (HR.out.step hb).columns
  clear hb CN3 HB6 HR
  go_wp2
  go_ret
  exact ⟨rfl, HB7.out⟩
end Go.Proofs.YtpampgkhjcfeaaaDoor

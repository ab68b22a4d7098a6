/- The statement RomixRows: for every number of blocks, width, list of words and rows: rows are put and read, each by itself, and none that are not there, or are lent no more. Condition: the package's table reads as the program's text lays it, which the card ties. -/
import Derived.Test.YtohmkhmanidljaaDoorRmLaw
import Derived.Test.YtohmkhmanidljaaDoorSfOpen
import Derived.Test.YtohmkhmanidljaaDoorSlLaid
import Derived.Test.YtohmkhmanidljaaDoorCards
import Derived.Test.YtohmkhmanidljaaDoorTie
import Derived.SevenTiedAt
namespace Go.Proofs.YtohmkhmanidljaaDoor
open Go.ChangeShapes Go.WideShapes Go.ChangeAt Go.RowKit

set_option maxRecDepth 100000 in
theorem romixRows_lifted (os : Os) (started : os.Started) (H : Type) (enc : TypeId × Value → H) :
    ReturnsInHanded {} Tryd.checked os 4 .any (fun w args => (Rows.romixRowsSpec.pre enc Tryd.prog Tryd.f4 [] false w args ∧ laidMetH Tryd.prog laidK w) ∧ sizedMet enc Tryd.prog Tryd.f4 (OpenSpec.ofChange Rows.romixRowsSpec) false w args)
      (Rows.romixRowsSpec.post enc Tryd.prog Tryd.f4 false true false false) := by
  refine returnsInHanded_of_change_and (C := Tryd.checked) (X := fun w _ => laidMetH Tryd.prog laidK w) (fun _ _ _ hh h => h.of_heap hh) prog_own started (by kernel_rfl) Tryd.func4
    (ChangeSpec.witness_shaped (enc := enc) (C := Tryd.checked) (os := os) (X := fun w _ => laidMetH Tryd.prog laidK w) false (World.doorLaid Tryd.prog 400 os) #[.int .i64 0, .int .i64 0, .slice none 0 0, .int .i64 0, .int .i64 0] 8 rfl (World.shaped_of_RefB (by kernel_rfl) (by kernel_rfl)) (by kernel_rfl) (by kernel_rfl) (by kernel_rfl) (door_met os _)) ?_
  intro W base args ds gs before hval0 hW hsz1 hsz0 hL hsz2
  have hval : ∀ (j : Nat) t v, Tryd.f4.params[j]? = some t → args[j]? = some v → Value.okWide Tryd.prog W .any base t v := hval0
  have hW' := hW
  obtain ⟨p, q, hA0, hV, rfl, _, _⟩ := hW
  have hlt : ∀ x ∈ p, x.block < W.heap.size := fun x hx => hW'.lt x (by simp [hx])
  have hA : DataW.TrodAll enc Tryd.prog W 0 (fun _ => true) true Tryd.f4.params.toList args.toList ds p := hA0
  rw [Tryd.params4] at hA hval
  obtain ⟨v0, vs0, d0, ds0, p0, q0, hargs, rfl, rfl, h0, r0⟩ := trodAll_cons hA
  obtain ⟨v1, vs1, d1, ds1, p1, q1, rfl, rfl, rfl, h1, r1⟩ := trodAll_cons r0
  obtain ⟨v2, vs2, d2, ds2, p2, q2, rfl, rfl, rfl, h2, r2⟩ := trodAll_cons r1
  obtain ⟨v3, vs3, d3, ds3, p3, q3, rfl, rfl, rfl, h3, r3⟩ := trodAll_cons r2
  obtain ⟨v4, vs4, d4, ds4, p4, q4, rfl, rfl, rfl, h4, r4⟩ := trodAll_cons r3
  obtain ⟨rfl, rfl, rfl⟩ := trodAll_nil r4
  obtain rfl : args = #[v0, v1, v2, v3, v4] := by cases args; simp_all
  obtain ⟨rfl, rfl⟩ := trodVars_none hV
  have hv0 := hval 0 3 v0 rfl rfl
  have hl0 : ∀ x ∈ p0, x.block < W.heap.size := fun x hx => hlt x (by simp [hx])
  have hv1 := hval 1 3 v1 rfl rfl
  have hl1 : ∀ x ∈ p1, x.block < W.heap.size := fun x hx => hlt x (by simp [hx])
  have hv2 := hval 2 22 v2 rfl rfl
  have hl2 : ∀ x ∈ p2, x.block < W.heap.size := fun x hx => hlt x (by simp [hx])
  have hv3 := hval 3 3 v3 rfl rfl
  have hl3 : ∀ x ∈ p3, x.block < W.heap.size := fun x hx => hlt x (by simp [hx])
  have hv4 := hval 4 3 v4 rfl rfl
  have hl4 : ∀ x ∈ p4, x.block < W.heap.size := fun x hx => hlt x (by simp [hx])
  have hK := of_laid hL
  obtain ⟨x0, rfl, rfl, rfl, y0⟩ := open_int Tryd.underlying3 hv0 h0
  obtain ⟨x1, rfl, rfl, rfl, y1⟩ := open_int Tryd.underlying3 hv1 h1
  obtain ⟨A, c, zs, rfl, m0, m1, m2, R1⟩ := open_list Tryd.underlying22 Tryd.underlying50 (by kernel_rfl) hv2 h2 hl2
  obtain ⟨bs, hbl, hbx, hbe⟩ := open_words m2
  rw [hbe] at R1
  obtain ⟨x3, rfl, rfl, rfl, y3⟩ := open_int Tryd.underlying3 hv3 h3
  obtain ⟨x4, rfl, rfl, rfl, y4⟩ := open_int Tryd.underlying3 hv4 h4
  refine (rows24_n x0 x1 bs A zs.length c hbl x3 x4 W hK R1 hbx).mono fun e W' ⟨he, hb⟩ => ?_
  subst he
  exact ⟨_, rfl, post_law prog_laid (by decide +kernel) rfl Tryd.underlying4 rfl hW' hA0 hlt rfl hb⟩

/-- the row's statement -/
theorem RomixRows_holds : Rows.RomixRowsSaid :=
  OpenClaim.holds_of_wide 4 Tryd.f4 rfl rfl rfl rfl rfl rfl rfl ⟨rfl, rfl, rfl, rfl, rfl⟩ rfl rfl rfl rfl rfl (by kernel_rfl) Tryd.func4 (by kernel_rfl)
    (of_decide_eq_true (by kernel_rfl)) (by unfold Func.isWrapper; first | (rw [if_pos (by decide +kernel)]; kernel_rfl) | (rw [if_neg (by decide +kernel)]; exact ⟨rfl, rfl⟩))
    (fun os started H enc _ => romixRows_lifted os started H enc)

/-- THE STATEMENT: the row's, with the table tied to the program's text -/
theorem RomixRows_card : Rows.RomixRowsCardSaid :=
  Claim7.holds_tied_plain_at .later [] [.data] true Rows.romixRowsCard.stood.harness false
    RomixRows_holds (fun _ h => by cases h) (by kernel_rfl) (fun _ h => by cases h) romixRows_row_tie rfl ⟨rfl, rfl⟩ (by kernel_rfl) rfl
    (fun f fn hf hfn => by
      obtain rfl : f = 4 := Option.some.inj ((show Tryd.prog.funcNamed "pestle/pestlelaw24.RomixRows" = some 4 by kernel_rfl).symm.trans hf) |>.symm
      obtain rfl : fn = Tryd.f4 := (Option.some.inj (Tryd.func4.symm.trans hfn)).symm
      exact ⟨by kernel_rfl, fun j t ht => by
        rw [Tryd.params4] at ht
        have hm : t ∈ [3, 3, 22, 3, 3] := by simpa using Array.mem_of_getElem? ht
        have hall : ([3, 3, 22, 3, 3].all fun u => !Tryd.prog.wantsStandIn u) = true := by kernel_rfl
        exact (show Tryd.prog.wantsStandIn t = false by simpa using List.all_eq_true.1 hall t hm)⟩)
    (by kernel_rfl)
end Go.Proofs.YtohmkhmanidljaaDoor

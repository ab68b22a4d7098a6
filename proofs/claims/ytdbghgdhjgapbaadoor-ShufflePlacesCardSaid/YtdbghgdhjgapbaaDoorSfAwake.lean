/- Chapter 23's example by the calls' contracts. Condition: the table of package salsa reads as it was laid. -/
import Derived.Test.YtdbghgdhjgapbaaDoorSfPlaces
import Derived.Test.YtdbghgdhjgapbaaDoorSfInt
namespace Go.Proofs.YtdbghgdhjgapbaaDoor
set_option maxRecDepth 50000
open Go.RowKit Rot Sl Sf

/-- a row of words at its place reads so -/
theorem row_reads {w : World} {g : Nat} {e : TypeId} {l : List Nat} (h : RowAt w g e (wd l)) {B : Nat} (hB : g < B) : Reads w B (some ⟨g, 0, none⟩) (u32s l) := fun k hk => by
  refine ⟨g, 0, rfl, hB, ?_⟩
  rw [Nat.zero_add, h.cell k]
  simp [wd]

set_option maxHeartbeats 3200000 in
theorem awake23_any (w : World) (hk : QAt w) : Calls Tryd.prog 5 #[] w fun e w' => e = .returned (.bool true) ∧ Below w.heap.size w w' := by
  have HK := Lib.hid hk
  obtain ⟨i0, hi0, hz0, hz1, hz2⟩ := info_parts u32_info
  clear hk
  go_enter Tryd.func5, Tryd.ntmps5
  go_wp2_with fail
  refine (places_any 2 (by decide) (by decide) w).mono ?_
  rintro e w1 ⟨G, rfl, R1, hG, b1⟩
  have HG := Lib.hid (And.intro R1 (And.intro hG b1))
  have hl1 : Below w1.heap.size w1 w1 := Below.refl _ _
  clear R1 b1 hl1
  go_wp2_with (at_make; refine wpList_make_full _ rfl _ _ 22 rfl w1.heap.size 34 i0 (.int .u32 0) 1 Tryd.underlying22 hi0 hz0 hz1 _ _ _ _ 32 rfl rfl ?c0 ?c00 ?c1 ?c2 ?c3 ?_)
  case c0 => rfl
  case c00 => rfl
  case c1 => rw [hz2]; decide
  case c2 => decide
  case c3 => exact Nat.le_refl _
  intro w2 hown hgr
  have e0 : (madeCells #[.int .u32 0] 32).toList = u32s (List.replicate 32 0) := by rw [toList_madeCells_one]; rfl
  rw [e0] at hown
  have hb2 := (Below.refl w1.heap.size _).grown hgr (Nat.le_refl _) (by simp)
  have hR := own_rowAt hown
  have hm := mix_any 1 (by decide) (by decide) (some ⟨w1.heap.size, 0, none⟩) 32 32 (List.replicate 32 0) rfl rfl (Nat.le_refl _) (okw_zeros 32) w2 ((HK.out.next HG.out.2.2).next hb2) (row_reads hR hR.lt)
  rw [show 2 * 1 = 2 from rfl, mx_zero] at hm
  have HM := Lib.hid hm
  have HB2 := Lib.hid (And.intro (HG.out.1.below hb2 HG.out.1.lt) (HG.out.2.2.trans (hb2.mono HG.out.2.2.size)))
  clear hown hgr e0 hb2 hR hm HG HK
  go_wp2_with fail
  refine HM.out.mono ?_
  rintro e w3 ⟨G3, rfl, R3, hG3, b3⟩
  have R1 := HB2.out.1.below b3 HB2.out.1.lt
  have B3 := Lib.hid (HB2.out.2.trans (b3.mono HB2.out.2.size))
  have k1 : w3.cell? ⟨G, 1, none⟩ = some (.int .i64 2) := (R1.cell 1).trans rfl
  have k2 : w3.cell? ⟨G, 2, none⟩ = some (.int .i64 1) := (R1.cell 2).trans rfl
  have k3 : w3.cell? ⟨G3, 0, none⟩ = some (.int .u32 0) := (R3.cell 0).trans rfl
  clear R1 R3 b3 HM HB2 hG hG3
  go_wp2
  go_ret
  exact ⟨rfl, B3.out⟩
end Go.Proofs.YtdbghgdhjgapbaaDoor

/- The chapter's example, and the guards of the laws of layer 6. Condition: the package's table lies at its place. -/
import Derived.Test.YtmmelpifibhmlaaDoorMxChain
import Derived.Test.YtmmelpifibhmlaaDoorMxRchain
import Derived.Test.YtmmelpifibhmlaaDoorOpens
namespace Go.Proofs.YtmmelpifibhmlaaDoor
set_option maxRecDepth 50000
open Go.RowKit Sha

theorem tag_jefe : tagL [74, 101, 102, 101] [119, 104, 97, 116, 32, 100, 111, 32, 121, 97, 32, 119, 97, 110, 116, 32, 102, 111, 114, 32, 110, 111, 116, 104, 105, 110, 103, 63] = [91, 220, 193, 70, 191, 96, 117, 78, 106, 4, 36, 38, 8, 149, 117, 199, 90, 0, 63, 8, 157, 39, 57, 131, 157, 236, 88, 185, 100, 236, 56, 67] := by kernel_rfl

set_option maxHeartbeats 800000 in
theorem awakem_any (w : World) (hk : KAt w) : Calls Tryd.prog 6 #[] w fun e w' => e = .returned (.bool true) ∧ Below w.heap.size w w' := by
  have HA : Hid (Below w.heap.size w (w.alloc (.cells #[.string ⟨#[119, 104, 97, 116, 32, 100, 111, 32, 121, 97, 32, 119, 97, 110, 116, 32, 102, 111, 114, 32, 110, 111, 116, 104, 105, 110, 103, 63]⟩] 9))) := Lib.hid ((Below.refl _ w).alloc (Nat.le_refl _) _)
  have C := macof_any ⟨#[74, 101, 102, 101]⟩ (by decide) (w.alloc (.cells #[.string ⟨#[119, 104, 97, 116, 32, 100, 111, 32, 121, 97, 32, 119, 97, 110, 116, 32, 102, 111, 114, 32, 110, 111, 116, 104, 105, 110, 103, 63]⟩] 9)) (hk.next HA.out) (some ⟨w.heap.size, 0, none⟩) 1 [⟨#[119, 104, 97, 116, 32, 100, 111, 32, 121, 97, 32, 119, 97, 110, 116, 32, 102, 111, 114, 32, 110, 111, 116, 104, 105, 110, 103, 63]⟩] (fun k hk => by
    have hk0 : k = 0 := by simp [stv] at hk; omega
    subst hk0
    exact ⟨w.heap.size, 0, rfl, by simp, by rw [cell_of_row _ _ _ _ _ (0, 0) (heap_alloc_last w _)]; rfl⟩) (by simp [jn, tl]) (by simp)
  rw [show jn [(⟨#[119, 104, 97, 116, 32, 100, 111, 32, 121, 97, 32, 119, 97, 110, 116, 32, 102, 111, 114, 32, 110, 111, 116, 104, 105, 110, 103, 63]⟩ : ByteArray)] = [119, 104, 97, 116, 32, 100, 111, 32, 121, 97, 32, 119, 97, 110, 116, 32, 102, 111, 114, 32, 110, 111, 116, 104, 105, 110, 103, 63] from rfl, show tl (⟨#[74, 101, 102, 101]⟩ : ByteArray) = [74, 101, 102, 101] from rfl, tag_jefe] at C
  obtain ⟨S, hS⟩ : ∃ S, S = tx [91, 220, 193, 70, 191, 96, 117, 78, 106, 4, 36, 38, 8, 149, 117, 199, 90, 0, 63, 8, 157, 39, 57, 131, 157, 236, 88, 185, 100, 236, 56, 67] := ⟨_, rfl⟩
  rw [← hS] at C
  have f1 : S.size = 32 := by rw [hS]; rfl
  have f2 : S.extract 0 4 = ⟨#[91, 220, 193, 70]⟩ := by rw [hS]; rfl
  have f3 : S.extract 28 32 = ⟨#[100, 236, 56, 67]⟩ := by rw [hS]; rfl
  have CC := Lib.hid C
  have HF := Lib.hid (And.intro f2 f3)
  clear C hS hk f2 f3
  go_enter Tryd.func6, Tryd.ntmps6
  go_wp2_with fail
  refine CC.out.mono ?_
  rintro e w1 ⟨rfl, hb⟩
  have HB := Lib.hid hb
  clear hb
  obtain ⟨f2, f3⟩ := HF.out
  go_wp2
  go_ret
  exact ⟨rfl, below_step HA.out HB.out⟩
end Go.Proofs.YtmmelpifibhmlaaDoor

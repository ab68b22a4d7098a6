/- A lane in memory, and Step of package lane, by its contracts. Conditions: those typed. -/
import Derived.Test.YtfoodaobiknihaaGreatDoorLnOpen
import Derived.BigQuiet
namespace Go.Proofs.YtfoodaobiknihaaGreatDoor
set_option maxRecDepth 50000
open Go.RowKit Bb Bn
set_option maxHeartbeats 6400000 in
theorem step_nil (w : World) : Calls Tryz.prog 5 #[.pointer none] w fun e w' => e = .returned (.tuple #[evv 0 0 0 0 0 0 0 0, .int .i64 11]) ∧ Below w.heap.size w w' := by
  obtain ⟨w1, e1⟩ : ∃ w1, w1 = w.alloc (.cells (evc 0 0 0 0 0 0 0 0) 32) := ⟨_, rfl⟩
  have HB := Lib.hid (show Below w.heap.size w w1 by rw [e1]; exact one_box _ _)
  have HE : Hid (RowAt w1 w.heap.size 32 (evc 0 0 0 0 0 0 0 0)) := Lib.hid (by rw [e1]; exact RowAt.new _ _ _)
  have E1 := Lib.hid e1
  clear e1
  go_enter Tryz.func5, Tryz.ntmps5
  go_upto_region 1 with fail
  rw [← E1.out]
  clear E1
  go_wp2_with (first
    | refine wpList_value_want rfl _ (ev_none_run rfl) ?_
    | refine wpList_store_of rfl _ _ _ rfl ⟨w.heap.size, 0, none⟩ _ rfl rfl (evc_store HE.out) ?_)
  refine bodyPost_ret (results_row_tmp rfl _ (p := 2) rfl (HE.out.setRow (evc 0 0 0 0 0 0 0 0)) Tryz.underlying32 rfl ev_size) rfl ⟨rfl, ?_⟩
  exact below_setRow HB.out (Nat.le_refl _) _
section
variable {w : World} {b : Nat} {xv dv : Value} {k p s i : Int} {f : Bool}
set_option maxHeartbeats 6400000 in
theorem step_late (H : LnRow w b (.pointer none) k p s i xv dv f) : Calls Tryz.prog 5 #[.pointer (some ⟨b, 0, none⟩)] w fun e w' => e = .returned (.tuple #[evv 0 0 0 0 0 0 0 0, .int .i64 12]) ∧ Below w.heap.size w w' := by
  obtain ⟨w1, e1⟩ : ∃ w1, w1 = w.alloc (.cells (evc 0 0 0 0 0 0 0 0) 32) := ⟨_, rfl⟩
  have b1 : Below w.heap.size w w1 := by rw [e1]; exact one_box _ _
  have HB := Lib.hid b1
  have HE : Hid (RowAt w1 w.heap.size 32 (evc 0 0 0 0 0 0 0 0)) := Lib.hid (by rw [e1]; exact RowAt.new _ _ _)
  have CD := Lib.hid (done_ln (r := true) (H.step b1) rfl)
  have E1 := Lib.hid e1
  clear e1 b1 H
  go_enter Tryz.func5, Tryz.ntmps5
  go_upto_region 1 with fail
  rw [← E1.out]
  clear E1
  go_wp2_with fail
  refine CD.out.mono ?_
  rintro e w2 ⟨rfl, rfl⟩
  go_wp2_with (first
    | refine wpList_value_want rfl _ (ev_none_run rfl) ?_
    | refine wpList_store_of rfl _ _ _ rfl ⟨w.heap.size, 0, none⟩ _ rfl rfl (evc_store HE.out) ?_)
  refine bodyPost_ret (results_row_tmp rfl _ (p := 2) rfl (HE.out.setRow (evc 0 0 0 0 0 0 0 0)) Tryz.underlying32 rfl ev_size) rfl ⟨rfl, ?_⟩
  exact below_setRow HB.out (Nat.le_refl _) _
set_option maxHeartbeats 6400000 in
theorem step_wait {ad : Addr} (H : LnRow w b (.pointer (some ad)) k p s i xv dv true) : Calls Tryz.prog 5 #[.pointer (some ⟨b, 0, none⟩)] w fun e w' => e = .returned (.tuple #[evv 0 0 0 0 0 0 0 0, .int .i64 16]) ∧ Below w.heap.size w w' := by
  obtain ⟨w1, e1⟩ : ∃ w1, w1 = w.alloc (.cells (evc 0 0 0 0 0 0 0 0) 32) := ⟨_, rfl⟩
  have b1 : Below w.heap.size w w1 := by rw [e1]; exact one_box _ _
  have HB := Lib.hid b1
  have HE : Hid (RowAt w1 w.heap.size 32 (evc 0 0 0 0 0 0 0 0)) := Lib.hid (by rw [e1]; exact RowAt.new _ _ _)
  have CD := Lib.hid (done_ln (r := false) (H.step b1) rfl)
  have k7 := (H.step b1).waits
  have E1 := Lib.hid e1
  clear e1 b1 H
  go_enter Tryz.func5, Tryz.ntmps5
  go_upto_region 1 with fail
  rw [← E1.out]
  clear E1
  go_wp2_with fail
  refine CD.out.mono ?_
  rintro e w2 ⟨rfl, rfl⟩
  go_wp2_with (first
    | refine wpList_value_want rfl _ (ev_none_run rfl) ?_
    | refine wpList_store_of rfl _ _ _ rfl ⟨w.heap.size, 0, none⟩ _ rfl rfl (evc_store HE.out) ?_)
  refine bodyPost_ret (results_row_tmp rfl _ (p := 2) rfl (HE.out.setRow (evc 0 0 0 0 0 0 0 0)) Tryz.underlying32 rfl ev_size) rfl ⟨rfl, ?_⟩
  exact below_setRow HB.out (Nat.le_refl _) _
end
set_option maxHeartbeats 12800000 in
theorem step_by {w : World} {q pc h G a t l m bb c g z b : Nat} {L : List (List Nat)} {k p s : Int} {i : Nat} {xv : Value} {dd : Option Addr} (H : LnRow w b (.pointer (some ⟨q, 0, none⟩)) k p s i xv (.pointer dd) false) (hG : GrAt w q pc h G a t l m bb c g z L) (e0 e1 e2 e3 e4 e5 e6 e7 : Int) (P : World → Prop) (F : FuncId)
    (hF : (F = 20 ∧ g ≤ i) ∨ (F = 21 ∧ i < g ∧ dd = none) ∨ (F = 22 ∧ i < g ∧ ∃ d, dd = some ⟨d, 0, none⟩))
    (CS : ∀ u, Below w.heap.size w u → RowAt u w.heap.size 32 (evc 0 0 0 0 0 0 0 0) → Calls Tryz.prog F #[.pointer (some ⟨b, 0, none⟩)] u fun e w' => e = .returned (.tuple #[evv e0 e1 e2 e3 e4 e5 e6 e7, .int .i64 0]) ∧ RowAt w' w.heap.size 32 (evc 0 0 0 0 0 0 0 0) ∧ P (w'.setRow w.heap.size (evc e0 e1 e2 e3 e4 e5 e6 e7))) :
    Calls Tryz.prog 5 #[.pointer (some ⟨b, 0, none⟩)] w fun e w' => e = .returned (.tuple #[evv e0 e1 e2 e3 e4 e5 e6 e7, .int .i64 0]) ∧ P w' := by
  obtain ⟨w1, hw1⟩ : ∃ w1, w1 = w.alloc (.cells (evc 0 0 0 0 0 0 0 0) 32) := ⟨_, rfl⟩
  have b1 : Below w.heap.size w w1 := by rw [hw1]; exact one_box _ _
  have hE : RowAt w1 w.heap.size 32 (evc 0 0 0 0 0 0 0 0) := by rw [hw1]; exact RowAt.new _ _ _
  have CS1 : Hid (∀ n, Calls Tryz.prog F #[.pointer (some ⟨b, 0, none⟩)] (w1.drewN n) fun e w' => e = .returned (.tuple #[evv e0 e1 e2 e3 e4 e5 e6 e7, .int .i64 0]) ∧ RowAt w' w.heap.size 32 (evc 0 0 0 0 0 0 0 0) ∧ P (w'.setRow w.heap.size (evc e0 e1 e2 e3 e4 e5 e6 e7))) := Lib.hid fun n => CS _ (below_drewN b1 n) hE
  have H1 := H.step b1
  have CD := Lib.hid (done_ln (r := false) H1 rfl)
  have k0 := H1.grid
  have k4 := H1.index
  have k6 := H1.held
  have k7 := H1.waits
  have kq := (hG.step b1).row.segment
  have E1 := Lib.hid hw1
  clear H hG hE b1 hw1 H1 CS
  rcases hF with ⟨rfl, hi⟩ | ⟨rfl, hi, rfl⟩ | ⟨rfl, hi, d, rfl⟩
  · have d1 : decide ((g : Int) ≤ (i : Int)) = true := by simp; omega
    have d2 : decide (g ≤ i) = true := by simp; omega
    go_enter Tryz.func5, Tryz.ntmps5
    go_upto_region 1 with fail
    rw [← E1.out]
    clear E1
    go_wp2_with fail
    refine CD.out.mono ?_
    rintro e w2 ⟨rfl, rfl⟩
    go_wp2
    go_quiet (fail)
    go_wp2_with fail
    refine (CS1.out _).mono ?_
    rintro e w3 ⟨rfl, hE3, hP⟩
    have HE3 := Lib.hid hE3
    have HP := Lib.hid hP
    clear hE3 hP k0 k4 k6 k7 kq CD CS1
    go_wp2_with (refine wpList_store_of rfl _ _ _ rfl ⟨w.heap.size, 0, none⟩ _ rfl rfl (evc_store HE3.out) ?_)
    exact bodyPost_ret (results_row_tmp rfl _ (p := 2) rfl (HE3.out.setRow (evc e0 e1 e2 e3 e4 e5 e6 e7)) Tryz.underlying32 rfl ev_size) rfl ⟨rfl, HP.out⟩
  · have d1 : decide ((g : Int) ≤ (i : Int)) = false := by simp; omega
    have d2 : decide (g ≤ i) = false := by simp; omega
    go_enter Tryz.func5, Tryz.ntmps5
    go_upto_region 1 with fail
    rw [← E1.out]
    clear E1
    go_wp2_with fail
    refine CD.out.mono ?_
    rintro e w2 ⟨rfl, rfl⟩
    go_wp2
    go_quiet (fail)
    go_wp2_with fail
    refine (CS1.out _).mono ?_
    rintro e w3 ⟨rfl, hE3, hP⟩
    have HE3 := Lib.hid hE3
    have HP := Lib.hid hP
    clear hE3 hP k0 k4 k6 k7 kq CD CS1
    go_wp2_with (refine wpList_store_of rfl _ _ _ rfl ⟨w.heap.size, 0, none⟩ _ rfl rfl (evc_store HE3.out) ?_)
    exact bodyPost_ret (results_row_tmp rfl _ (p := 2) rfl (HE3.out.setRow (evc e0 e1 e2 e3 e4 e5 e6 e7)) Tryz.underlying32 rfl ev_size) rfl ⟨rfl, HP.out⟩
  · have d1 : decide ((g : Int) ≤ (i : Int)) = false := by simp; omega
    have d2 : decide (g ≤ i) = false := by simp; omega
    go_enter Tryz.func5, Tryz.ntmps5
    go_upto_region 1 with fail
    rw [← E1.out]
    clear E1
    go_wp2_with fail
    refine CD.out.mono ?_
    rintro e w2 ⟨rfl, rfl⟩
    go_wp2
    go_quiet (fail)
    go_wp2_with fail
    refine (CS1.out _).mono ?_
    rintro e w3 ⟨rfl, hE3, hP⟩
    have HE3 := Lib.hid hE3
    have HP := Lib.hid hP
    clear hE3 hP k0 k4 k6 k7 kq CD CS1
    go_wp2_with (refine wpList_store_of rfl _ _ _ rfl ⟨w.heap.size, 0, none⟩ _ rfl rfl (evc_store HE3.out) ?_)
    exact bodyPost_ret (results_row_tmp rfl _ (p := 2) rfl (HE3.out.setRow (evc e0 e1 e2 e3 e4 e5 e6 e7)) Tryz.underlying32 rfl ev_size) rfl ⟨rfl, HP.out⟩
end Go.Proofs.YtfoodaobiknihaaGreatDoor

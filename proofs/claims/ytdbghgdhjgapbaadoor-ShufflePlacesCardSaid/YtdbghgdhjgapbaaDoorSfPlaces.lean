/- Places of package shuffle by its contract. Conditions: those typed. -/
import Derived.Test.YtdbghgdhjgapbaaDoorSfMix
namespace Go.Proofs.YtdbghgdhjgapbaaDoor
set_option maxRecDepth 50000
open Go.RowKit Rot Sl Sf

/-- where the first i blocks go -/
def pls (r : Nat) : Nat → List Nat
  | 0 => List.replicate (2 * r) 0
  | i + 1 => (pls r i).set i (pl r i)
theorem pls_length (r : Nat) : ∀ i, (pls r i).length = 2 * r
  | 0 => by simp [pls]
  | i + 1 => by rw [pls, List.length_set, pls_length r i]
theorem pls_at (r j : Nat) (hj : j < 2 * r) : ∀ i, j < i → (pls r i).getD j 0 = pl r j
  | 0, h => by omega
  | i + 1, h => by
    rw [pls, List.getD_eq_getElem?_getD]
    by_cases e : i = j
    · subst e
      rw [List.getElem?_set_self (by rw [pls_length]; exact hj)]; rfl
    · rw [List.getElem?_set_ne e, ← List.getD_eq_getElem?_getD]
      exact pls_at r j hj i (by omega)
theorem int_info : (Tryd.prog.info? 3).map (fun i => (i.zero, i.size, i.bytes)) = some (some (.int .i64 0), 1, 8) := by kernel_rfl

theorem places_bad (z : Int) (h : z < 1 ∨ 512 < z) (w : World) : Calls Tryd.prog 12 #[.int .i64 z] w fun e w' => e = .returned (.tuple #[.slice none 0 0, .int .i64 2]) ∧ w = w' := by
  have HC := Lib.hid fun w => may_bad z h w
  clear h
  go_enter Tryd.func12, Tryd.ntmps12
  go_wp2_with fail
  refine (HC.out w).mono ?_
  rintro e w2 ⟨rfl, rfl⟩
  go_wp2
  go_ret2
  exact ⟨rfl, rfl⟩

set_option maxHeartbeats 3200000 in
theorem places_any (r : Nat) (h1 : 1 ≤ r) (h2 : r ≤ 512) (w : World) :
    Calls Tryd.prog 12 #[.int .i64 (r : Int)] w fun e w' => ∃ G, e = .returned (.tuple #[.slice (some ⟨G, 0, none⟩) (2 * r) (2 * r), .int .i64 0]) ∧ RowAt w' G 3 (iq (pls r (2 * r))) ∧ w.heap.size ≤ G ∧ Below w.heap.size w w' := by
  have HC := Lib.hid fun w => may_good r h1 h2 w
  have HBL := Lib.hid fun w => blocks_any r h2 w
  have HPL := Lib.hid fun i hi w => place_any r i h2 hi w
  have HLN := Lib.hid (pls_length r)
  have HP0 : Hid (pls r 0 = List.replicate (2 * r) 0) := Lib.hid rfl
  obtain ⟨b, hb⟩ : ∃ b, 2 * r = b := ⟨_, rfl⟩
  rw [hb] at HBL HPL HLN HP0 ⊢
  have hbb : b ≤ 1024 := by omega
  obtain ⟨i0, hi0, hz0, hz1, hz2⟩ := info_parts int_info
  clear h1 h2 hb
  go_enter Tryd.func12, Tryd.ntmps12
  go_wp2_with fail
  refine (HC.out w).mono ?_
  rintro e w' ⟨rfl, rfl⟩
  go_wp2_with fail
  refine (HBL.out w).mono ?_
  rintro e w' ⟨rfl, rfl⟩
  go_wp2_with (at_make; refine wpList_make_full _ rfl _ _ 36 rfl w.heap.size 3 i0 (.int .i64 0) 1 Tryd.underlying36 hi0 hz0 hz1 _ _ _ _ b rfl rfl ?c0 ?c00 ?c1 ?c2 ?c3 ?_)
  case c0 => rfl
  case c00 => rfl
  case c1 => rw [hz2]; omega
  case c2 => unfold maxLen; omega
  case c3 => exact Nat.le_refl _
  intro w2 hown hgr
  have e0 : (madeCells #[.int .i64 0] b).toList.toArray = iq (pls r 0) := by
    rw [toList_madeCells_one, HP0.out]
    unfold iq
    rw [List.map_replicate]; rfl
  have hR := own_rowAt hown
  rw [e0] at hR
  have hgb := (Below.refl w.heap.size _).grown hgr (Nat.le_refl _) (by simp)
  have HX := Lib.hid (And.intro hR hgb)
  clear hown hgr e0 hgb hR HC HBL HP0
  obtain ⟨G, hG⟩ : ∃ G, G = w.heap.size := ⟨_, rfl⟩
  rw [← hG] at HX ⊢
  have HG := Lib.hid hG
  clear hG
  go_wp2
  go_loopw [5, 14] (fun _ v14 wr => ∃ i : Nat, i ≤ b ∧ v14 = .int .i64 (i : Int) ∧ RowAt wr G 3 (iq (pls r i)) ∧ Below G w wr) (fun _ v14 _ => b - (intOf v14).toNat)
  case atStart => exact ⟨0, by omega, rfl, HX.out⟩
  case round =>
    clear HX
    obtain ⟨i, hi, rfl, R, hb⟩ := hrel
    have HX := Lib.hid (And.intro R hb)
    by_cases h : i < b
    · have hdt : decide ((i : Int) < (b : Int)) = true := by simp; omega
      have hli := HLN.out i
      have HCL := Lib.hid fun w => HPL.out i h w
      have c1 := (R.cell i).trans (iq_at _ i (by omega))
      have f1 := R.frozen i
      have HF : Hid (pls r (i + 1) = (pls r i).set i (pl r i)) := Lib.hid rfl
      generalize pls r i = L at *
      generalize pl r i = p at *
      generalize L.getD i 0 = u at *
      have hi0' : (0 : Int) ≤ (i : Int) := by omega
      have hi1 : (i : Int) < (b : Int) := by omega
      clear R hb hli
      go_wp2_with fail
      refine (HCL.out wr).mono ?_
      rintro e w' ⟨rfl, rfl⟩
      go_wp2
      go_roundw
      case rel => exact ⟨i + 1, by omega, by go_num, by rw [HF.out, ← iq_set]; exact HX.out.1.setCell i _, HX.out.2.setCell (by have := HG.out; simp) _⟩
      case measure => simp [intOf]; omega
    · obtain rfl : i = b := by omega
      have hdt : decide ((i : Int) < (i : Int)) = false := by simp
      clear R hb
      go_wp2
      go_ret2
      have hG := HG.out
      exact ⟨G, rfl, HX.out.1, by omega, by rw [← hG]; exact HX.out.2⟩
end Go.Proofs.YtdbghgdhjgapbaaDoor

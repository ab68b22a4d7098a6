/- turn of package dec by its contract: a row of one's own, put into the other order. Condition: the row has a place. -/
import Derived.Test.YtkmaghjdnknjjaaDcPure
import Derived.LoopTactic
import Derived.Laws.Rows
import Derived.Laws.OwnMore
import Derived.RegionTactic
import Derived.ChangeAlike
namespace Go.Proofs.Ytkmaghjdnknjjaa
set_option maxRecDepth 50000
open Go.RowKit De

/-- a list, its first k places and its last k ones put into the other order -/
def sw (l : List UInt8) (k : Nat) : List UInt8 := (List.range l.length).map fun i => if i < k ∨ l.length ≤ i + k then l.getD (l.length - 1 - i) 0 else l.getD i 0
theorem sw_length (l : List UInt8) (k : Nat) : (sw l k).length = l.length := by simp [sw]
theorem sw_get (l : List UInt8) (k i : Nat) (h : i < l.length) : (sw l k)[i]? = some (if i < k ∨ l.length ≤ i + k then l.getD (l.length - 1 - i) 0 else l.getD i 0) := by
  unfold sw
  rw [List.getElem?_map, List.getElem?_range h]; rfl
theorem sw_zero (l : List UInt8) : sw l 0 = l := by
  apply List.ext_getElem?
  intro i
  by_cases h : i < l.length
  · rw [sw_get l 0 i h, if_neg (by omega), List.getElem?_eq_getElem h, List.getD_eq_getElem?_getD, List.getElem?_eq_getElem h]; rfl
  · rw [List.getElem?_eq_none (by rw [sw_length]; omega), List.getElem?_eq_none (by omega)]
theorem sw_end (l : List UInt8) (k : Nat) (h : l.length ≤ 2 * k + 1) : sw l k = l.reverse := by
  apply List.ext_getElem?
  intro i
  by_cases hi : i < l.length
  · rw [sw_get l k i hi, List.getElem?_reverse hi]
    by_cases hc : i < k ∨ l.length ≤ i + k
    · rw [if_pos hc, List.getD_eq_getElem?_getD, List.getElem?_eq_getElem (show l.length - 1 - i < l.length by omega)]; rfl
    · rw [if_neg hc, show l.length - 1 - i = i by omega, List.getD_eq_getElem?_getD, List.getElem?_eq_getElem hi]; rfl
  · rw [List.getElem?_eq_none (by rw [sw_length]; omega), List.getElem?_eq_none (by simp; omega)]
theorem sw_step (l : List UInt8) (k j : Nat) (hj : j + k + 1 = l.length) (hk : k < j) : ((sw l k).set k (l.getD j 0)).set j (l.getD k 0) = sw l (k + 1) := by
  apply List.ext_getElem?
  intro i
  by_cases hi : i < l.length
  · rw [sw_get l (k + 1) i hi, List.getElem?_set, List.getElem?_set]
    simp only [List.length_set, sw_length]
    by_cases h1 : j = i
    · subst h1
      rw [if_pos rfl, if_pos hi, if_pos (by omega), show l.length - 1 - j = k by omega]
    · rw [if_neg h1]
      by_cases h2 : k = i
      · subst h2
        rw [if_pos rfl, if_pos hi, if_pos (by omega), show l.length - 1 - k = j by omega]
      · rw [if_neg h2, sw_get l k i hi]
        by_cases hc : i < k ∨ l.length ≤ i + k
        · rw [if_pos hc, if_pos (by omega)]
        · rw [if_neg hc, if_neg (by omega)]
  · rw [List.getElem?_eq_none (by simp [sw_length]; omega), List.getElem?_eq_none (by rw [sw_length]; omega)]
theorem sw_here (l : List UInt8) (k j : Nat) (hj : j + k + 1 = l.length) (hk : k < j) : (sw l k)[k]? = some (l.getD k 0) ∧ (sw l k)[j]? = some (l.getD j 0) := by
  refine ⟨?_, ?_⟩
  · rw [sw_get l k k (by omega), if_neg (by omega)]
  · rw [sw_get l k j (by omega), if_neg (by omega)]
theorem cs_get (l : List UInt8) (i : Nat) : (cs l)[i]? = l[i]?.map fun b => Value.int .u8 (b.toNat : Int) := by unfold cs; rw [List.getElem?_map]
theorem cs_set (l : List UInt8) (i : Nat) (b : UInt8) : (cs l).set i (.int .u8 (b.toNat : Int)) = cs (l.set i b) := by unfold cs; rw [List.map_set]

set_option maxHeartbeats 1600000 in
theorem turn_any (B g n c : Nat) (l : List UInt8) (w : World) (hn : n = l.length) (hn2 : n ≤ 140737488355328) (h : w.ownsRow B 5 1 (.slice (some ⟨g, 0, none⟩) n c) n (cs l)) (hg : B ≤ g) :
    Calls Try.prog 21 #[.slice (some ⟨g, 0, none⟩) n c] w fun e w' => e = .returned (.tuple #[]) ∧ w'.ownsRow B 5 1 (.slice (some ⟨g, 0, none⟩) n c) n (cs l.reverse) ∧ Below B w w' := by
  have HN := Lib.hid hn
  have H0 : Hid (w.ownsRow B 5 1 (.slice (some ⟨g, 0, none⟩) n c) n (cs (sw l 0)) ∧ Below B w w) := Lib.hid ⟨by rw [sw_zero]; exact h, Below.refl _ _⟩
  clear h hn
  go_enter Try.func21, Try.ntmps21
  go_wp2
  go_loopw [2, 3] (fun v2 v3 wr => ∃ (k : Nat) (z : Int), 2 * k ≤ n ∧ Hid (z = (n : Int) - 1 - (k : Int)) ∧ -1 ≤ z ∧ z < (n : Int) ∧ v2 = .int .i64 (k : Int) ∧ v3 = .int .i64 z ∧ Hid (wr.ownsRow B 5 1 (.slice (some ⟨g, 0, none⟩) n c) n (cs (sw l k)) ∧ Below B w wr)) (fun v2 _ _ => n - (intOf v2).toNat)
  case atStart => exact ⟨0, (n : Int) - 1, by omega, Lib.hid (by omega), by omega, by omega, rfl, rfl, H0⟩
  case round =>
    obtain ⟨k, z, hk, HZ, hz1, hz2, rfl, rfl, HS⟩ := hrel
    by_cases hlt : (k : Int) < z
    · obtain ⟨j, rfl⟩ : ∃ j : Nat, z = (j : Int) := ⟨z.toNat, by omega⟩
      have hkj : k < j := by omega
      have hjn : j < n := by omega
      have hj2 : j + k + 1 = l.length := by have := HZ.out; have := HN.out; omega
      obtain ⟨x1, x2⟩ := sw_here l k j hj2 hkj
      have HST := Lib.hid (sw_step l k j hj2 hkj)
      have Hown := HS.out.1
      have c1 : wr.cell? ⟨g, k, none⟩ = some (.int .u8 ((l.getD k 0).toNat : Int)) := by rw [Hown.cellAt k (by omega), cs_get, x1]; rfl
      have c2 : wr.cell? ⟨g, j, none⟩ = some (.int .u8 ((l.getD j 0).toNat : Int)) := by rw [Hown.cellAt j (by omega), cs_get, x2]; rfl
      have f1 : wr.frozen? ⟨g, k, none⟩ = false := Hown.frozenAt k
      have f2 : wr.frozen? ⟨g, j, none⟩ = false := Hown.frozenAt j
      have HN2 : Hid ((((wr.setCell ⟨g, k, none⟩ (.int .u8 ((l.getD j 0).toNat : Int))).setCell ⟨g, j, none⟩ (.int .u8 ((l.getD k 0).toNat : Int))).drew).ownsRow B 5 1 (.slice (some ⟨g, 0, none⟩) n c) n (cs (sw l (k + 1))) ∧ Below B w ((wr.setCell ⟨g, k, none⟩ (.int .u8 ((l.getD j 0).toNat : Int))).setCell ⟨g, j, none⟩ (.int .u8 ((l.getD k 0).toNat : Int))).drew) := Lib.hid ⟨by
          have := ((Hown.stored k (.int .u8 ((l.getD j 0).toNat : Int))).1.stored j (.int .u8 ((l.getD k 0).toNat : Int))).1
          rw [cs_set, cs_set, HST.out] at this
          exact this, ((HS.out.2.setCell hg _).setCell hg _).drew⟩
      clear Hown x1 x2 hj2
      generalize l.getD k 0 = x at *
      generalize l.getD j 0 = y at *
      go_wp2
      go_region
      all_goals go_wp2
      all_goals go_roundw
      case rel => exact ⟨k + 1, (j : Int) - 1, by have := HZ.out; omega, Lib.hid (by have := HZ.out; omega), by omega, by omega, by go_num, by go_num, HN2⟩
      case measure => simp [intOf]; omega
    · have hend : l.length ≤ 2 * k + 1 := by have := HZ.out; have := HN.out; omega
      have HE := Lib.hid (sw_end l k hend)
      go_wp2
      go_end0
      exact ⟨rfl, by rw [← HE.out]; exact HS.out.1, HS.out.2⟩
end Go.Proofs.Ytkmaghjdnknjjaa

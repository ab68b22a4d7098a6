/- same of the law, by its contract: are lists of rows the same? Condition: no list is longer than a million. -/
import Derived.Test.YtohmkhmanidljaaDoorRmRows
import Derived.BigQuiet
namespace Go.Proofs.YtohmkhmanidljaaDoor
set_option maxRecDepth 50000
open Go.RowKit Bb Sl Sf Rm

theorem rows_ext {X Y : List (List Nat)} (h : X.length = Y.length) (H : ∀ i, i < X.length → X.getD i [] = Y.getD i []) : X = Y := by
  refine List.ext_getElem h fun i h1 h2 => ?_
  have := H i h1
  rwa [List.getD_eq_getElem?_getD, List.getElem?_eq_getElem h1, List.getD_eq_getElem?_getD, List.getElem?_eq_getElem h2] at this
theorem rd_word {w : World} {B : Nat} {a : Option Addr} {l : List Nat} (h : Reads w B a (u32s l)) (k : Nat) (hk : k < l.length) : ∃ b o, a = some ⟨b, o, none⟩ ∧ ∀ q, (w.drewN q).cell? ⟨b, o + k, none⟩ = some (.int .u32 ((l.getD k 0 : Nat) : Int)) := by
  obtain ⟨b, o, e, hl, hc⟩ := h k (by rw [u32s_length]; exact hk)
  refine ⟨b, o, e, fun _ => ?_⟩
  rw [show l.getD k 0 = l[k] by rw [List.getD_eq_getElem?_getD, List.getElem?_eq_getElem hk]; rfl, ← u32_at l k (by rw [u32s_length]; exact hk)]
  exact hc

theorem drew_two (w : World) (q k : Nat) : ∃ j, (w.drewN q).drewN k = w.drewN j := ⟨q + k, by rw [World.drewN_drewN]⟩

set_option maxHeartbeats 3200000 in
theorem same_any {w : World} {B B' : Nat} {va vb : Value} {X Y : List (List Nat)} (hX : Rws w B va X) (hY : Rws w B' vb Y) (hXl : X.length ≤ 1000000) (hXr : ∀ i, i < X.length → (X.getD i []).length ≤ 1000000) (hYr : ∀ i, i < Y.length → (Y.getD i []).length ≤ 1000000) :
    Calls Tryd.prog 11 #[va, vb] w fun e w' => e = .returned (.bool (decide (X = Y))) ∧ ∃ q, w' = w.drewN q := by
  obtain ⟨A, c, rfl, HA⟩ := hX
  obtain ⟨A2, c2, rfl, HA2⟩ := hY
  by_cases hl : X.length = Y.length
  · have e1 : ((X.length : Int) != (X.length : Int)) = false := by simp
    have e2 : ((X.length : Int) == (X.length : Int)) = true := by simp
    have HXX := Lib.hid hXr
    have HYY := Lib.hid hYr
    obtain ⟨z, hz⟩ : ∃ z, decide (X = Y) = z := ⟨_, rfl⟩
    have HE : Hid ((∀ i, i < X.length → X.getD i [] = Y.getD i []) → z = true) := Lib.hid fun H => by rw [← hz]; exact decide_eq_true (rows_ext hl H)
    have HF : Hid (∀ i, X.getD i [] ≠ Y.getD i [] → z = false) := Lib.hid fun i h => by
      rw [← hz]
      simp only [decide_eq_false_iff_not]
      intro e
      rw [e] at h
      exact h rfl
    rw [hz]
    clear hz
    rw [← hl] at HA2 HYY ⊢
    have HA := Lib.hid HA
    have HA2 := Lib.hid HA2
    obtain ⟨n, hn⟩ : ∃ n, X.length = n := ⟨_, rfl⟩
    rw [hn] at HA HA2 HXX HYY HE e1 e2 hXl ⊢
    clear hn hl hXr hYr
    go_enter Tryd.func11, Tryd.ntmps11
    go_wp2
    go_loopw [5, 6, 14] (fun _ _ v14 wr => ∃ i q : Nat, i ≤ n ∧ v14 = .int .i64 (i : Int) ∧ wr = w.drewN q ∧ ∀ j, j < i → X.getD j [] = Y.getD j []) (fun _ _ v14 _ => n - (intOf v14).toNat)
    case atStart => exact ⟨0, 0, by omega, rfl, rfl, fun j hj => absurd hj (by omega)⟩
    case round =>
      obtain ⟨i, q, hi, rfl, rfl, Y1⟩ := hrel
      have HJ := Lib.hid Y1
      clear Y1
      by_cases h : i < n
      · have hd : decide ((i : Int) < (n : Int)) = true := by simp; omega
        obtain ⟨b, o, a, c', rfl, _, hc, hr⟩ := HA.out i h
        obtain ⟨b2, o2, a2, c2', rfl, _, hc2, hr2⟩ := HA2.out i h
        have hp0 : (0 : Int) ≤ (i : Int) := by omega
        have hp1 : (i : Int) < (n : Int) := by omega
        have k1 : ∀ q, (w.drewN q).cell? ⟨b, o + i, none⟩ = some (.slice a (X.getD i []).length c') := fun _ => hc
        have k2 : ∀ q, (w.drewN q).cell? ⟨b2, o2 + i, none⟩ = some (.slice a2 (Y.getD i []).length c2') := fun _ => hc2
        have HR := Lib.hid hr
        have HR2 := Lib.hid hr2
        have HNE := Lib.hid (HF.out i)
        have HXi := HXX.out i h
        have HYi := HYY.out i h
        have HJN : Hid (X.getD i [] = Y.getD i [] → ∀ j, j < i + 1 → X.getD j [] = Y.getD j []) := Lib.hid fun e j hj => by
          by_cases e2 : j = i
          · subst e2; exact e
          · exact HJ.out j (by omega)
        clear hc hc2 hr hr2 HJ
        generalize X.getD i [] = x at *
        generalize Y.getD i [] = y at *
        by_cases hxy : x.length = y.length
        · have e3 : ((x.length : Int) != (x.length : Int)) = false := by simp
          have e4 : ((x.length : Int) == (x.length : Int)) = true := by simp
          rw [← hxy] at k2 HYi
          have HXY := Lib.hid hxy
          obtain ⟨m, hm⟩ : ∃ m, x.length = m := ⟨_, rfl⟩
          rw [hm] at k1 k2 HXi HYi e3 e4
          have HM := Lib.hid hm
          clear hm hxy
          go_wp2
          go_quiet (fail)
          go_wp2
          go_loopw [6, 33] (fun _ v33 wr => ∃ k q : Nat, k ≤ m ∧ v33 = .int .i64 (k : Int) ∧ wr = w.drewN q ∧ ∀ j, j < k → x.getD j 0 = y.getD j 0) (fun _ v33 _ => m - (intOf v33).toNat)
          case atStart => exact ⟨0, _, by omega, rfl, rfl, fun j hj => absurd hj (by omega)⟩
          case round =>
            obtain ⟨k, q, hk, rfl, rfl, Y1⟩ := hrel
            have HK := Lib.hid Y1
            clear Y1
            by_cases h6 : k < m
            · have hd6 : decide ((k : Int) < (m : Int)) = true := by simp; omega
              obtain ⟨b3, o3, rfl, y1⟩ := rd_word HR.out k (by have := HM.out; omega)
              obtain ⟨b4, o4, rfl, y2⟩ := rd_word HR2.out k (by have := HM.out; have := HXY.out; omega)
              have hq0 : (0 : Int) ≤ (k : Int) := by omega
              have hq1 : (k : Int) < (m : Int) := by omega
              have HN2 : Hid (x.getD k 0 ≠ y.getD k 0 → z = false) := Lib.hid fun h => HNE.out fun e => h (by rw [e])
              have HK2 : Hid (x.getD k 0 = y.getD k 0 → ∀ j, j < k + 1 → x.getD j 0 = y.getD j 0) := Lib.hid fun e j hj => by
                by_cases e2 : j = k
                · subst e2; exact e
                · exact HK.out j (by omega)
              clear HK
              generalize x.getD k 0 = u at *
              generalize y.getD k 0 = v at *
              by_cases huv : u = v
              · have HK3 := Lib.hid (HK2.out huv)
                subst huv
                clear HK2 HN2
                have e5 : ((u : Int) != (u : Int)) = false := by simp
                have e6 : ((u : Int) == (u : Int)) = true := by simp
                go_wp2
                go_quiet (fail)
                go_wp2
                go_roundw
                case rel => exact ⟨k + 1, _, by omega, by go_num, rfl, HK3.out⟩
                case measure => simp [intOf]; omega
              · have e5 : ((u : Int) != (v : Int)) = true := by simp; omega
                have e6 : ((u : Int) == (v : Int)) = false := by simp; omega
                have HZ := Lib.hid (HN2.out huv)
                clear huv HN2 HK2
                go_wp2
                go_quiet (fail)
                go_wp2
                go_ret
                exact ⟨by rw [HZ.out]; rfl, drew_two w _ _⟩
            · obtain rfl : k = m := by omega
              have hd6 : decide ((k : Int) < (k : Int)) = false := by simp
              have HEQ : Hid (x = y) := Lib.hid (ext_getD HXY.out fun j hj => HK.out j (by have := HM.out; omega))
              go_wp2
              go_roundw
              case rel => exact ⟨i + 1, _, by omega, by go_num, rfl, HJN.out HEQ.out⟩
              case measure => simp [intOf]; omega
        · have e3 : ((x.length : Int) != (y.length : Int)) = true := by simp; omega
          have e4 : ((x.length : Int) == (y.length : Int)) = false := by simp; omega
          have HZ := Lib.hid (HNE.out (fun e => hxy (by rw [e])))
          obtain ⟨m, hm⟩ : ∃ m, x.length = m := ⟨_, rfl⟩
          obtain ⟨m2, hm2⟩ : ∃ m, y.length = m := ⟨_, rfl⟩
          rw [hm] at k1 HXi e3 e4
          rw [hm2] at k2 HYi e3 e4
          clear hm hm2 hxy HNE HJN
          go_wp2
          go_quiet (fail)
          go_wp2
          go_ret
          exact ⟨by rw [HZ.out]; rfl, drew_two w _ _⟩
      · obtain rfl : i = n := by omega
        have hd : decide ((i : Int) < (i : Int)) = false := by simp
        have HZ := Lib.hid (HE.out HJ.out)
        clear HJ
        go_wp2
        go_ret
        exact ⟨by rw [HZ.out]; rfl, _, rfl⟩
  · have e1 : ((X.length : Int) != (Y.length : Int)) = true := by simp; omega
    have e2 : ((X.length : Int) == (Y.length : Int)) = false := by simp; omega
    rw [decide_eq_false (show ¬ X = Y from fun e => hl (by rw [e]))]
    clear hXr hYr HA HA2
    generalize X.length = n at *
    generalize Y.length = n2 at *
    clear hl
    go_enter Tryd.func11, Tryd.ntmps11
    go_wp2
    go_ret
    exact ⟨rfl, 0, rfl⟩
end Go.Proofs.YtohmkhmanidljaaDoor

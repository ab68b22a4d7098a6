/- The document's Seal by its contract. Conditions: those typed. -/
import Derived.Test.YtglmfagmlfjceaaEkPure
import Derived.Test.YtglmfagmlfjceaaCiKeys
namespace Go.Proofs.Ytglmfagmlfjceaa
set_option maxRecDepth 50000
open Go.RowKit Ci Rot

theorem two_new (w : World) (u v : Value) (t : TypeId) : ∀ j x, [u, v][j]? = some x → (w.alloc (.cells #[u, v] t)).cell? ((⟨w.heap.size, 0, none⟩ : Addr).add j) = some x := by
  intro j x hj
  match j, hj with
  | 0, hj => simp at hj; subst hj; simp [Addr.add]
  | 1, hj => simp at hj; subst hj; simp [Addr.add]
theorem two_cell (u v : Value) (h : u.oneCell' = true) (k : v.oneCell' = true) : ∀ x ∈ [u, v], x.oneCell' = true := by
  intro x hx
  simp at hx
  rcases hx with rfl | rfl
  · exact h
  · exact k
theorem u32s_append (a b : List Nat) : u32s (a ++ b) = u32s a ++ u32s b := by simp [u32s]

set_option maxHeartbeats 4000000 in
theorem rseal_any (w : World) (d cd : Nat) (g : Nat → Nat) (hT : RTab w d g) (hg : Ok g) (t : Nat) (ht : t ≤ 1024) (A : Option Addr) (n c h : Nat) (hn : n = 2 * h) (hn40 : n ≤ 40) (xs : List Nat) (hl : xs.length = n) (hx : ∀ v ∈ xs, v < 4294967296) (hR : Reads w w.heap.size A (u32s xs)) (x : Nat → Nat) (hxe : ∀ j, j < n → xs[j]? = some (x j)) :
    Calls Try.prog 16 #[.slice (some ⟨d, 0, none⟩) 1042 cd, .int .i64 (t : Int), .slice A n c] w fun e w' => ∃ v, e = .returned v ∧ w'.ownsRow w.heap.size 22 1 v n (u32s (sqL g x t n)) ∧ Below w.heap.size w w' := by
  have HN := Lib.hid hn
  have HB := Lib.hid hT.lt
  have HT := Lib.hid hT
  have hxb : ∀ j, j < n → x j < 4294967296 := fun j hj => hx _ (List.mem_of_getElem? (hxe j hj))
  have hRd : ∀ j, j < n → ∃ bb off, A = some ⟨bb, off, none⟩ ∧ bb < w.heap.size ∧ w.cell? ⟨bb, off + j, none⟩ = some (.int .u32 (x j : Int)) := fun j hj => by
    obtain ⟨bb, off, e1, e2, e3⟩ := hR j (by simp [u32s]; omega)
    refine ⟨bb, off, e1, e2, e3.trans ?_⟩
    have h1 : (u32s xs)[j]? = some (.int .u32 (x j : Int)) := by unfold u32s; rw [List.getElem?_map, hxe j hj]; rfl
    rw [← h1]
    exact (List.getElem?_eq_getElem _).symm
  have HRD := Lib.hid hRd
  have HXB := Lib.hid hxb
  have HE := Lib.hid (fun (w1 : World) (hT : RTab w1 d g) (l r : Nat) (hl : l < 4294967296) (hr : r < 4294967296) => renc_of w1 d cd g hT hg l r hl hr)
  clear hn hT hx hR hxe hRd hxb hl
  obtain ⟨i0, hi, hz0, hz1, hz2⟩ := info_parts Try.info22
  go_enter Try.func16, Try.ntmps16
  go_wp2
  go_loopw [7, 8] (fun v7 v8 wr => ∃ k i : Nat, k ≤ h ∧ Hid (i = 2 * k) ∧ v8 = .int .i64 (i : Int) ∧ Hid (wr.ownsRow w.heap.size 22 1 v7 i (u32s (sqL g x t i)) ∧ Below w.heap.size w wr)) (fun _ v _ => n - (intOf v).toNat)
  case atStart => exact ⟨0, 0, by omega, Lib.hid rfl, rfl, Lib.hid ⟨by simpa [sqL, u32s] using World.ownsRow_nil _ _ _ _, Below.refl _ _⟩⟩
  case round =>
    obtain ⟨k, i, hk, HI, rfl, HSt⟩ := hrel
    by_cases hkh : k < h
    · have hin : i + 1 < n := by have := HI.out; have := HN.out; omega
      obtain ⟨i1, hi1⟩ : ∃ i1, i1 = i + 1 := ⟨_, rfl⟩
      have hi1I : (i : Int) + 1 = (i1 : Int) := by omega
      have hi1b : i1 < n := by omega
      have hib : i < n := by omega
      have hiI : (i1 : Int) < (n : Int) := by omega
      have hiI2 : (i : Int) < (n : Int) := by omega
      obtain ⟨bb, off, rfl, hbb, cI⟩ := HRD.out i hib
      obtain ⟨bb2, off2, hA, hbb2, cJ⟩ := HRD.out i1 hi1b
      simp only [Option.some.injEq, Addr.mk.injEq, and_true] at hA
      obtain ⟨rfl, rfl⟩ := hA
      have hxi := HXB.out i hib
      have hxj := HXB.out i1 hi1b
      have HST : Hid (sqL g x t (i + 2) = sqL g x t i ++ [(enTo g (x i) (x i1) t).1, (enTo g (x i) (x i1) t).2]) := Lib.hid (by rw [hi1, HI.out, ← sqL_next]; rfl)
      have cI2 : wr.cell? ⟨bb, off + i, none⟩ = some (.int .u32 (x i : Int)) := (HSt.out.2.cell hbb).trans cI
      have cJ2 : wr.cell? ⟨bb, off + i1, none⟩ = some (.int .u32 (x i1 : Int)) := (HSt.out.2.cell hbb).trans cJ
      have HTr := Lib.hid (HT.out.below HSt.out.2 HB.out)
      generalize x i = xi at *
      generalize x i1 = xj at *
      have HI1 := Lib.hid hi1
      clear hbb hbb2 cI cJ hi1
      go_wp2
      go_loopw [9, 10, 11] (fun v9 v10 v11 wx => ∃ m a b : Nat, m ≤ t ∧ v11 = .int .i64 (m : Int) ∧ v9 = .int .u32 (a : Int) ∧ v10 = .int .u32 (b : Int) ∧ Hid (enTo g xi xj m = (a, b)) ∧ a < 4294967296 ∧ b < 4294967296 ∧ ∃ q, wx = wr.drewN q) (fun _ _ v _ => t - (intOf v).toNat)
      case atStart => exact ⟨0, xi, xj, by omega, by simp, rfl, rfl, Lib.hid rfl, hxi, hxj, 0, rfl⟩
      case round =>
        obtain ⟨m, a, b, hm, rfl, rfl, rfl, HR, ha, hb, q, rfl⟩ := hrel
        by_cases hmt : m < t
        · have hmI : (m : Int) < (t : Int) := by omega
          have C := Lib.hid (HE.out (wr.drewN q) (HTr.out.drewN q) a b ha hb)
          have hbd := en_lt g hg a b ha hb
          have HN2 : Hid (enTo g xi xj (m + 1) = (enL g a b, enR g a b)) := Lib.hid (by simp only [enTo, HR.out])
          generalize enL g a b = x2 at *
          generalize enR g a b = y2 at *
          have hb1 := hbd.1
          have hb2 := hbd.2
          clear HR hbd
          go_wp2_with fail
          refine C.out.mono ?_
          rintro e w1 ⟨rfl, q2, rfl⟩
          go_wp2
          go_roundw
          case rel => exact ⟨m + 1, x2, y2, by omega, by go_num, rfl, rfl, HN2, hb1, hb2, _, rfl⟩
          case measure => simp [intOf]; omega
        · obtain rfl : m = t := by omega
          have HST2 : Hid (sqL g x m (i + 2) = sqL g x m i ++ [a, b]) := Lib.hid (by rw [HST.out, HR.out])
          have hown := HSt.out.1
          have HBl := Lib.hid (And.intro HSt.out.2 HSt.out.2.size)
          have hin40 : i ≤ 40 := by omega
          clear HST HR HSt cI2 cJ2
          go_wp2_with (at_builtin; refine wpList_append_own _ rfl (.tmp 40) (.tmp 43) 31 rfl w.heap.size 22 i0 (.int .u32 0) 1 4 Try.underlying31 hi hz0 hz1 hz2 rfl (by decide) _ _ _ rfl ((own_kept hown (Kept.of_below (M := fun _ => False) (below_drewN (Below.refl _ _) q)) fun _ _ => id).alloc _) ⟨wr.heap.size, 0, none⟩ 2 2 [.int .u32 (a : Int), .int .u32 (b : Int)] rfl rfl ?c1 ?c2 ?c3 ?c4 ?c5 ?_)
          case c1 => exact two_new (wr.drewN q) _ _ _
          case c2 => exact two_cell _ _ rfl rfl
          case c3 => unfold maxLen; omega
          case c4 => omega
          case c5 => have := HBl.out.2; simp; omega
          intro v' w2 hown2 hg2 _
          have R := rel_step (below_drewN HBl.out.1 q) HBl.out.2 (own_kept hown (Kept.of_below (M := fun _ => False) (below_drewN (Below.refl _ _) q)) fun _ _ => id) hown2 hg2
          have HR2 : Hid (w2.ownsRow w.heap.size 22 1 v' (i + 2) (u32s (sqL g x m (i + 2))) ∧ Below w.heap.size w w2) := Lib.hid ⟨by rw [HST2.out, u32s_append]; exact R.1, R.2⟩
          clear hown2 hg2 hown R
          go_wp2
          go_roundw
          case rel => exact ⟨k + 1, i + 2, by omega, Lib.hid (by have := HI.out; omega), by go_num, HR2⟩
          case measure => have := HI1.out; simp [intOf]; omega
    · obtain rfl : k = h := by omega
      have hin : i = n := by have := HI.out; have := HN.out; omega
      subst hin
      have hnl : ¬ ((i : Int) + 1 < (i : Int)) := by omega
      go_wp2
      go_ret
      exact ⟨_, rfl, HSt.out.1, HSt.out.2⟩
end Go.Proofs.Ytglmfagmlfjceaa

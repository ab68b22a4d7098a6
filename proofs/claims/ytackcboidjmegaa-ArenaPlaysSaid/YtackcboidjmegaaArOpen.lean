/- The law ArenaPlays; a list of acts that came in. No condition. -/
import Derived.Test.YtackcboidjmegaaArPlay
namespace Go.Proofs.Ytackcboidjmegaa
set_option maxRecDepth 50000
open Go.ChangeShapes Go.WideShapes Go.ChangeAt Go.RowKit Bb

theorem act_cells : Try.prog.cellsOf 45 = 4 := by kernel_rfl
theorem int_cells : Try.prog.cellsOf 3 = 1 := by kernel_rfl
theorem u64_cells : Try.prog.cellsOf 43 = 1 := by kernel_rfl
/-- an int, and a word, out of a cell -/
def zOf : Value → Int
  | .int _ z => z
  | _ => 0
def acOf (cl : List Value) : Ac := ⟨zOf (cl.getD 0 undef), zOf (cl.getD 1 undef), zOf (cl.getD 2 undef), (zOf (cl.getD 3 undef)).toNat⟩
theorem act_open {H : Type} {enc : TypeId × Value → H} {W : World} {base : Nat} {spare : Nat → Bool} {held : Bool} {cl : List Value} {fuel : Nat} {x : DataW H × List MemPlace}
    (hf : DataW.trod enc Try.prog W base spare held fuel 45 cl = some x) : cl = acell (acOf cl) ∧ (acOf cl).w < 18446744073709551616 := by
  obtain ⟨xs, m, _, _, hl, hxl, hall⟩ := DataW.trod_struct Try.underlying45 hf
  rw [act_cells] at hl
  have hxl : xs.length = 4 := hxl
  have e0 : DataW.trod enc Try.prog W base spare held m 3 ((cl.drop 0).take (Try.prog.cellsOf 3)) = xs[0]? := hall 0 _ rfl
  have e1 : DataW.trod enc Try.prog W base spare held m 3 ((cl.drop 1).take (Try.prog.cellsOf 3)) = xs[1]? := hall 1 _ rfl
  have e2 : DataW.trod enc Try.prog W base spare held m 3 ((cl.drop 2).take (Try.prog.cellsOf 3)) = xs[2]? := hall 2 _ rfl
  have e3 : DataW.trod enc Try.prog W base spare held m 43 ((cl.drop 3).take (Try.prog.cellsOf 43)) = xs[3]? := hall 3 _ rfl
  rw [int_cells, List.getElem?_eq_getElem (by omega)] at e0 e1 e2
  rw [u64_cells, List.getElem?_eq_getElem (by omega)] at e3
  obtain ⟨z0, c0, _, _⟩ := DataW.trod_int Try.underlying3 e0
  obtain ⟨z1, c1, _, _⟩ := DataW.trod_int Try.underlying3 e1
  obtain ⟨z2, c2, _, _⟩ := DataW.trod_int Try.underlying3 e2
  obtain ⟨z3, c3, _, hw⟩ := DataW.trod_int Try.underlying43 e3
  have hb := wf_u64 z3 hw
  have G : ∀ (i : Nat) (v : Value), i < 4 → (cl.drop i).take 1 = [v] → cl[i]? = some v := fun i v hi h => by
    have := congrArg (fun l : List Value => l[0]?) h
    simpa [List.getElem?_take, List.getElem?_drop] using this
  have g0 := G 0 _ (by decide) c0
  have g1 := G 1 _ (by decide) c1
  have g2 := G 2 _ (by decide) c2
  have g3 := G 3 _ (by decide) c3
  have ea : acOf cl = ⟨z0, z1, z2, z3.toNat⟩ := by
    simp [acOf, List.getD_eq_getElem?_getD, g0, g1, g2, g3, zOf]
  rw [ea]
  refine ⟨List.ext_getElem? fun i => ?_, ?_⟩
  · rcases (show i = 0 ∨ i = 1 ∨ i = 2 ∨ i = 3 ∨ 4 ≤ i by omega) with rfl | rfl | rfl | rfl | h
    · rw [g0]; rfl
    · rw [g1]; rfl
    · rw [g2]; rfl
    · rw [g3]
      simp only [acell]
      rw [Int.toNat_of_nonneg hb.1]
      rfl
    · rw [List.getElem?_eq_none (by omega), List.getElem?_eq_none (by simp [acell]; omega)]
  · show z3.toNat < _
    omega

theorem open_acts {H : Type} {enc : TypeId × Value → H} {W : World} {r : Reach} {b0 : Nat} {v : Value} {d : DataW H} {ps : List MemPlace}
    (hval : Value.okWide Try.prog W r b0 22 v) (h : DataW.Trod enc Try.prog W 0 (fun _ => true) true 22 v d ps) :
    ∃ A c, ∃ l : List Ac, v = .slice A l.length c ∧ (∀ x ∈ l, x.w < 18446744073709551616) ∧ Reads W W.heap.size A (acs l) := by
  obtain ⟨a0, len, cap, rfl⟩ := okWide_slice Try.underlying22 hval
  obtain ⟨fuel, hf⟩ := h
  rcases DataW.trod_slice Try.underlying22 hf with ⟨hcs, hx⟩ | ⟨a, len', cap', elems, rest, n, _, hcs, _, _, hl, hm, hlen, hel, _, _⟩
  · simp [Value.cells] at hcs
    obtain ⟨rfl, rfl, rfl⟩ := hcs
    exact ⟨none, 0, [], rfl, by simp, Reads.nil_⟩
  · simp [Value.cells] at hcs
    obtain ⟨rfl, rfl, rfl⟩ := hcs
    have G : ∀ i, i < len → ∃ cl, W.cells? 0 (a.add (i * 4)) 4 = some cl ∧ cl = acell (acOf cl) ∧ (acOf cl).w < 18446744073709551616 := fun i hi => by
      have h1 := hel i hi
      rw [List.getElem?_eq_getElem (by omega : i < elems.length), act_cells, Option.bind_eq_some_iff] at h1
      obtain ⟨cl, e, h2⟩ := h1
      exact ⟨cl, e, act_open h2⟩
    have K : ∀ i k, i < len → k < 4 → W.cell? ((a.add (i * 4)).add k) = (acell (acOf ((W.cells? 0 (a.add (i * 4)) 4).getD [])))[k]? := fun i k hi hk => by
      obtain ⟨cl, e, e2, ho⟩ := G i hi
      rw [e, Option.getD_some]
      unfold World.cells? at e
      rw [if_pos (Nat.zero_le _)] at e
      have h3 := mapM_some_get e k k (by simp [hk])
      rw [h3, ← e2]
    obtain ⟨l, hl2⟩ : ∃ l, l = (List.range len).map fun i => acOf ((W.cells? 0 (a.add (i * 4)) 4).getD []) := ⟨_, rfl⟩
    have hll : l.length = len := by rw [hl2]; simp
    refine ⟨some a, cap, l, by rw [hll], ?_, fun k hk => ?_⟩
    · intro x hx
      rw [hl2] at hx
      obtain ⟨i, hi, rfl⟩ := List.mem_map.1 hx
      obtain ⟨cl, e, _, ho⟩ := G i (List.mem_range.1 hi)
      rw [e, Option.getD_some]; exact ho
    · rw [acs_length, hll] at hk
      obtain ⟨b, off, spot⟩ := a
      have e0 := K 0 0 (by omega) (by decide)
      have hac : (acell (acOf ((W.cells? 0 ((⟨b, off, spot⟩ : Addr).add (0 * 4)) 4).getD [])))[0]? = some (.int .i64 (acOf ((W.cells? 0 ((⟨b, off, spot⟩ : Addr).add (0 * 4)) 4).getD [])).d) := rfl
      rw [hac] at e0
      have hspot : spot = none := by simpa [Addr.add] using World.cell?_spot e0
      subst hspot
      have hlt : b < W.heap.size := by
        have h0 := e0
        simp only [add_plain] at h0
        unfold World.cell? at h0
        cases hq : W.heap[b]? with
        | none => simp only [hq] at h0; cases h0
        | some o => exact (Array.getElem?_eq_some_iff.1 hq).1
      have ek := K (k / 4) (k % 4) (by omega) (by omega)
      simp only [add_plain] at ek
      have eb := acs_at l (k / 4) (by omega) (k % 4) (by omega)
      have el : l[k / 4]'(by omega) = acOf ((W.cells? 0 ((⟨b, off, none⟩ : Addr).add (k / 4 * 4)) 4).getD []) := by
        simp [hl2]
      rw [el] at eb
      simp only [add_plain] at eb
      rw [show k / 4 * 4 + k % 4 = k by omega] at eb
      refine ⟨b, off, rfl, hlt, ?_⟩
      rw [show off + k / 4 * 4 + k % 4 = off + k by omega] at ek
      rw [ek, ← eb, List.getElem?_eq_getElem (by rw [acs_length, hll]; exact hk)]

set_option maxHeartbeats 1600000 in
theorem plays20_any (B : Int) {A : Option Addr} (c : Nat) (l : List Ac) (w : World) (hr : Reads w w.heap.size A (acs l)) (hw64 : ∀ x ∈ l, x.w < 18446744073709551616) : Calls Try.prog 3 #[.int .i64 B, .slice A l.length c] w fun e w' => e = .returned (.bool true) ∧ Below w.heap.size w w' := by
  have CA := Lib.hid (awake20_any w)
  have HR := Lib.hid hr
  have HU := Lib.hid hw64
  clear hr hw64
  go_enter Try.func3, Try.ntmps3
  go_wp2_with fail
  refine CA.out.mono ?_; rintro e w1 ⟨rfl, hb⟩; have HB := Lib.hid hb; clear hb CA
  by_cases hx : B < 0 ∨ 4194304 < B
  · have C := Lib.hid (anew_bad B hx w1)
    have hh : decide (B < 0) = true ∨ decide (B < 0) = false ∧ decide (4194304 < B) = true := by simp; omega
    clear hx
    go_wp2_with fail
    refine C.out.mono ?_; rintro e w' ⟨rfl, hw⟩; obtain rfl := hw.symm; clear hw C
    rcases hh with d1 | ⟨d1, d2⟩
    all_goals
      go_wp2
      go_ret
      exact ⟨rfl, HB.out⟩
  obtain ⟨b, rfl⟩ := Int.eq_ofNat_of_zero_le (show 0 ≤ B by omega)
  have hb : b ≤ 4194304 := by omega
  have d1 : decide ((b : Int) < 0) = false := by simp
  have d2 : decide ((4194304 : Int) < (b : Int)) = false := by simp; omega
  have d2' : decide (4194304 < b) = false := by simp; omega
  have C := Lib.hid (anew_any b hb w1)
  clear hx
  go_wp2_with fail
  refine C.out.mono ?_
  rintro e w2 ⟨rfl, hA, hb2⟩
  have hw1 := HB.out.size
  obtain ⟨a, ha⟩ : ∃ a, a = w1.heap.size := ⟨_, rfl⟩
  rw [← ha] at hA ⊢
  have hwa : w.heap.size ≤ a := by omega
  have HB2 := Lib.hid (HB.out.trans (hb2.mono HB.out.size))
  have HA := Lib.hid hA
  have CF := Lib.hid (few_any b c l w2 ((HR.out.below HB2.out).more HB2.out.size))
  clear ha hA hb2 HB C hw1
  go_wp2_with fail
  refine CF.out.mono ?_
  rintro e w3 ⟨⟨k, rfl, hk⟩, hb3⟩
  have HB3 := Lib.hid (HB2.out.trans (hb3.mono HB2.out.size))
  have HA3 := Lib.hid (RowAt.step HA.out hb3)
  clear CF hb3 HA HB2
  cases k with
  | false =>
    go_wp2
    go_ret
    exact ⟨rfl, HB3.out⟩
  | true =>
    have CP := play_any (show AreAt w3 a b 0 0 0 from HA3.out) hb hwa HB3.out c l HR.out (hk rfl) HU.out
    unfold mcells at CP
    have CP := Lib.hid CP
    clear hk
    go_wp2_with fail
    refine CP.out.mono ?_
    rintro e w4 ⟨rfl, hb4⟩
    have HB4 := Lib.hid hb4
    clear CP hb4
    go_wp2
    go_ret
    exact ⟨rfl, HB4.out⟩
end Go.Proofs.Ytackcboidjmegaa

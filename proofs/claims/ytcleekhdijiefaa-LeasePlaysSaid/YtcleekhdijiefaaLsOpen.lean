/- A list of acts that came in. No condition. -/
import Derived.Test.YtcleekhdijiefaaLsPo
import Derived.Test.YtcleekhdijiefaaOpens
namespace Go.Proofs.Ytcleekhdijiefaa
set_option maxRecDepth 50000
open Go.ChangeShapes Go.WideShapes Go.ChangeAt Go.RowKit Bb

theorem act_cells : Try.prog.cellsOf 37 = 3 := by kernel_rfl
theorem int_cells : Try.prog.cellsOf 3 = 1 := by kernel_rfl
/-- an int out of a cell -/
def zOf : Value → Int
  | .int _ z => z
  | _ => 0
def acOf (cl : List Value) : Lc := ⟨zOf (cl.getD 0 undef), zOf (cl.getD 1 undef), zOf (cl.getD 2 undef)⟩
theorem act_open {H : Type} {enc : TypeId × Value → H} {W : World} {base : Nat} {spare : Nat → Bool} {held : Bool} {cl : List Value} {fuel : Nat} {x : DataW H × List MemPlace}
    (hf : DataW.trod enc Try.prog W base spare held fuel 37 cl = some x) : cl = lcell (acOf cl) := by
  obtain ⟨xs, m, _, _, hl, hxl, hall⟩ := DataW.trod_struct Try.underlying37 hf
  rw [act_cells] at hl
  have hxl : xs.length = 3 := hxl
  have e0 : DataW.trod enc Try.prog W base spare held m 3 ((cl.drop 0).take (Try.prog.cellsOf 3)) = xs[0]? := hall 0 _ rfl
  have e1 : DataW.trod enc Try.prog W base spare held m 3 ((cl.drop 1).take (Try.prog.cellsOf 3)) = xs[1]? := hall 1 _ rfl
  have e2 : DataW.trod enc Try.prog W base spare held m 3 ((cl.drop 2).take (Try.prog.cellsOf 3)) = xs[2]? := hall 2 _ rfl
  rw [int_cells, List.getElem?_eq_getElem (by omega)] at e0 e1 e2
  obtain ⟨z0, c0, _, _⟩ := DataW.trod_int Try.underlying3 e0
  obtain ⟨z1, c1, _, _⟩ := DataW.trod_int Try.underlying3 e1
  obtain ⟨z2, c2, _, _⟩ := DataW.trod_int Try.underlying3 e2
  have G : ∀ (i : Nat) (v : Value), i < 3 → (cl.drop i).take 1 = [v] → cl[i]? = some v := fun i v hi h => by
    have := congrArg (fun l : List Value => l[0]?) h
    simpa [List.getElem?_take, List.getElem?_drop] using this
  have g0 := G 0 _ (by decide) c0
  have g1 := G 1 _ (by decide) c1
  have g2 := G 2 _ (by decide) c2
  have ea : acOf cl = ⟨z0, z1, z2⟩ := by
    simp [acOf, List.getD_eq_getElem?_getD, g0, g1, g2, zOf]
  rw [ea]
  refine List.ext_getElem? fun i => ?_
  rcases (show i = 0 ∨ i = 1 ∨ i = 2 ∨ 3 ≤ i by omega) with rfl | rfl | rfl | h
  · rw [g0]; rfl
  · rw [g1]; rfl
  · rw [g2]; rfl
  · rw [List.getElem?_eq_none (by omega), List.getElem?_eq_none (by simp [lcell]; omega)]

theorem open_acts {H : Type} {enc : TypeId × Value → H} {W : World} {r : Reach} {b0 : Nat} {v : Value} {d : DataW H} {ps : List MemPlace}
    (hval : Value.okWide Try.prog W r b0 22 v) (h : DataW.Trod enc Try.prog W 0 (fun _ => true) true 22 v d ps) :
    ∃ A c, ∃ l : List Lc, v = .slice A l.length c ∧ Reads W W.heap.size A (lacs l) := by
  obtain ⟨a0, len, cap, rfl⟩ := okWide_slice Try.underlying22 hval
  obtain ⟨fuel, hf⟩ := h
  rcases DataW.trod_slice Try.underlying22 hf with ⟨hcs, hx⟩ | ⟨a, len', cap', elems, rest, n, _, hcs, _, _, hl, hm, hlen, hel, _, _⟩
  · simp [Value.cells] at hcs
    obtain ⟨rfl, rfl, rfl⟩ := hcs
    exact ⟨none, 0, [], rfl, Reads.nil_⟩
  · simp [Value.cells] at hcs
    obtain ⟨rfl, rfl, rfl⟩ := hcs
    have G : ∀ i, i < len → ∃ cl, W.cells? 0 (a.add (i * 3)) 3 = some cl ∧ cl = lcell (acOf cl) := fun i hi => by
      have h1 := hel i hi
      rw [List.getElem?_eq_getElem (by omega : i < elems.length), act_cells, Option.bind_eq_some_iff] at h1
      obtain ⟨cl, e, h2⟩ := h1
      exact ⟨cl, e, act_open h2⟩
    have K : ∀ i k, i < len → k < 3 → W.cell? ((a.add (i * 3)).add k) = (lcell (acOf ((W.cells? 0 (a.add (i * 3)) 3).getD [])))[k]? := fun i k hi hk => by
      obtain ⟨cl, e, e2⟩ := G i hi
      rw [e, Option.getD_some]
      unfold World.cells? at e
      rw [if_pos (Nat.zero_le _)] at e
      have h3 := mapM_some_get e k k (by simp [hk])
      rw [h3, ← e2]
    obtain ⟨l, hl2⟩ : ∃ l, l = (List.range len).map fun i => acOf ((W.cells? 0 (a.add (i * 3)) 3).getD []) := ⟨_, rfl⟩
    have hll : l.length = len := by rw [hl2]; simp
    refine ⟨some a, cap, l, by rw [hll], fun k hk => ?_⟩
    · rw [lacs_length, hll] at hk
      obtain ⟨b, off, spot⟩ := a
      have e0 := K 0 0 (by omega) (by decide)
      have hac : (lcell (acOf ((W.cells? 0 ((⟨b, off, spot⟩ : Addr).add (0 * 3)) 3).getD [])))[0]? = some (.int .i64 (acOf ((W.cells? 0 ((⟨b, off, spot⟩ : Addr).add (0 * 3)) 3).getD [])).d) := rfl
      rw [hac] at e0
      have hspot : spot = none := by simpa [Addr.add] using World.cell?_spot e0
      subst hspot
      have hlt : b < W.heap.size := by
        have h0 := e0
        simp only [add_plain] at h0
        unfold World.cell? at h0
        cases hq : W.heap[b]? with
        | none => simp only [hq] at h0; cases h0
        | some o => exact (Array.getElem?_eq_some_iff.1 hq).1
      have ek := K (k / 3) (k % 3) (by omega) (by omega)
      simp only [add_plain] at ek
      have eb := lacs_at l (k / 3) (by omega) (k % 3) (by omega)
      have el : l[k / 3]'(by omega) = acOf ((W.cells? 0 ((⟨b, off, none⟩ : Addr).add (k / 3 * 3)) 3).getD []) := by
        simp [hl2]
      rw [el] at eb
      simp only [add_plain] at eb
      rw [show k / 3 * 3 + k % 3 = k by omega] at eb
      refine ⟨b, off, rfl, hlt, ?_⟩
      rw [show off + k / 3 * 3 + k % 3 = off + k by omega] at ek
      rw [ek, ← eb, List.getElem?_eq_getElem (by rw [lacs_length, hll]; exact hk)]
end Go.Proofs.Ytcleekhdijiefaa

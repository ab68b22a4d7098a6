/- Sixteen words that came in. No condition. -/
import Derived.Test.YtnbdmkgldjhcaaaDoorBnSame
namespace Go.Proofs.YtnbdmkgldjhcaaaDoor
set_option maxRecDepth 50000
open Go.ChangeShapes Go.WideShapes Go.ChangeAt Go.RowKit Bn

theorem c_16 : Tryd.prog.cellsOf 76 = 16 := by kernel_rfl
theorem cells_16 {H : Type} {enc : TypeId × Value → H} {W : World} {base : Nat} {spare : Nat → Bool} {held : Bool} {cl : List Value} {fuel : Nat} {x : DataW H × List MemPlace}
    (hf : DataW.trod enc Tryd.prog W base spare held fuel 76 cl = some x) : cl = u64s (cl.map natOf) ∧ ((cl.map natOf).length = 16 ∧ okw (cl.map natOf)) := by
  obtain ⟨xs, m, rfl, _, hl, hxl, hall⟩ := DataW.trod_array Tryd.underlying76 hf
  rw [c_16] at hl
  have G : ∀ i, (hi : i < cl.length) → ∃ n : Nat, n < 18446744073709551616 ∧ cl[i] = .int .u64 (n : Int) := fun i hi => by
    have h1 := hall i (by omega)
    rw [List.getElem?_eq_getElem (by omega : i < xs.length), b_u64, Nat.mul_one] at h1
    obtain ⟨z, e1, _, hw⟩ := DataW.trod_int Tryd.underlying34 h1
    have hb := wf_u64 z hw
    obtain ⟨n, rfl⟩ := Int.eq_ofNat_of_zero_le hb.1
    refine ⟨n, by omega, ?_⟩
    rw [List.drop_eq_getElem_cons hi, List.take_succ_cons] at e1
    exact (List.cons.inj e1).1
  refine ⟨?_, by rw [List.length_map]; exact hl, ?_⟩
  · refine List.ext_getElem (by simp [u64s]) fun i h1 h2 => ?_
    obtain ⟨n, _, e⟩ := G i h1
    simp [u64s, e, natOf]
  · intro y hy
    obtain ⟨c, hc, rfl⟩ := List.mem_map.1 hy
    obtain ⟨i, hi, rfl⟩ := List.getElem_of_mem hc
    obtain ⟨n, hn, e⟩ := G i hi
    rw [e]
    simpa [natOf] using hn
theorem open_16 {H : Type} {enc : TypeId × Value → H} {W : World} {r : Reach} {b0 base : Nat} {spare : Nat → Bool} {held : Bool} {v : Value} {d : DataW H} {ps : List MemPlace}
    (hval : Value.okWide Tryd.prog W r b0 76 v) (hd : DataW.Trod enc Tryd.prog W base spare held 76 v d ps) : ∃ L : List Nat, v = .agg (wq L) ∧ L.length = 16 ∧ okw L := by
  obtain ⟨cs, rfl, _⟩ : ∃ cs, v = .agg cs ∧ cs.size = Tryd.prog.cellsOf 76 ∧ Row.okWide Tryd.prog W r b0 76 cs := by
    have := hval
    simpa [Value.okWide, Tryd.underlying76] using this
  obtain ⟨fuel, hf⟩ := hd
  obtain ⟨e, ho⟩ := cells_16 hf
  refine ⟨_, ?_, ho⟩
  unfold wq
  rw [← e]
  simp [Value.cells]
end Go.Proofs.YtnbdmkgldjhcaaaDoor

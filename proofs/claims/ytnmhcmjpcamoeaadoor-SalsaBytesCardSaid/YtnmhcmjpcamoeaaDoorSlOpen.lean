/- An array of sixteen words that came in; bytes that came in. Conditions: those typed. -/
import Derived.Test.YtnmhcmjpcamoeaaDoorSlEq
namespace Go.Proofs.YtnmhcmjpcamoeaaDoor
set_option maxRecDepth 50000
open Go.ChangeShapes Go.WideShapes Go.ChangeAt Go.RowKit Sl

theorem open_words16 {H : Type} {enc : TypeId × Value → H} {W : World} {r : Reach} {b0 base : Nat} {spare : Nat → Bool} {held : Bool} {v : Value} {d : DataW H} {ps : List MemPlace}
    (hval : Value.okWide Tryd.prog W r b0 23 v) (hd : DataW.Trod enc Tryd.prog W base spare held 23 v d ps) : ∃ st : List Nat, v = .agg (wd st) ∧ st.length = 16 ∧ okw st := by
  obtain ⟨cs, rfl, hsz, _⟩ : ∃ cs, v = .agg cs ∧ cs.size = Tryd.prog.cellsOf 23 ∧ Row.okWide Tryd.prog W r b0 23 cs := by
    have := hval
    simpa [Value.okWide, Tryd.underlying23] using this
  rw [c_w16] at hsz
  obtain ⟨fuel, hf⟩ := hd
  obtain ⟨xs, m, rfl, _, _, hxl, hall⟩ := DataW.trod_array Tryd.underlying23 hf
  have G : ∀ i, i < 16 → ∃ n : Nat, n < 4294967296 ∧ cs[i]? = some (.int .u32 (n : Int)) := fun i hi => by
    have h1 := hall i hi
    rw [List.getElem?_eq_getElem (by omega : i < xs.length), c_u32] at h1
    obtain ⟨z, e1, _, hw⟩ := DataW.trod_int Tryd.underlying22 h1
    have hb := bounds_u32 hw
    obtain ⟨n, rfl⟩ := Int.eq_ofNat_of_zero_le hb.1
    refine ⟨n, by omega, ?_⟩
    have := congrArg (·[0]?) e1
    simpa [List.getElem?_take, List.getElem?_drop, Value.cells] using this
  obtain ⟨n0, l0, e0⟩ := G 0 (by omega)
  obtain ⟨n1, l1, e1⟩ := G 1 (by omega)
  obtain ⟨n2, l2, e2⟩ := G 2 (by omega)
  obtain ⟨n3, l3, e3⟩ := G 3 (by omega)
  obtain ⟨n4, l4, e4⟩ := G 4 (by omega)
  obtain ⟨n5, l5, e5⟩ := G 5 (by omega)
  obtain ⟨n6, l6, e6⟩ := G 6 (by omega)
  obtain ⟨n7, l7, e7⟩ := G 7 (by omega)
  obtain ⟨n8, l8, e8⟩ := G 8 (by omega)
  obtain ⟨n9, l9, e9⟩ := G 9 (by omega)
  obtain ⟨n10, l10, e10⟩ := G 10 (by omega)
  obtain ⟨n11, l11, e11⟩ := G 11 (by omega)
  obtain ⟨n12, l12, e12⟩ := G 12 (by omega)
  obtain ⟨n13, l13, e13⟩ := G 13 (by omega)
  obtain ⟨n14, l14, e14⟩ := G 14 (by omega)
  obtain ⟨n15, l15, e15⟩ := G 15 (by omega)
  refine ⟨[n0, n1, n2, n3, n4, n5, n6, n7, n8, n9, n10, n11, n12, n13, n14, n15], ?_, rfl, ?_⟩
  · congr 1
    refine Array.ext_getElem? fun i => ?_
    match i with
    | 0 => rw [e0]; rfl
    | 1 => rw [e1]; rfl
    | 2 => rw [e2]; rfl
    | 3 => rw [e3]; rfl
    | 4 => rw [e4]; rfl
    | 5 => rw [e5]; rfl
    | 6 => rw [e6]; rfl
    | 7 => rw [e7]; rfl
    | 8 => rw [e8]; rfl
    | 9 => rw [e9]; rfl
    | 10 => rw [e10]; rfl
    | 11 => rw [e11]; rfl
    | 12 => rw [e12]; rfl
    | 13 => rw [e13]; rfl
    | 14 => rw [e14]; rfl
    | 15 => rw [e15]; rfl
    | k + 16 => rw [Array.getElem?_eq_none (by omega), Array.getElem?_eq_none (by rw [wd_size]; show 16 ≤ k + 16; omega)]
  · intro x hx
    simp only [List.mem_cons, List.not_mem_nil, or_false] at hx
    rcases hx with rfl | rfl | rfl | rfl | rfl | rfl | rfl | rfl | rfl | rfl | rfl | rfl | rfl | rfl | rfl | rfl <;> assumption
/-- bytes that came in, as numbers -/
theorem open_bytes {zs : List Int} (hw : ∀ n ∈ zs, (Lit.int .u8 n).wf = true) : ∃ bs : List Nat, bs.length = zs.length ∧ (∀ x ∈ bs, x < 256) ∧ zs.map (Value.int .u8) = u8s bs := by
  refine ⟨zs.map Int.toNat, by simp, ?_, ?_⟩
  · intro x hx
    obtain ⟨z, hz, rfl⟩ := List.mem_map.1 hx
    have := bounds_u8 (hw z hz)
    omega
  · unfold u8s
    rw [List.map_map]
    refine List.map_congr_left fun z hz => ?_
    have := bounds_u8 (hw z hz)
    simp [Function.comp, Int.toNat_of_nonneg this.1]
end Go.Proofs.YtnmhcmjpcamoeaaDoor

/- An array of eight words that came in; bytes that came in. No condition but those typed. -/
import Derived.Test.YtfdoikdfhjjohaaDoorBkEq
import Derived.ChangeAlike
namespace Go.Proofs.YtfdoikdfhjjohaaDoor
set_option maxRecDepth 50000
open Go.ChangeShapes Go.WideShapes Go.ChangeAt Go.RowKit

theorem open_words8 {H : Type} {enc : TypeId × Value → H} {W : World} {r : Reach} {b0 base : Nat} {spare : Nat → Bool} {held : Bool} {v : Value} {d : DataW H} {ps : List MemPlace}
    (hval : Value.okWide Tryd.prog W r b0 23 v) (hd : DataW.Trod enc Tryd.prog W base spare held 23 v d ps) : ∃ st : List Nat, v = .agg (wq st) ∧ st.length = 8 ∧ ∀ x ∈ st, x < 18446744073709551616 := by
  obtain ⟨cs, rfl, hsz, _⟩ : ∃ cs, v = .agg cs ∧ cs.size = Tryd.prog.cellsOf 23 ∧ Row.okWide Tryd.prog W r b0 23 cs := by
    have := hval
    simpa [Value.okWide, Tryd.underlying23] using this
  rw [c_q8] at hsz
  obtain ⟨fuel, hf⟩ := hd
  obtain ⟨xs, m, rfl, _, _, hxl, hall⟩ := DataW.trod_array Tryd.underlying23 hf
  have G : ∀ i, i < 8 → ∃ n : Nat, n < 18446744073709551616 ∧ cs[i]? = some (.int .u64 (n : Int)) := fun i hi => by
    have h1 := hall i hi
    rw [List.getElem?_eq_getElem (by omega : i < xs.length), c_u64] at h1
    obtain ⟨z, e1, _, hw⟩ := DataW.trod_int Tryd.underlying22 h1
    have hb := bounds_u64 hw
    obtain ⟨n, rfl⟩ := Int.eq_ofNat_of_zero_le hb.1
    refine ⟨n, by omega, ?_⟩
    have := congrArg (·[0]?) e1
    simpa [List.getElem?_take, List.getElem?_drop, Value.cells] using this
  obtain ⟨n0, l0, e0⟩ := G 0 (by omega)
  obtain ⟨n1, l1, e1⟩ := G 1 (by omega)
  obtain ⟨n2, l2, e2⟩ := G 2 (by omega)
  obtain ⟨n3, l3, e3⟩ := G 3 (by omega)
  obtain ⟨n4, l4, e4⟩ := G 4 (by omega)
  obtain ⟨n5, l5, e5⟩ := G 5 (by omega)
  obtain ⟨n6, l6, e6⟩ := G 6 (by omega)
  obtain ⟨n7, l7, e7⟩ := G 7 (by omega)
  refine ⟨[n0, n1, n2, n3, n4, n5, n6, n7], ?_, rfl, ?_⟩
  · congr 1
    refine Array.ext_getElem? fun i => ?_
    match i with
    | 0 => rw [e0]; rfl
    | 1 => rw [e1]; rfl
    | 2 => rw [e2]; rfl
    | 3 => rw [e3]; rfl
    | 4 => rw [e4]; rfl
    | 5 => rw [e5]; rfl
    | 6 => rw [e6]; rfl
    | 7 => rw [e7]; rfl
    | k + 8 => rw [Array.getElem?_eq_none (by omega), Array.getElem?_eq_none (by rw [wq_size]; show 8 ≤ k + 8; omega)]
  · intro x hx
    simp only [List.mem_cons, List.not_mem_nil, or_false] at hx
    rcases hx with rfl | rfl | rfl | rfl | rfl | rfl | rfl | rfl <;> assumption
/-- bytes that came in, as numbers -/
theorem open_bytes {zs : List Int} (hw : ∀ n ∈ zs, (Lit.int .u8 n).wf = true) : ∃ bs : List Nat, bs.length = zs.length ∧ (∀ x ∈ bs, x < 256) ∧ zs.map (Value.int .u8) = u8s bs := by
  refine ⟨zs.map Int.toNat, by simp, ?_, ?_⟩
  · intro x hx
    obtain ⟨z, hz, rfl⟩ := List.mem_map.1 hx
    have := bounds_u8 (hw z hz)
    omega
  · unfold u8s
    rw [List.map_map]
    refine List.map_congr_left fun z hz => ?_
    have := bounds_u8 (hw z hz)
    simp [Function.comp, Int.toNat_of_nonneg this.1]
end Go.Proofs.YtfdoikdfhjjohaaDoor

/- A block that came in; a list of blocks that came in. No condition. -/
import Derived.Test.YtnolgjbehnjomaaBbXor
namespace Go.Proofs.Ytnolgjbehnjomaa
set_option maxRecDepth 50000
open Go.ChangeShapes Go.WideShapes Go.ChangeAt Go.RowKit Bb

/-- what an int cell holds, as a natural -/
def natOf : Value → Nat
  | .int _ z => z.toNat
  | _ => 0
/-- cells that are 128 words -/
theorem cells_b {H : Type} {enc : TypeId × Value → H} {W : World} {base : Nat} {spare : Nat → Bool} {held : Bool} {cl : List Value} {fuel : Nat} {x : DataW H × List MemPlace}
    (hf : DataW.trod enc Try.prog W base spare held fuel 26 cl = some x) : cl = u64s (cl.map natOf) ∧ okb (cl.map natOf) := by
  obtain ⟨xs, m, rfl, _, hl, hxl, hall⟩ := DataW.trod_array Try.underlying26 hf
  rw [b_cells] at hl
  have G : ∀ i, (hi : i < cl.length) → ∃ n : Nat, n < 18446744073709551616 ∧ cl[i] = .int .u64 (n : Int) := fun i hi => by
    have h1 := hall i (by omega)
    rw [List.getElem?_eq_getElem (by omega : i < xs.length), b_u64, Nat.mul_one] at h1
    obtain ⟨z, e1, _, hw⟩ := DataW.trod_int Try.underlying24 h1
    have hb := wf_u64 z hw
    obtain ⟨n, rfl⟩ := Int.eq_ofNat_of_zero_le hb.1
    refine ⟨n, by omega, ?_⟩
    rw [List.drop_eq_getElem_cons hi, List.take_succ_cons] at e1
    exact (List.cons.inj e1).1
  refine ⟨?_, by rw [List.length_map]; exact hl, ?_⟩
  · refine List.ext_getElem (by simp [u64s]) fun i h1 h2 => ?_
    obtain ⟨n, _, e⟩ := G i h1
    simp [u64s, e, natOf]
  · intro y hy
    obtain ⟨c, hc, rfl⟩ := List.mem_map.1 hy
    obtain ⟨i, hi, rfl⟩ := List.getElem_of_mem hc
    obtain ⟨n, hn, e⟩ := G i hi
    rw [e]
    simpa [natOf] using hn
theorem open_b {H : Type} {enc : TypeId × Value → H} {W : World} {r : Reach} {b0 base : Nat} {spare : Nat → Bool} {held : Bool} {v : Value} {d : DataW H} {ps : List MemPlace}
    (hval : Value.okWide Try.prog W r b0 26 v) (hd : DataW.Trod enc Try.prog W base spare held 26 v d ps) : ∃ L : List Nat, v = .agg (wq L) ∧ okb L := by
  obtain ⟨cs, rfl, _⟩ : ∃ cs, v = .agg cs ∧ cs.size = Try.prog.cellsOf 26 ∧ Row.okWide Try.prog W r b0 26 cs := by
    have := hval
    simpa [Value.okWide, Try.underlying26] using this
  obtain ⟨fuel, hf⟩ := hd
  obtain ⟨e, ho⟩ := cells_b hf
  refine ⟨_, ?_, ho⟩
  unfold wq
  rw [← e]
  simp [Value.cells]
theorem cell_lt {w : World} {p : Addr} {v : Value} (h : w.cell? p = some v) : p.block < w.heap.size := by
  unfold World.cell? at h
  cases hq : w.heap[p.block]? with
  | none => rw [hq] at h; cases h
  | some o => exact (Array.getElem?_eq_some_iff.1 hq).1
theorem open_blocks {H : Type} {enc : TypeId × Value → H} {W : World} {r : Reach} {b0 : Nat} {v : Value} {d : DataW H} {ps : List MemPlace}
    (hval : Value.okWide Try.prog W r b0 22 v) (h : DataW.Trod enc Try.prog W 0 (fun _ => true) true 22 v d ps) :
    ∃ A c, ∃ l : List (List Nat), v = .slice A l.length c ∧ (∀ b ∈ l, okb b) ∧ Reads W W.heap.size A (bcs l) ∧ l.length ≤ maxLen := by
  obtain ⟨a0, len, cap, rfl⟩ := okWide_slice Try.underlying22 hval
  obtain ⟨fuel, hf⟩ := h
  rcases DataW.trod_slice Try.underlying22 hf with ⟨hcs, hx⟩ | ⟨a, len', cap', elems, rest, n, _, hcs, _, _, hl, hm, hlen, hel, _, _⟩
  · simp [Value.cells] at hcs
    obtain ⟨rfl, rfl, rfl⟩ := hcs
    exact ⟨none, 0, [], rfl, by simp, Reads.nil_, by simp⟩
  · simp [Value.cells] at hcs
    obtain ⟨rfl, rfl, rfl⟩ := hcs
    have G : ∀ i, i < len → ∃ cl, W.cells? 0 (a.add (i * 128)) 128 = some cl ∧ cl = u64s (cl.map natOf) ∧ okb (cl.map natOf) := fun i hi => by
      have h1 := hel i hi
      rw [List.getElem?_eq_getElem (by omega : i < elems.length), b_cells, Option.bind_eq_some_iff] at h1
      obtain ⟨cl, e, h2⟩ := h1
      exact ⟨cl, e, cells_b h2⟩
    have K : ∀ i k, i < len → k < 128 → W.cell? ((a.add (i * 128)).add k) = some (.int .u64 (((((W.cells? 0 (a.add (i * 128)) 128).getD []).map natOf).getD k 0 : Nat) : Int)) := fun i k hi hk => by
      obtain ⟨cl, e, e2, ho⟩ := G i hi
      rw [e, Option.getD_some]
      unfold World.cells? at e
      rw [if_pos (Nat.zero_le _)] at e
      have h3 := mapM_some_get e k k (by simp [hk])
      rw [h3]
      have hkl : k < (cl.map natOf).length := by rw [ho.1]; exact hk
      conv => lhs; rw [e2]
      simp [u64s, List.getD_eq_getElem?_getD, List.getElem?_eq_getElem (show k < cl.length by simpa using hkl)]
    have O : ∀ i, i < len → okb (((W.cells? 0 (a.add (i * 128)) 128).getD []).map natOf) := fun i hi => by
      obtain ⟨cl, e, _, ho⟩ := G i hi
      rw [e, Option.getD_some]; exact ho
    obtain ⟨l, hl2⟩ : ∃ l, l = (List.range len).map fun i => ((W.cells? 0 (a.add (i * 128)) 128).getD []).map natOf := ⟨_, rfl⟩
    have hll : l.length = len := by rw [hl2]; simp
    have hlo : ∀ b ∈ l, okb b := fun b hb => by
      rw [hl2] at hb
      obtain ⟨i, hi, rfl⟩ := List.mem_map.1 hb
      exact O i (List.mem_range.1 hi)
    refine ⟨some a, cap, l, by rw [hll], hlo, fun k hk => ?_, by omega⟩
    rw [bcs_length hlo, hll] at hk
    obtain ⟨b, off, spot⟩ := a
    have e0 := K 0 0 (by omega) (by decide)
    have hspot : spot = none := by simpa [Addr.add] using World.cell?_spot e0
    subst hspot
    have hlt := cell_lt e0
    have ek := K (k / 128) (k % 128) (by omega) (by omega)
    simp only [add_plain] at ek hlt
    have eb := bcs_at hlo (k / 128) (k % 128) (by omega) (by omega)
    have el : l.getD (k / 128) [] = ((W.cells? 0 ((⟨b, off, none⟩ : Addr).add (k / 128 * 128)) 128).getD []).map natOf := by
      rw [hl2, List.getD_eq_getElem?_getD, List.getElem?_map, List.getElem?_range (by omega)]; rfl
    rw [el] at eb
    simp only [add_plain] at eb
    rw [show k / 128 * 128 + k % 128 = k by omega] at eb
    refine ⟨b, off, rfl, hlt, ?_⟩
    rw [show off + k / 128 * 128 + k % 128 = off + k by omega] at ek
    rw [ek, ← eb, List.getElem?_eq_getElem (by rw [bcs_length hlo, hll]; exact hk)]
end Go.Proofs.Ytnolgjbehnjomaa

/- A list of acts that came in: a lane, a column and a word each. No condition. -/
import Derived.Test.YtpampgkhjcfeaaaDoorGdSame
import Derived.Test.YtpampgkhjcfeaaaDoorSpOpen
namespace Go.Proofs.YtpampgkhjcfeaaaDoor
set_option maxRecDepth 50000
open Go.ChangeShapes Go.WideShapes Go.ChangeAt Go.RowKit Bb

structure Ac where
  x : Int
  y : Int
  w : Nat
def acell (x : Ac) : List Value := [.int .i64 x.x, .int .i64 x.y, .int .u64 (x.w : Int)]
def acs (l : List Ac) : List Value := l.flatMap acell
theorem acs_length : ∀ l : List Ac, (acs l).length = l.length * 3
  | [] => rfl
  | x :: l => by
    have := acs_length l
    unfold acs at *
    rw [List.flatMap_cons, List.length_append, this, List.length_cons]
    simp [acell]
    omega
theorem acs_at : ∀ (l : List Ac) (i : Nat) (h : i < l.length) (j : Nat), j < 3 → (acs l)[i * 3 + j]? = (acell l[i])[j]?
  | x :: l, 0, _, j, hj => by
    rw [show acs (x :: l) = acell x ++ acs l by simp [acs], List.getElem?_append_left (by simp [acell]; omega)]; simp
  | x :: l, i + 1, h, j, hj => by
    have := acs_at l i (by simpa using h) j hj
    rw [show acs (x :: l) = acell x ++ acs l by simp [acs], List.getElem?_append_right (by simp [acell]; omega), show (i + 1) * 3 + j - (acell x).length = i * 3 + j by simp [acell]; omega, this]
    simp
theorem act_reads {w : World} {B : Nat} {A : Option Addr} {l : List Ac} (hr : Reads w B A (acs l)) (i : Nat) (hi : i < l.length) :
    ∃ b off, A = some ⟨b, off, none⟩ ∧ b < B ∧ w.cell? ⟨b, off + i * 3, none⟩ = some (.int .i64 l[i].x) ∧ w.cell? ⟨b, off + i * 3 + 1, none⟩ = some (.int .i64 l[i].y) ∧ w.cell? ⟨b, off + i * 3 + 2, none⟩ = some (.int .u64 (l[i].w : Int)) := by
  have hl := acs_length l
  obtain ⟨b, off, e, hb, _⟩ := hr (i * 3) (by omega)
  refine ⟨b, off, e, hb, ?_⟩
  have G : ∀ j, j < 3 → w.cell? ⟨b, off + i * 3 + j, none⟩ = (acell l[i])[j]? := fun j hj => by
    obtain ⟨b', off', e', _, hc⟩ := hr (i * 3 + j) (by omega)
    rw [e] at e'
    cases e'
    rw [Nat.add_assoc, hc, ← List.getElem?_eq_getElem, acs_at l i hi j hj]
  exact ⟨G 0 (by decide), G 1 (by decide), G 2 (by decide)⟩

theorem act_cells : Tryd.prog.cellsOf 51 = 3 := by kernel_rfl
theorem u64_cells : Tryd.prog.cellsOf 27 = 1 := by kernel_rfl
/-- an int, and a word, out of a cell -/
def zOf : Value → Int
  | .int _ z => z
  | _ => 0
def acOf (cl : List Value) : Ac := ⟨zOf (cl.getD 0 undef), zOf (cl.getD 1 undef), (zOf (cl.getD 2 undef)).toNat⟩
theorem act_open {H : Type} {enc : TypeId × Value → H} {W : World} {base : Nat} {spare : Nat → Bool} {held : Bool} {cl : List Value} {fuel : Nat} {x : DataW H × List MemPlace}
    (hf : DataW.trod enc Tryd.prog W base spare held fuel 51 cl = some x) : cl = acell (acOf cl) ∧ (acOf cl).w < 18446744073709551616 := by
  obtain ⟨xs, m, _, _, hl, hxl, hall⟩ := DataW.trod_struct Tryd.underlying51 hf
  rw [act_cells] at hl
  have hxl : xs.length = 3 := hxl
  have e0 : DataW.trod enc Tryd.prog W base spare held m 3 ((cl.drop 0).take (Tryd.prog.cellsOf 3)) = xs[0]? := hall 0 _ rfl
  have e1 : DataW.trod enc Tryd.prog W base spare held m 3 ((cl.drop 1).take (Tryd.prog.cellsOf 3)) = xs[1]? := hall 1 _ rfl
  have e2 : DataW.trod enc Tryd.prog W base spare held m 27 ((cl.drop 2).take (Tryd.prog.cellsOf 27)) = xs[2]? := hall 2 _ rfl
  rw [int_cellsOf, List.getElem?_eq_getElem (by omega)] at e0 e1
  rw [u64_cells, List.getElem?_eq_getElem (by omega)] at e2
  obtain ⟨z0, c0, _, _⟩ := DataW.trod_int Tryd.underlying3 e0
  obtain ⟨z1, c1, _, _⟩ := DataW.trod_int Tryd.underlying3 e1
  obtain ⟨z2, c2, _, hw⟩ := DataW.trod_int Tryd.underlying27 e2
  have hb := wf_u64 z2 hw
  have G : ∀ (i : Nat) (v : Value), i < 3 → (cl.drop i).take 1 = [v] → cl[i]? = some v := fun i v hi h => by
    have := congrArg (fun l : List Value => l[0]?) h
    simpa [List.getElem?_take, List.getElem?_drop] using this
  have g0 := G 0 _ (by decide) c0
  have g1 := G 1 _ (by decide) c1
  have g2 := G 2 _ (by decide) c2
  have ea : acOf cl = ⟨z0, z1, z2.toNat⟩ := by
    simp [acOf, List.getD_eq_getElem?_getD, g0, g1, g2, zOf]
  rw [ea]
  refine ⟨List.ext_getElem? fun i => ?_, ?_⟩
  · rcases (show i = 0 ∨ i = 1 ∨ i = 2 ∨ 3 ≤ i by omega) with rfl | rfl | rfl | h
    · rw [g0]; rfl
    · rw [g1]; rfl
    · rw [g2]
      simp only [acell]
      rw [Int.toNat_of_nonneg hb.1]
      rfl
    · rw [List.getElem?_eq_none (by omega), List.getElem?_eq_none (by simp [acell]; omega)]
  · show z2.toNat < _
    omega

theorem open_acts {H : Type} {enc : TypeId × Value → H} {W : World} {r : Reach} {b0 : Nat} {v : Value} {d : DataW H} {ps : List MemPlace}
    (hval : Value.okWide Tryd.prog W r b0 24 v) (h : DataW.Trod enc Tryd.prog W 0 (fun _ => true) true 24 v d ps) :
    ∃ A c, ∃ l : List Ac, v = .slice A l.length c ∧ (∀ x ∈ l, x.w < 18446744073709551616) ∧ Reads W W.heap.size A (acs l) := by
  obtain ⟨a0, len, cap, rfl⟩ := okWide_slice Tryd.underlying24 hval
  obtain ⟨fuel, hf⟩ := h
  rcases DataW.trod_slice Tryd.underlying24 hf with ⟨hcs, hx⟩ | ⟨a, len', cap', elems, rest, n, _, hcs, _, _, hl, hm, hlen, hel, _, _⟩
  · simp [Value.cells] at hcs
    obtain ⟨rfl, rfl, rfl⟩ := hcs
    exact ⟨none, 0, [], rfl, by simp, Reads.nil_⟩
  · simp [Value.cells] at hcs
    obtain ⟨rfl, rfl, rfl⟩ := hcs
    have G : ∀ i, i < len → ∃ cl, W.cells? 0 (a.add (i * 3)) 3 = some cl ∧ cl = acell (acOf cl) ∧ (acOf cl).w < 18446744073709551616 := fun i hi => by
      have h1 := hel i hi
      rw [List.getElem?_eq_getElem (by omega : i < elems.length), act_cells, Option.bind_eq_some_iff] at h1
      obtain ⟨cl, e, h2⟩ := h1
      exact ⟨cl, e, act_open h2⟩
    have K : ∀ i k, i < len → k < 3 → W.cell? ((a.add (i * 3)).add k) = (acell (acOf ((W.cells? 0 (a.add (i * 3)) 3).getD [])))[k]? := fun i k hi hk => by
      obtain ⟨cl, e, e2, ho⟩ := G i hi
      rw [e, Option.getD_some]
      unfold World.cells? at e
      rw [if_pos (Nat.zero_le _)] at e
      have h3 := mapM_some_get e k k (by simp [hk])
      rw [h3, ← e2]
    obtain ⟨l, hl2⟩ : ∃ l, l = (List.range len).map fun i => acOf ((W.cells? 0 (a.add (i * 3)) 3).getD []) := ⟨_, rfl⟩
    have hll : l.length = len := by rw [hl2]; simp
    refine ⟨some a, cap, l, by rw [hll], ?_, fun k hk => ?_⟩
    · intro x hx
      rw [hl2] at hx
      obtain ⟨i, hi, rfl⟩ := List.mem_map.1 hx
      obtain ⟨cl, e, _, ho⟩ := G i (List.mem_range.1 hi)
      rw [e, Option.getD_some]; exact ho
    · rw [acs_length, hll] at hk
      obtain ⟨b, off, spot⟩ := a
      have e0 := K 0 0 (by omega) (by decide)
      have hac : (acell (acOf ((W.cells? 0 ((⟨b, off, spot⟩ : Addr).add (0 * 3)) 3).getD [])))[0]? = some (.int .i64 (acOf ((W.cells? 0 ((⟨b, off, spot⟩ : Addr).add (0 * 3)) 3).getD [])).x) := rfl
      rw [hac] at e0
      have hspot : spot = none := by simpa [Addr.add] using World.cell?_spot e0
      subst hspot
      have hlt : b < W.heap.size := by
        have h0 := e0
        simp only [add_plain] at h0
        unfold World.cell? at h0
        cases hq : W.heap[b]? with
        | none => simp only [hq] at h0; cases h0
        | some o => exact (Array.getElem?_eq_some_iff.1 hq).1
      have ek := K (k / 3) (k % 3) (by omega) (by omega)
      simp only [add_plain] at ek
      have eb := acs_at l (k / 3) (by omega) (k % 3) (by omega)
      have el : l[k / 3]'(by omega) = acOf ((W.cells? 0 ((⟨b, off, none⟩ : Addr).add (k / 3 * 3)) 3).getD []) := by
        simp [hl2]
      rw [el] at eb
      simp only [add_plain] at eb
      rw [show k / 3 * 3 + k % 3 = k by omega] at eb
      refine ⟨b, off, rfl, hlt, ?_⟩
      rw [show off + k / 3 * 3 + k % 3 = off + k by omega] at ek
      rw [ek, ← eb, List.getElem?_eq_getElem (by rw [acs_length, hll]; exact hk)]
end Go.Proofs.YtpampgkhjcfeaaaDoor

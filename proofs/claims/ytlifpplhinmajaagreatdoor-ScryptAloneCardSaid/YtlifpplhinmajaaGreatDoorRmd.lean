/- all of the law and the document's Copy, by their contracts. Conditions: those typed. same of the law, by its contract: are lists of rows the same? Condition: no list is longer than a million. The document's Mix of rows, by its contract. Conditions: those typed. -/
import Derived.Test.YtlifpplhinmajaaGreatDoorRmc
import Derived.Test.YtlifpplhinmajaaGreatDoorRmAt
import Derived.BigQuiet
import Derived.Test.YtlifpplhinmajaaGreatDoorSfRmix
import Derived.Laws.OwnMore
import Derived.StillTailTactics
namespace Go.Proofs.YtlifpplhinmajaaGreatDoor
set_option maxRecDepth 50000
open Go.RowKit Bb Sl Sf Rm

theorem take_snoc (X : List (List Nat)) (i : Nat) (h : i < X.length) : X.take (i + 1) = X.take i ++ [X.getD i []] := by
  rw [List.take_add_one, List.getElem?_eq_getElem h, List.getD_eq_getElem?_getD, List.getElem?_eq_getElem h]; rfl

section
variable {w w' : World} {s p a g n r : Nat} {X : List (List Nat)}
set_option maxHeartbeats 3200000 in
theorem rcopy_any {v : Value} (hv : Rws w w.heap.size v X) (hX : X.length ≤ 1000000) (hXr : ∀ i, i < X.length → (X.getD i []).length ≤ 1000000) : Calls Tryz.prog 54 #[v] w fun e w' => ∃ v cs, e = .returned v ∧ Lst w' w.heap.size w'.heap.size v X cs ∧ Below w.heap.size w w' := by
  obtain ⟨A, c, rfl, hA⟩ := hv
  have HA := Lib.hid hA
  have HX := Lib.hid hXr
  have HT := Lib.hid fun (i : Nat) (hi : i < X.length) => take_snoc X i hi
  have HTL : Hid (∀ i, i ≤ X.length → (X.take i).length = i) := Lib.hid fun i hi => by rw [List.length_take]; omega
  have HTA : Hid (X.take X.length = X) := Lib.hid (List.take_of_length_le (Nat.le_refl _))
  obtain ⟨R, hR⟩ : ∃ R, X.length = R := ⟨_, rfl⟩
  rw [hR] at HA HX HT HTL HTA hX ⊢
  clear hA hXr hR
  go_enter Tryz.func54, Tryz.ntmps54
  go_wp2
  go_loopw [3, 4] (fun v3 v4 wr => ∃ i cs v, i ≤ R ∧ v4 = .int .i64 ((i : Nat) : Int) ∧ v3 = v ∧ Lst wr w.heap.size wr.heap.size v (X.take i) cs ∧ Below w.heap.size w wr) (fun _ v4 _ => R - (intOf v4).toNat)
  case atStart => exact ⟨0, [], _, by omega, rfl, rfl, Lst.nil _ _ _, Below.refl _ _⟩
  case round =>
    obtain ⟨i, cs, v3, hi, rfl, e3, L1, b1⟩ := hrel
    obtain rfl := e3.symm
    by_cases h : i < R
    · have hd : decide ((i : Int) < (R : Int)) = true := by simp; omega
      obtain ⟨b, o, a, c', rfl, hlt, hc, hr⟩ := HA.out i h
      have hxl := HX.out i h
      have HT1 := Lib.hid (HT.out i h)
      obtain ⟨x, hx⟩ : ∃ x, X.getD i [] = x := ⟨_, rfl⟩
      rw [hx] at hc hr hxl HT1
      clear hx
      obtain ⟨v5, w5, hap, ho5, b5⟩ := app_copy ((hr.below b1).more b1.size) hxl 63 (c := c')
      obtain ⟨A5, c5, rfl, hl5, hA5, _⟩ := own_form ho5
      have hp0 : (0 : Int) ≤ (i : Int) := by omega
      have hp1 : (i : Int) < (R : Int) := by omega
      have k1 : (wr.alloc (.cells #[] 36)).cell? ⟨b, o + i, none⟩ = some (.slice a x.length c') := ((b1.alloc b1.size (.cells #[] 36)).cell (p := ⟨b, o + i, none⟩) hlt).trans hc
      have L2 := L1.below b5
      have b3 := b1.trans (b5.mono b1.size)
      have hne : ∀ b o, A5 = some ⟨b, o, none⟩ → v3.ownBlock ≠ some b := fun b o e => own_apart L2.own ho5 rfl (by rw [e]; rfl)
      obtain ⟨w6, hw6⟩ : ∃ w6, w6 = w5.alloc (.cells #[.slice A5 x.length c5] 63) := ⟨_, rfl⟩
      have R3 : RowAt w6 w5.heap.size 63 #[.slice A5 x.length c5] := by rw [hw6]; exact RowAt.new _ _ _
      have b4 : Below w5.heap.size w5 w6 := by rw [hw6]; exact (Below.refl _ _).alloc (Nat.le_refl _) _
      have L3 := (L2.more b5.size).below b4
      have hrd : Reads w6 w6.heap.size A5 (u32s x) := ((Reads.of_own ho5).below b4).more b4.size
      obtain ⟨v4, w4, hap4, L4, g4⟩ := L3.app (by have := b3.size; have := b4.size; omega) b4.size (l := x) (c := c5) R3 hrd hne (by rw [HTL.out i (by omega)]; omega) 66
      have b6 := (b3.trans (b4.mono b3.size)).grown g4 (by have := b3.size; have := b4.size; omega) (fun k hk => (L3.own.lt k hk).1)
      rw [← HT1.out] at L4
      have H4 := Lib.hid (And.intro L4 b6)
      rw [hw6] at hap4
      have HAP := Lib.hid hap
      have HAP4 := Lib.hid hap4
      clear L2 b3 hne R3 b4 L3 hrd hap4 hap L4 g4 b6 hw6 L1 b1 b5 ho5 hl5 hA5 hc hr hlt
      go_wp2_with (first
        | (at_builtin; refine wpList_append_of rfl (.tmp 12) (.tmp 16) 63 rfl _ _ _ rfl rfl HAP.out ?_)
        | (at_builtin; refine wpList_append_of rfl (.tmp 11) (.tmp 18) 66 rfl _ _ _ rfl rfl HAP4.out ?_))
      clear HAP HAP4
      go_wp2
      go_roundw
      case rel => exact ⟨i + 1, _, _, by omega, by go_num, rfl, H4.out⟩
      case measure => simp [intOf]; omega
    · obtain rfl : i = R := by omega
      have hd : decide ((i : Int) < (i : Int)) = false := by simp
      rw [HTA.out] at L1
      have H1 := Lib.hid (And.intro L1 b1)
      clear L1 b1
      go_wp2
      go_ret
      exact ⟨_, rfl, ⟨_, H1.out.1⟩, H1.out.2⟩
end
end Go.Proofs.YtlifpplhinmajaaGreatDoor

namespace Go.Proofs.YtlifpplhinmajaaGreatDoor
set_option maxRecDepth 50000
open Go.RowKit Bb Sl Sf Rm

theorem rows_ext {X Y : List (List Nat)} (h : X.length = Y.length) (H : ∀ i, i < X.length → X.getD i [] = Y.getD i []) : X = Y := by
  refine List.ext_getElem h fun i h1 h2 => ?_
  have := H i h1
  rwa [List.getD_eq_getElem?_getD, List.getElem?_eq_getElem h1, List.getD_eq_getElem?_getD, List.getElem?_eq_getElem h2] at this
theorem rd_word {w : World} {B : Nat} {a : Option Addr} {l : List Nat} (h : Reads w B a (u32s l)) (k : Nat) (hk : k < l.length) : ∃ b o, a = some ⟨b, o, none⟩ ∧ ∀ q, (w.drewN q).cell? ⟨b, o + k, none⟩ = some (.int .u32 ((l.getD k 0 : Nat) : Int)) := by
  obtain ⟨b, o, e, hl, hc⟩ := h k (by rw [u32s_length]; exact hk)
  refine ⟨b, o, e, fun _ => ?_⟩
  rw [show l.getD k 0 = l[k] by rw [List.getD_eq_getElem?_getD, List.getElem?_eq_getElem hk]; rfl, ← u32_at l k (by rw [u32s_length]; exact hk)]
  exact hc

theorem drew_two (w : World) (q k : Nat) : ∃ j, (w.drewN q).drewN k = w.drewN j := ⟨q + k, by rw [World.drewN_drewN]⟩

end Go.Proofs.YtlifpplhinmajaaGreatDoor

namespace Go.Proofs.YtlifpplhinmajaaGreatDoor
set_option maxRecDepth 50000
open Go.RowKit Bb Sl Sf Rm

theorem u32s_set (l : List Nat) (i x : Nat) : u32s (l.set i x) = (u32s l).set i (.int .u32 (x : Int)) := by unfold u32s; rw [List.map_set]
theorem own_fact {w : World} {N g n c : Nat} {e : TypeId} {xs : List Value} (h : w.ownsRow N e 1 (.slice (some ⟨g, 0, none⟩) n c) n xs) (j : Nat) (hj : j < n) : w.cell? ⟨g, j, none⟩ = xs[j]? ∧ w.frozen? ⟨g, j, none⟩ = false ∧ g < w.heap.size ∧ N ≤ g := by
  refine ⟨h.cellAt j (by omega), ?_⟩
  rcases h.2 with ⟨h', _⟩ | ⟨g', cap', cur, h', hb, hg, _⟩
  · simp at h'
  · simp only [Value.slice.injEq, Option.some.injEq, Addr.mk.injEq, and_true, true_and] at h'
    obtain ⟨rfl, rfl⟩ := h'
    exact ⟨(show RowAt w g e cur from hg).frozen j, (show RowAt w g e cur from hg).lt, hb⟩

theorem own_base' {w : World} {base base' s n : Nat} {e : TypeId} {v : Value} {xs : List Value} (h : w.ownsRow base e s v n xs) (hM : base' ≤ base) : w.ownsRow base' e s v n xs := by
  refine ⟨h.1, ?_⟩
  rcases h.2 with hn | ⟨g, cap, cur, rfl, hb, rest⟩
  · exact .inl hn
  · exact .inr ⟨g, cap, cur, rfl, Nat.le_trans hM hb, rest⟩

/-- rows of one's own, and one of words beside them -/
structure Mr (w wr : World) (B : Nat) (vo : Value) (Y : List (List Nat)) (cs : List Value) (vv : Value) (x : List Nat) (m : Nat) : Prop where
  lst : Lst wr w.heap.size B vo Y cs
  row : wr.ownsRow B 36 1 vv m (u32s x)
  le : B ≤ wr.heap.size
  base : w.heap.size ≤ B
  below : Below w.heap.size w wr
section
variable {w wr w' : World} {B m : Nat} {vo vv : Value} {X Y : List (List Nat)} {cs : List Value} {x : List Nat}
theorem Mr.vform (h : Mr w wr B vo Y cs vv x m) (hm : 1 ≤ m) : ∃ g c, vv = .slice (some ⟨g, 0, none⟩) m c ∧ B ≤ g ∧ x.length = m := by
  obtain ⟨A, c, rfl, hl, hA, _⟩ := own_form h.row
  obtain ⟨g, rfl, hg⟩ := hA (by omega)
  exact ⟨g, c, rfl, hg, by rw [u32s_length] at hl; omega⟩
theorem Mr.oform (h : Mr w wr B vo Y cs vv x m) (hY : 0 < Y.length) : ∃ g c, vo = .slice (some ⟨g, 0, none⟩) Y.length c ∧ w.heap.size ≤ g ∧ g < B := by
  obtain ⟨A, c, rfl, _, hA⟩ := h.lst.form
  obtain ⟨g, rfl, hN, hg⟩ := hA hY
  exact ⟨g, c, rfl, hN, hg⟩
theorem Mr.reads {g c : Nat} (h : Mr w wr B vo Y cs (.slice (some ⟨g, 0, none⟩) m c) x m) : Reads wr wr.heap.size (some ⟨g, 0, none⟩) (u32s x) := Reads.of_own h.row
theorem Mr.step (h : Mr w wr B vo Y cs vv x m) (hb : Below wr.heap.size wr w') : Mr w w' B vo Y cs vv x m :=
  ⟨h.lst.below (hb.mono h.le), own_under h.row hb, Nat.le_trans h.le hb.size, h.base, h.below.trans (hb.mono h.below.size)⟩
/-- a word of the row is another one -/
theorem Mr.set {g c : Nat} (h : Mr w wr B vo Y cs (.slice (some ⟨g, 0, none⟩) m c) x m) (hg : B ≤ g) (i z : Nat) : Mr w (wr.setCell ⟨g, i, none⟩ (.int .u32 (z : Int))) B vo Y cs (.slice (some ⟨g, 0, none⟩) m c) (x.set i z) m :=
  ⟨h.lst.below ((Below.refl B wr).setCell hg _), by rw [u32s_set]; exact (h.row.stored i _).1, by simpa [World.setCell] using h.le, h.base, h.below.setCell (Nat.le_trans h.base hg) _⟩
/-- a row of the list is a copy -/
theorem Mr.copy {g c gv cv : Nat} (h : Mr w wr B (.slice (some ⟨g, 0, none⟩) Y.length c) Y cs (.slice (some ⟨gv, 0, none⟩) m cv) x m) (hl : x.length = m) (hm : m ≤ 1000000) (j : Nat) (hj : j < Y.length) (ty : TypeId) :
    ∃ A5 c5 w5, (Builtin.append_ #[63, 63] ty #[.slice (some ⟨wr.heap.size, 0, none⟩) 0 0, .slice (some ⟨gv, 0, none⟩) m cv]).run Tryz.prog (wr.alloc (.cells #[] 36)) = .ok (.slice A5 m c5) w5 ∧
      (∃ u, w5.cell? ⟨g, j, none⟩ = some u) ∧ w5.frozen? ⟨g, j, none⟩ = false ∧
      ∃ cs', Lst (w5.setCell ⟨g, j, none⟩ (.slice A5 m c5)) w.heap.size w5.heap.size (.slice (some ⟨g, 0, none⟩) Y.length c) (Y.set j x) cs' ∧ Reads (w5.setCell ⟨g, j, none⟩ (.slice A5 m c5)) w5.heap.size (some ⟨gv, 0, none⟩) (u32s x) ∧ Below w.heap.size w (w5.setCell ⟨g, j, none⟩ (.slice A5 m c5)) := by
  subst hl
  obtain ⟨v5, w5, hap, ho5, b5⟩ := app_copy h.reads hm ty (c := cv)
  obtain ⟨A5, c5, rfl, hl5, hA5, _⟩ := own_form ho5
  have L5 := h.lst.below (b5.mono h.le)
  have hcs : cs.length = Y.length := by have := L5.own.1; omega
  obtain ⟨k1, k2, k3, k4⟩ := own_fact L5.own j hj
  have hgB : g < B := h.lst.lt g rfl
  have hR := (h.reads.below b5).more b5.size
  have hgv : gv ≠ g := by
    intro e
    subst e
    exact own_apart h.lst.own h.row rfl (b := gv) rfl rfl
  refine ⟨A5, c5, w5, hap, ⟨_, by rw [k1]; exact List.getElem?_eq_getElem (by omega)⟩, k2, _, L5.set (Nat.le_trans h.le b5.size) (Reads.of_own ho5) (fun b o e h0 => ?_) j hj, fun k hk => ?_, (h.below.trans (b5.mono h.below.size)).setCell k4 _⟩
  · obtain ⟨g5, e5, hg5⟩ := hA5 h0
    rw [e] at e5
    cases e5
    have := h.le
    omega
  · obtain ⟨b, o, e, hl, hc⟩ := hR k hk
    cases e
    exact ⟨_, _, rfl, hl, by rw [World.cell?_of_block (w := w5) (a := ⟨gv, 0 + k, none⟩) (Below.heap_setCell _ _ _ _ hgv)]; exact hc⟩

set_option maxHeartbeats 6400000 in
theorem rmix24_any {r : Nat} (h1 : 1 ≤ r) (h2 : r ≤ 512) {v : Value} (hv : Rws w w.heap.size v X) (hX : X.length ≤ 1000000) (hXr : ∀ i, i < X.length → (X.getD i []).length ≤ 1000000) (k N first : Nat) (hk : k < X.length) (hXk : (X.getD k []).length = 32 * r ∧ okw (X.getD k [])) (hN : 1 ≤ N) (hf : first + N ≤ X.length) :
    Calls Tryz.prog 33 #[v, .int .i64 (r : Int), .int .i64 (k : Int), .int .i64 (N : Int), .int .i64 (first : Int)] w fun e w' => ∃ v cs, e = .returned v ∧ Lst w' w.heap.size w'.heap.size v (mixX r k N first inN X) cs ∧ Below w.heap.size w w' := by
  have C1 := Lib.hid (rcopy_any hv hX hXr)
  have hv' := hXk
  have HVg := Lib.hid (V_good (v := X.getD k []) h1 hv'.1 hv'.2)
  have hFl := F_length r (X.getD k []) first X
  have hFg : ∀ j, j < N → ((F r (X.getD k []) first X N).getD (first + j) []).length = 32 * r ∧ okw ((F r (X.getD k []) first X N).getD (first + j) []) := fun j hj => by rw [F_row hf j hj]; exact HVg.out j
  have hZg := Z_good2 (first := first) (g := inN) h1 (HVg.out N).1 (HVg.out N).2 hFg hN
  have HF0 : Hid (∀ i, F r (X.getD k []) first X (i + 1) = (F r (X.getD k []) first X i).set (first + i) (V r (X.getD k []) i)) := Lib.hid fun _ => rfl
  have HV0 : Hid (∀ i, V r (X.getD k []) (i + 1) = ot (V r (X.getD k []) i) r (2 * r)) := Lib.hid fun i => mxr_ot h1 (HVg.out i).1
  have HZ0 : Hid (∀ i, Z r N first inN (F r (X.getD k []) first X N) (V r (X.getD k []) N) (i + 1) = ot (xr (Z r N first inN (F r (X.getD k []) first X N) (V r (X.getD k []) N) i) ((F r (X.getD k []) first X N).getD (first + pk N (Z r N first inN (F r (X.getD k []) first X N) (V r (X.getD k []) N) i) inN) []) 0 (32 * r)) r (2 * r)) := Lib.hid fun i => mxr_ot h1 (by rw [xr_length]; exact (hZg i).1)
  have HZZ : Hid (Z r N first inN (F r (X.getD k []) first X N) (V r (X.getD k []) N) 0 = V r (X.getD k []) N) := Lib.hid rfl
  have HMX : Hid (mixX r k N first inN X = (F r (X.getD k []) first X N).set k (Z r N first inN (F r (X.getD k []) first X N) (V r (X.getD k []) N) N)) := Lib.hid rfl
  have hV00 : V r (X.getD k []) 0 = X.getD k [] := rfl
  have hF00 : F r (X.getD k []) first X 0 = X := rfl
  rw [HMX.out]
  clear hv' HMX hv
  obtain ⟨m, hm⟩ : ∃ m, 32 * r = m := ⟨_, rfl⟩
  have CM := Lib.hid fun (w2 : World) (A : Option Addr) (c : Nat) (l : List Nat) (hl : l.length = m) (ho : okw l) (hr : Reads w2 w2.heap.size A (u32s l)) => rmix_any r h1 h2 A m c l hl hm.symm ho w2 hr
  have CI := Lib.hid fun (w2 : World) (A : Option Addr) (c : Nat) (l : List Nat) (hl : l.length = m) (ho : okw l) (hr : Reads w2 w2.heap.size A (u32s l)) => rint_any r h1 h2 A m c l hl hm.symm ho w2 hr
  have HI := Lib.hid fun i => inN_lt (hZg i).2
  have hxo := Lib.hid hV00
  generalize hx0 : X.getD k [] = x0 at *
  generalize V r x0 = vf at *
  generalize F r x0 first X = ff at *
  generalize Z r N first inN (ff N) (vf N) = zf at *
  obtain ⟨Y, hY⟩ : ∃ Y, ff N = Y := ⟨_, rfl⟩
  rw [hY] at HZ0 ⊢
  have hYl : Y.length = X.length := by rw [← hY]; exact hFl N
  have hYg : ∀ j, j < N → (Y.getD (first + j) []).length = 32 * r ∧ okw (Y.getD (first + j) []) := by rw [← hY]; exact hFg
  clear hFg
  rw [hm] at HVg hZg HZ0 hYg
  obtain ⟨R, hR⟩ : ∃ R, X.length = R := ⟨_, rfl⟩
  have hm1 : 1 ≤ m := by omega
  have hm2 : m ≤ 16384 := by omega
  rw [hR] at hFl hYl hX hk hf
  have HPK := Lib.hid fun i => pk_lt (zf i) inN hN
  have HFl := Lib.hid hFl
  have HYl := Lib.hid hYl
  have HYg := Lib.hid hYg
  have HZg := Lib.hid hZg
  have HY := Lib.hid hY
  have HX0 := Lib.hid hx0
  have HF00 := Lib.hid hF00
  have HR := Lib.hid hR
  clear hFl hYl hYg hZg hY hx0 hV00 hF00 hR hXr hXk hm h1 h2
  go_enter Tryz.func33, Tryz.ntmps33
  go_wp2_with fail
  refine C1.out.mono ?_
  rintro e w1 ⟨vo, ⟨cs, rfl, L1, b1⟩⟩
  obtain ⟨A0, c0, rfl, hcl, hA0⟩ := L1.form
  obtain ⟨g, rfl, hgN, hgB⟩ := hA0 (by have := HR.out; omega)
  obtain ⟨a, c, ek, hrk, _⟩ := L1.row k (by have := HR.out; omega)
  rw [HX0.out] at ek hrk
  have hl0 := (HVg.out 0).1
  rw [hxo.out] at hl0
  rw [hl0] at ek
  obtain ⟨v5, w5, hap, ho5, b5⟩ := app_copy hrk (by omega) 63 (c := c)
  rw [hl0] at hap ho5
  have hck : (w1.alloc (.cells #[] 36)).cell? ⟨g, k, none⟩ = some (.slice a m c) := by
    rw [((Below.refl w1.heap.size w1).alloc (Nat.le_refl _) (.cells #[] 36)).cell (p := ⟨g, k, none⟩) hgB, L1.own.cellAt k (by have := HR.out; omega)]
    exact ek
  have M1 : Mr w w5 w1.heap.size (.slice (some ⟨g, 0, none⟩) X.length c0) (ff 0) cs v5 (vf 0) m := ⟨by rw [HF00.out]; exact L1.below b5, by rw [hxo.out]; exact ho5, b5.size, b1.size, b1.trans (b5.mono b1.size)⟩
  rw [HR.out] at M1 ⊢
  have hp0 : (0 : Int) ≤ (k : Int) := by omega
  have hp1 : (k : Int) < (R : Int) := by omega
  have HM := Lib.hid M1
  have HAP := Lib.hid hap
  clear L1 b1 hcl hA0 ek hrk hap ho5 b5 M1 C1 hgN hgB hl0
  go_wp2_with (at_builtin; refine wpList_append_of rfl (.tmp 19) (.tmp 23) 63 rfl _ _ _ rfl rfl HAP.out ?_)
  clear HAP hck
  go_wp2
  go_loopw [12, 13] (fun v12 v13 wr => ∃ i B cs v, i ≤ N ∧ v13 = .int .i64 ((i : Nat) : Int) ∧ v12 = v ∧ Mr w wr B (.slice (some ⟨g, 0, none⟩) R c0) (ff i) cs v (vf i) m) (fun _ v13 _ => N - (intOf v13).toNat)
  case atStart => exact ⟨0, _, _, _, by omega, rfl, rfl, HM.out⟩
  case round =>
    clear HM
    obtain ⟨i, B, cs, v, hi, rfl, e3, M1⟩ := hrel
    obtain rfl := e3.symm
    clear e3
    obtain ⟨gv, cv, rfl, hgv, hxl⟩ := M1.vform hm1
    by_cases h : i < N
    · have hd : decide ((i : Int) < (N : Int)) = true := by simp; omega
      have hFi := HFl.out i
      rw [← hFi] at M1
      obtain ⟨A5, c5, w5, hap, ⟨u, ck⟩, fk, cs', L2, r2, b2⟩ := M1.copy hxl (by omega) (first + i) (by omega) 63
      rw [hFi, ← HF0.out] at L2
      have e1 : (first : Int) + (i : Int) = ((first + i : Nat) : Int) := by omega
      have hwj : IntKind.i64.wrap ((first + i : Nat) : Int) = ((first + i : Nat) : Int) := IntWalk.i64_in _ (by omega)
      have hq0 : (0 : Int) ≤ ((first + i : Nat) : Int) := by omega
      have hq1 : ((first + i : Nat) : Int) < (R : Int) := by omega
      generalize first + i = j at *
      have HAP := Lib.hid hap
      have CX := Lib.hid (CM.out _ _ cv _ hxl (HVg.out i).2 (r2.more (by simp [World.setCell])))
      rw [← HV0.out] at CX
      have HL2 := Lib.hid (And.intro L2 b2)
      clear hap L2 r2 b2 M1 hFi
      go_wp2_with (at_builtin; refine wpList_append_of rfl (.tmp 34) (.tmp 35) 63 rfl _ _ _ rfl rfl HAP.out ?_)
      refine CX.out.mono ?_
      rintro e w6 ⟨v6, rfl, ho6, b6⟩
      have HM : Hid (Mr w w6 _ _ _ _ _ _ _) := Lib.hid ⟨(HL2.out.1.more (by simp [World.setCell])).below b6, ho6, b6.size, HL2.out.2.size, HL2.out.2.trans (b6.mono HL2.out.2.size)⟩
      clear HL2 ho6 b6 CX HAP
      go_wp2
      go_roundw
      case rel => exact ⟨i + 1, _, _, _, by omega, by go_num, rfl, HM.out⟩
      case measure => simp [intOf]; omega
    · obtain rfl : i = N := by omega
      have hd : decide ((i : Int) < (i : Int)) = false := by simp
      rw [HY.out, ← HZZ.out] at M1
      have HM := Lib.hid M1
      clear M1 HF0 HV0 HVg HFl HY
      go_wp2
      go_loopw [12, 14, 15, 16] (fun v12 v14 _ _ wr => ∃ q B cs v, q ≤ i ∧ v14 = .int .i64 ((q : Nat) : Int) ∧ v12 = v ∧ Mr w wr B (.slice (some ⟨g, 0, none⟩) R c0) Y cs v (zf q) m) (fun _ v14 _ _ _ => i - (intOf v14).toNat)
      case atStart => exact ⟨0, _, _, _, by omega, rfl, rfl, HM.out⟩
      case round =>
        clear HM
        obtain ⟨q, B, cs, v, hq, rfl, e3, M1⟩ := hrel
        obtain rfl := e3.symm
        clear e3
        obtain ⟨gv, cv, rfl, hgv, hxl⟩ := M1.vform hm1
        by_cases h2 : q < i
        · have hd2 : decide ((q : Int) < (i : Int)) = true := by simp; omega
          have CII := Lib.hid (CI.out wr _ cv _ hxl (HZg.out q).2 M1.reads)
          have hp := HPK.out q
          have hI := HI.out q
          have HZ1 := Lib.hid (HZ0.out q)
          have HM := Lib.hid M1
          have HXO := Lib.hid (HZg.out q).2
          have HXL := Lib.hid hxl
          have HYL := Lib.hid (HYg.out (pk i (zf q) inN) hp).1
          have HYO := Lib.hid (HYg.out (pk i (zf q) inN) hp).2
          clear M1 hgv hxl
          have ep : inN (zf q) % i = pk i (zf q) inN := rfl
          generalize pk i (zf q) inN = j at *
          obtain ⟨z, hz⟩ : ∃ z, zf q = z := ⟨_, rfl⟩
          rw [hz] at HZ1 HXO HXL HM CII hI ep
          clear hz
          generalize inN z = I at *
          have f1 : (I : Int) % (i : Int) = (j : Int) := by rw [← ep]; rfl
          have f2 : (I : Int).tmod (i : Int) = (j : Int) := by rw [← ep]; rfl
          clear ep
          have n0 : ¬ i = 0 := by omega
          have hw1 : IntKind.u64.wrap (i : Int) = (i : Int) := by rw [IntKind.wrap_u64]; omega
          have hw2 : IntKind.u64.wrap (j : Int) = (j : Int) := by rw [IntKind.wrap_u64]; omega
          have hw3 : IntKind.i64.wrap (j : Int) = (j : Int) := by rw [IntKind.wrap_i64]; omega
          go_wp2_with fail
          refine CII.out.mono ?_
          rintro e w2 ⟨rfl, b2⟩
          have HX : Hid (Mr w w2 B (.slice (some ⟨g, 0, none⟩) R c0) Y cs (.slice (some ⟨gv, 0, none⟩) m cv) (xr z (Y.getD (first + j) []) 0 0) m) := Lib.hid (HM.out.step b2)
          clear HM b2 CII
          go_wp2
          have hjR : first + j < Y.length := by rw [HYl.out]; omega
          have e1 : (first : Int) + (j : Int) = ((first + j : Nat) : Int) := by omega
          have hwj : IntKind.i64.wrap ((first + j : Nat) : Int) = ((first + j : Nat) : Int) := IntWalk.i64_in _ (by omega)
          have hq0 : (0 : Int) ≤ ((first + j : Nat) : Int) := by omega
          have hq1 : ((first + j : Nat) : Int) < (R : Int) := by omega
          obtain ⟨y, hy⟩ : ∃ y, Y.getD (first + j) [] = y := ⟨_, rfl⟩
          have HYY := Lib.hid hy
          rw [hy] at HX HYL HYO HZ1
          clear hy
          go_loopw [16] (fun v16 wr => ∃ c : Nat, c ≤ m ∧ v16 = .int .i64 (c : Int) ∧ Mr w wr B (.slice (some ⟨g, 0, none⟩) R c0) Y cs (.slice (some ⟨gv, 0, none⟩) m cv) (xr z y 0 c) m) (fun v16 _ => m - (intOf v16).toNat)
          case atStart => exact ⟨0, by omega, rfl, HX.out⟩
          case round =>
            clear HX
            obtain ⟨c, hc, rfl, M1⟩ := hrel
            by_cases h3 : c < m
            · have hd3 : decide ((c : Int) < (m : Int)) = true := by simp; omega
              obtain ⟨ay, cy, ey, ry, _⟩ := M1.lst.row (first + j) hjR
              rw [HYY.out] at ey ry
              rw [HYL.out] at ey
              obtain ⟨by_, oy, rfl, ky⟩ := rd_word ry c (by rw [HYL.out]; exact h3)
              have ko := (own_fact (n := R) (by rw [← HYl.out]; rw [← HYl.out] at M1; exact M1.lst.own) (first + j) (by omega)).1
              rw [ey] at ko
              obtain ⟨kv, fv, _, hgv⟩ := own_fact M1.row c h3
              have kv2 : wr.cell? ⟨gv, c, none⟩ = some (.int .u32 ((z.getD c 0 : Nat) : Int)) := by
                rw [kv, List.getElem?_eq_getElem (by rw [u32s_length, xr_length, HXL.out]; exact h3), u32_at]
                congr 2
                have := xr_at z y 0 c c (Nat.le_refl _)
                rw [List.getD_eq_getElem?_getD, List.getElem?_eq_getElem (by rw [xr_length, HXL.out]; exact h3)] at this
                rw [← this]; rfl
              have HN : Hid (Mr w (wr.drew.setCell ⟨gv, c, none⟩ (.int .u32 ((z.getD c 0 ^^^ y.getD (0 + c) 0 : Nat) : Int))) B (.slice (some ⟨g, 0, none⟩) R c0) Y cs (.slice (some ⟨gv, 0, none⟩) m cv) (xr z y 0 (c + 1)) m) := Lib.hid ((M1.step (Below.refl _ _).drew).set hgv c _)
              rw [Nat.zero_add] at HN
              have hv := xor32 (z.getD c 0) (y.getD c 0) (HXO.out.at_ _) (HYO.out.at_ _)
              have k1 : ∀ tp d os out, (World.mk wr.heap tp d os out).cell? ⟨gv, c, none⟩ = some (.int .u32 ((z.getD c 0 : Nat) : Int)) := fun _ _ _ _ => kv2
              have k2 : ∀ tp d os out, (World.mk wr.heap tp d os out).cell? ⟨g, first + j, none⟩ = some (.slice (some ⟨by_, oy, none⟩) m cy) := fun _ _ _ _ => ko
              have k3 : ∀ tp d os out, (World.mk wr.heap tp d os out).cell? ⟨by_, oy + c, none⟩ = some (.int .u32 ((y.getD c 0 : Nat) : Int)) := fun _ _ _ _ => ky 0
              clear M1 ey ry ky ko kv kv2 hgv
              generalize z.getD c 0 = u at *
              generalize y.getD c 0 = t at *
              generalize u ^^^ t = x at *
              generalize first + j = jj at *
              have hc0 : (0 : Int) ≤ (c : Int) := by omega
              have hc1 : (c : Int) < (m : Int) := by omega
              go_wp2
              refine wp_region_still_tail 17 (by kernel_rfl) (by kernel_rfl) ?_
              simp only [List.take_succ_cons, List.take_zero, List.drop_succ_cons, List.drop_zero]
              repeat still_step
              refine wpStill_nil ?_
              change wpList _ _ _ _ _ wr.drew
              have fk : wr.drew.frozen? ⟨gv, c, none⟩ = false := fv
              have ck : wr.drew.cell? ⟨gv, c, none⟩ = some (.int .u32 (u : Int)) := k1 _ _ _ _
              clear k1 k2 k3 fv
              generalize wr.drew = w4 at *
              go_wp2
              go_roundw
              case rel => exact ⟨c + 1, by omega, by go_num, HN.out⟩
              case measure => simp [intOf]; omega
            · obtain rfl : c = m := by omega
              have hd3 : decide ((c : Int) < (c : Int)) = false := by simp
              have CX := Lib.hid (CM.out _ _ cv _ (by rw [xr_length]; exact HXL.out) (xr_ok HXO.out HYO.out 0 c) M1.reads)
              rw [← HZ1.out] at CX
              have HM := Lib.hid M1
              clear M1
              go_wp2_with fail
              refine CX.out.mono ?_
              rintro e w6 ⟨v6, rfl, ho6, b6⟩
              have HX : Hid (Mr w w6 B (.slice (some ⟨g, 0, none⟩) R c0) Y cs v6 (zf (q + 1)) c) := Lib.hid ⟨HM.out.lst.below (b6.mono HM.out.le), own_base' ho6 HM.out.le, Nat.le_trans HM.out.le b6.size, HM.out.base, HM.out.below.trans (b6.mono HM.out.below.size)⟩
              clear HM ho6 b6 CX
              go_wp2
              go_roundw
              case rel => exact ⟨q + 1, _, _, _, by omega, by go_num, rfl, HX.out⟩
              case measure => simp [intOf]; omega
        · obtain rfl : q = i := by omega
          have hd2 : decide ((q : Int) < (q : Int)) = false := by simp
          have M2 := M1
          rw [← HYl.out] at M2
          obtain ⟨k1, fk, _, k4⟩ := own_fact M2.lst.own k (by rw [HYl.out]; exact hk)
          have hcs : cs.length = Y.length := by have := M2.lst.own.1; omega
          obtain ⟨u, hu⟩ : ∃ u, cs[k]? = some u := ⟨_, List.getElem?_eq_getElem (by rw [hcs, HYl.out]; exact hk)⟩
          rw [hu] at k1
          have hne : ∀ b o, some (⟨gv, 0, none⟩ : Addr) = some ⟨b, o, none⟩ → 0 < (zf q).length → g ≠ b := fun b o e _ => by
            cases e
            have := M2.lst.lt g rfl
            omega
          have L2 := M2.lst.set M2.le M2.reads hne k (by rw [HYl.out]; exact hk) (c' := cv)
          rw [(HZg.out q).1, HYl.out] at L2
          have HL := Lib.hid (And.intro (Exists.intro _ L2) (M2.below.setCell (p := ⟨g, k, none⟩) k4 (.slice (some ⟨gv, 0, none⟩) m cv)))
          clear M1 M2 hne L2 k4 hu
          go_wp2
          go_ret
          obtain ⟨cs2, H⟩ := HL.out.1
          exact ⟨_, cs2, rfl, by simpa [World.setCell] using H, HL.out.2⟩
end
end Go.Proofs.YtlifpplhinmajaaGreatDoor

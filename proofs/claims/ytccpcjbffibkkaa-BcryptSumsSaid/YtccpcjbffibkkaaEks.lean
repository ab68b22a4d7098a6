/- seal and Seal of package eks by their contracts. Conditions: those typed. Seal of package eks of words even in number, by its contract. Conditions: those typed. The document's Seal by its contract. Conditions: those typed. -/
import Derived.Test.YtccpcjbffibkkaaEk
import Derived.Test.YtccpcjbffibkkaaCp
import Derived.Test.YtccpcjbffibkkaaCir
namespace Go.Proofs.Ytccpcjbffibkkaa
set_option maxRecDepth 50000
open Go.RowKit Ci

set_option maxHeartbeats 1600000 in
theorem seal1_any (w : World) (b : Nat) (g : Nat → Nat) (hT : Tab w b 91 g) (hg : Ok g) (t : Nat) (ht : t ≤ 1024) (l r : Nat) (hl : l < 4294967296) (hr : r < 4294967296) :
    Calls Try.prog 37 #[.pointer (some ⟨b, 0, none⟩), .int .i64 (t : Int), .int .u32 (l : Int), .int .u32 (r : Int)] w fun e w' => e = .returned (.tuple #[.int .u32 ((enTo g l r t).1 : Int), .int .u32 ((enTo g l r t).2 : Int)]) ∧ ∃ q, w' = w.drewN q := by
  have HT := Lib.hid hT
  clear hT
  go_enter Try.func37, Try.ntmps37
  go_wp2
  go_loopw [2, 3, 11] (fun v2 v3 v11 wr => ∃ k x y : Nat, k ≤ t ∧ v11 = .int .i64 (k : Int) ∧ v2 = .int .u32 (x : Int) ∧ v3 = .int .u32 (y : Int) ∧ Hid (enTo g l r k = (x, y)) ∧ x < 4294967296 ∧ y < 4294967296 ∧ ∃ q, wr = w.drewN q)
    (fun _ _ v _ => t - (intOf v).toNat)
  case atStart => exact ⟨0, l, r, by omega, by simp, rfl, rfl, Lib.hid rfl, hl, hr, 0, rfl⟩
  case round =>
    obtain ⟨k, x, y, hk, rfl, rfl, rfl, HR, hx, hy, q, rfl⟩ := hrel
    by_cases h : k < t
    · have hkI : (k : Int) < (t : Int) := by omega
      have C := Lib.hid (enc_of (w.drewN q) b g (HT.out.drewN q) hg x y hx hy)
      have hb := en_lt g hg x y hx hy
      have HN : Hid (enTo g l r (k + 1) = (enL g x y, enR g x y)) := Lib.hid (by simp only [enTo, HR.out])
      generalize enL g x y = x2 at *
      generalize enR g x y = y2 at *
      have hb1 := hb.1
      have hb2 := hb.2
      clear HR hb
      go_wp2_with fail
      refine C.out.mono ?_
      rintro e w1 ⟨rfl, q2, rfl⟩
      go_wp2
      go_roundw
      case rel => exact ⟨k + 1, x2, y2, by omega, by go_num, rfl, rfl, HN, hb1, hb2, _, rfl⟩
      case measure => simp [intOf]; omega
    · obtain rfl : k = t := by omega
      go_wp2
      go_ret2
      exact ⟨by rw [HR.out]; rfl, _, rfl⟩

theorem seal_nil (t : Int) (A : Option Addr) (n c : Nat) (w : World) : Calls Try.prog 18 #[.pointer none, .int .i64 t, .slice A n c] w fun e w' => e = .returned (.tuple #[.slice none 0 0, .int .i64 11]) ∧ w' = w := by
  go_enter Try.func18, Try.ntmps18
  go_wp2
  go_ret2
  exact ⟨rfl, rfl⟩
theorem seal_arg (b : Nat) (t : Int) (ht : t < 0 ∨ 1024 < t) (A : Option Addr) (n c : Nat) (w : World) : Calls Try.prog 18 #[.pointer (some ⟨b, 0, none⟩), .int .i64 t, .slice A n c] w fun e w' => e = .returned (.tuple #[.slice none 0 0, .int .i64 1]) ∧ w' = w := by
  have C := Lib.hid (within_no t 0 1024 ht)
  clear ht
  go_enter Try.func18, Try.ntmps18
  go_wp2_with fail
  refine (C.out w).mono ?_
  rintro e w1 ⟨rfl, rfl⟩
  go_wp2
  go_ret2
  exact ⟨rfl, rfl⟩
theorem seal_size (b t : Nat) (ht : t ≤ 1024) (A : Option Addr) (n c : Nat) (hn : n % 2 = 1) (w : World) : Calls Try.prog 18 #[.pointer (some ⟨b, 0, none⟩), .int .i64 (t : Int), .slice A n c] w fun e w' => e = .returned (.tuple #[.slice none 0 0, .int .i64 9]) ∧ w' = w := by
  have C := Lib.hid (within_yes t 0 1024 (by omega) (by omega))
  have hm : ((n : Int)).tmod 2 = 1 := by rw [Int.tmod_eq_emod_of_nonneg (by omega)]; omega
  have hm2 : ((n : Int)) % 2 = 1 := by omega
  clear hn
  go_enter Try.func18, Try.ntmps18
  go_wp2_with fail
  refine (C.out w).mono ?_
  rintro e w1 ⟨rfl, rfl⟩
  go_wp2
  go_ret2
  exact ⟨rfl, rfl⟩
end Go.Proofs.Ytccpcjbffibkkaa

namespace Go.Proofs.Ytccpcjbffibkkaa
set_option maxRecDepth 50000
open Go.RowKit Ci

/-- block d begins with n words -/
def NRow (w : World) (d n : Nat) (f : Nat → Nat) : Prop := ∃ C, RowAt w d 52 C ∧ ∀ i, i < n → C[i]? = some (.int .u32 (f i : Int))
section
variable {w w' : World} {d n : Nat} {f : Nat → Nat}
theorem NRow.cell (h : NRow w d n f) (i : Nat) (hi : i < n) : w.cell? ⟨d, i, none⟩ = some (.int .u32 (f i : Int)) := by
  obtain ⟨C, h1, h2⟩ := h
  rw [h1.cell, h2 i hi]
theorem NRow.free (h : NRow w d n f) (i : Nat) : w.frozen? ⟨d, i, none⟩ = false := by
  obtain ⟨C, h1, h2⟩ := h
  exact h1.frozen i
theorem NRow.lt (h : NRow w d n f) : d < w.heap.size := by
  obtain ⟨C, h1, h2⟩ := h
  exact h1.lt
theorem NRow.set (h : NRow w d n f) (i v : Nat) : NRow (w.setCell ⟨d, i, none⟩ (.int .u32 (v : Int))) d n (upd f i v) := by
  obtain ⟨C, h1, h2⟩ := h
  refine ⟨_, h1.setCell i _, fun j hj => ?_⟩
  have h3 := h2 j hj
  have hlt := (Array.getElem?_eq_some_iff.1 h3).1
  unfold upd
  by_cases hij : i = j
  · subst hij; simp [hlt]
  · rw [Array.getElem?_setIfInBounds_ne hij, h3, if_neg (Ne.symm hij)]
theorem NRow.drewN (h : NRow w d n f) (k : Nat) : NRow (w.drewN k) d n f := h
theorem NRow.below {B : Nat} (h : NRow w d n f) (hb : Below B w w') (hB : d < B) : NRow w' d n f := by
  obtain ⟨C, h1, h2⟩ := h
  exact ⟨C, h1.below hb hB, h2⟩
theorem NRow.congr {k : Nat → Nat} (h : NRow w d n f) (e : ∀ i, i < n → f i = k i) : NRow w d n k := by
  obtain ⟨C, h1, h2⟩ := h
  exact ⟨C, h1, fun i hi => by rw [← e i hi]; exact h2 i hi⟩
theorem NRow.own {B c : Nat} {xs : List Nat} (h : w.ownsRow B 52 1 (.slice (some ⟨d, 0, none⟩) n c) n (u32s xs)) (hx : ∀ i, i < n → xs[i]? = some (f i)) : NRow w d n f := by
  obtain ⟨hl, h⟩ := h
  rcases h with ⟨h, _⟩ | ⟨g', cap, cur, hv, _, hb, _, _, hcs, hcur⟩
  · simp at h
  · cases hv
    refine ⟨cur, hb, fun i hi => ?_⟩
    have h1 : (u32s xs)[i]? = some (.int .u32 (f i : Int)) := by unfold u32s; rw [List.getElem?_map, hx i hi]; rfl
    rw [← hcur, List.getElem?_take] at h1
    rw [if_pos (by omega)] at h1
    rw [← Array.getElem?_toList]; exact h1
end
/-- the row behind k pairs -/
def sealTo (g x : Nat → Nat) (t k : Nat) : Nat → Nat := fun j => if j < 2 * k then sq g x t j else 0
theorem sealTo_next (g x : Nat → Nat) (t k : Nat) : upd (upd (sealTo g x t k) (2 * k) (enTo g (x (2 * k)) (x (2 * k + 1)) t).1) (2 * k + 1) (enTo g (x (2 * k)) (x (2 * k + 1)) t).2 = sealTo g x t (k + 1) := by
  funext j
  unfold upd sealTo
  by_cases h1 : j = 2 * k + 1
  · rw [if_pos h1, if_pos (by omega), h1, sq_odd]
  · rw [if_neg h1]
    by_cases h2 : j = 2 * k
    · rw [if_pos h2, if_pos (by omega), h2, sq_even]
    · rw [if_neg h2]
      by_cases h3 : j < 2 * k
      · rw [if_pos h3, if_pos (by omega)]
      · rw [if_neg h3, if_neg (by omega)]

section
variable {w : World} {ev : Operand → Value} {x : Operand} {o : Oper}
theorem ext_run {k : Nat} {vs : Array Value} {v : Value} (hop : o.op = .extract x k) (hx : ev x = .tuple vs) (hv : vs[k]? = some v) : (execOp ev o).run Try.prog w = .ok (.value v) w := by
  simp [execOp, hop, hx, hv, go_sem]
end
section
variable {P : Program} {p : Value → World → Prop} {o : Oper} {a : Act} {w : World} {Q : Exit → Act → World → Prop}
theorem op_call4 {f : FuncId} {x y z u : Operand} {ts : Array TypeId} {v1 v2 v3 v4 : Value} (ho : o.op = .call { callee := .value (.func f), args := #[x, y, z, u], argTypes := ts }) (he : ∀ (args : Array Value) (w : World), (callFunc f args).run P w = .ok (.enter f args) w)
    (hx : a.eval x = v1) (hy : a.eval y = v2) (hz : a.eval z = v3) (hu : a.eval u = v4) (hc : Calls P f #[v1, v2, v3, v4] w fun e w' => ∃ v, e = .returned v ∧ p v w' ∧ Below w.heap.size w w') : Does P p o a w Q := by
  subst hx; subst hy; subst hz; subst hu
  exact op_call ho he hc
end

/-- how the worlds stand in one round -/
def SlW (d n : Nat) (w0 : World) (S : Nat → Nat → Nat) (k : Nat) (w : World) : Prop := NRow w d n (S k) ∧ Below w0.heap.size w0 w
theorem SlW.stable {d n : Nat} {w0 w w' : World} {S : Nat → Nat → Nat} {k : Nat} (h : SlW d n w0 S k w) (hb : Below w.heap.size w w') : SlW d n w0 S k w' :=
  ⟨h.1.below hb h.1.lt, h.2.trans (hb.mono h.2.size)⟩

set_option maxHeartbeats 4000000 in
theorem seal_any (w : World) (b : Nat) (g : Nat → Nat) (hT : Tab w b 91 g) (hg : Ok g) (t : Nat) (ht : t ≤ 1024) (A : Option Addr) (n c h : Nat) (hn : n = 2 * h) (hn40 : n ≤ 40) (xs : List Nat) (hl : xs.length = n) (hx : ∀ v ∈ xs, v < 4294967296) (hR : Reads w w.heap.size A (u32s xs)) (x : Nat → Nat) (hxe : ∀ j, j < n → xs[j]? = some (x j)) :
    Calls Try.prog 18 #[.pointer (some ⟨b, 0, none⟩), .int .i64 (t : Int), .slice A n c] w fun e w' => ∃ d, e = .returned (.tuple #[.slice (some ⟨d, 0, none⟩) n n, .int .i64 0]) ∧ NRow w' d n (sq g x t) ∧ Below w.heap.size w w' := by
  have C := Lib.hid (within_yes t 0 1024 (by omega) (by omega))
  have hm : ((n : Int)).tmod 2 = 0 := by rw [Int.tmod_eq_emod_of_nonneg (by omega)]; omega
  have hm2 : ((n : Int)) % 2 = 0 := by omega
  have HN := Lib.hid hn
  have HB := Lib.hid hT.lt
  have HT := Lib.hid hT
  have hxb : ∀ j, j < n → x j < 4294967296 := fun j hj => hx _ (List.mem_of_getElem? (hxe j hj))
  have hRd : ∀ j, j < n → ∃ bb off, A = some ⟨bb, off, none⟩ ∧ bb < w.heap.size ∧ w.cell? ⟨bb, off + j, none⟩ = some (.int .u32 (x j : Int)) := fun j hj => by
    obtain ⟨bb, off, e1, e2, e3⟩ := hR j (by simp [u32s]; omega)
    refine ⟨bb, off, e1, e2, e3.trans ?_⟩
    have h1 : (u32s xs)[j]? = some (.int .u32 (x j : Int)) := by unfold u32s; rw [List.getElem?_map, hxe j hj]; rfl
    rw [← h1]
    exact (List.getElem?_eq_getElem _).symm
  have HRD := Lib.hid hRd
  have HXB := Lib.hid hxb
  have HS := Lib.hid (fun (w1 : World) (hT : Tab w1 b 91 g) (l r : Nat) (hl : l < 4294967296) (hr : r < 4294967296) => seal1_any w1 b g hT hg t ht l r hl hr)
  clear hn hT hx hR hxe hRd hxb hl
  obtain ⟨i0, hi, hz0, hz1, hz2⟩ := info_parts Try.info52
  go_enter Try.func18, Try.ntmps18
  go_wp2_with fail
  refine (C.out w).mono ?_
  rintro e w1 ⟨rfl, rfl⟩
  go_wp2_with (at_make; refine wpList_make_full _ rfl _ _ 29 rfl w1.heap.size 52 i0 (.int .u32 0) 1 Try.underlying29 hi hz0 hz1 _ _ _ _ n rfl rfl rfl rfl ?c1 ?c2 ?c3 ?_)
  case c1 => simp [hz2]; omega
  case c2 => unfold maxLen; omega
  case c3 => exact Nat.le_refl _
  intro w2 hown2 hg2
  have hb2 : Below w1.heap.size w1 w2 := (Below.refl _ _).grown hg2 (Nat.le_refl _) (by simp)
  rw [made_one] at hown2
  obtain ⟨d, hd⟩ : ∃ d, d = w1.heap.size := ⟨_, rfl⟩
  have H2 : Hid (NRow w2 d n (sealTo g x t 0) ∧ Below w1.heap.size w1 w2) := Lib.hid ⟨by
    have e : (List.replicate n (Value.int .u32 0)) = u32s (List.replicate n 0) := by simp [u32s]
    rw [e, ← hd] at hown2
    exact NRow.own hown2 fun i hi => by rw [List.getElem?_replicate, if_pos hi]; rfl, hb2⟩
  have HD := Lib.hid hd
  rw [← hd]
  clear hown2 hg2 hb2 hd hi hz0 hz1 hz2
  go_wp2
  go_loopw [9] (fun v9 wr => ∃ k i : Nat, k ≤ h ∧ Hid (i = 2 * k) ∧ v9 = .int .i64 (i : Int) ∧ Hid (NRow wr d n (sealTo g x t k) ∧ Below w1.heap.size w1 wr)) (fun v _ => n - (intOf v).toNat)
  case atStart => exact ⟨0, 0, by omega, Lib.hid rfl, rfl, H2⟩
  case round =>
    obtain ⟨k, i, hk, HI, rfl, HSt⟩ := hrel
    by_cases hkh : k < h
    · have hin : i + 1 < n := by have := HI.out; have := HN.out; omega
      obtain ⟨i1, hi1⟩ : ∃ i1, i1 = i + 1 := ⟨_, rfl⟩
      have hi1I : (i : Int) + 1 = (i1 : Int) := by omega
      have hi1b : i1 < n := by omega
      have hib : i < n := by omega
      have hiI : (i : Int) < (n : Int) := by omega
      obtain ⟨bb, off, rfl, hbb, cI⟩ := HRD.out i hib
      obtain ⟨bb2, off2, hA, hbb2, cJ⟩ := HRD.out i1 hi1b
      simp only [Option.some.injEq, Addr.mk.injEq, and_true] at hA
      obtain ⟨rfl, rfl⟩ := hA
      have hxi := HXB.out i hib
      have hxj := HXB.out i1 hi1b
      have hlt := enTo_lt hg (x i) (x i1) hxi hxj t
      have HST : Hid (sealTo g x t (k + 1) = upd (upd (sealTo g x t k) i (enTo g (x i) (x i1) t).1) i1 (enTo g (x i) (x i1) t).2) := Lib.hid (by rw [hi1, HI.out, sealTo_next])
      have HCL := Lib.hid (fun (w2 : World) (hb : Below w1.heap.size w1 w2) => HS.out w2 (HT.out.below hb HB.out) (x i) (x i1) hxi hxj)
      have HCI : Hid (∀ w2, Below w1.heap.size w1 w2 → w2.cell? ⟨bb, off + i, none⟩ = some (.int .u32 (x i : Int))) := Lib.hid fun w2 hb => (hb.cell hbb).trans cI
      have HCJ : Hid (∀ w2, Below w1.heap.size w1 w2 → w2.cell? ⟨bb, off + i1, none⟩ = some (.int .u32 (x i1 : Int))) := Lib.hid fun w2 hb => (hb.cell hbb).trans cJ
      generalize (enTo g (x i) (x i1) t).1 = p at *
      generalize (enTo g (x i) (x i1) t).2 = p2 at *
      generalize x i = xi at *
      generalize x i1 = xj at *
      generalize sealTo g x t k = S at *
      have HI1 := Lib.hid hi1
      clear hbb hbb2 cI cJ hlt hi1 hxi hxj
      go_wp2
      refine wp_region_seq [21, 23] [.slice (some ⟨d, 0, none⟩) n n, .int .i64 (i : Int), .slice (some ⟨d, 0, none⟩) n n, .int .i64 (i : Int), .int .i64 (i1 : Int), .pointer (some ⟨b, 0, none⟩), .int .i64 (t : Int), .slice (some ⟨bb, off, none⟩) n c, .int .i64 (i : Int), .pointer (some ⟨bb, off + i, none⟩), .int .u32 (xi : Int), .slice (some ⟨bb, off, none⟩) n c, .int .i64 (i : Int), .int .i64 (i1 : Int), .pointer (some ⟨bb, off + i1, none⟩), .int .u32 (xj : Int), .tuple #[.int .u32 (p : Int), .int .u32 (p2 : Int)], .tuple #[.int .u32 (p : Int), .int .u32 (p2 : Int)], .int .u32 (p : Int), .int .u32 (p2 : Int), .pointer (some ⟨d, i, none⟩), undef, .pointer (some ⟨d, i1, none⟩), undef] (SlW d n w1 fun j => if j = 0 then S else if j = 1 then upd S i p else upd (upd S i p) i1 p2) (by kernel_rfl) (by kernel_rfl) rfl ?_ ⟨?_, ?_, ?_, ?_, ?_, ?_, ?_, ?_, ?_, ?_, ?_, ?_, ?_, ?_, ?_, ?_, ?_, ?_, ?_, ?_, ?_, ?_, ?_, ?_, trivial⟩ ?_
      · exact ⟨HSt.out.1.drewN 1, below_drewN HSt.out.2 1⟩
      · exact seq_early 1 (by kernel_rfl) (by kernel_rfl) (by kernel_rfl) (fun _ _ _ _ h hb => h.stable hb) fun a w2 j hj C hW => op_move (.inl rfl) (C.was 8 (by kernel_rfl))
      · exact seq_early 1 (by kernel_rfl) (by kernel_rfl) (by kernel_rfl) (fun _ _ _ _ h hb => h.stable hb) fun a w2 j hj C hW => op_move (.inl rfl) (C.was 9 (by kernel_rfl))
      · exact seq_early 1 (by kernel_rfl) (by kernel_rfl) (by kernel_rfl) (fun _ _ _ _ h hb => h.stable hb) fun a w2 j hj C hW => op_move (.inl rfl) (C.was 8 (by kernel_rfl))
      · exact seq_early 1 (by kernel_rfl) (by kernel_rfl) (by kernel_rfl) (fun _ _ _ _ h hb => h.stable hb) fun a w2 j hj C hW => op_move (.inl rfl) (C.was 9 (by kernel_rfl))
      · exact seq_early 1 (by kernel_rfl) (by kernel_rfl) (by kernel_rfl) (fun _ _ _ _ h hb => h.stable hb) fun a w2 j hj C hW => op_bin rfl (C.on (j := 3) (by kernel_rfl) rfl rfl) rfl rfl (by simp [go_sem, hi1I]; exact IntWalk.i64_in _ (by omega)) rfl
      · exact seq_early 1 (by kernel_rfl) (by kernel_rfl) (by kernel_rfl) (fun _ _ _ _ h hb => h.stable hb) fun a w2 j hj C hW => op_move (.inl rfl) (C.was 0 (by kernel_rfl))
      · exact seq_early 1 (by kernel_rfl) (by kernel_rfl) (by kernel_rfl) (fun _ _ _ _ h hb => h.stable hb) fun a w2 j hj C hW => op_move (.inl rfl) (C.was 1 (by kernel_rfl))
      · exact seq_early 1 (by kernel_rfl) (by kernel_rfl) (by kernel_rfl) (fun _ _ _ _ h hb => h.stable hb) fun a w2 j hj C hW => op_move (.inl rfl) (C.was 2 (by kernel_rfl))
      · exact seq_early 1 (by kernel_rfl) (by kernel_rfl) (by kernel_rfl) (fun _ _ _ _ h hb => h.stable hb) fun a w2 j hj C hW => op_move (.inl rfl) (C.was 9 (by kernel_rfl))
      · exact seq_early 1 (by kernel_rfl) (by kernel_rfl) (by kernel_rfl) (fun _ _ _ _ h hb => h.stable hb) fun a w2 j hj C hW => op_value (ixs_run rfl (C.on (j := 7) (by kernel_rfl) rfl rfl) (C.on (j := 8) (by kernel_rfl) rfl rfl) hib) rfl
      · exact seq_early 1 (by kernel_rfl) (by kernel_rfl) (by kernel_rfl) (fun _ _ _ _ h hb => h.stable hb) fun a w2 j hj C hW => op_value (ldu_run rfl (C.on (j := 9) (by kernel_rfl) rfl rfl) (HCI.out w2 hW.2)) rfl
      · exact seq_early 1 (by kernel_rfl) (by kernel_rfl) (by kernel_rfl) (fun _ _ _ _ h hb => h.stable hb) fun a w2 j hj C hW => op_move (.inl rfl) (C.was 2 (by kernel_rfl))
      · exact seq_early 1 (by kernel_rfl) (by kernel_rfl) (by kernel_rfl) (fun _ _ _ _ h hb => h.stable hb) fun a w2 j hj C hW => op_move (.inl rfl) (C.was 9 (by kernel_rfl))
      · exact seq_early 1 (by kernel_rfl) (by kernel_rfl) (by kernel_rfl) (fun _ _ _ _ h hb => h.stable hb) fun a w2 j hj C hW => op_bin rfl (C.on (j := 12) (by kernel_rfl) rfl rfl) rfl rfl (by simp [go_sem, hi1I]; exact IntWalk.i64_in _ (by omega)) rfl
      · exact seq_early 1 (by kernel_rfl) (by kernel_rfl) (by kernel_rfl) (fun _ _ _ _ h hb => h.stable hb) fun a w2 j hj C hW => op_value (ixs_run rfl (C.on (j := 11) (by kernel_rfl) rfl rfl) (C.on (j := 13) (by kernel_rfl) rfl rfl) hi1b) rfl
      · exact seq_early 1 (by kernel_rfl) (by kernel_rfl) (by kernel_rfl) (fun _ _ _ _ h hb => h.stable hb) fun a w2 j hj C hW => op_value (ldu_run rfl (C.on (j := 14) (by kernel_rfl) rfl rfl) (HCJ.out w2 hW.2)) rfl
      · exact seq_early 1 (by kernel_rfl) (by kernel_rfl) (by kernel_rfl) (fun _ _ _ _ h hb => h.stable hb) fun a w2 j hj C hW => op_call4 rfl (reg_enters Try.func37 (by kernel_rfl) (by kernel_rfl)) (C.on (j := 5) (by kernel_rfl) rfl rfl) (C.on (j := 6) (by kernel_rfl) rfl rfl) (C.on (j := 10) (by kernel_rfl) rfl rfl) (C.on (j := 15) (by kernel_rfl) rfl rfl) ((HCL.out w2 hW.2).mono fun e w3 he => ⟨_, he.1, rfl, by obtain ⟨q, hq⟩ := he.2; rw [hq]; exact below_drewN (Below.refl _ _) q⟩)
      · exact seq_early 1 (by kernel_rfl) (by kernel_rfl) (by kernel_rfl) (fun _ _ _ _ h hb => h.stable hb) fun a w2 j hj C hW => op_move (.inl rfl) (C.on (j := 16) (by kernel_rfl) rfl rfl)
      · exact seq_early 1 (by kernel_rfl) (by kernel_rfl) (by kernel_rfl) (fun _ _ _ _ h hb => h.stable hb) fun a w2 j hj C hW => op_value (ext_run rfl (C.on (j := 17) (by kernel_rfl) rfl rfl) rfl) rfl
      · exact seq_early 1 (by kernel_rfl) (by kernel_rfl) (by kernel_rfl) (fun _ _ _ _ h hb => h.stable hb) fun a w2 j hj C hW => op_value (ext_run rfl (C.on (j := 17) (by kernel_rfl) rfl rfl) rfl) rfl
      · exact seq_early 1 (by kernel_rfl) (by kernel_rfl) (by kernel_rfl) (fun _ _ _ _ h hb => h.stable hb) fun a w2 j hj C hW => op_value (v := .pointer (some ⟨d, i, none⟩)) (by rw [show (⟨d, i, none⟩ : Addr) = ⟨d, 0 + i, none⟩ by rw [Nat.zero_add]]; exact ixs_run rfl (C.on (j := 0) (by kernel_rfl) rfl rfl) (C.on (j := 1) (by kernel_rfl) rfl rfl) hib) rfl
      · exact seq_turn 0 (by kernel_rfl) fun a w2 C hW => st_does rfl (C.on (j := 20) (by kernel_rfl) rfl rfl) (C.on (j := 18) (by kernel_rfl) rfl rfl) (hW.1.cell i hib) (hW.1.free i) ⟨hW.1.set i p, hW.2.setCell (by rw [HD.out]; exact Nat.le_refl _) _⟩
      · exact seq_early 1 (by kernel_rfl) (by kernel_rfl) (by kernel_rfl) (fun _ _ _ _ h hb => h.stable hb) fun a w2 j hj C hW => op_value (v := .pointer (some ⟨d, i1, none⟩)) (by rw [show (⟨d, i1, none⟩ : Addr) = ⟨d, 0 + i1, none⟩ by rw [Nat.zero_add]]; exact ixs_run rfl (C.on (j := 2) (by kernel_rfl) rfl rfl) (C.on (j := 4) (by kernel_rfl) rfl rfl) hi1b) rfl
      · exact seq_turn 1 (by kernel_rfl) fun a w2 C hW => st_does rfl (C.on (j := 22) (by kernel_rfl) rfl rfl) (C.on (j := 19) (by kernel_rfl) rfl rfl) (hW.1.cell i1 hi1b) (hW.1.free i1) ⟨hW.1.set i1 p2, hW.2.setCell (by rw [HD.out]; exact Nat.le_refl _) _⟩
      intro wu hz
      have HZ : Hid (NRow wu d n (upd (upd S i p) i1 p2) ∧ Below w1.heap.size w1 wu) := Lib.hid hz
      clear hz HSt
      simp only [setAll, setAt, List.setIfInBounds_toArray, List.set_cons_succ, List.set_cons_zero]
      go_wp2
      go_roundw
      case rel => exact ⟨k + 1, i + 2, by omega, Lib.hid (by have := HI.out; omega), by go_num, Lib.hid (by rw [HST.out]; exact HZ.out)⟩
      case measure => have := HI1.out; simp [intOf]; omega
    · obtain rfl : k = h := by omega
      have hin : i = n := by have := HI.out; have := HN.out; omega
      have HF : Hid (NRow wr d n (sq g x t) ∧ Below w1.heap.size w1 wr) := Lib.hid ⟨HSt.out.1.congr fun j hj => by unfold sealTo; rw [if_pos (by have := HN.out; omega)], HSt.out.2⟩
      subst hin
      go_wp2
      go_ret2
      exact ⟨d, rfl, HF.out.1, HF.out.2⟩
end Go.Proofs.Ytccpcjbffibkkaa

namespace Go.Proofs.Ytccpcjbffibkkaa
set_option maxRecDepth 50000
open Go.RowKit Ci

theorem two_new (w : World) (u v : Value) (t : TypeId) : ∀ j x, [u, v][j]? = some x → (w.alloc (.cells #[u, v] t)).cell? ((⟨w.heap.size, 0, none⟩ : Addr).add j) = some x := by
  intro j x hj
  match j, hj with
  | 0, hj => simp at hj; subst hj; simp [Addr.add]
  | 1, hj => simp at hj; subst hj; simp [Addr.add]
theorem two_cell (u v : Value) (h : u.oneCell' = true) (k : v.oneCell' = true) : ∀ x ∈ [u, v], x.oneCell' = true := by
  intro x hx
  simp at hx
  rcases hx with rfl | rfl
  · exact h
  · exact k
theorem u32s_append (a b : List Nat) : u32s (a ++ b) = u32s a ++ u32s b := by simp [u32s]

set_option maxHeartbeats 4000000 in
theorem rseal_any (w : World) (d cd : Nat) (g : Nat → Nat) (hT : RTab w d g) (hg : Ok g) (t : Nat) (ht : t ≤ 1024) (A : Option Addr) (n c h : Nat) (hn : n = 2 * h) (hn40 : n ≤ 40) (xs : List Nat) (hl : xs.length = n) (hx : ∀ v ∈ xs, v < 4294967296) (hR : Reads w w.heap.size A (u32s xs)) (x : Nat → Nat) (hxe : ∀ j, j < n → xs[j]? = some (x j)) :
    Calls Try.prog 21 #[.slice (some ⟨d, 0, none⟩) 1042 cd, .int .i64 (t : Int), .slice A n c] w fun e w' => ∃ v, e = .returned v ∧ w'.ownsRow w.heap.size 52 1 v n (u32s (sqL g x t n)) ∧ Below w.heap.size w w' := by
  have HN := Lib.hid hn
  have HB := Lib.hid hT.lt
  have HT := Lib.hid hT
  have hxb : ∀ j, j < n → x j < 4294967296 := fun j hj => hx _ (List.mem_of_getElem? (hxe j hj))
  have hRd : ∀ j, j < n → ∃ bb off, A = some ⟨bb, off, none⟩ ∧ bb < w.heap.size ∧ w.cell? ⟨bb, off + j, none⟩ = some (.int .u32 (x j : Int)) := fun j hj => by
    obtain ⟨bb, off, e1, e2, e3⟩ := hR j (by simp [u32s]; omega)
    refine ⟨bb, off, e1, e2, e3.trans ?_⟩
    have h1 : (u32s xs)[j]? = some (.int .u32 (x j : Int)) := by unfold u32s; rw [List.getElem?_map, hxe j hj]; rfl
    rw [← h1]
    exact (List.getElem?_eq_getElem _).symm
  have HRD := Lib.hid hRd
  have HXB := Lib.hid hxb
  have HE := Lib.hid (fun (w1 : World) (hT : RTab w1 d g) (l r : Nat) (hl : l < 4294967296) (hr : r < 4294967296) => renc_of w1 d cd g hT hg l r hl hr)
  clear hn hT hx hR hxe hRd hxb hl
  obtain ⟨i0, hi, hz0, hz1, hz2⟩ := info_parts Try.info52
  go_enter Try.func21, Try.ntmps21
  go_wp2
  go_loopw [7, 8] (fun v7 v8 wr => ∃ k i : Nat, k ≤ h ∧ Hid (i = 2 * k) ∧ v8 = .int .i64 (i : Int) ∧ Hid (wr.ownsRow w.heap.size 52 1 v7 i (u32s (sqL g x t i)) ∧ Below w.heap.size w wr)) (fun _ v _ => n - (intOf v).toNat)
  case atStart => exact ⟨0, 0, by omega, Lib.hid rfl, rfl, Lib.hid ⟨by simpa [sqL, u32s] using World.ownsRow_nil _ _ _ _, Below.refl _ _⟩⟩
  case round =>
    obtain ⟨k, i, hk, HI, rfl, HSt⟩ := hrel
    by_cases hkh : k < h
    · have hin : i + 1 < n := by have := HI.out; have := HN.out; omega
      obtain ⟨i1, hi1⟩ : ∃ i1, i1 = i + 1 := ⟨_, rfl⟩
      have hi1I : (i : Int) + 1 = (i1 : Int) := by omega
      have hi1b : i1 < n := by omega
      have hib : i < n := by omega
      have hiI : (i1 : Int) < (n : Int) := by omega
      have hiI2 : (i : Int) < (n : Int) := by omega
      obtain ⟨bb, off, rfl, hbb, cI⟩ := HRD.out i hib
      obtain ⟨bb2, off2, hA, hbb2, cJ⟩ := HRD.out i1 hi1b
      simp only [Option.some.injEq, Addr.mk.injEq, and_true] at hA
      obtain ⟨rfl, rfl⟩ := hA
      have hxi := HXB.out i hib
      have hxj := HXB.out i1 hi1b
      have HST : Hid (sqL g x t (i + 2) = sqL g x t i ++ [(enTo g (x i) (x i1) t).1, (enTo g (x i) (x i1) t).2]) := Lib.hid (by rw [hi1, HI.out, ← sqL_next]; rfl)
      have cI2 : wr.cell? ⟨bb, off + i, none⟩ = some (.int .u32 (x i : Int)) := (HSt.out.2.cell hbb).trans cI
      have cJ2 : wr.cell? ⟨bb, off + i1, none⟩ = some (.int .u32 (x i1 : Int)) := (HSt.out.2.cell hbb).trans cJ
      have HTr := Lib.hid (HT.out.below HSt.out.2 HB.out)
      generalize x i = xi at *
      generalize x i1 = xj at *
      have HI1 := Lib.hid hi1
      clear hbb hbb2 cI cJ hi1
      go_wp2
      go_loopw [9, 10, 11] (fun v9 v10 v11 wx => ∃ m a b : Nat, m ≤ t ∧ v11 = .int .i64 (m : Int) ∧ v9 = .int .u32 (a : Int) ∧ v10 = .int .u32 (b : Int) ∧ Hid (enTo g xi xj m = (a, b)) ∧ a < 4294967296 ∧ b < 4294967296 ∧ ∃ q, wx = wr.drewN q) (fun _ _ v _ => t - (intOf v).toNat)
      case atStart => exact ⟨0, xi, xj, by omega, by simp, rfl, rfl, Lib.hid rfl, hxi, hxj, 0, rfl⟩
      case round =>
        obtain ⟨m, a, b, hm, rfl, rfl, rfl, HR, ha, hb, q, rfl⟩ := hrel
        by_cases hmt : m < t
        · have hmI : (m : Int) < (t : Int) := by omega
          have C := Lib.hid (HE.out (wr.drewN q) (HTr.out.drewN q) a b ha hb)
          have hbd := en_lt g hg a b ha hb
          have HN2 : Hid (enTo g xi xj (m + 1) = (enL g a b, enR g a b)) := Lib.hid (by simp only [enTo, HR.out])
          generalize enL g a b = x2 at *
          generalize enR g a b = y2 at *
          have hb1 := hbd.1
          have hb2 := hbd.2
          clear HR hbd
          go_wp2_with fail
          refine C.out.mono ?_
          rintro e w1 ⟨rfl, q2, rfl⟩
          go_wp2
          go_roundw
          case rel => exact ⟨m + 1, x2, y2, by omega, by go_num, rfl, rfl, HN2, hb1, hb2, _, rfl⟩
          case measure => simp [intOf]; omega
        · obtain rfl : m = t := by omega
          have HST2 : Hid (sqL g x m (i + 2) = sqL g x m i ++ [a, b]) := Lib.hid (by rw [HST.out, HR.out])
          have hown := HSt.out.1
          have HBl := Lib.hid (And.intro HSt.out.2 HSt.out.2.size)
          have hin40 : i ≤ 40 := by omega
          clear HST HR HSt cI2 cJ2
          go_wp2_with (at_builtin; refine wpList_append_own _ rfl (.tmp 40) (.tmp 43) 29 rfl w.heap.size 52 i0 (.int .u32 0) 1 4 Try.underlying29 hi hz0 hz1 hz2 rfl (by decide) _ _ _ rfl ((own_kept hown (Kept.of_below (M := fun _ => False) (below_drewN (Below.refl _ _) q)) fun _ _ => id).alloc _) ⟨wr.heap.size, 0, none⟩ 2 2 [.int .u32 (a : Int), .int .u32 (b : Int)] rfl rfl ?c1 ?c2 ?c3 ?c4 ?c5 ?_)
          case c1 => exact two_new (wr.drewN q) _ _ _
          case c2 => exact two_cell _ _ rfl rfl
          case c3 => unfold maxLen; omega
          case c4 => omega
          case c5 => have := HBl.out.2; simp; omega
          intro v' w2 hown2 hg2 _
          have R := rel_step (below_drewN HBl.out.1 q) HBl.out.2 (own_kept hown (Kept.of_below (M := fun _ => False) (below_drewN (Below.refl _ _) q)) fun _ _ => id) hown2 hg2
          have HR2 : Hid (w2.ownsRow w.heap.size 52 1 v' (i + 2) (u32s (sqL g x m (i + 2))) ∧ Below w.heap.size w w2) := Lib.hid ⟨by rw [HST2.out, u32s_append]; exact R.1, R.2⟩
          clear hown2 hg2 hown R
          go_wp2
          go_roundw
          case rel => exact ⟨k + 1, i + 2, by omega, Lib.hid (by have := HI.out; omega), by go_num, HR2⟩
          case measure => have := HI1.out; simp [intOf]; omega
    · obtain rfl : k = h := by omega
      have hin : i = n := by have := HI.out; have := HN.out; omega
      subst hin
      have hnl : ¬ ((i : Int) + 1 < (i : Int)) := by omega
      go_wp2
      go_ret
      exact ⟨_, rfl, HSt.out.1, HSt.out.2⟩
end Go.Proofs.Ytccpcjbffibkkaa

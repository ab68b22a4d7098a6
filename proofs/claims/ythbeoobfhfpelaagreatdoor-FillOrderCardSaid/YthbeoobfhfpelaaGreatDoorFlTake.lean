/- A list of numbers of one's own: made, filled, read, one taken out. Conditions: those typed. -/
import Derived.Test.YthbeoobfhfpelaaGreatDoorFlAwake
import Derived.Deep.RegionLaw
namespace Go.Proofs.YthbeoobfhfpelaaGreatDoor
set_option maxRecDepth 50000
open Go.RowKit

theorem int_info : (Tryz.prog.info? 3).map (fun i => (i.zero, i.size, i.bytes)) = some (some (.int .i64 0), 1, 8) := by kernel_rfl
def ints (l : List Nat) : List Value := l.map fun x : Nat => .int .i64 (x : Int)
theorem ints_length (l : List Nat) : (ints l).length = l.length := by simp [ints]
theorem ints_at (l : List Nat) (k : Nat) (h : k < l.length) : (ints l)[k]? = some (.int .i64 ((l.getD k 0 : Nat) : Int)) := by
  simp only [ints, List.getElem?_map, List.getD_eq_getElem?_getD, List.getElem?_eq_getElem h, Option.map_some, Option.getD_some]
theorem ints_append (a b : List Nat) : ints (a ++ b) = ints a ++ ints b := by simp [ints]
theorem ints_one (l : List Nat) : ∀ u ∈ ints l, u.oneCell' = true := by
  intro u hu
  obtain ⟨x, _, rfl⟩ := List.mem_map.1 hu
  rfl
/-- such a list -/
def LsAt (N : Nat) (ks : List Nat) : Value → World → Prop := fun v w => v ≠ .slice none 0 0 ∧ w.ownsRow N 3 1 v ks.length (ints ks)
section
variable {N : Nat} {ks : List Nat} {v : Value} {w w' : World}
theorem LsAt.blk (h : LsAt N ks v w) (hb : ∀ o, v.ownBlock = some o → w'.heap[o]? = w.heap[o]?) : LsAt N ks v w' := by
  refine ⟨h.1, h.2.1, ?_⟩
  rcases h.2.2 with h0 | ⟨g, cap, cur, rfl, h0, hg, rest⟩
  · exact .inl h0
  · exact .inr ⟨g, cap, cur, rfl, h0, (hb g rfl).trans hg, rest⟩
theorem LsAt.step (h : LsAt N ks v w) (hb : Below w.heap.size w w') : LsAt N ks v w' := h.blk fun o ho => hb.block o (h.2.lt o ho).2
theorem stable_ls (N : Nat) (ks : List Nat) : Stable (LsAt N ks) := fun _ _ _ h hb => LsAt.step h hb
theorem LsAt.far {G : Nat} {ty : TypeId} {C : Array Value} (h : LsAt N ks v w) (hk : Kept (fun j => j = G) w w') (hG : RowAt w G ty C) (ht : (3 == ty) = false) : LsAt N ks v w' :=
  h.blk fun o ho => hk.block o (h.2.lt o ho).2 fun e => own_unlike h.2 hG ht (e ▸ ho)
theorem LsAt.form (h : LsAt N ks v w) : ∃ o c, v = .slice (some ⟨o, 0, none⟩) ks.length c ∧ N ≤ o ∧ ks.length ≤ c ∧ ∃ cur, RowAt w o 3 cur := by
  rcases h.2.2 with ⟨h0, _⟩ | ⟨g, cap, cur, rfl, h0, hg, hn, _⟩
  · exact absurd h0 h.1
  · exact ⟨g, cap, rfl, h0, hn, cur, hg⟩
theorem LsAt.row {o n c : Nat} (h : LsAt N ks (.slice (some ⟨o, 0, none⟩) n c) w) : N ≤ o ∧ ∃ cur, RowAt w o 3 cur := by
  obtain ⟨o', c', e, h1, _, h2⟩ := h.form
  injection e with e
  injection e with e
  injection e with e
  exact e ▸ ⟨h1, h2⟩
theorem LsAt.mono {N' : Nat} (h : LsAt N ks v w) (hN : N' ≤ N) : LsAt N' ks v w := by
  refine ⟨h.1, h.2.1, ?_⟩
  rcases h.2.2 with h0 | ⟨g, cap, cur, rfl, h0, rest⟩
  · exact .inl h0
  · exact .inr ⟨g, cap, cur, rfl, by omega, rest⟩
theorem LsAt.cell {o n c j : Nat} (h : LsAt N ks (.slice (some ⟨o, 0, none⟩) n c) w) (hn : n = ks.length) (hj : j < ks.length) : w.cell? ⟨o, j, none⟩ = some (.int .i64 ((ks.getD j 0 : Nat) : Int)) := by
  subst hn
  exact (h.2.cellAt j (by omega)).trans (ints_at ks j hj)
theorem LsAt.unfrozen {o n c : Nat} (h : LsAt N ks (.slice (some ⟨o, 0, none⟩) n c) w) (hn : n = ks.length) (j : Nat) : w.frozen? ⟨o, j, none⟩ = false := by
  subst hn
  exact h.2.frozenAt j
theorem LsAt.set {o n c : Nat} (h : LsAt N ks (.slice (some ⟨o, 0, none⟩) n c) w) (hn : n = ks.length) (j x : Nat) : LsAt N (ks.set j x) (.slice (some ⟨o, 0, none⟩) n c) (w.setCell ⟨o, j, none⟩ (.int .i64 (x : Int))) := by
  subst hn
  have h2 := h.2.stored j (.int .i64 (x : Int))
  refine ⟨h.1, ?_⟩
  rw [List.length_set]
  have e : ints (ks.set j x) = (ints ks).set j (.int .i64 (x : Int)) := by simp [ints, List.map_set]
  rw [e]
  first
    | exact h2
    | exact h2.1
    | exact (h2 (by assumption)).1
end
theorem ls_none {N : Nat} (w : World) (hN : N ≤ w.heap.size) : LsAt N [] (.slice (some ⟨w.heap.size, 0, none⟩) 0 0) (w.alloc (.cells #[] 3)) :=
  ⟨by simp, World.ownsRow_lit w #[] 0 hN (by decide) rfl⟩
theorem zero_ints (n : Nat) : madeCells #[.int .i64 0] n = (ints (List.replicate n 0)).toArray := by
  apply Array.ext
  · simp [size_madeCells, ints]
  · intro i h1 h2
    simp [madeCells, ints, Nat.mod_one]
theorem ls_make (n : Nat) (hn : n ≤ 1000000) (w : World) : (Instr.makeSlice 72 (.int .i64 (n : Int)) (.int .i64 (n : Int))).run Tryz.prog w = .ok (.slice (some ⟨w.heap.size, 0, none⟩) n n) (w.alloc (.cells (ints (List.replicate n 0)).toArray 3)) := by
  obtain ⟨i, hi, hz, hs, hb⟩ := info_parts int_info
  have := run_make (P := Tryz.prog) w 72 3 i _ Tryz.underlying72 hi hz .i64 .i64 (n : Int) (n : Int) (by omega) (Int.le_refl _) (by rw [hb]; omega) (by omega)
  rw [this, hs, Int.toNat_natCast, Nat.mul_one, ← zero_ints]
  rfl
theorem ls_made {N : Nat} (n : Nat) (hn : n ≤ 1000000) (w : World) (hN : N ≤ w.heap.size) : LsAt N (List.replicate n 0) (.slice (some ⟨w.heap.size, 0, none⟩) n n) (w.alloc (.cells (ints (List.replicate n 0)).toArray 3)) := by
  refine ⟨by simp, ?_⟩
  have h := World.ownsRow_lit (e := 3) (size := 1) (base := N) w (ints (List.replicate n 0)).toArray n hN (by unfold maxLen; omega) (by simp [ints_length])
  simpa using h
/-- numbers behind those of one's own -/
theorem ls_append {N : Nat} {ks ms : List Nat} {v : Value} {w : World} (h : LsAt N ks v w) (hN : N ≤ w.heap.size) (a : Addr) (m c : Nat) (hm : ms.length = m) (hc : ∀ j, j < m → w.cell? (a.add j) = some (.int .i64 ((ms.getD j 0 : Nat) : Int))) (hl : ks.length + m ≤ 1000000) (ty : TypeId) :
    ∃ v' w', (Builtin.append_ #[72, 72] ty #[v, .slice (some a) m c]).run Tryz.prog w = .ok v' w' ∧ LsAt N (ks ++ ms) v' w' ∧ Below N w w' ∧ w.heap.size ≤ w'.heap.size := by
  obtain ⟨i, hi, hz, hs, hby⟩ := info_parts int_info
  obtain ⟨v', w', hr, ho, hg, hnil⟩ := run_append_own (P := Tryz.prog) w N 72 ty 3 i _ 1 8 Tryz.underlying72 hi hz hs hby rfl (by decide) v ks.length (ints ks) h.2 a m c (ints ms) (by rw [ints_length, hm, Nat.mul_one]) (fun j u hj => by
      have hjl : j < ms.length := by
        have := (List.getElem?_eq_some_iff.1 hj).1
        rwa [ints_length] at this
      rw [ints_at ms j hjl] at hj
      rw [hc j (by omega)]
      exact hj) (ints_one ms) (by unfold maxLen; omega) (by omega) hN
  refine ⟨v', w', hr, ⟨fun e => h.1 (hnil.1 e).1, ?_⟩, (Below.refl _ _).grown hg hN fun k hk => (h.2.lt k hk).1, hg.size⟩
  rw [ints_append, List.length_append, hm]
  exact ho
section
variable {w : World} {ev : Operand → Value} {x y : Operand} {o : Oper} {b n c j : Nat}
theorem ints_none_run (hop : o.op = .buildSlice 72 0 #[]) : (execOp ev o).run Tryz.prog w = .ok (.value (.slice (some ⟨w.heap.size, 0, none⟩) 0 0)) (w.alloc (.cells #[] 3)) := by
  obtain ⟨i, hi, hz, hs, hby⟩ := info_parts int_info
  have h : (Instr.buildSlice 72 0 #[]).run Tryz.prog w = .ok (.slice (some ⟨w.heap.size, 0, none⟩) 0 0) (w.alloc (.cells #[] 3)) := by
    simp [Instr.buildSlice, run_underlying Tryz.underlying72, sizeOf, typeInfo, hi, Instr.fill, newRow]
    rw [show Array.range 0 = #[] by decide, Array.map_empty]
  simp only [execOp, hop, Array.map_empty, Sem.run_bind, h, Result.andThen_ok, Sem.run_pure]
theorem lo_run (hop : o.op = .slice 72 x none (some y) none) (hx : ev x = .slice (some ⟨b, 0, none⟩) n c) (hy : ev y = .int .i64 (j : Int)) (hj : j ≤ c) : (execOp ev o).run Tryz.prog w = .ok (.value (.slice (some ⟨b, 0, none⟩) j c)) w := by
  have h1 : (j : Int) ≤ (c : Int) := by omega
  simp [execOp, hop, hx, hy, go_sem, h1]
theorem hi_run (hop : o.op = .slice 72 x (some y) none none) (hx : ev x = .slice (some ⟨b, 0, none⟩) n c) (hy : ev y = .int .i64 (j : Int)) (hj : j ≤ n) (hc : n ≤ c) : (execOp ev o).run Tryz.prog w = .ok (.value (.slice (some ⟨b, if c = j then 0 else j, none⟩) (n - j) (c - j))) w := by
  obtain ⟨i, hi, hz, hs, hby⟩ := info_parts int_info
  have h : (Instr.sliceAt 72 (.slice (some ⟨b, 0, none⟩) n c) (some (.int .i64 (j : Int))) none none).run Tryz.prog w = .ok (.slice (some ⟨b, if c = j then 0 else j, none⟩) (n - j) (c - j)) w := by
    rw [run_sliceAt_slice _ _ _ _ _ _ Tryz.underlying72]
    by_cases hcj : c = j
    · simp [Instr.slice, Instr.sliceBounds, run_underlying Tryz.underlying72, sizeOf, typeInfo, hi, go_sem, hcj]
      intro hx; omega
    · simp [Instr.slice, Instr.sliceBounds, run_underlying Tryz.underlying72, sizeOf, typeInfo, hi, hs, go_sem, hcj]
      intro hx; omega
  simp only [execOp, hop, hx, hy, Option.map_some, Option.map_none, Sem.run_bind, h, Result.andThen_ok, Sem.run_pure]
theorem ixt_run (hop : o.op = .indexAddr 72 x y) (hx : ev x = .slice (some ⟨b, 0, none⟩) n c) (hy : ev y = .int .i64 (j : Int)) (hj : j < n) : (execOp ev o).run Tryz.prog w = .ok (.value (.pointer (some ⟨b, j, none⟩))) w := by
  have h1 : (j : Int) < (n : Int) := by omega
  simp [execOp, hop, hx, hy, go_sem, h1]
end
/-- an append of such lists at a step of a statement whose order is open -/
theorem step_ls {ops : Array Oper} {o : Oper} {a : Act} {w : World} {K : Act → World → Prop} {Q : Exit → Act → World → Prop} {E : Prop} (hgd : o.guard = none) (sl x : Operand)
    (ho : o.op = .call { callee := .builtin .append, args := #[sl, x], argTypes := #[72, 72] }) {N : Nat} {ks ms : List Nat} {v : Value} (hs : a.eval sl = v) (h : LsAt N ks v w) (hN : N ≤ w.heap.size) (ad : Addr) (m c : Nat) (hx : a.eval x = .slice (some ad) m c) (hm : ms.length = m) (hc : ∀ j, j < m → w.cell? (ad.add j) = some (.int .i64 ((ms.getD j 0 : Nat) : Int))) (hl : ks.length + m ≤ 1000000)
    (hK : ∀ v' w', LsAt N (ks ++ ms) v' w' → Below N w w' → w.heap.size ≤ w'.heap.size → K (a.put o.dst v') w') :
    if Region.wanted o (yielded ops a.tmps) = true then Oper.wp Tryz.prog o a w K Q else E := by
  have hw : Region.wanted o (yielded ops a.tmps) = true := by simp [Region.wanted, hgd]
  rw [if_pos hw]
  obtain ⟨v', w', hr, h1, h2, h3⟩ := ls_append h hN ad m c hm hc hl o.type
  unfold Oper.wp
  rw [op_append ho hs hx hr]
  exact hK v' w' h1 h2 h3
/-- such a list, and what holds behind it -/
def LsF (N : Nat) (ks : List Nat) (F : World → Prop) : Value → World → Prop := fun v w => LsAt N ks v w ∧ F w
theorem stable_lsf (N : Nat) (ks : List Nat) {F : World → Prop} (h : ∀ u u', F u → Below u.heap.size u u' → F u') : Stable (LsF N ks F) := fun _ _ _ ⟨h1, h2⟩ hb => ⟨h1.step hb, h _ _ h2 hb⟩
theorem range_set (i l : Nat) (h : i < l) : (List.range i ++ List.replicate (l - i) 0).set i i = List.range (i + 1) ++ List.replicate (l - (i + 1)) 0 := by
  have e : List.replicate (l - i) 0 = 0 :: List.replicate (l - (i + 1)) 0 := by rw [show l - i = l - (i + 1) + 1 by omega, List.replicate_succ]
  rw [e, List.set_append_right _ _ (by simp), List.length_range, Nat.sub_self, List.set_cons_zero, List.range_succ, List.append_assoc]
  rfl
theorem take_one {ks : List Nat} {l j : Nat} (h : ∀ x ∈ ks, x < l) (hn : ks.Nodup) : (∀ x ∈ ks.take j ++ ks.drop (j + 1), x < l) ∧ (ks.take j ++ ks.drop (j + 1)).Nodup := by
  rw [← List.eraseIdx_eq_take_drop_succ]
  exact ⟨fun x hx => h x (List.mem_of_mem_eraseIdx hx), hn.sublist (List.eraseIdx_sublist _ _)⟩
/-- a turn of a statement's stages: a builtin append -/
theorem stage_append {P : Program} {B : Nat} {ops : List Oper} {D : Nat → Nat → Value → World → Prop} {k n : Nat} {o : Oper} {a : Act} {w0 w w' : World} {Q : Exit → Act → World → Prop} {x y : Operand} {t : TypeId} {v1 v2 v : Value} (ho : o.op = .call { callee := .builtin .append, args := #[x, y], argTypes := #[t, t] }) (hx : a.eval x = v1) (hy : a.eval y = v2) (hr : (Builtin.append_ #[t, t] o.type #[v1, v2]).run P w = .ok v w') (hn : D (k + 1) n v w') (hb : Below B w0 w') (hz : w.heap.size ≤ w'.heap.size)
    (hc : ∀ i o' d, ops[i]? = some o' → o'.dst = some d → i ≠ n → waits ops i n = false → D k i (a.tmps.getD d undef) w → D (k + 1) i (a.tmps.getD d undef) w') : TurnsS P B ops D k n o a w0 w Q := by
  unfold TurnsS Oper.wp
  rw [op_append ho hx hy hr]
  exact ⟨v, rfl, hn, hb, hz, hc⟩
/-- what is chosen out of a list by any number -/
theorem pick_of (z : Int) (m : Nat) (h1 : 1 ≤ m) (hm : m ≤ 1000000) : ∃ j : Nat, j < m ∧ IntKind.i64.wrap (z.tmod (m : Int)) = z.tmod (m : Int) ∧ IntKind.i64.wrap (z.tmod (m : Int) + (m : Int)) = z.tmod (m : Int) + (m : Int) ∧ (z.tmod (m : Int) + (m : Int)).tmod (m : Int) = (j : Int) := by
  have a1 : z.tmod (m : Int) < (m : Int) := Int.tmod_lt_of_pos _ (by omega)
  have a2 : -(m : Int) < z.tmod (m : Int) := by
    rcases Int.le_total 0 z with h | h
    · have := Int.tmod_nonneg (m : Int) h; omega
    · have h2 : (-z).tmod (m : Int) < (m : Int) := Int.tmod_lt_of_pos _ (by omega)
      rw [Int.neg_tmod] at h2
      omega
  obtain ⟨r, hr⟩ : ∃ r, z.tmod (m : Int) = r := ⟨_, rfl⟩
  rw [hr] at a1 a2 ⊢
  have b1 : 0 ≤ (r + (m : Int)).tmod (m : Int) := Int.tmod_nonneg _ (by omega)
  have b2 : (r + (m : Int)).tmod (m : Int) < (m : Int) := Int.tmod_lt_of_pos _ (by omega)
  obtain ⟨j, hj⟩ := Int.eq_ofNat_of_zero_le b1
  exact ⟨j, by omega, IntWalk.i64_in _ (by omega), IntWalk.i64_in _ (by omega), hj⟩
end Go.Proofs.YthbeoobfhfpelaaGreatDoor

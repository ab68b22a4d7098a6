/- Rows of blocks of one's own: an empty one, one of a block, and blocks put behind them. Conditions: those typed. -/
import Derived.Test.YtnolgjbehnjomaaBbHalves
import Derived.Test.YtnolgjbehnjomaaDrift
import Derived.Great.BuildSlice
namespace Go.Proofs.Ytnolgjbehnjomaa
set_option maxRecDepth 50000
open Go.RowKit Bb

theorem b_info : (Try.prog.info? 26).map (fun i => (i.zero, i.size, i.bytes)) = some (some (.agg (wq zb)), 128, 1024) := by kernel_rfl
theorem b_parts : ∃ i, Try.prog.info? 26 = some i ∧ i.zero = some (.agg (wq zb)) ∧ i.size = 128 ∧ i.bytes = 1024 := by
  have h := b_info
  cases hq : Try.prog.info? 26 with
  | none => rw [hq] at h; cases h
  | some i =>
    rw [hq] at h
    simp only [Option.map_some, Option.some.injEq, Prod.mk.injEq] at h
    exact ⟨i, rfl, h.1, h.2.1, h.2.2⟩
theorem zb_cells : (Value.agg (wq zb)).cells.size = 128 := by
  simp [Value.cells, wq_size, zb]
theorem bcs_one (l : List (List Nat)) : ∀ u ∈ bcs l, u.oneCell' = true := by
  intro u hu
  obtain ⟨b, _, hb⟩ := List.mem_flatMap.1 hu
  obtain ⟨x, _, rfl⟩ := List.mem_map.1 hb
  rfl
theorem bcs_z (z : List Nat) : bcs [z] = u64s z := by simp [bcs]

/-- an empty row, a row of these blocks, a list of one block -/
def Em (N : Nat) : Value → World → Prop := fun v w => ∃ g, v = .slice (some ⟨g, 0, none⟩) 0 0 ∧ N ≤ g ∧ w.heap[g]? = some (.cells #[] 26 (0, 0))
def OwB (N : Nat) (l : List (List Nat)) : Value → World → Prop := fun v w => w.ownsRow N 26 128 v l.length (bcs l)
def OneB (z : List Nat) : Value → World → Prop := fun v w => ∃ g, v = .slice (some ⟨g, 0, none⟩) 1 1 ∧ RowAt w g 26 (wq z)
/-- a list that reads as these blocks -/
def RdB (l : List (List Nat)) : Value → World → Prop := fun v w => ∃ A c, v = .slice A l.length c ∧ Reads w w.heap.size A (bcs l)
theorem lt_of_some {w : World} {g : Nat} {o : Obj} (h : w.heap[g]? = some o) : g < w.heap.size := (Array.getElem?_eq_some_iff.1 h).1
theorem stable_em (N : Nat) : Stable (Em N) := fun _ _ _ ⟨g, e, hg, h⟩ hb => ⟨g, e, hg, (hb.block g (lt_of_some h)).trans h⟩
theorem stable_owb (N : Nat) (l : List (List Nat)) : Stable (OwB N l) := fun v w w' h hb => by
  refine ⟨h.1, ?_⟩
  rcases h.2 with hn | ⟨g, cap, cur, rfl, h0, hg, rest⟩
  · exact .inl hn
  · exact .inr ⟨g, cap, cur, rfl, h0, (hb.block g (lt_of_some hg)).trans hg, rest⟩
theorem stable_oneb (z : List Nat) : Stable (OneB z) := fun _ _ _ ⟨g, e, h⟩ hb => ⟨g, e, h.below hb h.lt⟩
theorem stable_rdb (l : List (List Nat)) : Stable (RdB l) := fun _ _ _ ⟨A, c, e, h⟩ hb => ⟨A, c, e, (h.below hb).more hb.size⟩

/-- what is owned reads so -/
theorem owb_reads {w : World} {N : Nat} {l : List (List Nat)} {v : Value} (h : OwB N l v w) : RdB l v w := by
  rcases h.2 with ⟨rfl, h0⟩ | ⟨g, cap, cur, rfl, h0, hg, _, _, _, ht⟩
  · have : bcs l = [] := List.eq_nil_of_length_eq_zero (by rw [h.1, h0])
    exact ⟨none, 0, by rw [h0], fun k hk => absurd hk (by simp [this])⟩
  · refine ⟨_, _, rfl, fun k hk => ⟨g, 0, rfl, lt_of_some hg, ?_⟩⟩
    rw [Nat.zero_add, h.cellAt k (by rw [← h.1]; exact hk), List.getElem?_eq_getElem hk]

theorem app_first {w : World} {N g : Nat} (hN : N ≤ g) (hg : w.heap[g]? = some (.cells #[] 26 (0, 0))) (hw : N ≤ w.heap.size) {A : Option Addr} {c B : Nat} {l : List (List Nat)} (ho : ∀ b ∈ l, okb b) (hr : Reads w B A (bcs l)) (hl : l.length ≤ 1000000) (ty : TypeId) :
    ∃ v' w', (Builtin.append_ #[22, 22] ty #[.slice (some ⟨g, 0, none⟩) 0 0, .slice A l.length c]).run Try.prog w = .ok v' w' ∧ OwB N l v' w' ∧ Below w.heap.size w w' := by
  obtain ⟨i, hi, hz, hs, hby⟩ := b_parts
  by_cases h0 : l.length = 0
  · have e : l = [] := List.eq_nil_of_length_eq_zero h0
    subst e
    refine ⟨.slice (some ⟨g, 0, none⟩) 0 0, w, ?_, ⟨rfl, .inr ⟨g, 0, #[], rfl, hN, hg, Nat.le_refl _, Nat.zero_le _, rfl, rfl⟩⟩, Below.refl _ _⟩
    cases A <;> simp [Builtin.append_, run_underlying Try.underlying22, sizeOf, typeInfo, hi, Builtin.lenOf, Builtin.firstCells, loadCells, loadCellsFrom, storeCells]
  · have hbl := bcs_length ho
    obtain ⟨b, off, e, _, _⟩ := hr 0 (by omega)
    subst e
    have hg1 := run_append_grow (P := Try.prog) w 22 ty 26 i _ Try.underlying22 hi hz ⟨g, 0, none⟩ 0 0 [] (by simp) (by simp) ⟨b, off, none⟩ l.length c (bcs l) (by rw [hs]; exact hbl)
      (fun j u hj => by
        obtain ⟨hj', rfl⟩ := List.getElem?_eq_some_iff.1 hj
        obtain ⟨b', off', e, _, hc⟩ := hr j hj'
        cases e
        rw [Go.WideShapes.add_plain]; exact hc) (by omega) (by omega) (by rw [hby]; exact growslice_fits (by omega) (by omega))
    simp only [Nat.zero_add, Array.empty_append] at hg1
    have hge := grownCap_ge w l.length 0 26
    have hcm : grownCap w l.length 0 26 ≤ maxLen := grownCap_le_maxLen w l.length 0 _ (by unfold maxLen; omega)
    refine ⟨_, _, hg1, ⟨hbl, .inr ⟨w.heap.size, _, _, rfl, hw, heap_alloc_new w.drew _, hge, hcm, ?_, ?_⟩⟩, ?_⟩
    · simp only [Array.size_append, List.size_toArray, size_zeroCells, zb_cells, hbl, ← Nat.add_mul]
      congr 1
      omega
    · simp only [Array.toList_append]
      rw [← hbl]
      exact List.take_left
    · exact (Below.refl _ w).drew.alloc (Nat.le_refl _) _

theorem app_more {w : World} {N : Nat} {l : List (List Nat)} {v : Value} (h : OwB N l v w) (hN : N ≤ w.heap.size) {g : Nat} {z : List Nat} (hz' : okb z) (hg : RowAt w g 26 (wq z)) (hl : l.length ≤ 1000000) (ty : TypeId) :
    ∃ v' w', (Builtin.append_ #[22, 22] ty #[v, .slice (some ⟨g, 0, none⟩) 1 1]).run Try.prog w = .ok v' w' ∧ OwB N (l ++ [z]) v' w' ∧ Below N w w' := by
  obtain ⟨i, hi, hz, hs, hby⟩ := b_parts
  have hzl : (u64s z).length = 128 := by rw [u64s_length]; exact hz'.1
  obtain ⟨v', w', hr, ho, hgr, _, _⟩ := run_append_own_at (P := Try.prog) w N 22 ty 26 i _ 128 1024 Try.underlying22 hi hz hs hby zb_cells (by decide) v l.length (bcs l) h ⟨g, 0, none⟩ 1 1 (u64s z) (by rw [hzl])
    (fun j u hj => by
      rw [Go.WideShapes.add_plain, Nat.zero_add, hg.cell j]
      simpa [wq] using hj) (fun u hu => by simp only [u64s, List.mem_map] at hu; obtain ⟨x, _, rfl⟩ := hu; rfl) (by unfold maxLen; omega) (by omega) hN
  refine ⟨v', w', hr, ?_, (Below.refl N w).grown hgr hN (fun k hk => (h.lt k hk).1)⟩
  unfold OwB
  rw [bcs_append, bcs_z, List.length_append]
  exact ho

theorem build_none (w : World) : (Instr.buildSlice 22 0 #[]).run Try.prog w = .ok (.slice (some ⟨w.heap.size, 0, none⟩) 0 0) (w.alloc (.cells #[] 26)) := by
  obtain ⟨i, hi, hz, hs, hby⟩ := b_parts
  simp [Instr.buildSlice, run_underlying Try.underlying22, sizeOf, typeInfo, hi, Instr.fill, newRow]
  rw [show Array.range 0 = #[] by decide, Array.map_empty]
theorem fold_cells : ∀ (l : List Value) (off : Nat) (cs : Array Value), off + l.length ≤ cs.size → (l.zipIdx off).foldl (fun (cs : Array Value) (x : Value × Nat) => cs.setIfInBounds x.2 x.1) cs = (cs.toList.take off ++ l ++ cs.toList.drop (off + l.length)).toArray
  | [], off, cs, _ => by simp
  | x :: l, off, cs, h => by
    rw [List.zipIdx_cons, List.foldl_cons, fold_cells l (off + 1) _ (by simp at h ⊢; omega)]
    simp only [List.length_cons] at h
    congr 1
    rw [Array.toList_setIfInBounds]
    have h1 : (cs.toList.set off x).take (off + 1) = cs.toList.take off ++ [x] := by
      rw [List.take_add_one, List.getElem?_set_self (by simp; omega), List.take_set_of_le (Nat.le_refl _)]; rfl
    have h2 : (cs.toList.set off x).drop (off + 1 + l.length) = cs.toList.drop (off + (x :: l).length) := by
      rw [List.drop_set_of_lt (by omega), List.length_cons, show off + 1 + l.length = off + (l.length + 1) by omega]
    rw [h1, h2]
    simp
theorem build_one (w : World) {z : List Nat} (hz' : z.length = 128) : (Instr.buildSlice 22 1 #[(0, .agg (wq z))]).run Try.prog w = .ok (.slice (some ⟨w.heap.size, 0, none⟩) 1 1) (w.alloc (.cells (wq z) 26)) := by
  obtain ⟨i, hi, hz, hs, hby⟩ := b_parts
  refine run_buildSlice w _ _ 1 _ (wq z) i _ Try.underlying22 hi hz (by rw [hs]; decide) (by rw [hs]; decide) ?_
  have hsz : (wq z).size = 128 := by rw [wq_size]; exact hz'
  have e : (Value.agg (wq z)).cells = wq z := rfl
  simp only [Instr.fill, hs, e, hsz, Nat.zero_mul, Nat.one_mul, Nat.zero_add]
  rw [if_neg (by simp)]
  congr 1
  have := fold_cells (wq z).toList 0 ((Array.range 128).map ((Value.agg (wq zb)).cells[· % (Value.agg (wq zb)).cells.size]!)) (by simp [hsz])
  rw [← Array.foldl_toList, Array.toList_zipIdx, this]
  rw [List.take_zero, List.nil_append, List.drop_of_length_le (by simp [hsz]), List.append_nil, Array.toArray_toList]
end Go.Proofs.Ytnolgjbehnjomaa

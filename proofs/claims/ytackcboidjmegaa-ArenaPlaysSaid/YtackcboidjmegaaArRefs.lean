/- Reserve, Release and Mark of the document's arena, by their contracts. Conditions: those typed. -/
import Derived.Test.YtackcboidjmegaaArRef
import Derived.OwnWalk
namespace Go.Proofs.Ytackcboidjmegaa
set_option maxRecDepth 50000
open Go.RowKit

/-- a row of one's own of the document's pieces -/
def OwnP (w : World) (N : Nat) (v : Value) (l : Pz) : Prop := w.ownsRow N 62 2 v l.length (mcs l)
theorem p_info : (Try.prog.info? 62).map (fun i => (i.zero, i.size, i.bytes)) = some (some (.agg #[.int .i64 0, .bool false]), 2, 16) := by kernel_rfl
theorem mcs_one (l : Pz) : ∀ u ∈ mcs l, u.oneCell' = true := by
  intro u hu
  obtain ⟨b, _, hb⟩ := List.mem_flatMap.1 hu
  simp only [List.mem_cons, List.not_mem_nil, or_false] at hb
  rcases hb with rfl | rfl <;> rfl
theorem OwnP.form {w : World} {N : Nat} {v : Value} {l : Pz} (h : OwnP w N v l) : ∃ A c, v = .slice A l.length c ∧ Reads w w.heap.size A (mcs l) := by
  rcases h.2 with ⟨rfl, h0⟩ | ⟨g, cap, cur, rfl, hN, hg, _, _, _, ht⟩
  · have : mcs l = [] := List.eq_nil_of_length_eq_zero (by rw [h.1, h0])
    exact ⟨none, 0, by rw [h0], fun k hk => absurd hk (by simp [this])⟩
  · refine ⟨_, _, rfl, fun k hk => ⟨g, 0, rfl, (Array.getElem?_eq_some_iff.1 hg).1, ?_⟩⟩
    rw [Nat.zero_add, h.cellAt k (by rw [← h.1]; exact hk), List.getElem?_eq_getElem hk]
theorem own_unlike {w : World} {N s n b : Nat} {e t : TypeId} {v : Value} {xs : List Value} {C : Array Value} (h : w.ownsRow N e s v n xs) (hr : RowAt w b t C) (ht : (e == t) = false) : v.ownBlock ≠ some b := by
  rcases h.2 with ⟨rfl, _⟩ | ⟨g, cap, cur, rfl, _, hg, _⟩
  · simp [Value.ownBlock]
  · intro e'
    simp only [Value.ownBlock, Option.some.injEq] at e'
    exact RowAt.unlike hg hr ht e'
theorem own_kept' {M : Nat → Prop} {w w' : World} {base s n : Nat} {e : TypeId} {v : Value} {xs : List Value} (h : w.ownsRow base e s v n xs) (hk : Kept M w w') (hM : ∀ k, v.ownBlock = some k → ¬ M k) : w'.ownsRow base e s v n xs := by
  refine ⟨h.1, ?_⟩
  rcases h.2 with hn | ⟨g, cap, cur, rfl, hb, hgg, rest⟩
  · exact .inl hn
  · refine .inr ⟨g, cap, cur, rfl, hb, ?_, rest⟩
    rw [hk.block g (Array.getElem?_eq_some_iff.1 hgg).1 (hM g rfl)]
    exact hgg
theorem own_base' {w : World} {base base' s n : Nat} {e : TypeId} {v : Value} {xs : List Value} (h : w.ownsRow base e s v n xs) (hM : base' ≤ base) : w.ownsRow base' e s v n xs := by
  refine ⟨h.1, ?_⟩
  rcases h.2 with hn | ⟨g, cap, cur, rfl, hb, rest⟩
  · exact .inl hn
  · exact .inr ⟨g, cap, cur, rfl, Nat.le_trans hM hb, rest⟩

theorem wpList_append_of {P : Program} {ops : Array Oper} {rest : List Oper} {o : Oper} {a : Act} {w w' : World} {Q : Exit → Act → World → Prop} (hgd : o.guard = none) (x y : Operand) (t : TypeId) (ho : o.op = .call { callee := .builtin .append, args := #[x, y], argTypes := #[t, t] }) (vx vy v' : Value) (hx : a.eval x = vx) (hy : a.eval y = vy)
    (hr : (Builtin.append_ #[t, t] o.type #[vx, vy]).run P w = .ok v' w') (h : wpList P ops Q rest (a.put o.dst v') w') : wpList P ops Q (o :: rest) a w := wpList_plain hgd fun _ hK => by
  unfold Oper.wp execOp
  simp only [ho, resolve, invoke, builtin, Sem.run_bind, Sem.run_pure, Result.andThen_ok, List.map_toArray, List.map_cons, List.map_nil, hx, hy, hr]
  exact hK _ _ h
theorem append_empty {P : Program} (w : World) (base : Nat) (t ty e : TypeId) (i : TypeInfo) (size : Nat) (ht : P.underlying t = some (.slice e)) (hi : P.info? e = some i)
    (v : Value) (n : Nat) (xs : List Value) (hown : w.ownsRow base e size v n xs) (A : Option Addr) (c : Nat) :
    (Builtin.append_ #[t, t] ty #[v, .slice A 0 c]).run P w = .ok v w := by
  rcases hown.2 with ⟨rfl, rfl⟩ | ⟨g, cap, cur, rfl, _, _, hnc, _⟩
  · cases A <;> simp [Builtin.append_, run_underlying ht, sizeOf, typeInfo, hi, Builtin.lenOf, Builtin.firstCells, loadCells, loadCellsFrom]
  · cases A <;> simp [Builtin.append_, run_underlying ht, sizeOf, typeInfo, hi, Builtin.lenOf, Builtin.firstCells, hnc, storeCells, loadCells, loadCellsFrom]
/-- an empty row of one's own, and pieces put behind -/
theorem app_ps {w : World} {N : Nat} {v x : Value} {l k : Pz} (h : OwnP w N v l) (hN : N ≤ w.heap.size) {A : Option Addr} {c B : Nat} (hx : x = .slice A k.length c) (hr : Reads w B A (mcs k)) (hl : l.length + k.length ≤ 1000000) (ty : TypeId) :
    ∃ v' w', (Builtin.append_ #[30, 30] ty #[v, x]).run Try.prog w = .ok v' w' ∧ OwnP w' N v' (l ++ k) ∧ Below N w w' := by
  obtain ⟨i, hi, hz, hs, hby⟩ := info_parts p_info
  subst hx
  by_cases h0 : k = []
  · subst h0
    refine ⟨v, w, append_empty w N _ ty _ i 2 Try.underlying30 hi v l.length (mcs l) h A c, ?_, Below.refl _ _⟩
    rw [List.append_nil]; exact h
  · have hk : 0 < k.length := List.length_pos_iff.2 h0
    obtain ⟨b, off, e, _, _⟩ := hr 0 (by rw [mcs_length]; omega)
    subst e
    obtain ⟨v', w', hr', ho, hg, _, _⟩ := run_append_own_at (P := Try.prog) w N 30 ty 62 i _ 2 16 Try.underlying30 hi hz hs hby rfl (by decide) v l.length (mcs l) h ⟨b, off, none⟩ k.length c (mcs k) (mcs_length k)
      (fun j u hj => by
        obtain ⟨hj', rfl⟩ := List.getElem?_eq_some_iff.1 hj
        obtain ⟨b', off', e, _, hc⟩ := hr j hj'
        cases e
        rw [Go.WideShapes.add_plain]; exact hc) (mcs_one k) (by unfold maxLen; omega) (by omega) hN
    refine ⟨v', w', hr', ?_, (Below.refl N w).grown hg hN (fun k hk => (h.lt k hk).1)⟩
    unfold OwnP
    rw [mcs_append, List.length_append]
    exact ho
theorem own_empty (w : World) (N : Nat) (hN : N ≤ w.heap.size) : OwnP (w.alloc (.cells #[] 62)) N (.slice (some ⟨w.heap.size, 0, none⟩) 0 0) [] :=
  ⟨rfl, .inr ⟨_, 0, #[], rfl, hN, heap_alloc_last w _, Nat.le_refl _, Nat.zero_le _, rfl, rfl⟩⟩

theorem rmark_any {N : Nat} (B h : Nat) {v : Value} {l : Pz} {w : World} (ho : OwnP w N v l) (hl : l.length ≤ 1000000) (hu : usd l ≤ 1000000000) :
    Calls Try.prog 21 #[.agg (mcells B v h)] w fun e w' => e = .returned (.agg (mcells B v (usd l))) ∧ Below w.heap.size w w' := by
  obtain ⟨A, c, rfl, hr⟩ := ho.form
  obtain ⟨w1, e1⟩ : ∃ w1, w1 = (w.alloc (.cells (mcells B (.slice A l.length c) h) 32)).alloc (.cells (mcells 0 (.slice none 0 0) 0) 32) := ⟨_, rfl⟩
  have R0 : RowAt w1 w.heap.size 32 (mcells B (.slice A l.length c) h) := by rw [e1]; exact (RowAt.new w _ _).alloc _
  have R1 : RowAt w1 (w.heap.size + 1) 32 (mcells 0 (.slice none 0 0) 0) := by
    rw [e1]
    have := RowAt.new (w.alloc (.cells (mcells B (.slice A l.length c) h) 32)) 32 (mcells 0 (.slice none 0 0) 0)
    rwa [World.size_alloc] at this
  have B1 : Below w.heap.size w w1 := by rw [e1]; exact ((Below.refl _ w).alloc (Nat.le_refl _) _).alloc (by simp) _
  have C := Lib.hid (rused_any B h A c l w1 ((hr.below B1).more B1.size) hl hu)
  have E1 := Lib.hid e1
  have HR0 := Lib.hid R0
  have HR1 := Lib.hid R1
  have HB1 := Lib.hid B1
  clear ho hr e1 B1 R0 R1
  have hb := HB1.out.size
  obtain ⟨x0, x1, x2⟩ : w1.cell? ⟨w.heap.size, 0, none⟩ = some (.int .i64 (B : Int)) ∧ w1.cell? ⟨w.heap.size, 1, none⟩ = some (.slice A l.length c) ∧ w1.cell? ⟨w.heap.size, 2, none⟩ = some (.int .i64 (h : Int)) :=
    ⟨HR0.out.cell 0, HR0.out.cell 1, HR0.out.cell 2⟩
  generalize usd l = U at *
  generalize mny l = V at *
  unfold mcells at *
  go_enter Try.func21, Try.ntmps21
  go_wp2_with fail
  have hC := C.out
  rw [E1.out] at hC
  refine hC.mono ?_
  rintro e w2 ⟨rfl, hb2⟩
  rw [← E1.out] at hb2
  have R0 := HR0.out.below hb2 HR0.out.lt
  have R1 := HR1.out.below hb2 HR1.out.lt
  have HB2 := Lib.hid (HB1.out.trans (hb2.mono HB1.out.size))
  have h0 := R0.lt
  have h1 := R1.lt
  clear C hC x0 x1 x2 hb2 HR0 HR1 HB1 E1
  have x0 : w2.cell? ⟨w.heap.size, 0, none⟩ = some (.int .i64 (B : Int)) := R0.cell 0
  have x1 : w2.cell? ⟨w.heap.size, 1, none⟩ = some (.slice A l.length c) := R0.cell 1
  have x2 : w2.cell? ⟨w.heap.size, 2, none⟩ = some (.int .i64 (h : Int)) := R0.cell 2
  have y0 : w2.cell? ⟨w.heap.size + 1, 0, none⟩ = some (.int .i64 0) := R1.cell 0
  have y1 : w2.cell? ⟨w.heap.size + 1, 1, none⟩ = some (.slice none 0 0) := R1.cell 1
  have y2 : w2.cell? ⟨w.heap.size + 1, 2, none⟩ = some (.int .i64 0) := R1.cell 2
  have f0 := R0.frozen 2
  have g0 := R1.frozen 0
  have g1 := R1.frozen 1
  have g2 := R1.frozen 2
  have HR0 := Lib.hid R0
  have HR1 := Lib.hid R1
  clear R0 R1
  go_wp2
  have hR : RowAt (((w2.setCell ⟨w.heap.size, 2, none⟩ (.int .i64 (U : Int))).setCell ⟨w.heap.size + 1, 0, none⟩ (.int .i64 (B : Int))).setCell ⟨w.heap.size + 1, 1, none⟩ (.slice A l.length c) |>.setCell ⟨w.heap.size + 1, 2, none⟩ (.int .i64 (U : Int))) (w.heap.size + 1) 32 (mcells B (.slice A l.length c) U) :=
    (((HR1.out.setOther ⟨w.heap.size, 2, none⟩ (by simp) _).setCell 0 _).setCell 1 _).setCell 2 _
  refine bodyPost_ret (v := .agg (mcells B (.slice A l.length c) U)) (results_cell_row rfl _ _ (w.heap.size + 1) 32 _ (0, 0) _ rfl hR Try.underlying32 rfl m_size) rfl ⟨rfl, ?_⟩
  exact (((HB2.out.setCell (by simp) _).setCell (by simp) _).setCell (by simp) _).setCell (by simp) _
end Go.Proofs.Ytackcboidjmegaa

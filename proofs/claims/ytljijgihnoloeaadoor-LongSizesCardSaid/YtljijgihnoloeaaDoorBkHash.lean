/- A Hash of package blake in memory: its feed, its state, its size. Conditions: those typed. -/
import Derived.Test.YtljijgihnoloeaaDoorBkComp
import Derived.Test.YtljijgihnoloeaaDoorBkFill
import Derived.Test.YtljijgihnoloeaaDoorTurnOne
namespace Go.Proofs.YtljijgihnoloeaaDoor
set_option maxRecDepth 50000
open Go.RowKit Bl

def nats (b : List UInt8) : List Nat := b.map UInt8.toNat
theorem cs_nats (b : List UInt8) : cs b = u8s (nats b) := by simp [cs, u8s, nats]
theorem nats_lt (b : List UInt8) : ∀ x ∈ nats b, x < 256 := by
  intro x hx
  obtain ⟨y, _, rfl⟩ := List.mem_map.1 hx
  exact y.toNat_lt
theorem nats_length (b : List UInt8) : (nats b).length = b.length := by simp [nats]
/-- the first state, of a key's bytes and a sum's -/
def h0 (kl n : Nat) : List Nat := iv.set 0 (iv.getD 0 0 ^^^ (16842752 + 256 * kl + n))
theorem h0_ok (kl n : Nat) (hk : kl ≤ 64) (hn : n ≤ 64) : (h0 kl n).length = 8 ∧ okw (h0 kl n) :=
  ⟨rfl, iv_ok.set _ _ (xor_lt64 _ _ (iv_ok.at_ 0) (by omega))⟩
/-- the state behind the first k blocks -/
def stN (s0 : List Nat) (bs : List (List UInt8)) : Nat → List Nat
  | 0 => s0
  | k + 1 => comp (stN s0 bs k) (blockW (nats (bs.getD k []))) (128 * (k + 1)) false
theorem stN_ok {s0 : List Nat} (h : s0.length = 8 ∧ okw s0) (bs : List (List UInt8)) : ∀ k, k ≤ 100000000 → (stN s0 bs k).length = 8 ∧ okw (stN s0 bs k)
  | 0, _ => h
  | k + 1, hk => ⟨by rw [stN, comp_length]; exact (stN_ok h bs k (by omega)).1, comp_ok (stN_ok h bs k (by omega)).2 _ (by omega) _⟩
theorem stN_app (s0 : List Nat) (bs cs : List (List UInt8)) : ∀ k, k ≤ bs.length → stN s0 (bs ++ cs) k = stN s0 bs k
  | 0, _ => rfl
  | k + 1, hk => by
    rw [stN, stN, stN_app s0 bs cs k (by omega), List.getD_eq_getElem?_getD, List.getElem?_append_left (by omega), ← List.getD_eq_getElem?_getD]

/-- the ten cells of a Hash -/
def HRow (w : World) (H F : Nat) (st : List Nat) (n : Nat) : Prop := w.heap[H]? = some (.cells (.pointer (some ⟨F, 0, none⟩) :: (u64s st ++ [.int .i64 (n : Int)])).toArray 66 (0, 0))
section
variable {w w' : World} {H F n : Nat} {st : List Nat} {M : Nat → Prop}
theorem HRow.lt (h : HRow w H F st n) : H < w.heap.size := (Array.getElem?_eq_some_iff.1 h).1
theorem HRow.at_ (h : HRow w H F st n) : w.cell? ⟨H, 0, none⟩ = some (.pointer (some ⟨F, 0, none⟩)) := by
  rw [cell_of_row w H 0 _ _ _ h]; rfl
theorem HRow.size_ (h : HRow w H F st n) (hs : st.length = 8) : w.cell? ⟨H, 9, none⟩ = some (.int .i64 (n : Int)) := by
  rw [cell_of_row w H 9 _ _ _ h]
  match st, hs with
  | [_, _, _, _, _, _, _, _], _ => rfl
theorem HRow.keep (h : HRow w H F st n) (hk : Kept M w w') (hM : ¬ M H) : HRow w' H F st n := (hk.block H h.lt hM).trans h
theorem HRow.load (h : HRow w H F st n) (hs : st.length = 8) : (loadVar 30 ⟨H, 1, none⟩).run Tryd.prog w = .ok (.agg (wq st)) w := by
  have hl : (loadCells ⟨H, 1, none⟩ (u64s st).length).run Tryd.prog w = .ok (u64s st).toArray w :=
    run_loadCells_list (P := Tryd.prog) w ⟨H, 1, none⟩ (u64s st) (fun j v hv => by
      have hadd : (⟨H, 1, none⟩ : Addr).add j = ⟨H, 1 + j, none⟩ := by unfold Addr.add; split <;> simp_all
      rw [hadd, cell_of_row w H (1 + j) _ _ _ h, Nat.add_comm 1 j]
      have hj := (List.getElem?_eq_some_iff.1 hv).1
      simp only [List.getElem?_toArray, List.getElem?_cons_succ]
      rw [List.getElem?_append_left hj]; exact hv)
  rw [u64s_length, hs] at hl
  have hz := q_size8
  cases hq : Tryd.prog.info? 30 with
  | none => rw [hq] at hz; simp at hz
  | some i =>
    have hsz : i.size = 8 := by rw [hq] at hz; simpa using hz
    simp [loadVar, Sem.run_bind, sizeOf, typeInfo, hq, hsz, hl, wq]
theorem HRow.store (h : HRow w H F st n) (hs : st.length = 8) (st' : List Nat) (hs' : st'.length = 8) : ∃ w', (storeVar 30 ⟨H, 1, none⟩ (.agg (wq st'))).run Tryd.prog w = .ok () w' ∧ HRow w' H F st' n ∧ Kept (fun k => k = H) w w' := by
  have hone : ∀ v ∈ u64s st', v.oneCell' = true := fun v hv => by simp only [u64s, List.mem_map] at hv; obtain ⟨x, _, rfl⟩ := hv; rfl
  have hst := run_storeCells_at Tryd.prog H 1 66 (u64s st') 0 _ w h (by simp [u64s, hs, hs']) hone
  have hz := q_size8
  refine ⟨_, ?_, setRow_heap w H _ _ _ (0, 0) h, ⟨rfl, rfl, rfl, by simp, fun k _ hk => setRow_other _ _ _ _ hk⟩⟩
  cases hq : Tryd.prog.info? 30 with
  | none => rw [hq] at hz; simp at hz
  | some i =>
    have hsz : i.size = 8 := by rw [hq] at hz; simpa using hz
    have e : ((Value.pointer (some ⟨F, 0, none⟩) :: (u64s st ++ [Value.int .i64 (n : Int)])).toArray.toList.take (1 + 0) ++ u64s st' ++ (Value.pointer (some ⟨F, 0, none⟩) :: (u64s st ++ [Value.int .i64 (n : Int)])).toArray.toList.drop (1 + 0 + (u64s st').length)).toArray = (Value.pointer (some ⟨F, 0, none⟩) :: (u64s st' ++ [Value.int .i64 (n : Int)])).toArray := by
      have e8 : (u64s st').length = 8 := by rw [u64s_length, hs']
      rw [e8]
      match st, hs with
      | [_, _, _, _, _, _, _, _], _ => simp [u64s]
    rw [e] at hst
    have hw : (wq st').size = 8 := by rw [wq_size, hs']
    have hw2 : (u64s st').length = 8 := by rw [u64s_length, hs']
    simpa [storeVar, sizeOf, typeInfo, hq, Value.cells, hsz, hw, hw2, wq] using hst
end

/-- a Hash to which these bytes came; all of it lies in blocks from B on and below T -/
structure HashIs (w : World) (B T H kl n : Nat) (X : List UInt8) : Prop where
  ex : ∃ F v l bs, HRow w H F (stN (h0 kl n) bs bs.length) n ∧ FeedRow w F 128 true v X.length ∧ w.ownsRow B 5 1 v l.length (cs l) ∧ Cut 128 true X bs l ∧ B ≤ H ∧ H < T ∧ B ≤ F ∧ F < T ∧ H ≠ F ∧ (∀ k, v.ownBlock = some k → B ≤ k ∧ k < T ∧ k ≠ H ∧ k ≠ F) ∧ T ≤ w.heap.size
section
variable {w w' : World} {B T H kl n : Nat} {X l : List UInt8} {bs : List (List UInt8)} {M : Nat → Prop}
theorem HashIs.keep (h : HashIs w B T H kl n X) (hk : Kept M w w') (hM : ∀ k, B ≤ k → k < T → ¬ M k) : HashIs w' B T H kl n X := by
  obtain ⟨F, v, l, bs, h1, h2, h3, h4, h5, h6, h7, h8, h9, h10, h11⟩ := h.ex
  exact ⟨F, v, l, bs, h1.keep hk (hM H h5 h6), h2.keep hk (hM F h7 h8), own_kept h3 hk (fun k hk => hM k (h10 k hk).1 (h10 k hk).2.1), h4, h5, h6, h7, h8, h9, h10, Nat.le_trans h11 hk.size⟩
theorem HashIs.below (h : HashIs w B T H kl n X) (hk : Below w.heap.size w w') : HashIs w' B T H kl n X := h.keep (Kept.of_below (M := fun _ => False) hk) fun _ _ _ => id
theorem HashIs.mono (h : HashIs w B T H kl n X) {B' T' : Nat} (hB : B' ≤ B) (hT : T ≤ T') (hs : T' ≤ w.heap.size) : HashIs w B' T' H kl n X := by
  obtain ⟨F, v, l, bs, h1, h2, h3, h4, h5, h6, h7, h8, h9, h10, h11⟩ := h.ex
  exact ⟨F, v, l, bs, h1, h2, own_base h3 (fun k hk => Nat.le_trans hB (h10 k hk).1), h4, by omega, by omega, by omega, by omega, h9, fun k hk => by have := h10 k hk; omega, hs⟩
theorem cut_count (h : Cut 128 true X bs l) : bs.length * 128 + l.length = X.length := by
  rw [← flat_len h.each, ← List.length_append, ← h.whole]
end

theorem hnil_run (w : World) (H : Nat) (ev : Operand → Value) (x : Operand) (o : Oper) (hop : o.op = .nilCheck x) (hx : ev x = .pointer (some ⟨H, 0, none⟩)) : (execOp ev o).run Tryd.prog w = .ok (.value (.pointer (some ⟨H, 0, none⟩))) w := by
  simp [execOp, hop, hx, go_sem]
theorem hf0_run (w : World) (H : Nat) (ev : Operand → Value) (x : Operand) (o : Oper) (hop : o.op = .fieldAddr 66 x 0) (hx : ev x = .pointer (some ⟨H, 0, none⟩)) : (execOp ev o).run Tryd.prog w = .ok (.value (.pointer (some ⟨H, 0, none⟩))) w := by
  simp [execOp, hop, hx, go_sem]
theorem hf1_run (w : World) (H : Nat) (ev : Operand → Value) (x : Operand) (o : Oper) (hop : o.op = .fieldAddr 66 x 1) (hx : ev x = .pointer (some ⟨H, 0, none⟩)) : (execOp ev o).run Tryd.prog w = .ok (.value (.pointer (some ⟨H, 1, none⟩))) w := by
  simp [execOp, hop, hx, go_sem]
theorem hf2_run (w : World) (H : Nat) (ev : Operand → Value) (x : Operand) (o : Oper) (hop : o.op = .fieldAddr 66 x 2) (hx : ev x = .pointer (some ⟨H, 0, none⟩)) : (execOp ev o).run Tryd.prog w = .ok (.value (.pointer (some ⟨H, 9, none⟩))) w := by
  simp [execOp, hop, hx, go_sem]
theorem hptr_run (w : World) (H F : Nat) (ev : Operand → Value) (x : Operand) (o : Oper) (hop : o.op = .load 61 x) (hx : ev x = .pointer (some ⟨H, 0, none⟩)) (hc : w.cell? ⟨H, 0, none⟩ = some (.pointer (some ⟨F, 0, none⟩))) : (execOp ev o).run Tryd.prog w = .ok (.value (.pointer (some ⟨F, 0, none⟩))) w := by
  simp [execOp, hop, hx, hc, go_sem]
theorem harr_run (w : World) (H : Nat) (v : Value) (ev : Operand → Value) (x : Operand) (o : Oper) (hop : o.op = .load 30 x) (hx : ev x = .pointer (some ⟨H, 1, none⟩)) (hc : (loadVar 30 ⟨H, 1, none⟩).run Tryd.prog w = .ok v w) : (execOp ev o).run Tryd.prog w = .ok (.value v) w := by
  simp [execOp, hop, hx, Instr.loadAt, Instr.sureAddr, hc]
end Go.Proofs.YtljijgihnoloeaaDoor

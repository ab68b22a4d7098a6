/- A Hash in memory: its feed and its state; New, Add, Clone by their contracts. Conditions: those typed. -/
import Derived.Test.YtebocfbnamcnoaaDoorShComp
import Derived.Test.YtebocfbnamcnoaaDoorShPad
import Derived.Test.YtebocfbnamcnoaaDoorFdAwake
import Derived.Test.YtebocfbnamcnoaaDoorTail
namespace Go.Proofs.YtebocfbnamcnoaaDoor
set_option maxRecDepth 50000
open Go.RowKit Sha

def nats (b : List UInt8) : List Nat := b.map UInt8.toNat
theorem cs_nats (b : List UInt8) : cs b = u8s (nats b) := by simp [cs, u8s, nats]
theorem nats_lt (b : List UInt8) : ∀ x ∈ nats b, x < 256 := by
  intro x hx
  obtain ⟨y, _, rfl⟩ := List.mem_map.1 hx
  exact y.toNat_lt
theorem nats_length (b : List UInt8) : (nats b).length = b.length := by simp [nats]
/-- the state behind these blocks -/
def stOf (bs : List (List UInt8)) : List Nat := bs.foldl (fun s b => comp kk s (blockWords (nats b))) hh
theorem stOf_snoc (bs : List (List UInt8)) (b : List UInt8) : stOf (bs ++ [b]) = comp kk (stOf bs) (blockWords (nats b)) := by simp [stOf, List.foldl_append]
theorem fold_ok : ∀ (bs : List (List UInt8)) (s : List Nat), s.length = 8 ∧ (∀ x ∈ s, x < 4294967296) → (bs.foldl (fun s b => comp kk s (blockWords (nats b))) s).length = 8 ∧ ∀ x ∈ bs.foldl (fun s b => comp kk s (blockWords (nats b))) s, x < 4294967296
  | [], _, h => h
  | _ :: bs, _, _ => fold_ok bs _ ⟨comp_length _ _ _, comp_lt _ _ _⟩
theorem stOf_ok (bs : List (List UInt8)) : (stOf bs).length = 8 ∧ ∀ x ∈ stOf bs, x < 4294967296 := fold_ok bs hh ⟨rfl, by decide⟩

/-- the nine cells of a Hash -/
def HRow (w : World) (H F : Nat) (st : List Nat) : Prop := w.heap[H]? = some (.cells (.pointer (some ⟨F, 0, none⟩) :: u32s st).toArray 92 (0, 0))
theorem agg8 : ∀ w : World, (isAgg 31).run Tryd.prog w = .ok true w := fun w => by
  unfold isAgg
  rw [Sem.run_bind, run_underlying Tryd.underlying31 w]
  rfl
section
variable {w w' : World} {H F : Nat} {st : List Nat} {M : Nat → Prop}
theorem HRow.lt (h : HRow w H F st) : H < w.heap.size := (Array.getElem?_eq_some_iff.1 h).1
theorem HRow.at_ (h : HRow w H F st) : w.cell? ⟨H, 0, none⟩ = some (.pointer (some ⟨F, 0, none⟩)) := by
  rw [cell_of_row w H 0 _ _ _ h]; rfl
theorem HRow.keep (h : HRow w H F st) (hk : Kept M w w') (hM : ¬ M H) : HRow w' H F st := (hk.block H h.lt hM).trans h
theorem HRow.load (h : HRow w H F st) (hs : st.length = 8) : (loadVar 31 ⟨H, 1, none⟩).run Tryd.prog w = .ok (.agg (wd st)) w := by
  have hl : (loadCells ⟨H, 1, none⟩ (u32s st).length).run Tryd.prog w = .ok (u32s st).toArray w :=
    run_loadCells_list (P := Tryd.prog) w ⟨H, 1, none⟩ (u32s st) (fun j v hv => by
      have hadd : (⟨H, 1, none⟩ : Addr).add j = ⟨H, 1 + j, none⟩ := by unfold Addr.add; split <;> simp_all
      rw [hadd, cell_of_row w H (1 + j) _ _ _ h, Nat.add_comm 1 j]
      simpa using hv)
  rw [u32s_length, hs] at hl
  have hz := size8
  cases hq : Tryd.prog.info? 31 with
  | none => rw [hq] at hz; simp at hz
  | some i =>
    have hsz : i.size = 8 := by rw [hq] at hz; simpa using hz
    simp [loadVar, Sem.run_bind, sizeOf, typeInfo, hq, hsz, hl, wd]
theorem HRow.store (h : HRow w H F st) (hs : st.length = 8) (st' : List Nat) (hs' : st'.length = 8) : ∃ w', (storeVar 31 ⟨H, 1, none⟩ (.agg (wd st'))).run Tryd.prog w = .ok () w' ∧ HRow w' H F st' ∧ Kept (fun k => k = H) w w' := by
  have hone : ∀ v ∈ u32s st', v.oneCell' = true := fun v hv => by simp only [u32s, List.mem_map] at hv; obtain ⟨x, _, rfl⟩ := hv; rfl
  have hst := run_storeCells_at Tryd.prog H 1 92 (u32s st') 0 _ w h (by simp [u32s, hs, hs']) hone
  have hz := size8
  refine ⟨_, ?_, setRow_heap w H _ _ _ (0, 0) h, ⟨rfl, rfl, rfl, by simp, fun k _ hk => setRow_other _ _ _ _ hk⟩⟩
  cases hq : Tryd.prog.info? 31 with
  | none => rw [hq] at hz; simp at hz
  | some i =>
    have hsz : i.size = 8 := by rw [hq] at hz; simpa using hz
    have e : ((Value.pointer (some ⟨F, 0, none⟩) :: u32s st).toArray.toList.take (1 + 0) ++ u32s st' ++ (Value.pointer (some ⟨F, 0, none⟩) :: u32s st).toArray.toList.drop (1 + 0 + (u32s st').length)).toArray = (Value.pointer (some ⟨F, 0, none⟩) :: u32s st').toArray := by
      simp [u32s, hs, hs']
    rw [e] at hst
    have hw : (wd st').size = 8 := by rw [wd_size, hs']
    have hw2 : (u32s st').length = 8 := by rw [u32s_length, hs']
    simpa [storeVar, sizeOf, typeInfo, hq, Value.cells, hsz, hw, hw2, wd] using hst
end

theorem built_eq (p : Value) (st : List Nat) (hs : st.length = 8) : Array.foldl (fun (cs : Array Value) (x : Value × Nat) => cs.setIfInBounds (1 + x.snd) x.fst) #[p, .int .u32 0, .int .u32 0, .int .u32 0, .int .u32 0, .int .u32 0, .int .u32 0, .int .u32 0, .int .u32 0] (wd st).zipIdx 0 (wd st).size = (p :: u32s st).toArray := by
  match st, hs with
  | [_, _, _, _, _, _, _, _], _ => simp [wd, u32s]

/-- a Hash to which these bytes came; all of it lies in blocks from B on and below T -/
structure HashIs (w : World) (B T H : Nat) (X : List UInt8) : Prop where
  ex : ∃ F v l bs, HRow w H F (stOf bs) ∧ FeedRow w F 64 false v X.length ∧ w.ownsRow B 5 1 v l.length (cs l) ∧ Cut 64 false X bs l ∧ B ≤ H ∧ H < T ∧ B ≤ F ∧ F < T ∧ H ≠ F ∧ (∀ k, v.ownBlock = some k → B ≤ k ∧ k < T ∧ k ≠ H ∧ k ≠ F) ∧ T ≤ w.heap.size
section
variable {w w' : World} {B T H : Nat} {X : List UInt8} {M : Nat → Prop}
theorem HashIs.keep (h : HashIs w B T H X) (hk : Kept M w w') (hM : ∀ k, B ≤ k → k < T → ¬ M k) : HashIs w' B T H X := by
  obtain ⟨F, v, l, bs, h1, h2, h3, h4, h5, h6, h7, h8, h9, h10, h11⟩ := h.ex
  exact ⟨F, v, l, bs, h1.keep hk (hM H h5 h6), h2.keep hk (hM F h7 h8), own_kept h3 hk (fun k hk => hM k (h10 k hk).1 (h10 k hk).2.1), h4, h5, h6, h7, h8, h9, h10, Nat.le_trans h11 hk.size⟩
theorem HashIs.below (h : HashIs w B T H X) (hk : Below w.heap.size w w') : HashIs w' B T H X := h.keep (Kept.of_below (M := fun _ => False) hk) fun _ _ _ => id
theorem HashIs.mono (h : HashIs w B T H X) {B' T' : Nat} (hB : B' ≤ B) (hT : T ≤ T') (hs : T' ≤ w.heap.size) : HashIs w B' T' H X := by
  obtain ⟨F, v, l, bs, h1, h2, h3, h4, h5, h6, h7, h8, h9, h10, h11⟩ := h.ex
  exact ⟨F, v, l, bs, h1, h2, own_base h3 (fun k hk => Nat.le_trans hB (h10 k hk).1), h4, by omega, by omega, by omega, by omega, h9, fun k hk => by have := h10 k hk; omega, hs⟩
end

theorem init_any (w : World) : Calls Tryd.prog 48 #[] w fun e w' => e = .returned (.agg (wd hh)) ∧ Below w.heap.size w w' := by
  go_enter Tryd.func48, Tryd.ntmps48
  go_wp2
  have hR : RowAt (w.alloc (.cells (wd hh) 31)) w.heap.size 31 (wd hh) := RowAt.new _ _ _
  refine bodyPost_ret (v := .agg (wd hh)) (results_cell_row rfl _ _ w.heap.size 31 (wd hh) (0, 0) _ rfl hR Tryd.underlying31 rfl size8) rfl ⟨rfl, (Below.refl _ w).alloc (Nat.le_refl _) _⟩

theorem newhash_any (w : World) : Calls Tryd.prog 35 #[] w fun e w' => ∃ H, e = .returned (.pointer (some ⟨H, 0, none⟩)) ∧ HashIs w' w.heap.size w'.heap.size H [] ∧ Below w.heap.size w w' := by
  go_enter Tryd.func35, Tryd.ntmps35
  go_wp2_with fail
  refine (new_good 64 false (by omega) (by omega) w).mono ?_
  rintro e w1 ⟨rfl, hF, hb1⟩
  have HF := Lib.hid hF
  have HB1 := Lib.hid hb1
  clear hF hb1
  go_wp2_with fail
  refine (init_any w1).mono ?_
  rintro e w2 ⟨rfl, hb2⟩
  have HB2 := Lib.hid hb2
  clear hb2
  go_wp2
  rw [built_eq _ hh rfl]
  have hB2 := below_step HB1.out HB2.out
  have hs1 := HF.out.lt
  have hs2 := HB2.out.size
  have hs3 := HB1.out.size
  go_ret
  refine ⟨w2.heap.size, rfl, ⟨⟨w.heap.size, .slice none 0 0, [], [], ?_, (HF.out.below HB2.out).alloc _, World.ownsRow_nil _ _ _ _, Cut.nothing ⟨by simp, by simp⟩, hB2.size, by simp, Nat.le_refl _, by simp; omega, by omega, fun k hk => by simp [Value.ownBlock] at hk, Nat.le_refl _⟩⟩, hB2.alloc hB2.size _⟩
  exact heap_alloc_last w2 _

theorem field0_run (w : World) (H : Nat) (ev : Operand → Value) (x : Operand) (o : Oper) (hop : o.op = .fieldAddr 92 x 0) (hx : ev x = .pointer (some ⟨H, 0, none⟩)) : (execOp ev o).run Tryd.prog w = .ok (.value (.pointer (some ⟨H, 0, none⟩))) w := by
  simp [execOp, hop, hx, go_sem]
theorem field1_run (w : World) (H : Nat) (ev : Operand → Value) (x : Operand) (o : Oper) (hop : o.op = .fieldAddr 92 x 1) (hx : ev x = .pointer (some ⟨H, 0, none⟩)) : (execOp ev o).run Tryd.prog w = .ok (.value (.pointer (some ⟨H, 1, none⟩))) w := by
  simp [execOp, hop, hx, go_sem]
theorem nil_run (w : World) (H : Nat) (ev : Operand → Value) (x : Operand) (o : Oper) (hop : o.op = .nilCheck x) (hx : ev x = .pointer (some ⟨H, 0, none⟩)) : (execOp ev o).run Tryd.prog w = .ok (.value (.pointer (some ⟨H, 0, none⟩))) w := by
  simp [execOp, hop, hx, go_sem]
theorem loadptr_run (w : World) (H F : Nat) (ev : Operand → Value) (x : Operand) (o : Oper) (hop : o.op = .load 87 x) (hx : ev x = .pointer (some ⟨H, 0, none⟩)) (hc : w.cell? ⟨H, 0, none⟩ = some (.pointer (some ⟨F, 0, none⟩))) : (execOp ev o).run Tryd.prog w = .ok (.value (.pointer (some ⟨F, 0, none⟩))) w := by
  simp [execOp, hop, hx, hc, go_sem]
theorem loadarr_run (w : World) (H : Nat) (v : Value) (ev : Operand → Value) (x : Operand) (o : Oper) (hop : o.op = .load 31 x) (hx : ev x = .pointer (some ⟨H, 1, none⟩)) (hc : (loadVar 31 ⟨H, 1, none⟩).run Tryd.prog w = .ok v w) : (execOp ev o).run Tryd.prog w = .ok (.value v) w := by
  simp [execOp, hop, hx, Instr.loadAt, Instr.sureAddr, hc]
theorem build_run (w : World) (F : Nat) (st : List Nat) (hs : st.length = 8) (ev : Operand → Value) (x y : Operand) (o : Oper) (hop : o.op = .build 92 #[(0, x), (1, y)]) (hx : ev x = .pointer (some ⟨F, 0, none⟩)) (hy : ev y = .agg (wd st)) : (execOp ev o).run Tryd.prog w = .ok (.value (.agg (.pointer (some ⟨F, 0, none⟩) :: u32s st).toArray)) w := by
  have hb := built_eq (.pointer (some ⟨F, 0, none⟩)) st hs
  have hsz : (wd st).size = 8 := by rw [wd_size, hs]
  rw [hsz] at hb
  simp [execOp, hop, hx, hy, go_sem, hsz, hb]
theorem box_run (w : World) (F : Nat) (st : List Nat) (ev : Operand → Value) (x : Operand) (o : Oper) (hop : o.op = .box 92 x) (hx : ev x = .agg (.pointer (some ⟨F, 0, none⟩) :: u32s st).toArray) : (execOp ev o).run Tryd.prog w = .ok (.value (.pointer (some ⟨w.heap.size, 0, none⟩))) (w.alloc (.cells (.pointer (some ⟨F, 0, none⟩) :: u32s st).toArray 92)) := by
  simp [execOp, hop, hx, go_sem]
/-- a feed that is nobody else's -/
def FeedAt (N t : Nat) (l : List UInt8) (F : Nat) (w : World) : Prop := N ≤ F ∧ ∃ v, FeedRow w F 64 false v t ∧ w.ownsRow (F + 1) 5 1 v l.length (cs l)
def FeedP (N t : Nat) (l : List UInt8) : Value → World → Prop := fun x w => ∃ F, x = .pointer (some ⟨F, 0, none⟩) ∧ FeedAt N t l F w
def AggP (N t : Nat) (l : List UInt8) (st : List Nat) : Value → World → Prop := fun x w => ∃ F, x = .agg (.pointer (some ⟨F, 0, none⟩) :: u32s st).toArray ∧ FeedAt N t l F w
def HashP (N : Nat) (X : List UInt8) : Value → World → Prop := fun x w => ∃ H T, x = .pointer (some ⟨H, 0, none⟩) ∧ HashIs w N T H X
theorem FeedAt.below {N t F : Nat} {l : List UInt8} {w w' : World} (h : FeedAt N t l F w) (hb : Below w.heap.size w w') : FeedAt N t l F w' := by
  obtain ⟨h0, v, h1, h2⟩ := h
  exact ⟨h0, v, h1.below hb, own_kept (M := fun _ => False) h2 (Kept.of_below hb) fun _ _ => id⟩
theorem stable_feed (N t : Nat) (l : List UInt8) : Stable (FeedP N t l) := fun _ _ _ ⟨F, e, h⟩ hb => ⟨F, e, h.below hb⟩
theorem stable_agg (N t : Nat) (l : List UInt8) (st : List Nat) : Stable (AggP N t l st) := fun _ _ _ ⟨F, e, h⟩ hb => ⟨F, e, h.below hb⟩
theorem stable_hash (N : Nat) (X : List UInt8) : Stable (HashP N X) := fun _ _ _ ⟨H, T, e, h⟩ hb => ⟨H, T, e, h.below hb⟩
theorem hash_new {N F : Nat} {X l : List UInt8} {bs : List (List UInt8)} {w : World} (h : FeedAt N X.length l F w) (hc : Cut 64 false X bs l) :
    HashP N X (.pointer (some ⟨w.heap.size, 0, none⟩)) (w.alloc (.cells (.pointer (some ⟨F, 0, none⟩) :: u32s (stOf bs)).toArray 92)) := by
  obtain ⟨h0, v, h1, h2⟩ := h
  have hF := h1.lt
  have hv : ∀ k, v.ownBlock = some k → F + 1 ≤ k ∧ k < w.heap.size := fun k hk => h2.lt k hk
  refine ⟨w.heap.size, w.heap.size + 1, rfl, ⟨⟨F, v, l, bs, heap_alloc_last w _, h1.alloc _, own_base (h2.alloc _) (fun k hk => by have := hv k hk; omega), hc, by omega, by omega, h0, by omega, by omega, fun k hk => by have := hv k hk; omega, by simp⟩⟩⟩
theorem box_does {N F : Nat} {X : List UInt8} {st : List Nat} {w : World} {o : Oper} {a : Act} {Q : Exit → Act → World → Prop} {x : Operand} (ho : o.op = .box 92 x) (hx : a.eval x = .agg (.pointer (some ⟨F, 0, none⟩) :: u32s st).toArray)
    (h : HashP N X (.pointer (some ⟨w.heap.size, 0, none⟩)) (w.alloc (.cells (.pointer (some ⟨F, 0, none⟩) :: u32s st).toArray 92))) : Does Tryd.prog (HashP N X) o a w Q := by
  unfold Does Oper.wp
  rw [box_run w F st _ _ _ ho hx]
  exact ⟨_, rfl, h, (Below.refl _ _).alloc (Nat.le_refl _) _⟩

set_option maxHeartbeats 1600000 in
theorem clone_any2 (w : World) (B T H : Nat) (X : List UInt8) (h : HashIs w B T H X) : Calls Tryd.prog 42 #[.pointer (some ⟨H, 0, none⟩)] w fun e w' => ∃ H', e = .returned (.pointer (some ⟨H', 0, none⟩)) ∧ HashIs w' w.heap.size w'.heap.size H' X ∧ Below w.heap.size w w' := by
  obtain ⟨F, v, l, bs, h1, h2, h3, h4, h5, h6, h7, h8, h9, h10, h11⟩ := h.ex
  obtain ⟨N, hN⟩ : ∃ N, N = w.heap.size := ⟨_, rfl⟩
  have hl : l.length ≤ 64 := h4.held.1
  have KP := Lib.hid fun (w1 : World) (hb : Below w.heap.size w w1) => show w1.cell? ⟨H, 0, none⟩ = some (.pointer (some ⟨F, 0, none⟩)) ∧ (loadVar 31 ⟨H, 1, none⟩).run Tryd.prog w1 = .ok (.agg (wd (stOf bs))) w1 ∧
      Calls Tryd.prog 55 #[.pointer (some ⟨F, 0, none⟩)] w1 fun e w' => ∃ x, e = .returned x ∧ FeedP N X.length l x w' ∧ Below w1.heap.size w1 w' from by
    have k1 : HRow w1 H F (stOf bs) := h1.keep (Kept.of_below (M := fun _ => False) hb) id
    refine ⟨k1.at_, k1.load (stOf_ok bs).1, ?_⟩
    refine (copy_any w1 (h2.below hb) l.length l (own_kept (M := fun _ => False) h3 (Kept.of_below hb) fun _ _ => id) (by omega)).mono ?_
    rintro e w' ⟨v', rfl, g1, g2, g3⟩
    exact ⟨_, rfl, ⟨w1.heap.size, rfl, by rw [hN]; exact hb.size, v', g1, g2⟩, g3⟩
  have HC := Lib.hid h4
  have HN := Lib.hid hN
  clear h h1 h2 h3 h4 h5 h6 h7 h8 h9 h10 h11 hN
  go_enter Tryd.func42, Tryd.ntmps42
  go_wp2
  refine wp_region_text [Is (.pointer (some ⟨H, 0, none⟩)), Is (.pointer (some ⟨H, 0, none⟩)), Is (.pointer (some ⟨H, 0, none⟩)), Is (.pointer (some ⟨F, 0, none⟩)), FeedP N X.length l, Is (.pointer (some ⟨H, 0, none⟩)), Is (.pointer (some ⟨H, 0, none⟩)), Is (.pointer (some ⟨H, 1, none⟩)), Is (.agg (wd (stOf bs))), AggP N X.length l (stOf bs), HashP N X, HashP N X] (by kernel_rfl) (by kernel_rfl) rfl ⟨stable_is _, stable_is _, stable_is _, stable_is _, stable_feed _ _ _, stable_is _, stable_is _, stable_is _, stable_is _, stable_agg _ _ _ _, stable_hash _ _, stable_hash _ _, trivial⟩ ⟨?_, ?_, ?_, ?_, ?_, ?_, ?_, ?_, ?_, ?_, ?_, ?_, trivial⟩ ?_
  · intro a w C
    exact part_on (wanted_free rfl _) (op_move (.inl rfl) (C.was 0 (by kernel_rfl)))
  · intro a w C
    exact part_on (wanted_free rfl _) (op_value (nil_run _ _ _ _ _ rfl (C.on (j := 0) (by kernel_rfl) rfl rfl)) rfl)
  · intro a w C
    exact part_on (wanted_free rfl _) (op_value (field0_run _ _ _ _ _ rfl (C.on (j := 1) (by kernel_rfl) rfl rfl)) rfl)
  · intro a w C
    exact part_on (wanted_free rfl _) (op_value (loadptr_run _ _ F _ _ _ rfl (C.on (j := 2) (by kernel_rfl) rfl rfl) ((KP.out w C.below).1)) rfl)
  · intro a w C
    exact part_on (wanted_free rfl _) (op_call1 rfl (reg_enters Tryd.func55 (by kernel_rfl) (by kernel_rfl)) (C.on (j := 3) (by kernel_rfl) rfl rfl) ((KP.out w C.below).2.2))
  · intro a w C
    exact part_on (wanted_free rfl _) (op_move (.inl rfl) (C.was 0 (by kernel_rfl)))
  · intro a w C
    exact part_on (wanted_free rfl _) (op_value (nil_run _ _ _ _ _ rfl (C.on (j := 5) (by kernel_rfl) rfl rfl)) rfl)
  · intro a w C
    exact part_on (wanted_free rfl _) (op_value (field1_run _ _ _ _ _ rfl (C.on (j := 6) (by kernel_rfl) rfl rfl)) rfl)
  · intro a w C
    exact part_on (wanted_free rfl _) (op_value (loadarr_run _ _ _ _ _ _ rfl (C.on (j := 7) (by kernel_rfl) rfl rfl) ((KP.out w C.below).2.1)) rfl)
  · intro a w C
    obtain ⟨F', e9, hp9⟩ : FeedP N X.length l _ _ := (C.on (j := 4) (by kernel_rfl) rfl rfl)
    exact part_on (wanted_free rfl _) (op_value (build_run w F' _ (stOf_ok bs).1 _ _ _ _ rfl e9 (C.on (j := 8) (by kernel_rfl) rfl rfl)) ⟨F', rfl, hp9⟩)
  · intro a w C
    obtain ⟨F', e14, hp14⟩ : AggP N X.length l (stOf bs) _ _ := (C.on (j := 9) (by kernel_rfl) rfl rfl)
    exact part_on (wanted_free rfl _) (box_does rfl e14 (hash_new hp14 HC.out))
  · intro a w C
    exact part_on (wanted_free rfl _) (op_move (.inr rfl) (C.on (j := 10) (by kernel_rfl) rfl rfl))
  rintro wF hbF _ rfl _ rfl _ rfl _ rfl x9 hx9 _ rfl _ rfl _ rfl _ rfl x14 hx14 x15 hx15 x2 hx2
  simp only [Fin, setAt, Exit.then, List.setIfInBounds_toArray, List.set_cons_succ, List.set_cons_zero]
  obtain ⟨H', T', rfl, hh⟩ := hx2
  go_wp2
  go_ret
  exact ⟨H', rfl, (HN.out ▸ hh).mono (Nat.le_refl _) (by obtain ⟨_, _, _, _, _, _, _, _, _, _, _, _, _, _, h⟩ := hh.ex; exact h) (Nat.le_refl _), hbF⟩
end Go.Proofs.YtebocfbnamcnoaaDoor

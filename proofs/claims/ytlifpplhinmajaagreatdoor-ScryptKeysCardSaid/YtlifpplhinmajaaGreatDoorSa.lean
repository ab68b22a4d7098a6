/- A Hash in memory: its feed and its state; New, Add, Clone by their contracts. Conditions: those typed. Add of package sha by its contract: a Hash to which more bytes come. Conditions: those typed. Sum and Of of package sha by their contracts: the sum of all that came. Conditions: those typed. Of of package sha by its contract, the chapter's example, and what a nil Hash answers. Condition: the package's table lies at its place. The law ShParts, for every list of texts and every int. Conditions: each text is no longer than what may come in; the package's table lies at its place. -/
import Derived.Test.YtlifpplhinmajaaGreatDoorShComp
import Derived.Test.YtlifpplhinmajaaGreatDoorShPad
import Derived.Test.YtlifpplhinmajaaGreatDoorFd
import Derived.Test.YtlifpplhinmajaaGreatDoorGen
import Derived.Test.YtlifpplhinmajaaGreatDoorWb
import Derived.Test.YtlifpplhinmajaaGreatDoorFh
namespace Go.Proofs.YtlifpplhinmajaaGreatDoor
set_option maxRecDepth 50000
open Go.RowKit Sha

def nats (b : List UInt8) : List Nat := b.map UInt8.toNat
theorem cs_nats (b : List UInt8) : cs b = u8s (nats b) := by simp [cs, u8s, nats]
theorem nats_lt (b : List UInt8) : ∀ x ∈ nats b, x < 256 := by
  intro x hx
  obtain ⟨y, _, rfl⟩ := List.mem_map.1 hx
  exact y.toNat_lt
theorem nats_length (b : List UInt8) : (nats b).length = b.length := by simp [nats]
/-- the state behind these blocks -/
def stOf (bs : List (List UInt8)) : List Nat := bs.foldl (fun s b => comp kk s (blockWords (nats b))) hh
theorem stOf_snoc (bs : List (List UInt8)) (b : List UInt8) : stOf (bs ++ [b]) = comp kk (stOf bs) (blockWords (nats b)) := by simp [stOf, List.foldl_append]
theorem fold_ok : ∀ (bs : List (List UInt8)) (s : List Nat), s.length = 8 ∧ (∀ x ∈ s, x < 4294967296) → (bs.foldl (fun s b => comp kk s (blockWords (nats b))) s).length = 8 ∧ ∀ x ∈ bs.foldl (fun s b => comp kk s (blockWords (nats b))) s, x < 4294967296
  | [], _, h => h
  | _ :: bs, _, _ => fold_ok bs _ ⟨comp_length _ _ _, comp_lt _ _ _⟩
theorem stOf_ok (bs : List (List UInt8)) : (stOf bs).length = 8 ∧ ∀ x ∈ stOf bs, x < 4294967296 := fold_ok bs hh ⟨rfl, by decide⟩

/-- the nine cells of a Hash -/
def HRow (w : World) (H F : Nat) (st : List Nat) : Prop := w.heap[H]? = some (.cells (.pointer (some ⟨F, 0, none⟩) :: u32s st).toArray 162 (0, 0))
theorem agg8 : ∀ w : World, (isAgg 38).run Tryz.prog w = .ok true w := fun w => by
  unfold isAgg
  rw [Sem.run_bind, run_underlying Tryz.underlying38 w]
  rfl
section
variable {w w' : World} {H F : Nat} {st : List Nat} {M : Nat → Prop}
theorem HRow.lt (h : HRow w H F st) : H < w.heap.size := (Array.getElem?_eq_some_iff.1 h).1
theorem HRow.at_ (h : HRow w H F st) : w.cell? ⟨H, 0, none⟩ = some (.pointer (some ⟨F, 0, none⟩)) := by
  rw [cell_of_row w H 0 _ _ _ h]; rfl
theorem HRow.keep (h : HRow w H F st) (hk : Kept M w w') (hM : ¬ M H) : HRow w' H F st := (hk.block H h.lt hM).trans h
theorem HRow.load (h : HRow w H F st) (hs : st.length = 8) : (loadVar 38 ⟨H, 1, none⟩).run Tryz.prog w = .ok (.agg (wd st)) w := by
  have hl : (loadCells ⟨H, 1, none⟩ (u32s st).length).run Tryz.prog w = .ok (u32s st).toArray w :=
    run_loadCells_list (P := Tryz.prog) w ⟨H, 1, none⟩ (u32s st) (fun j v hv => by
      have hadd : (⟨H, 1, none⟩ : Addr).add j = ⟨H, 1 + j, none⟩ := by unfold Addr.add; split <;> simp_all
      rw [hadd, cell_of_row w H (1 + j) _ _ _ h, Nat.add_comm 1 j]
      simpa using hv)
  rw [u32s_length, hs] at hl
  have hz := size8
  cases hq : Tryz.prog.info? 38 with
  | none => rw [hq] at hz; simp at hz
  | some i =>
    have hsz : i.size = 8 := by rw [hq] at hz; simpa using hz
    simp [loadVar, Sem.run_bind, sizeOf, typeInfo, hq, hsz, hl, wd]
theorem HRow.store (h : HRow w H F st) (hs : st.length = 8) (st' : List Nat) (hs' : st'.length = 8) : ∃ w', (storeVar 38 ⟨H, 1, none⟩ (.agg (wd st'))).run Tryz.prog w = .ok () w' ∧ HRow w' H F st' ∧ Kept (fun k => k = H) w w' := by
  have hone : ∀ v ∈ u32s st', v.oneCell' = true := fun v hv => by simp only [u32s, List.mem_map] at hv; obtain ⟨x, _, rfl⟩ := hv; rfl
  have hst := run_storeCells_at Tryz.prog H 1 162 (u32s st') 0 _ w h (by simp [u32s, hs, hs']) hone
  have hz := size8
  refine ⟨_, ?_, setRow_heap w H _ _ _ (0, 0) h, ⟨rfl, rfl, rfl, by simp, fun k _ hk => setRow_other _ _ _ _ hk⟩⟩
  cases hq : Tryz.prog.info? 38 with
  | none => rw [hq] at hz; simp at hz
  | some i =>
    have hsz : i.size = 8 := by rw [hq] at hz; simpa using hz
    have e : ((Value.pointer (some ⟨F, 0, none⟩) :: u32s st).toArray.toList.take (1 + 0) ++ u32s st' ++ (Value.pointer (some ⟨F, 0, none⟩) :: u32s st).toArray.toList.drop (1 + 0 + (u32s st').length)).toArray = (Value.pointer (some ⟨F, 0, none⟩) :: u32s st').toArray := by
      simp [u32s, hs, hs']
    rw [e] at hst
    have hw : (wd st').size = 8 := by rw [wd_size, hs']
    have hw2 : (u32s st').length = 8 := by rw [u32s_length, hs']
    simpa [storeVar, sizeOf, typeInfo, hq, Value.cells, hsz, hw, hw2, wd] using hst
end

theorem built_eq (p : Value) (st : List Nat) (hs : st.length = 8) : Array.foldl (fun (cs : Array Value) (x : Value × Nat) => cs.setIfInBounds (1 + x.snd) x.fst) #[p, .int .u32 0, .int .u32 0, .int .u32 0, .int .u32 0, .int .u32 0, .int .u32 0, .int .u32 0, .int .u32 0] (wd st).zipIdx 0 (wd st).size = (p :: u32s st).toArray := by
  match st, hs with
  | [_, _, _, _, _, _, _, _], _ => simp [wd, u32s]

/-- a Hash to which these bytes came; all of it lies in blocks from B on and below T -/
structure HashIs (w : World) (B T H : Nat) (X : List UInt8) : Prop where
  ex : ∃ F v l bs, HRow w H F (stOf bs) ∧ FeedRow w F 64 false v X.length ∧ w.ownsRow B 5 1 v l.length (cs l) ∧ Cut 64 false X bs l ∧ B ≤ H ∧ H < T ∧ B ≤ F ∧ F < T ∧ H ≠ F ∧ (∀ k, v.ownBlock = some k → B ≤ k ∧ k < T ∧ k ≠ H ∧ k ≠ F) ∧ T ≤ w.heap.size
section
variable {w w' : World} {B T H : Nat} {X : List UInt8} {M : Nat → Prop}
theorem HashIs.keep (h : HashIs w B T H X) (hk : Kept M w w') (hM : ∀ k, B ≤ k → k < T → ¬ M k) : HashIs w' B T H X := by
  obtain ⟨F, v, l, bs, h1, h2, h3, h4, h5, h6, h7, h8, h9, h10, h11⟩ := h.ex
  exact ⟨F, v, l, bs, h1.keep hk (hM H h5 h6), h2.keep hk (hM F h7 h8), own_kept h3 hk (fun k hk => hM k (h10 k hk).1 (h10 k hk).2.1), h4, h5, h6, h7, h8, h9, h10, Nat.le_trans h11 hk.size⟩
theorem HashIs.below (h : HashIs w B T H X) (hk : Below w.heap.size w w') : HashIs w' B T H X := h.keep (Kept.of_below (M := fun _ => False) hk) fun _ _ _ => id
theorem HashIs.mono (h : HashIs w B T H X) {B' T' : Nat} (hB : B' ≤ B) (hT : T ≤ T') (hs : T' ≤ w.heap.size) : HashIs w B' T' H X := by
  obtain ⟨F, v, l, bs, h1, h2, h3, h4, h5, h6, h7, h8, h9, h10, h11⟩ := h.ex
  exact ⟨F, v, l, bs, h1, h2, own_base h3 (fun k hk => Nat.le_trans hB (h10 k hk).1), h4, by omega, by omega, by omega, by omega, h9, fun k hk => by have := h10 k hk; omega, hs⟩
end

theorem init_any (w : World) : Calls Tryz.prog 106 #[] w fun e w' => e = .returned (.agg (wd hh)) ∧ Below w.heap.size w w' := by
  go_enter Tryz.func106, Tryz.ntmps106
  go_wp2
  have hR : RowAt (w.alloc (.cells (wd hh) 38)) w.heap.size 38 (wd hh) := RowAt.new _ _ _
  refine bodyPost_ret (v := .agg (wd hh)) (results_cell_row rfl _ _ w.heap.size 38 (wd hh) (0, 0) _ rfl hR Tryz.underlying38 rfl size8) rfl ⟨rfl, (Below.refl _ w).alloc (Nat.le_refl _) _⟩

theorem newhash_any (w : World) : Calls Tryz.prog 84 #[] w fun e w' => ∃ H, e = .returned (.pointer (some ⟨H, 0, none⟩)) ∧ HashIs w' w.heap.size w'.heap.size H [] ∧ Below w.heap.size w w' := by
  go_enter Tryz.func84, Tryz.ntmps84
  go_wp2_with fail
  refine (new_good 64 false (by omega) (by omega) w).mono ?_
  rintro e w1 ⟨rfl, hF, hb1⟩
  have HF := Lib.hid hF
  have HB1 := Lib.hid hb1
  clear hF hb1
  go_wp2_with fail
  refine (init_any w1).mono ?_
  rintro e w2 ⟨rfl, hb2⟩
  have HB2 := Lib.hid hb2
  clear hb2
  go_wp2
  rw [built_eq _ hh rfl]
  have hB2 := below_step HB1.out HB2.out
  have hs1 := HF.out.lt
  have hs2 := HB2.out.size
  have hs3 := HB1.out.size
  go_ret
  refine ⟨w2.heap.size, rfl, ⟨⟨w.heap.size, .slice none 0 0, [], [], ?_, (HF.out.below HB2.out).alloc _, World.ownsRow_nil _ _ _ _, Cut.nothing ⟨by simp, by simp⟩, hB2.size, by simp, Nat.le_refl _, by simp; omega, by omega, fun k hk => by simp [Value.ownBlock] at hk, Nat.le_refl _⟩⟩, hB2.alloc hB2.size _⟩
  exact heap_alloc_last w2 _

theorem field0_run (w : World) (H : Nat) (ev : Operand → Value) (x : Operand) (o : Oper) (hop : o.op = .fieldAddr 162 x 0) (hx : ev x = .pointer (some ⟨H, 0, none⟩)) : (execOp ev o).run Tryz.prog w = .ok (.value (.pointer (some ⟨H, 0, none⟩))) w := by
  simp [execOp, hop, hx, go_sem]
theorem field1_run (w : World) (H : Nat) (ev : Operand → Value) (x : Operand) (o : Oper) (hop : o.op = .fieldAddr 162 x 1) (hx : ev x = .pointer (some ⟨H, 0, none⟩)) : (execOp ev o).run Tryz.prog w = .ok (.value (.pointer (some ⟨H, 1, none⟩))) w := by
  simp [execOp, hop, hx, go_sem]
theorem nil_run (w : World) (H : Nat) (ev : Operand → Value) (x : Operand) (o : Oper) (hop : o.op = .nilCheck x) (hx : ev x = .pointer (some ⟨H, 0, none⟩)) : (execOp ev o).run Tryz.prog w = .ok (.value (.pointer (some ⟨H, 0, none⟩))) w := by
  simp [execOp, hop, hx, go_sem]
theorem loadptr_run (w : World) (H F : Nat) (ev : Operand → Value) (x : Operand) (o : Oper) (hop : o.op = .load 157 x) (hx : ev x = .pointer (some ⟨H, 0, none⟩)) (hc : w.cell? ⟨H, 0, none⟩ = some (.pointer (some ⟨F, 0, none⟩))) : (execOp ev o).run Tryz.prog w = .ok (.value (.pointer (some ⟨F, 0, none⟩))) w := by
  simp [execOp, hop, hx, hc, go_sem]
theorem loadarr_run (w : World) (H : Nat) (v : Value) (ev : Operand → Value) (x : Operand) (o : Oper) (hop : o.op = .load 38 x) (hx : ev x = .pointer (some ⟨H, 1, none⟩)) (hc : (loadVar 38 ⟨H, 1, none⟩).run Tryz.prog w = .ok v w) : (execOp ev o).run Tryz.prog w = .ok (.value v) w := by
  simp [execOp, hop, hx, Instr.loadAt, Instr.sureAddr, hc]
theorem build_run (w : World) (F : Nat) (st : List Nat) (hs : st.length = 8) (ev : Operand → Value) (x y : Operand) (o : Oper) (hop : o.op = .build 162 #[(0, x), (1, y)]) (hx : ev x = .pointer (some ⟨F, 0, none⟩)) (hy : ev y = .agg (wd st)) : (execOp ev o).run Tryz.prog w = .ok (.value (.agg (.pointer (some ⟨F, 0, none⟩) :: u32s st).toArray)) w := by
  have hb := built_eq (.pointer (some ⟨F, 0, none⟩)) st hs
  have hsz : (wd st).size = 8 := by rw [wd_size, hs]
  rw [hsz] at hb
  simp [execOp, hop, hx, hy, go_sem, hsz, hb]
theorem box_run (w : World) (F : Nat) (st : List Nat) (ev : Operand → Value) (x : Operand) (o : Oper) (hop : o.op = .box 162 x) (hx : ev x = .agg (.pointer (some ⟨F, 0, none⟩) :: u32s st).toArray) : (execOp ev o).run Tryz.prog w = .ok (.value (.pointer (some ⟨w.heap.size, 0, none⟩))) (w.alloc (.cells (.pointer (some ⟨F, 0, none⟩) :: u32s st).toArray 162)) := by
  simp [execOp, hop, hx, go_sem]
/-- a feed that is nobody else's -/
def FeedAt (N t : Nat) (l : List UInt8) (F : Nat) (w : World) : Prop := N ≤ F ∧ ∃ v, FeedRow w F 64 false v t ∧ w.ownsRow (F + 1) 5 1 v l.length (cs l)
def FeedP (N t : Nat) (l : List UInt8) : Value → World → Prop := fun x w => ∃ F, x = .pointer (some ⟨F, 0, none⟩) ∧ FeedAt N t l F w
def AggP (N t : Nat) (l : List UInt8) (st : List Nat) : Value → World → Prop := fun x w => ∃ F, x = .agg (.pointer (some ⟨F, 0, none⟩) :: u32s st).toArray ∧ FeedAt N t l F w
def HashP (N : Nat) (X : List UInt8) : Value → World → Prop := fun x w => ∃ H T, x = .pointer (some ⟨H, 0, none⟩) ∧ HashIs w N T H X
theorem FeedAt.below {N t F : Nat} {l : List UInt8} {w w' : World} (h : FeedAt N t l F w) (hb : Below w.heap.size w w') : FeedAt N t l F w' := by
  obtain ⟨h0, v, h1, h2⟩ := h
  exact ⟨h0, v, h1.below hb, own_kept (M := fun _ => False) h2 (Kept.of_below hb) fun _ _ => id⟩
theorem stable_feed (N t : Nat) (l : List UInt8) : Stable (FeedP N t l) := fun _ _ _ ⟨F, e, h⟩ hb => ⟨F, e, h.below hb⟩
theorem stable_agg (N t : Nat) (l : List UInt8) (st : List Nat) : Stable (AggP N t l st) := fun _ _ _ ⟨F, e, h⟩ hb => ⟨F, e, h.below hb⟩
theorem stable_hash (N : Nat) (X : List UInt8) : Stable (HashP N X) := fun _ _ _ ⟨H, T, e, h⟩ hb => ⟨H, T, e, h.below hb⟩
theorem hash_new {N F : Nat} {X l : List UInt8} {bs : List (List UInt8)} {w : World} (h : FeedAt N X.length l F w) (hc : Cut 64 false X bs l) :
    HashP N X (.pointer (some ⟨w.heap.size, 0, none⟩)) (w.alloc (.cells (.pointer (some ⟨F, 0, none⟩) :: u32s (stOf bs)).toArray 162)) := by
  obtain ⟨h0, v, h1, h2⟩ := h
  have hF := h1.lt
  have hv : ∀ k, v.ownBlock = some k → F + 1 ≤ k ∧ k < w.heap.size := fun k hk => h2.lt k hk
  refine ⟨w.heap.size, w.heap.size + 1, rfl, ⟨⟨F, v, l, bs, heap_alloc_last w _, h1.alloc _, own_base (h2.alloc _) (fun k hk => by have := hv k hk; omega), hc, by omega, by omega, h0, by omega, by omega, fun k hk => by have := hv k hk; omega, by simp⟩⟩⟩
theorem box_does {N F : Nat} {X : List UInt8} {st : List Nat} {w : World} {o : Oper} {a : Act} {Q : Exit → Act → World → Prop} {x : Operand} (ho : o.op = .box 162 x) (hx : a.eval x = .agg (.pointer (some ⟨F, 0, none⟩) :: u32s st).toArray)
    (h : HashP N X (.pointer (some ⟨w.heap.size, 0, none⟩)) (w.alloc (.cells (.pointer (some ⟨F, 0, none⟩) :: u32s st).toArray 162))) : Does Tryz.prog (HashP N X) o a w Q := by
  unfold Does Oper.wp
  rw [box_run w F st _ _ _ ho hx]
  exact ⟨_, rfl, h, (Below.refl _ _).alloc (Nat.le_refl _) _⟩

set_option maxHeartbeats 1600000 in
theorem clone_any2 (w : World) (B T H : Nat) (X : List UInt8) (h : HashIs w B T H X) : Calls Tryz.prog 109 #[.pointer (some ⟨H, 0, none⟩)] w fun e w' => ∃ H', e = .returned (.pointer (some ⟨H', 0, none⟩)) ∧ HashIs w' w.heap.size w'.heap.size H' X ∧ Below w.heap.size w w' := by
  obtain ⟨F, v, l, bs, h1, h2, h3, h4, h5, h6, h7, h8, h9, h10, h11⟩ := h.ex
  obtain ⟨N, hN⟩ : ∃ N, N = w.heap.size := ⟨_, rfl⟩
  have hl : l.length ≤ 64 := h4.held.1
  have KP := Lib.hid fun (w1 : World) (hb : Below w.heap.size w w1) => show w1.cell? ⟨H, 0, none⟩ = some (.pointer (some ⟨F, 0, none⟩)) ∧ (loadVar 38 ⟨H, 1, none⟩).run Tryz.prog w1 = .ok (.agg (wd (stOf bs))) w1 ∧
      Calls Tryz.prog 126 #[.pointer (some ⟨F, 0, none⟩)] w1 fun e w' => ∃ x, e = .returned x ∧ FeedP N X.length l x w' ∧ Below w1.heap.size w1 w' from by
    have k1 : HRow w1 H F (stOf bs) := h1.keep (Kept.of_below (M := fun _ => False) hb) id
    refine ⟨k1.at_, k1.load (stOf_ok bs).1, ?_⟩
    refine (copy_any w1 (h2.below hb) l.length l (own_kept (M := fun _ => False) h3 (Kept.of_below hb) fun _ _ => id) (by omega)).mono ?_
    rintro e w' ⟨v', rfl, g1, g2, g3⟩
    exact ⟨_, rfl, ⟨w1.heap.size, rfl, by rw [hN]; exact hb.size, v', g1, g2⟩, g3⟩
  have HC := Lib.hid h4
  have HN := Lib.hid hN
  clear h h1 h2 h3 h4 h5 h6 h7 h8 h9 h10 h11 hN
  go_enter Tryz.func109, Tryz.ntmps109
  go_wp2
  refine wp_region_text [Is (.pointer (some ⟨H, 0, none⟩)), Is (.pointer (some ⟨H, 0, none⟩)), Is (.pointer (some ⟨H, 0, none⟩)), Is (.pointer (some ⟨F, 0, none⟩)), FeedP N X.length l, Is (.pointer (some ⟨H, 0, none⟩)), Is (.pointer (some ⟨H, 0, none⟩)), Is (.pointer (some ⟨H, 1, none⟩)), Is (.agg (wd (stOf bs))), AggP N X.length l (stOf bs), HashP N X, HashP N X] (by kernel_rfl) (by kernel_rfl) rfl ⟨stable_is _, stable_is _, stable_is _, stable_is _, stable_feed _ _ _, stable_is _, stable_is _, stable_is _, stable_is _, stable_agg _ _ _ _, stable_hash _ _, stable_hash _ _, trivial⟩ ⟨?_, ?_, ?_, ?_, ?_, ?_, ?_, ?_, ?_, ?_, ?_, ?_, trivial⟩ ?_
  · intro a w C
    exact part_on (wanted_free rfl _) (op_move (.inl rfl) (C.was 0 (by kernel_rfl)))
  · intro a w C
    exact part_on (wanted_free rfl _) (op_value (nil_run _ _ _ _ _ rfl (C.on (j := 0) (by kernel_rfl) rfl rfl)) rfl)
  · intro a w C
    exact part_on (wanted_free rfl _) (op_value (field0_run _ _ _ _ _ rfl (C.on (j := 1) (by kernel_rfl) rfl rfl)) rfl)
  · intro a w C
    exact part_on (wanted_free rfl _) (op_value (loadptr_run _ _ F _ _ _ rfl (C.on (j := 2) (by kernel_rfl) rfl rfl) ((KP.out w C.below).1)) rfl)
  · intro a w C
    exact part_on (wanted_free rfl _) (op_call1 rfl (reg_enters Tryz.func126 (by kernel_rfl) (by kernel_rfl)) (C.on (j := 3) (by kernel_rfl) rfl rfl) ((KP.out w C.below).2.2))
  · intro a w C
    exact part_on (wanted_free rfl _) (op_move (.inl rfl) (C.was 0 (by kernel_rfl)))
  · intro a w C
    exact part_on (wanted_free rfl _) (op_value (nil_run _ _ _ _ _ rfl (C.on (j := 5) (by kernel_rfl) rfl rfl)) rfl)
  · intro a w C
    exact part_on (wanted_free rfl _) (op_value (field1_run _ _ _ _ _ rfl (C.on (j := 6) (by kernel_rfl) rfl rfl)) rfl)
  · intro a w C
    exact part_on (wanted_free rfl _) (op_value (loadarr_run _ _ _ _ _ _ rfl (C.on (j := 7) (by kernel_rfl) rfl rfl) ((KP.out w C.below).2.1)) rfl)
  · intro a w C
    obtain ⟨F', e9, hp9⟩ : FeedP N X.length l _ _ := (C.on (j := 4) (by kernel_rfl) rfl rfl)
    exact part_on (wanted_free rfl _) (op_value (build_run w F' _ (stOf_ok bs).1 _ _ _ _ rfl e9 (C.on (j := 8) (by kernel_rfl) rfl rfl)) ⟨F', rfl, hp9⟩)
  · intro a w C
    obtain ⟨F', e14, hp14⟩ : AggP N X.length l (stOf bs) _ _ := (C.on (j := 9) (by kernel_rfl) rfl rfl)
    exact part_on (wanted_free rfl _) (box_does rfl e14 (hash_new hp14 HC.out))
  · intro a w C
    exact part_on (wanted_free rfl _) (op_move (.inr rfl) (C.on (j := 10) (by kernel_rfl) rfl rfl))
  rintro wF hbF _ rfl _ rfl _ rfl _ rfl x9 hx9 _ rfl _ rfl _ rfl _ rfl x14 hx14 x15 hx15 x2 hx2
  simp only [Fin, setAt, Exit.then, List.setIfInBounds_toArray, List.set_cons_succ, List.set_cons_zero]
  obtain ⟨H', T', rfl, hh⟩ := hx2
  go_wp2
  go_ret
  exact ⟨H', rfl, (HN.out ▸ hh).mono (Nat.le_refl _) (by obtain ⟨_, _, _, _, _, _, _, _, _, _, _, _, _, _, h⟩ := hh.ex; exact h) (Nat.le_refl _), hbF⟩
end Go.Proofs.YtlifpplhinmajaaGreatDoor

namespace Go.Proofs.YtlifpplhinmajaaGreatDoor
set_option maxRecDepth 50000
open Go.RowKit Sha

set_option maxHeartbeats 1600000 in
theorem addhash_any (w : World) (B T H : Nat) (X : List UInt8) (h : HashIs w B T H X) (hk : KAt w) (hB : 0 < B) (A : Option Addr) (c : Nat) (ps : List ByteArray)
    (hp : ∀ k, (hk : k < (stv ps).length) → ∃ b off, A = some ⟨b, off, none⟩ ∧ b < w.heap.size ∧ (b < B ∨ T ≤ b ∨ ∃ cs fz, w.heap[b]? = some (.cells cs 9 fz)) ∧ w.cell? ⟨b, off + k, none⟩ = some (stv ps)[k]) (hlen : X.length + (jn ps).length ≤ 1000000) (hps : ps.length ≤ 1000000) :
    Calls Tryz.prog 85 #[.pointer (some ⟨H, 0, none⟩), .slice A ps.length c] w fun e w' => e = .returned (.pointer (some ⟨H, 0, none⟩)) ∧ HashIs w' B w'.heap.size H (X ++ jn ps) ∧ Below B w w' := by
  obtain ⟨F, v, l, bs, h1, h2, h3, h4, h5, h6, h7, h8, h9, h10, h11⟩ := h.ex
  have hM : ∀ k, Mine F v k → B ≤ k ∧ k < T ∧ k ≠ H := by
    rintro k (rfl | hk)
    · exact ⟨h7, h8, fun e => h9 e.symm⟩
    · obtain ⟨a1, a2, a3, _⟩ := h10 k hk; exact ⟨a1, a2, a3⟩
  have CP := Lib.hid (put_any F 64 X.length false v l A c ps w h2 h3 (by omega) (fun k hk => (h10 k hk).2.2.2) (by omega) (by omega) h4.held (fun k hk => by
    obtain ⟨b, off, e, g1, g2, g3⟩ := hp k hk
    refine ⟨b, off, e, g1, fun hm => ?_, g3⟩
    rcases g2 with g2 | g2 | ⟨cs', fz, g2⟩
    · have := hM b hm; omega
    · have := hM b hm; omega
    · rcases hm with rfl | hm
      · unfold FeedRow at h2; rw [h2] at g2; cases g2
      · rcases h3.2 with ⟨e3, _⟩ | ⟨g, cap, cur, e3, _, hg, _⟩
        · rw [e3] at hm; cases hm
        · rw [e3] at hm; cases hm; rw [hg] at g2; cases g2) hlen hps)
  have c0 := h1.at_
  have H1 := Lib.hid h1
  have HM := Lib.hid hM
  have HC := Lib.hid h4
  have HK := Lib.hid hk
  have HX := Lib.hid h10
  clear h h1 h2 h3 h4 h10 hM hk hp
  go_enter Tryz.func85, Tryz.ntmps85
  go_wp2_with fail
  refine CP.out.mono ?_
  rintro e w1 ⟨vb, rfl, v', h', gs, bs', q, hc'⟩
  obtain ⟨A', c', rfl, hl1, hl2, hl3⟩ := own_form q.list
  have hgl : gs.length = bs'.length := q.outs.1
  rw [hgl]
  have HQ := Lib.hid q
  have HC' := Lib.hid hc'
  have HL := Lib.hid hl2
  have R1 : HRow w1 H F (stOf bs) := H1.out.keep q.kept (fun hm => (HM.out H hm).2.2 rfl)
  have HR1 := Lib.hid R1
  have HG := Lib.hid hgl
  have hB1 : Below B w w1 := q.kept.below (by omega) (fun k hk => (HM.out k hk).1)
  have HB1 := Lib.hid hB1
  clear q hc' hl1 hl2 hl3 R1 hgl c0 CP hB1
  go_wp2
  have hbl : bs'.length ≤ 1000100 := by
    have e1 := flat_len HC'.out.each
    have e2 := congrArg List.length HC'.out.whole
    rw [List.length_append, List.length_append, e1] at e2
    have e3 := HC.out.held.1
    omega
  go_loopw [16] (fun v16 wr => ∃ j : Nat, j ≤ bs'.length ∧ v16 = .int .i64 (j : Int) ∧ HRow wr H F (stOf (bs ++ bs'.take j)) ∧ Kept (fun k => k = H) w1 wr) (fun v16 _ => bs'.length - (intOf v16).toNat)
  case atStart => exact ⟨0, Nat.zero_le _, rfl, by rw [List.take_zero, List.append_nil]; exact HR1.out, Kept.refl _ _⟩
  case round =>
    obtain ⟨j, hj, rfl, hR, hK⟩ := hrel
    have hBr : Below B w wr := HB1.out.trans (hK.below (B := B) (by have := HB1.out.size; omega) (fun k hk => by omega))
    by_cases hlt : j < bs'.length
    · have hlen2 : bs'[j].length = 64 := HC'.out.each _ (List.getElem_mem hlt)
      have hgj : j < gs.length := by rw [HG.out]; exact hlt
      obtain ⟨b0, off0, e0, hb0, hc0⟩ := Reads.of_own HQ.out.list j (by simp [sls]; omega)
      have hne : b0 ≠ H := by
        obtain ⟨g, eg, hgg⟩ := HL.out (by omega)
        rw [eg] at e0; cases e0; omega
      subst e0
      have hcell : wr.cell? ⟨b0, off0 + j, none⟩ = some (.slice (some ⟨gs[j], 0, none⟩) 64 64) := by
        refine (World.cell?_of_block (w := w1) (hK.block b0 hb0 hne)).trans ?_
        rw [hc0]; simp [sls]
      have hgH : gs[j] ≠ H := by
        rcases HQ.out.gat gs[j] (List.getElem_mem hgj) with e | e
        · exact (HX.out _ e).2.2.1
        · omega
      have hrow : Row wr gs[j] bs'[j] := (HQ.out.outs.2 j hgj hlt).of_eq (hK.block _ ((HQ.out.outs.2 j hgj hlt).lt) hgH)
      have hrd := hrow.reads
      rw [cs_nats] at hrd
      obtain ⟨so1, so2⟩ := stOf_ok (bs ++ bs'.take j)
      have CC := Lib.hid (comp_any (stOf (bs ++ bs'.take j)) so1 so2 (some ⟨gs[j], 0, none⟩) 64 (nats bs'[j]) (by rw [nats_length]; exact hlen2) (nats_lt _) wr (HK.out.below hBr hB) hrd)
      have HLd := Lib.hid (hR.load so1)
      have e1 : stOf (bs ++ bs'.take (j + 1)) = comp kk (stOf (bs ++ bs'.take j)) (blockWords (nats bs'[j])) := by
        rw [List.take_succ_eq_append_getElem hlt, ← List.append_assoc, stOf_snoc]
      have HST := Lib.hid fun (w2 : World) (hb2 : Below wr.heap.size wr w2) => (hR.keep (Kept.of_below (M := fun _ => False) hb2) id).store so1 (stOf (bs ++ bs'.take (j + 1))) (stOf_ok _).1
      rw [← e1] at CC
      have HKK := Lib.hid hK
      clear hrow hrd so1 so2 hlen2 e1 hc0 hR hK
      generalize stOf (bs ++ bs'.take j) = st0 at *
      generalize gs[j] = g0 at *
      have hdt : decide ((j : Int) < (bs'.length : Int)) = true := by simp; omega
      have HLT := Lib.hid hlt
      go_wp2_with (first
        | refine wpList_load_of rfl 38 (.tmp 24) rfl ⟨H, 1, none⟩ _ rfl HLd.out ?_
        | (refine CC.out.mono ?_; rintro e w2 ⟨rfl, hb2⟩; obtain ⟨w3, hst, hR3, hK3⟩ := HST.out w2 hb2; have HS3 := Lib.hid hst; have HR3 := Lib.hid hR3; have HK3 := Lib.hid (And.intro hb2 hK3); clear hb2 hst hR3 hK3)
        | refine wpList_store_of rfl 38 (.tmp 31) (.tmp 28) rfl ⟨H, 1, none⟩ _ rfl rfl HS3.out ?_)
      go_roundw
      case rel =>
        refine ⟨j + 1, HLT.out, by go_num, HR3.out, ?_⟩
        exact (HKK.out.trans (Kept.of_below (M := fun _ => False) HK3.out.1) (fun _ _ => False.elim)).trans HK3.out.2 (fun _ _ => id)
      case measure => have := HLT.out; simp [intOf]; omega
    · obtain rfl : j = bs'.length := by omega
      have hdt : decide ((bs'.length : Int) < (bs'.length : Int)) = false := by simp
      rw [List.take_length] at hR
      have HRR := Lib.hid hR
      have HKK := Lib.hid hK
      have HBR := Lib.hid hBr
      clear hR hK hBr
      go_wp2
      go_ret
      have hq := HQ.out
      have hM3 : ∀ k, v'.ownBlock = some k → B ≤ k ∧ k < wr.heap.size ∧ k ≠ H ∧ k ≠ F := fun k hk => by
        have hl := (hq.held.lt k hk).2
        have hs := HKK.out.size
        rcases hq.vat k hk with e | e
        · obtain ⟨a1, a2, a3, a4⟩ := HX.out k e; exact ⟨a1, by omega, a3, a4⟩
        · exact ⟨by omega, by omega, by omega, hq.vF k hk⟩
      refine ⟨rfl, ⟨⟨F, v', h', bs ++ bs', HRR.out, ?_, own_kept hq.held HKK.out (fun k hk => (hM3 k hk).2.2.1), HC.out.more_parts HC'.out, h5, by have := HBR.out.size; omega, h7, by have := HBR.out.size; omega, h9, hM3, Nat.le_refl _⟩⟩, HBR.out⟩
      have := hq.row.keep HKK.out (fun e => h9 e.symm)
      rw [List.length_append]
      exact this
end Go.Proofs.YtlifpplhinmajaaGreatDoor

namespace Go.Proofs.YtlifpplhinmajaaGreatDoor
set_option maxRecDepth 50000
open Go.RowKit Sha

/-- the first k blocks -/
def blocksOf : Nat → List UInt8 → List (List UInt8)
  | 0, _ => []
  | k + 1, Y => Y.take 64 :: blocksOf k (Y.drop 64)
theorem blocks_cut : ∀ (k : Nat) (Y : List UInt8), Y.length = k * 64 → Cut 64 false Y (blocksOf k Y) []
  | 0, Y, h => by
    have : Y = [] := List.eq_nil_of_length_eq_zero (by omega)
    subst this
    exact Cut.nothing ⟨by simp, by simp⟩
  | k + 1, Y, h => by
    have c := blocks_cut k (Y.drop 64) (by rw [List.length_drop]; omega)
    refine ⟨?_, ?_, c.held, fun l => by cases l⟩
    · have hw := c.whole
      rw [List.append_nil] at hw ⊢
      rw [blocksOf, List.flatten_cons, ← hw, List.take_append_drop]
    · intro b hb
      rcases List.mem_cons.1 hb with rfl | hb
      · rw [List.length_take]; omega
      · exact c.each b hb
/-- the state's words as bytes -/
def outL (st : List Nat) : List UInt8 := bytesL (st.flatMap (bytesOf (downs 4) 4))
/-- the sum of these bytes -/
def shaL (X : List UInt8) : List UInt8 := outL (stOf (blocksOf ((X ++ padL X.length).length / 64) (X ++ padL X.length)))
theorem flat4_lt (st : List Nat) : ∀ x ∈ st.flatMap (bytesOf (downs 4) 4), x < 256 := by
  intro x hx
  obtain ⟨y, _, hy⟩ := List.mem_flatMap.1 hx
  exact bytesOf_lt _ _ _ x hy
theorem state_all {X l : List UInt8} {bs : List (List UInt8)} (h : Cut 64 false (X ++ padL X.length) bs l) : outL (stOf bs) = shaL X := by
  have hm : (X ++ padL X.length).length % 64 = 0 := by rw [List.length_append]; exact pad_whole _
  have c := blocks_cut ((X ++ padL X.length).length / 64) (X ++ padL X.length) (by omega)
  obtain ⟨rfl, _⟩ := cut_one h c
  rfl

/-- a list of one text that was just made -/
def PartP (N : Nat) (s : ByteArray) : Value → World → Prop := fun x w => ∃ b, x = .slice (some ⟨b, 0, none⟩) 1 1 ∧ N ≤ b ∧ w.heap[b]? = some (.cells #[.string s] 9 (0, 0))
theorem stable_part (N : Nat) (s : ByteArray) : Stable (PartP N s) := fun _ _ _ ⟨b, e, h, h2⟩ hb => ⟨b, e, h, (hb.block b (Array.getElem?_eq_some_iff.1 h2).1).trans h2⟩
theorem slice_run (w : World) (s : ByteArray) (ev : Operand → Value) (x : Operand) (o : Oper) (hop : o.op = .buildSlice 82 1 #[(0, x)]) (hx : ev x = .string s) :
    (execOp ev o).run Tryz.prog w = .ok (.value (.slice (some ⟨w.heap.size, 0, none⟩) 1 1)) (w.alloc (.cells #[.string s] 9)) := by
  simp [execOp, hop, hx, go_sem]
theorem slice_does {N : Nat} {s : ByteArray} {w : World} {o : Oper} {a : Act} {Q : Exit → Act → World → Prop} {x : Operand} (hN : N ≤ w.heap.size) (ho : o.op = .buildSlice 82 1 #[(0, x)]) (hx : a.eval x = .string s) : Does Tryz.prog (PartP N s) o a w Q := by
  unfold Does Oper.wp
  rw [slice_run w s _ _ _ ho hx]
  exact ⟨_, rfl, ⟨w.heap.size, rfl, hN, heap_alloc_last w _⟩, (Below.refl _ _).alloc (Nat.le_refl _) _⟩
theorem turns_call2 {P : Program} {p : Value → World → Prop} {o : Oper} {a : Act} {w0 w : World} {Q : Exit → Act → World → Prop} {f : FuncId} {x y : Operand} {ts : Array TypeId} {v1 v2 : Value} (ho : o.op = .call { callee := .value (.func f), args := #[x, y], argTypes := ts }) (he : ∀ (args : Array Value) (w : World), (callFunc f args).run P w = .ok (.enter f args) w)
    (hx : a.eval x = v1) (hy : a.eval y = v2) (hc : Calls P f #[v1, v2] w fun e w' => ∃ v, e = .returned v ∧ p v w' ∧ Below w0.heap.size w0 w') : Turns P p o a w0 w Q := by
  subst hx; subst hy
  unfold Turns Oper.wp
  have h : (execOp a.eval o).run P w = .ok (.enter f #[a.eval x, a.eval y]) w := by
    simp [execOp, ho, resolve, Deferred.ofValue, Act.eval, invoke, he]
  rw [h]
  refine hc.mono ?_
  rintro e w' ⟨v, rfl, h1, h2⟩
  exact ⟨v, rfl, h1, h2⟩
theorem HRow.reads {w : World} {H F : Nat} {st : List Nat} (h : HRow w H F st) : Reads w w.heap.size (some ⟨H, 1, none⟩) (u32s st) := fun k hk => by
  refine ⟨H, 1, rfl, h.lt, ?_⟩
  rw [cell_of_row w H (1 + k) _ _ _ h, Nat.add_comm 1 k]
  simp [List.getElem?_eq_getElem hk]

set_option maxHeartbeats 1600000 in
theorem sumhash_any (w : World) (B T H : Nat) (X : List UInt8) (h : HashIs w B T H X) (hk : KAt w) (hX : X.length ≤ 900000) :
    Calls Tryz.prog 101 #[.pointer (some ⟨H, 0, none⟩)] w fun e w' => e = .returned (.string (tx (shaL X))) ∧ Below w.heap.size w w' := by
  have hh := h
  obtain ⟨F, v, l, bs, h1, h2, h3, h4, h5, h6, h7, h8, h9, h10, h11⟩ := h.ex
  obtain ⟨N, hN⟩ : ∃ N, N = w.heap.size := ⟨_, rfl⟩
  obtain ⟨Y, hY⟩ : ∃ Y, Y = X ++ padL X.length := ⟨_, rfl⟩
  have hpl : (padL X.length).length ≤ 100 := by rw [padL_length]; unfold room; omega
  have KP := Lib.hid fun (w1 : World) (hb : Below w.heap.size w w1) => show w1.cell? ⟨H, 0, none⟩ = some (.pointer (some ⟨F, 0, none⟩)) ∧
      (Calls Tryz.prog 109 #[.pointer (some ⟨H, 0, none⟩)] w1 fun e w' => ∃ x, e = .returned x ∧ HashP N X x w' ∧ Below w1.heap.size w1 w') ∧
      Calls Tryz.prog 118 #[.pointer (some ⟨F, 0, none⟩)] w1 fun e w' => ∃ x, e = .returned x ∧ Is (.int .i64 (X.length : Int)) x w' ∧ Below w1.heap.size w1 w' from by
    have k1 : HRow w1 H F (stOf bs) := h1.keep (Kept.of_below (M := fun _ => False) hb) id
    refine ⟨k1.at_, (clone_any2 w1 B T H X (hh.below hb)).mono ?_, (total_any w1 (h2.below hb)).mono ?_⟩
    · rintro e w' ⟨H', rfl, g1, g2⟩
      exact ⟨_, rfl, ⟨H', w'.heap.size, rfl, g1.mono (by rw [hN]; exact hb.size) (Nat.le_refl _) (Nat.le_refl _)⟩, g2⟩
    · rintro e w' ⟨rfl, rfl⟩
      exact ⟨_, rfl, rfl, Below.refl _ _⟩
  have CPAD := Lib.hid fun (w1 : World) => show Calls Tryz.prog 117 #[.int .i64 (X.length : Int)] w1 fun e w' => ∃ x, e = .returned x ∧ Is (.string (tx (padL X.length))) x w' ∧ Below w1.heap.size w1 w' from by
    refine (pad_any X.length (by omega) w1).mono ?_
    rintro e w' ⟨rfl, g⟩
    exact ⟨_, rfl, rfl, g⟩
  have CADD := Lib.hid fun (w1 : World) (hb : Below w.heap.size w w1) (H' T' b : Nat) (g : HashIs w1 N T' H' X) (gb : w1.heap[b]? = some (.cells #[.string (tx (padL X.length))] 9 (0, 0))) =>
      show Calls Tryz.prog 85 #[.pointer (some ⟨H', 0, none⟩), .slice (some ⟨b, 0, none⟩) 1 1] w1 fun e w' => ∃ x, e = .returned x ∧ HashP N Y x w' ∧ Below w.heap.size w w' from by
    refine (addhash_any w1 N T' H' X g (hk.next hb) (by rw [hN]; exact hk.1) (some ⟨b, 0, none⟩) 1 [tx (padL X.length)] (fun k hk => ?_) (by rw [jn_one, tl_tx]; omega) (by simp)).mono ?_
    · have hk0 : k = 0 := by simp [stv] at hk; omega
      subst hk0
      exact ⟨b, 0, rfl, (Array.getElem?_eq_some_iff.1 gb).1, .inr (.inr ⟨_, _, gb⟩), by rw [cell_of_row w1 b _ _ _ _ gb]; rfl⟩
    · rintro e w' ⟨rfl, g1, g2⟩
      rw [jn_one, tl_tx, ← hY] at g1
      exact ⟨_, rfl, ⟨H', w'.heap.size, rfl, g1⟩, hb.trans (by rw [← hN]; exact g2)⟩
  have HY := Lib.hid hY
  have HN := Lib.hid hN
  clear h hh h1 h2 h3 h4 h5 h6 h7 h8 h9 h10 h11 hN hY hpl hX
  go_enter Tryz.func101, Tryz.ntmps101
  go_wp2
  refine wp_region_tail 9 [Is (.pointer (some ⟨H, 0, none⟩)), HashP N X, Is (.pointer (some ⟨H, 0, none⟩)), Is (.pointer (some ⟨H, 0, none⟩)), Is (.pointer (some ⟨H, 0, none⟩)), Is (.pointer (some ⟨F, 0, none⟩)), Is (.int .i64 (X.length : Int)), Is (.string (tx (padL X.length))), PartP N (tx (padL X.length))] [HashP N Y, HashP N Y] (by kernel_rfl) (by kernel_rfl) (by kernel_rfl) rfl rfl (by decide) ⟨stable_is _, stable_hash _ _, stable_is _, stable_is _, stable_is _, stable_is _, stable_is _, stable_is _, stable_part _ _, trivial⟩ ⟨stable_hash _ _, stable_hash _ _, trivial⟩ ⟨?h0, ?h1, ?h2, ?h3, ?h4, ?h5, ?h6, ?h7, ?h8, trivial⟩ ?mid ⟨?l0, trivial⟩ ?fin
  case h0 =>
    intro a w C
    exact part_on (wanted_free rfl _) (op_move (.inl rfl) (C.was 0 (by kernel_rfl)))
  case h1 =>
    intro a w C
    exact part_on (wanted_free rfl _) (op_call1 rfl (reg_enters Tryz.func109 (by kernel_rfl) (by kernel_rfl)) (C.on (j := 0) (by kernel_rfl) rfl rfl) ((KP.out w C.below).2.1))
  case h2 =>
    intro a w C
    exact part_on (wanted_free rfl _) (op_move (.inl rfl) (C.was 0 (by kernel_rfl)))
  case h3 =>
    intro a w C
    exact part_on (wanted_free rfl _) (op_value (nil_run _ _ _ _ _ rfl (C.on (j := 2) (by kernel_rfl) rfl rfl)) rfl)
  case h4 =>
    intro a w C
    exact part_on (wanted_free rfl _) (op_value (field0_run _ _ _ _ _ rfl (C.on (j := 3) (by kernel_rfl) rfl rfl)) rfl)
  case h5 =>
    intro a w C
    exact part_on (wanted_free rfl _) (op_value (loadptr_run _ _ F _ _ _ rfl (C.on (j := 4) (by kernel_rfl) rfl rfl) ((KP.out w C.below).1)) rfl)
  case h6 =>
    intro a w C
    exact part_on (wanted_free rfl _) (op_call1 rfl (reg_enters Tryz.func118 (by kernel_rfl) (by kernel_rfl)) (C.on (j := 5) (by kernel_rfl) rfl rfl) ((KP.out w C.below).2.2))
  case h7 =>
    intro a w C
    exact part_on (wanted_free rfl _) (op_call1 rfl (reg_enters Tryz.func117 (by kernel_rfl) (by kernel_rfl)) (C.on (j := 6) (by kernel_rfl) rfl rfl) ((CPAD.out w)))
  case h8 =>
    intro a w C
    exact part_on (wanted_free rfl _) (slice_does (N := N) (by rw [HN.out]; exact C.below.size) rfl (C.on (j := 7) (by kernel_rfl) rfl rfl))
  case mid =>
    intro o ho a w C
    cases ho
    refine ⟨wanted_free rfl _, ?_⟩
    obtain ⟨H', T', e7, h7⟩ : HashP N X _ _ := C.on (j := 1) (by kernel_rfl) rfl rfl
    obtain ⟨b, e14, hb14, hr14⟩ : PartP N (tx (padL X.length)) _ _ := C.on (j := 8) (by kernel_rfl) rfl rfl
    exact turns_call2 rfl (reg_enters Tryz.func85 (by kernel_rfl) (by kernel_rfl)) e7 e14 (CADD.out w C.below H' T' b h7 hr14)
  case l0 =>
    intro a w C
    exact part_on (wanted_free rfl _) (op_move (.inr rfl) (C.on (j := 9) (by kernel_rfl) rfl rfl))
  case fin =>
    rintro wF hbF v6 g6 v7 g7 v8 g8 v9 g9 v10 g10 v11 g11 v12 g12 v13 g13 v14 g14 v15 g15 v3 ⟨H', T', rfl, hh⟩
    clear g6 g7 g8 g9 g10 g11 g12 g13 g14 g15
    simp only [Fin, setAt, Exit.then, List.setIfInBounds_toArray, List.set_cons_succ, List.set_cons_zero]
    obtain ⟨F', v', l', bs', k1, k2, k3, k4, k5⟩ := hh.ex
    have CB := Lib.hid (big32_any (some ⟨H', 1, none⟩) 8 (stOf bs') wF k1.reads (by rw [(stOf_ok bs').1]; omega) (fun x hx => (stOf_ok bs').2 x hx))
    rw [(stOf_ok bs').1] at CB
    have HE := Lib.hid (state_all (HY.out ▸ k4))
    have HBF := Lib.hid hbF
    clear k1 k2 k3 k4 k5 hh hbF
    go_wp2_with fail
    refine CB.out.mono ?_
    rintro e w2 ⟨v, rfl, hown, hb⟩
    have e1 : u8s ((stOf bs').flatMap (bytesOf (downs 4) 4)) = cs (outL (stOf bs')) := (cs_bytesL _ (flat4_lt _)).symm
    rw [e1, HE.out] at hown
    have hcv := conv_text w2 hown
    have HB := Lib.hid hb
    clear hown hb e1
    go_wp2
    go_ret
    exact ⟨rfl, below_step HBF.out HB.out⟩
end Go.Proofs.YtlifpplhinmajaaGreatDoor

namespace Go.Proofs.YtlifpplhinmajaaGreatDoor
set_option maxRecDepth 50000
open Go.RowKit Sha

set_option maxHeartbeats 800000 in
theorem shaof_any (w : World) (hk : KAt w) (A : Option Addr) (c : Nat) (ps : List ByteArray) (hr : Reads w w.heap.size A (stv ps)) (hlen : (jn ps).length ≤ 900000) (hps : ps.length ≤ 1000000) :
    Calls Tryz.prog 81 #[.slice A ps.length c] w fun e w' => e = .returned (.string (tx (shaL (jn ps)))) ∧ Below w.heap.size w w' := by
  have HR := Lib.hid hr
  have HK := Lib.hid hk
  clear hr hk
  go_enter Tryz.func81, Tryz.ntmps81
  go_wp2_with fail
  refine (newhash_any w).mono ?_
  rintro e w1 ⟨H, rfl, h1, hb1⟩
  have H1 := Lib.hid h1
  have HB1 := Lib.hid hb1
  clear h1 hb1
  go_wp2_with fail
  refine (addhash_any w1 w.heap.size w1.heap.size H [] H1.out (HK.out.next HB1.out) HK.out.1 A c ps (fun k hk => ?_) (by simpa using (by omega : (jn ps).length ≤ 1000000)) hps).mono ?_
  · obtain ⟨b, off, e, hb, hc⟩ := HR.out k hk
    exact ⟨b, off, e, Nat.lt_of_lt_of_le hb HB1.out.size, .inl hb, (HB1.out.cell hb).trans hc⟩
  rintro e w2 ⟨rfl, h2, hb2⟩
  rw [List.nil_append] at h2
  have HB2 := Lib.hid (HB1.out.trans hb2)
  have CS := Lib.hid (sumhash_any w2 w.heap.size w2.heap.size H (jn ps) h2 (HK.out.next (HB1.out.trans hb2)) hlen)
  clear h2 hb2
  go_wp2_with fail
  refine CS.out.mono ?_
  rintro e w3 ⟨rfl, hb3⟩
  have HB3 := Lib.hid hb3
  clear hb3
  go_wp2
  go_ret
  exact ⟨rfl, below_step HB2.out HB3.out⟩

theorem sum_abc : shaL [97, 98, 99] = [186, 120, 22, 191, 143, 1, 207, 234, 65, 65, 64, 222, 93, 174, 34, 35, 176, 3, 97, 163, 150, 23, 122, 156, 180, 16, 255, 97, 242, 0, 21, 173] := by kernel_rfl

theorem sum_nil (w : World) : Calls Tryz.prog 101 #[.pointer none] w fun e w' => e = .returned (.string ⟨#[]⟩) ∧ w = w' := by
  go_enter Tryz.func101, Tryz.ntmps101
  go_wp2
  go_ret
  exact ⟨rfl, rfl⟩
theorem clone_nil (w : World) : Calls Tryz.prog 109 #[.pointer none] w fun e w' => e = .returned (.pointer none) ∧ w = w' := by
  go_enter Tryz.func109, Tryz.ntmps109
  go_wp2
  go_ret
  exact ⟨rfl, rfl⟩
theorem addhash_nil (A : Option Addr) (n c : Nat) (w : World) : Calls Tryz.prog 85 #[.pointer none, .slice A n c] w fun e w' => e = .returned (.pointer none) ∧ w = w' := by
  go_enter Tryz.func85, Tryz.ntmps85
  go_wp2
  go_ret
  exact ⟨rfl, rfl⟩
end Go.Proofs.YtlifpplhinmajaaGreatDoor

namespace Go.Proofs.YtlifpplhinmajaaGreatDoor
set_option maxRecDepth 50000
open Go.RowKit Sha

/-- one more text, in a list that was just made -/
theorem add_one (w : World) (B T H : Nat) (X : List UInt8) (h : HashIs w B T H X) (hk : KAt w) (hB : 0 < B) (s : ByteArray) (hX : X.length + s.size ≤ 900000) :
    Calls Tryz.prog 85 #[.pointer (some ⟨H, 0, none⟩), .slice (some ⟨w.heap.size, 0, none⟩) 1 1] (w.alloc (.cells #[.string s] 9)) fun e w' => e = .returned (.pointer (some ⟨H, 0, none⟩)) ∧ HashIs w' B w'.heap.size H (X ++ tl s) ∧ Below B w w' := by
  have hT : B ≤ T ∧ T ≤ w.heap.size := by
    obtain ⟨F, v, l, bs, h1, h2, h3, h4, h5, h6, h7, h8, h9, h10, h11⟩ := h.ex
    exact ⟨by omega, h11⟩
  have hb : Below w.heap.size w (w.alloc (.cells #[.string s] 9)) := (Below.refl _ w).alloc (Nat.le_refl _) _
  refine (addhash_any _ B T H X (h.below hb) (hk.next hb) hB (some ⟨w.heap.size, 0, none⟩) 1 [s] (fun k hk => ?_) (by rw [jn_one, tl_length]; omega) (by simp)).mono ?_
  · have hk0 : k = 0 := by simp [stv] at hk; omega
    subst hk0
    exact ⟨w.heap.size, 0, rfl, by simp, .inr (.inl hT.2), by rw [cell_of_row _ _ _ _ _ (0, 0) (heap_alloc_last w _)]; rfl⟩
  · rintro e w' ⟨rfl, g1, g2⟩
    rw [jn_one] at g1
    exact ⟨rfl, g1, (hb.mono (by omega)).trans g2⟩

end Go.Proofs.YtlifpplhinmajaaGreatDoor

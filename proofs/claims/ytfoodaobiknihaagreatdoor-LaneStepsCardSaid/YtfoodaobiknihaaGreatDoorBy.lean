/- BLAKE2b's hashes and sums, by their contracts. Conditions: those typed. -/
import Derived.Test.YtfoodaobiknihaaGreatDoorKi
import Derived.Test.YtfoodaobiknihaaGreatDoorFd
import Derived.Test.YtfoodaobiknihaaGreatDoorWy
import Derived.Laws.CopyRow
import Derived.Deep.OwnRows
import Derived.Test.YtfoodaobiknihaaGreatDoorBkComp
import Derived.Test.YtfoodaobiknihaaGreatDoorGen
namespace Go.Proofs.YtfoodaobiknihaaGreatDoor
set_option maxRecDepth 50000
open Go.RowKit
def fill128 (l : List UInt8) : List UInt8 := l ++ List.replicate (128 - l.length) 0
theorem fill128_length (l : List UInt8) (h : l.length ≤ 128) : (fill128 l).length = 128 := by simp [fill128]; omega
theorem z_u8 : (Tryz.prog.info? 5).map (·.size) = some 1 := by kernel_rfl
theorem copy_none (w : World) (g c : Nat) (ty : TypeId) : (Builtin.copy_ #[86, 86] ty #[.slice (some ⟨g, 0, none⟩) 128 128, .slice none 0 c]).run Tryz.prog w = .ok (goInt 0) w := by
  have hz := z_u8
  cases hq : Tryz.prog.info? 5 with
  | none => simp [hq] at hz
  | some i => simp [Builtin.copy_, run_underlying Tryz.underlying86, Builtin.lenOf, Builtin.firstCells, sizeOf, typeInfo, hq, storeCells]
set_option maxHeartbeats 800000 in
theorem filled_any (A : Option Addr) (c : Nat) (l : List UInt8) (hl : l.length ≤ 128) (w : World) (hr : Reads w w.heap.size A (cs l)) (hnil : A = none → l = []) :
    Calls Tryz.prog 120 #[.slice A l.length c] w fun e w' => ∃ g, e = .returned (.slice (some ⟨g, 0, none⟩) 128 128) ∧ Row w' g (fill128 l) ∧ w.heap.size ≤ g ∧ Below w.heap.size w w' := by
  have hmk : ∀ w : World, (Instr.makeSlice 86 (.int .i64 128) (.int .i64 128)).run Tryz.prog w = .ok (.slice (some ⟨w.heap.size, 0, none⟩) 128 128) (w.alloc (.cells (madeCells #[.int .u8 0] 128) 5)) :=
    fun w => run_make_row' (P := Tryz.prog) 86 5 (.int .u8 0) 1 Tryz.underlying86 fd_info_u8 rfl .i64 .i64 128 (by decide) (by decide) w
  have hcs : (madeCells #[Value.int .u8 0] 128) = (cs (List.replicate 128 0)).toArray := by
    apply Array.toList_inj.1
    rw [made_one]; simp [cs]
  have HZ : Hid (fill128 l = l ++ (List.replicate 128 0).drop l.length) := Lib.hid (by rw [List.drop_replicate]; rfl)
  have hZl : (List.replicate 128 (0 : UInt8)).length = 128 := by simp
  generalize List.replicate 128 (0 : UInt8) = Z at *
  generalize madeCells #[Value.int .u8 0] 128 = M0 at *
  subst hcs
  rcases A with _ | ⟨b, off, sub⟩
  · have h0 := hnil rfl
    subst h0
    clear hr hnil
    go_enter Tryz.func120, Tryz.ntmps120
    go_wp2
    rw [copy_none]
    go_wp2
    go_ret
    refine ⟨w.heap.size, rfl, ⟨_, (0, 0), heap_alloc_last w _, ?_⟩, Nat.le_refl _, (Below.refl _ w).alloc (Nat.le_refl _) _⟩
    rw [HZ.out, List.length_nil, List.drop_zero, List.nil_append]
    exact List.take_of_length_le (by simp [cs])
  · have hrd : ∀ o : Obj, ∀ j v, (cs l)[j]? = some v → (w.alloc o).cell? ((⟨b, off, sub⟩ : Addr).add j) = some v := fun o j v hj => by
      obtain ⟨hj', rfl⟩ := List.getElem?_eq_some_iff.1 hj
      obtain ⟨b', off', e, hb, hc⟩ := hr j hj'
      cases e
      have hadd : (⟨b, off, none⟩ : Addr).add j = ⟨b, off + j, none⟩ := by unfold Addr.add; split <;> simp_all
      rw [hadd, World.cell?_of_block (w := w) (Below.heap_alloc w o _ hb)]
      exact hc
    have HC := Lib.hid fun o : Obj => fun (hC : (w.alloc o).heap[w.heap.size]? = some (.cells (cs Z).toArray 5 (0, 0))) => run_copy_row (P := Tryz.prog) (w.alloc o) 86 86 3 5 w.heap.size 0 128 128 ⟨b, off, sub⟩ l.length c (cs Z).toArray 5 (cs l) Tryz.underlying86 z_u8 hC (by rw [cs_length]; exact (Nat.min_eq_left hl).symm) (hrd o) (by simp [cs, hZl]; exact hl) (cs_one l)
    clear hr hrd hnil
    go_enter Tryz.func120, Tryz.ntmps120
    go_wp2
    rw [HC.out _ (heap_alloc_last w _)]
    go_wp2
    go_ret
    refine ⟨w.heap.size, rfl, ⟨_, (0, 0), setRow_heap _ _ _ _ _ (0, 0) (heap_alloc_last w _), ?_⟩, Nat.le_refl _, below_setRow ((Below.refl _ w).alloc (Nat.le_refl _) _) (Nat.le_refl _) _⟩
    rw [HZ.out]
    rw [List.take_of_length_le (by simp [cs, hZl])]
    simp [cs]
open Go.RowKit Bl
def nats (b : List UInt8) : List Nat := b.map UInt8.toNat
theorem cs_nats (b : List UInt8) : cs b = u8s (nats b) := by simp [cs, u8s, nats]
theorem nats_lt (b : List UInt8) : ∀ x ∈ nats b, x < 256 := by
  intro x hx
  obtain ⟨y, _, rfl⟩ := List.mem_map.1 hx
  exact y.toNat_lt
theorem nats_length (b : List UInt8) : (nats b).length = b.length := by simp [nats]
def h0 (kl n : Nat) : List Nat := iv.set 0 (iv.getD 0 0 ^^^ (16842752 + 256 * kl + n))
theorem h0_ok (kl n : Nat) (hk : kl ≤ 64) (hn : n ≤ 64) : (h0 kl n).length = 8 ∧ okw (h0 kl n) :=
  ⟨rfl, iv_ok.set _ _ (xor_lt64 _ _ (iv_ok.at_ 0) (by omega))⟩
def stN (s0 : List Nat) (bs : List (List UInt8)) : Nat → List Nat
  | 0 => s0
  | k + 1 => comp (stN s0 bs k) (blockW (nats (bs.getD k []))) (128 * (k + 1)) false
theorem stN_ok {s0 : List Nat} (h : s0.length = 8 ∧ okw s0) (bs : List (List UInt8)) : ∀ k, k ≤ 100000000 → (stN s0 bs k).length = 8 ∧ okw (stN s0 bs k)
  | 0, _ => h
  | k + 1, hk => ⟨by rw [stN, comp_length]; exact (stN_ok h bs k (by omega)).1, comp_ok (stN_ok h bs k (by omega)).2 _ (by omega) _⟩
theorem stN_app (s0 : List Nat) (bs cs : List (List UInt8)) : ∀ k, k ≤ bs.length → stN s0 (bs ++ cs) k = stN s0 bs k
  | 0, _ => rfl
  | k + 1, hk => by
    rw [stN, stN, stN_app s0 bs cs k (by omega), List.getD_eq_getElem?_getD, List.getElem?_append_left (by omega), ← List.getD_eq_getElem?_getD]
def HRow (w : World) (H F : Nat) (st : List Nat) (n : Nat) : Prop := w.heap[H]? = some (.cells (.pointer (some ⟨F, 0, none⟩) :: (u64s st ++ [.int .i64 (n : Int)])).toArray 213 (0, 0))
section
variable {w w' : World} {H F n : Nat} {st : List Nat} {M : Nat → Prop}
theorem HRow.lt (h : HRow w H F st n) : H < w.heap.size := (Array.getElem?_eq_some_iff.1 h).1
theorem HRow.at_ (h : HRow w H F st n) : w.cell? ⟨H, 0, none⟩ = some (.pointer (some ⟨F, 0, none⟩)) := by
  rw [cell_of_row w H 0 _ _ _ h]; rfl
theorem HRow.size_ (h : HRow w H F st n) (hs : st.length = 8) : w.cell? ⟨H, 9, none⟩ = some (.int .i64 (n : Int)) := by
  rw [cell_of_row w H 9 _ _ _ h]
  match st, hs with
  | [_, _, _, _, _, _, _, _], _ => rfl
theorem HRow.keep (h : HRow w H F st n) (hk : Kept M w w') (hM : ¬ M H) : HRow w' H F st n := (hk.block H h.lt hM).trans h
theorem HRow.load (h : HRow w H F st n) (hs : st.length = 8) : (loadVar 53 ⟨H, 1, none⟩).run Tryz.prog w = .ok (.agg (wq st)) w := by
  have hl : (loadCells ⟨H, 1, none⟩ (u64s st).length).run Tryz.prog w = .ok (u64s st).toArray w :=
    run_loadCells_list (P := Tryz.prog) w ⟨H, 1, none⟩ (u64s st) (fun j v hv => by
      have hadd : (⟨H, 1, none⟩ : Addr).add j = ⟨H, 1 + j, none⟩ := by unfold Addr.add; split <;> simp_all
      rw [hadd, cell_of_row w H (1 + j) _ _ _ h, Nat.add_comm 1 j]
      have hj := (List.getElem?_eq_some_iff.1 hv).1
      simp only [List.getElem?_toArray, List.getElem?_cons_succ]
      rw [List.getElem?_append_left hj]; exact hv)
  rw [u64s_length, hs] at hl
  have hz := q_size8
  cases hq : Tryz.prog.info? 53 with
  | none => rw [hq] at hz; simp at hz
  | some i =>
    have hsz : i.size = 8 := by rw [hq] at hz; simpa using hz
    simp [loadVar, Sem.run_bind, sizeOf, typeInfo, hq, hsz, hl, wq]
theorem HRow.store (h : HRow w H F st n) (hs : st.length = 8) (st' : List Nat) (hs' : st'.length = 8) : ∃ w', (storeVar 53 ⟨H, 1, none⟩ (.agg (wq st'))).run Tryz.prog w = .ok () w' ∧ HRow w' H F st' n ∧ Kept (fun k => k = H) w w' := by
  have hone : ∀ v ∈ u64s st', v.oneCell' = true := fun v hv => by simp only [u64s, List.mem_map] at hv; obtain ⟨x, _, rfl⟩ := hv; rfl
  have hst := run_storeCells_at Tryz.prog H 1 213 (u64s st') 0 _ w h (by simp [u64s, hs, hs']) hone
  have hz := q_size8
  refine ⟨_, ?_, setRow_heap w H _ _ _ (0, 0) h, ⟨rfl, rfl, rfl, by simp, fun k _ hk => setRow_other _ _ _ _ hk⟩⟩
  cases hq : Tryz.prog.info? 53 with
  | none => rw [hq] at hz; simp at hz
  | some i =>
    have hsz : i.size = 8 := by rw [hq] at hz; simpa using hz
    have e : ((Value.pointer (some ⟨F, 0, none⟩) :: (u64s st ++ [Value.int .i64 (n : Int)])).toArray.toList.take (1 + 0) ++ u64s st' ++ (Value.pointer (some ⟨F, 0, none⟩) :: (u64s st ++ [Value.int .i64 (n : Int)])).toArray.toList.drop (1 + 0 + (u64s st').length)).toArray = (Value.pointer (some ⟨F, 0, none⟩) :: (u64s st' ++ [Value.int .i64 (n : Int)])).toArray := by
      have e8 : (u64s st').length = 8 := by rw [u64s_length, hs']
      rw [e8]
      match st, hs with
      | [_, _, _, _, _, _, _, _], _ => simp [u64s]
    rw [e] at hst
    have hw : (wq st').size = 8 := by rw [wq_size, hs']
    have hw2 : (u64s st').length = 8 := by rw [u64s_length, hs']
    simpa [storeVar, sizeOf, typeInfo, hq, Value.cells, hsz, hw, hw2, wq] using hst
end
structure HashIs (w : World) (B T H kl n : Nat) (X : List UInt8) : Prop where
  ex : ∃ F v l bs, HRow w H F (stN (h0 kl n) bs bs.length) n ∧ FeedRow w F 128 true v X.length ∧ w.ownsRow B 5 1 v l.length (cs l) ∧ Cut 128 true X bs l ∧ B ≤ H ∧ H < T ∧ B ≤ F ∧ F < T ∧ H ≠ F ∧ (∀ k, v.ownBlock = some k → B ≤ k ∧ k < T ∧ k ≠ H ∧ k ≠ F) ∧ T ≤ w.heap.size
section
variable {w w' : World} {B T H kl n : Nat} {X l : List UInt8} {bs : List (List UInt8)} {M : Nat → Prop}
theorem HashIs.keep (h : HashIs w B T H kl n X) (hk : Kept M w w') (hM : ∀ k, B ≤ k → k < T → ¬ M k) : HashIs w' B T H kl n X := by
  obtain ⟨F, v, l, bs, h1, h2, h3, h4, h5, h6, h7, h8, h9, h10, h11⟩ := h.ex
  exact ⟨F, v, l, bs, h1.keep hk (hM H h5 h6), h2.keep hk (hM F h7 h8), own_kept h3 hk (fun k hk => hM k (h10 k hk).1 (h10 k hk).2.1), h4, h5, h6, h7, h8, h9, h10, Nat.le_trans h11 hk.size⟩
theorem HashIs.below (h : HashIs w B T H kl n X) (hk : Below w.heap.size w w') : HashIs w' B T H kl n X := h.keep (Kept.of_below (M := fun _ => False) hk) fun _ _ _ => id
theorem cut_count (h : Cut 128 true X bs l) : bs.length * 128 + l.length = X.length := by
  rw [← flat_len h.each, ← List.length_append, ← h.whole]
end
theorem hnil_run (w : World) (H : Nat) (ev : Operand → Value) (x : Operand) (o : Oper) (hop : o.op = .nilCheck x) (hx : ev x = .pointer (some ⟨H, 0, none⟩)) : (execOp ev o).run Tryz.prog w = .ok (.value (.pointer (some ⟨H, 0, none⟩))) w := by
  simp [execOp, hop, hx, go_sem]
theorem hf0_run (w : World) (H : Nat) (ev : Operand → Value) (x : Operand) (o : Oper) (hop : o.op = .fieldAddr 213 x 0) (hx : ev x = .pointer (some ⟨H, 0, none⟩)) : (execOp ev o).run Tryz.prog w = .ok (.value (.pointer (some ⟨H, 0, none⟩))) w := by
  simp [execOp, hop, hx, go_sem]
theorem hf1_run (w : World) (H : Nat) (ev : Operand → Value) (x : Operand) (o : Oper) (hop : o.op = .fieldAddr 213 x 1) (hx : ev x = .pointer (some ⟨H, 0, none⟩)) : (execOp ev o).run Tryz.prog w = .ok (.value (.pointer (some ⟨H, 1, none⟩))) w := by
  simp [execOp, hop, hx, go_sem]
theorem hf2_run (w : World) (H : Nat) (ev : Operand → Value) (x : Operand) (o : Oper) (hop : o.op = .fieldAddr 213 x 2) (hx : ev x = .pointer (some ⟨H, 0, none⟩)) : (execOp ev o).run Tryz.prog w = .ok (.value (.pointer (some ⟨H, 9, none⟩))) w := by
  simp [execOp, hop, hx, go_sem]
theorem hptr_run (w : World) (H F : Nat) (ev : Operand → Value) (x : Operand) (o : Oper) (hop : o.op = .load 208 x) (hx : ev x = .pointer (some ⟨H, 0, none⟩)) (hc : w.cell? ⟨H, 0, none⟩ = some (.pointer (some ⟨F, 0, none⟩))) : (execOp ev o).run Tryz.prog w = .ok (.value (.pointer (some ⟨F, 0, none⟩))) w := by
  simp [execOp, hop, hx, hc, go_sem]
theorem harr_run (w : World) (H : Nat) (v : Value) (ev : Operand → Value) (x : Operand) (o : Oper) (hop : o.op = .load 53 x) (hx : ev x = .pointer (some ⟨H, 1, none⟩)) (hc : (loadVar 53 ⟨H, 1, none⟩).run Tryz.prog w = .ok v w) : (execOp ev o).run Tryz.prog w = .ok (.value v) w := by
  simp [execOp, hop, hx, Instr.loadAt, Instr.sureAddr, hc]
open Go.RowKit Bl
theorem rest_any {F n t : Nat} {lz : Bool} {v : Value} (w : World) (h : FeedRow w F n lz v t) {B : Nat} (m : Nat) (l : List UInt8) (ho : w.ownsRow B 5 1 v m (cs l)) (hm : m ≤ 1000000000) : Calls Tryz.prog 122 #[.pointer (some ⟨F, 0, none⟩)] w fun e w' => ∃ v', e = .returned v' ∧ w'.ownsRow w.heap.size 5 1 v' m (cs l) ∧ Below w.heap.size w w' := by
  obtain ⟨x0, x1, x2, x3, x4, x5⟩ := h.at_
  have C := Lib.hid (clone_any v m l w ho hm)
  clear ho h
  go_enter Tryz.func122, Tryz.ntmps122
  go_wp2_with fail
  refine (C.out).mono ?_
  rintro e w1 ⟨v', rfl, ho, hb⟩
  have HO := Lib.hid ho
  clear ho
  go_wp2
  go_ret
  exact ⟨_, rfl, HO.out, hb⟩
def RestP (l : List UInt8) : Value → World → Prop := fun x w => ∃ A c, x = .slice A l.length c ∧ Reads w w.heap.size A (cs l) ∧ (A = none → l = [])
theorem stable_rest (l : List UInt8) : Stable (RestP l) := fun _ _ _ ⟨A, c, e, h, h2⟩ hb => ⟨A, c, e, (h.below hb).more hb.size, h2⟩
theorem rest_of {w : World} {B : Nat} {v : Value} {l : List UInt8} (h : w.ownsRow B 5 1 v l.length (cs l)) : RestP l v w := by
  obtain ⟨A, c, rfl, hl1, hl2, hl3⟩ := own_form h
  refine ⟨A, c, rfl, Reads.of_own h, fun e => ?_⟩
  cases l with
  | nil => rfl
  | cons x l =>
    obtain ⟨g, eg, _⟩ := hl2 (by simp)
    rw [e] at eg; cases eg
set_option maxHeartbeats 1600000 in
theorem addhash_any (w : World) (B T H kl n : Nat) (hkl : kl ≤ 64) (hn : n ≤ 64) (X : List UInt8) (h : HashIs w B T H kl n X) (hk : QAt w) (hB : 1 < B) (A : Option Addr) (c : Nat) (ps : List ByteArray)
    (hp : ∀ k, (hk : k < (stv ps).length) → ∃ b off, A = some ⟨b, off, none⟩ ∧ b < w.heap.size ∧ (b < B ∨ T ≤ b ∨ ∃ cs fz, w.heap[b]? = some (.cells cs 9 fz)) ∧ w.cell? ⟨b, off + k, none⟩ = some (stv ps)[k]) (hlen : X.length + (jn ps).length ≤ 1000000) (hps : ps.length ≤ 1000000) :
    Calls Tryz.prog 111 #[.pointer (some ⟨H, 0, none⟩), .slice A ps.length c] w fun e w' => e = .returned (.pointer (some ⟨H, 0, none⟩)) ∧ HashIs w' B w'.heap.size H kl n (X ++ jn ps) ∧ Below B w w' := by
  obtain ⟨F, v, l, bs, h1, h2, h3, h4, h5, h6, h7, h8, h9, h10, h11⟩ := h.ex
  obtain ⟨s0, hs0⟩ : ∃ s0, s0 = h0 kl n := ⟨_, rfl⟩
  have hs0k : s0.length = 8 ∧ okw s0 := by rw [hs0]; exact h0_ok kl n hkl hn
  rw [← hs0] at h1
  have hM : ∀ k, Mine F v k → B ≤ k ∧ k < T ∧ k ≠ H := by
    rintro k (rfl | hk)
    · exact ⟨h7, h8, fun e => h9 e.symm⟩
    · obtain ⟨a1, a2, a3, _⟩ := h10 k hk; exact ⟨a1, a2, a3⟩
  have hcut := cut_count h4
  have hll : l.length ≤ 128 := h4.held.1
  -- ahead of Put memory has only grown
  have CP := Lib.hid fun (w1 : World) (hb : Below w.heap.size w w1) => put_any F 128 X.length true v l A c ps w1 (h2.below hb) (own_kept (M := fun _ => False) h3 (Kept.of_below hb) fun _ _ => id) (by have := hb.size; omega) (fun k hk => (h10 k hk).2.2.2) (by omega) (by omega) h4.held (fun k hk => by
    obtain ⟨b, off, e, g1, g2, g3⟩ := hp k hk
    refine ⟨b, off, e, Nat.lt_of_lt_of_le g1 hb.size, fun hm => ?_, (hb.cell (p := ⟨b, off + k, none⟩) g1).trans g3⟩
    rcases g2 with g2 | g2 | ⟨cs', fz, g2⟩
    · have := hM b hm; omega
    · have := hM b hm; omega
    · rcases hm with rfl | hm
      · unfold FeedRow at h2; rw [h2] at g2; cases g2
      · rcases h3.2 with ⟨e3, _⟩ | ⟨g, cap, cur, e3, _, hg, _⟩
        · rw [e3] at hm; cases hm
        · rw [e3] at hm; cases hm; rw [hg] at g2; cases g2) hlen hps
  have KP := Lib.hid fun (w1 : World) (hb : Below w.heap.size w w1) => show w1.cell? ⟨H, 0, none⟩ = some (.pointer (some ⟨F, 0, none⟩)) ∧
      (Calls Tryz.prog 122 #[.pointer (some ⟨F, 0, none⟩)] w1 fun e w' => ∃ x, e = .returned x ∧ RestP l x w' ∧ Below w1.heap.size w1 w') ∧
      Calls Tryz.prog 121 #[.pointer (some ⟨F, 0, none⟩)] w1 fun e w' => ∃ x, e = .returned x ∧ Is (.int .i64 (X.length : Int)) x w' ∧ Below w1.heap.size w1 w' from by
    have k1 : HRow w1 H F (stN s0 bs bs.length) n := h1.keep (Kept.of_below (M := fun _ => False) hb) id
    refine ⟨k1.at_, (rest_any w1 (h2.below hb) l.length l (own_kept (M := fun _ => False) h3 (Kept.of_below hb) fun _ _ => id) (by omega)).mono ?_, (total_any w1 (h2.below hb)).mono ?_⟩
    · rintro e w' ⟨v', rfl, g1, g2⟩
      exact ⟨_, rfl, rest_of g1, g2⟩
    · rintro e w' ⟨rfl, rfl⟩
      exact ⟨_, rfl, rfl, Below.refl _ _⟩
  obtain ⟨e0, he0⟩ : ∃ e0, e0 = 128 * bs.length := ⟨_, rfl⟩
  have hsub : (X.length : Int) - (l.length : Int) = (e0 : Int) := by omega
  have hnl : X.length ≤ 1000000 := by omega
  have H1 := Lib.hid h1
  have HM := Lib.hid hM
  have HC := Lib.hid h4
  have HK := Lib.hid hk
  have HX := Lib.hid h10
  have HE := Lib.hid he0
  have HS0 := Lib.hid hs0
  have HSK := Lib.hid hs0k
  have HCC := Lib.hid hcut
  clear h h1 h2 h3 h4 h10 hM hk hp hs0 hs0k he0 hcut
  go_enter Tryz.func111, Tryz.ntmps111
  go_wp2
  refine wp_region_text [Is (.pointer (some ⟨H, 0, none⟩)), Is (.pointer (some ⟨H, 0, none⟩)), Is (.pointer (some ⟨H, 0, none⟩)), Is (.pointer (some ⟨F, 0, none⟩)), Is (.int .i64 (X.length : Int)), Is (.pointer (some ⟨H, 0, none⟩)), Is (.pointer (some ⟨H, 0, none⟩)), Is (.pointer (some ⟨H, 0, none⟩)), Is (.pointer (some ⟨F, 0, none⟩)), RestP l, Is (.int .i64 (l.length : Int)), Is (.int .i64 (e0 : Int)), Is (.int .i64 (e0 : Int))] (by kernel_rfl) (by kernel_rfl) rfl ⟨stable_is _, stable_is _, stable_is _, stable_is _, stable_is _, stable_is _, stable_is _, stable_is _, stable_is _, stable_rest _, stable_is _, stable_is _, stable_is _, trivial⟩ ⟨?_, ?_, ?_, ?_, ?_, ?_, ?_, ?_, ?_, ?_, ?_, ?_, ?_, trivial⟩ ?_
  · intro a w C
    exact part_on (wanted_free rfl _) (op_move (.inl rfl) (C.was 0 (by kernel_rfl)))
  · intro a w C
    exact part_on (wanted_free rfl _) (op_value (hnil_run _ _ _ _ _ rfl (C.on (j := 0) (by kernel_rfl) rfl rfl)) rfl)
  · intro a w C
    exact part_on (wanted_free rfl _) (op_value (hf0_run _ _ _ _ _ rfl (C.on (j := 1) (by kernel_rfl) rfl rfl)) rfl)
  · intro a w C
    exact part_on (wanted_free rfl _) (op_value (hptr_run _ _ F _ _ _ rfl (C.on (j := 2) (by kernel_rfl) rfl rfl) ((KP.out w C.below).1)) rfl)
  · intro a w C
    exact part_on (wanted_free rfl _) (op_call1 rfl (reg_enters Tryz.func121 (by kernel_rfl) (by kernel_rfl)) (C.on (j := 3) (by kernel_rfl) rfl rfl) ((KP.out w C.below).2.2))
  · intro a w C
    exact part_on (wanted_free rfl _) (op_move (.inl rfl) (C.was 0 (by kernel_rfl)))
  · intro a w C
    exact part_on (wanted_free rfl _) (op_value (hnil_run _ _ _ _ _ rfl (C.on (j := 5) (by kernel_rfl) rfl rfl)) rfl)
  · intro a w C
    exact part_on (wanted_free rfl _) (op_value (hf0_run _ _ _ _ _ rfl (C.on (j := 6) (by kernel_rfl) rfl rfl)) rfl)
  · intro a w C
    exact part_on (wanted_free rfl _) (op_value (hptr_run _ _ F _ _ _ rfl (C.on (j := 7) (by kernel_rfl) rfl rfl) ((KP.out w C.below).1)) rfl)
  · intro a w C
    exact part_on (wanted_free rfl _) (op_call1 rfl (reg_enters Tryz.func122 (by kernel_rfl) (by kernel_rfl)) (C.on (j := 8) (by kernel_rfl) rfl rfl) ((KP.out w C.below).2.1))
  · intro a w C
    obtain ⟨A9, c9, e9, _⟩ : RestP l _ _ := C.on (j := 9) (by kernel_rfl) rfl rfl
    exact part_on (wanted_free rfl _) (op_len_slice rfl Tryz.underlying86 e9 rfl)
  · intro a w C
    exact part_on (wanted_free rfl _) (op_bin rfl (C.on (j := 4) (by kernel_rfl) rfl rfl) (C.on (j := 10) (by kernel_rfl) rfl rfl) rfl (by simp [go_sem, hsub]; exact IntWalk.i64_in _ (by omega)) rfl)
  · intro a w C
    exact part_on (wanted_free rfl _) (op_move (.inr rfl) (C.on (j := 11) (by kernel_rfl) rfl rfl))
  rintro wF hbF _ rfl _ rfl _ rfl _ rfl _ rfl _ rfl _ rfl _ rfl _ rfl x19 hx19 _ rfl _ rfl _ rfl
  simp only [Fin, setAt, Exit.then, List.setIfInBounds_toArray, List.set_cons_succ, List.set_cons_zero]
  have c0 := (KP.out wF hbF).1
  have CPF := Lib.hid (CP.out wF hbF)
  have HBF := Lib.hid hbF
  have hszF := hbF.size
  clear hx19 hbF CP KP
  go_wp2_with fail
  refine CPF.out.mono ?_
  rintro e w1 ⟨vb, rfl, v', h', gs, bs', q, hc'⟩
  obtain ⟨A', c', rfl, hl1, hl2, hl3⟩ := own_form q.list
  have hgl : gs.length = bs'.length := q.outs.1
  rw [hgl]
  have HQ := Lib.hid q
  have HC' := Lib.hid hc'
  have HL := Lib.hid hl2
  have R1 : HRow w1 H F (stN s0 bs bs.length) n := (H1.out.keep (Kept.of_below (M := fun _ => False) HBF.out) id).keep q.kept (fun hm => (HM.out H hm).2.2 rfl)
  have HR1 := Lib.hid R1
  have HG := Lib.hid hgl
  have hB1 : Below B w w1 := (HBF.out.mono (by omega)).trans (q.kept.below (by omega) (fun k hk => (HM.out k hk).1))
  have HB1 := Lib.hid hB1
  clear q hc' hl1 hl2 hl3 R1 hgl c0 CPF hB1
  go_wp2
  have hbl : bs'.length ≤ 1000100 := by
    have e1 := flat_len HC'.out.each
    have e2 := congrArg List.length HC'.out.whole
    rw [List.length_append, List.length_append, e1] at e2
    omega
  have hbl2 : bs.length ≤ 1000000 := by have := HCC.out; omega
  go_loopw [5, 29] (fun v5 v29 wr => ∃ j : Nat, j ≤ bs'.length ∧ v5 = .int .i64 ((e0 + 128 * j : Nat) : Int) ∧ v29 = .int .i64 (j : Int) ∧ HRow wr H F (stN s0 (bs ++ bs') (bs.length + j)) n ∧ Kept (fun k => k = H) w1 wr) (fun _ v29 _ => bs'.length - (intOf v29).toNat)
  case atStart => exact ⟨0, Nat.zero_le _, by simp, rfl, by rw [Nat.add_zero, stN_app _ _ _ _ (Nat.le_refl _)]; exact HR1.out, Kept.refl _ _⟩
  case round =>
    obtain ⟨j, hj, rfl, rfl, hR, hK⟩ := hrel
    have hBr : Below B w wr := HB1.out.trans (hK.below (B := B) (by have := HB1.out.size; omega) (fun k hk => by omega))
    by_cases hlt : j < bs'.length
    · have hlen2 : bs'[j].length = 128 := HC'.out.each _ (List.getElem_mem hlt)
      have hgj : j < gs.length := by rw [HG.out]; exact hlt
      obtain ⟨b0, off0, eq0, hb0, hc0⟩ := Reads.of_own HQ.out.list j (by simp [sls]; omega)
      have hne : b0 ≠ H := by
        obtain ⟨g, eg, hgg⟩ := HL.out (by omega)
        rw [eg] at eq0; cases eq0; omega
      subst eq0
      have hcell : wr.cell? ⟨b0, off0 + j, none⟩ = some (.slice (some ⟨gs[j], 0, none⟩) 128 128) := by
        refine (World.cell?_of_block (w := w1) (hK.block b0 hb0 hne)).trans ?_
        rw [hc0]; simp [sls]
      have hgH : gs[j] ≠ H := by
        rcases HQ.out.gat gs[j] (List.getElem_mem hgj) with e | e
        · exact (HX.out _ e).2.2.1
        · omega
      have hrow : Row wr gs[j] bs'[j] := (HQ.out.outs.2 j hgj hlt).of_eq (hK.block _ ((HQ.out.outs.2 j hgj hlt).lt) hgH)
      have hrd := hrow.reads
      rw [cs_nats] at hrd
      obtain ⟨so1, so2⟩ := stN_ok HSK.out (bs ++ bs') (bs.length + j) (by omega)
      obtain ⟨t, ht⟩ : ∃ t, t = e0 + 128 * j + 128 := ⟨_, rfl⟩
      have htb : t < 18446744073709551616 := by have := HE.out; omega
      have CC := Lib.hid (comp_any (stN s0 (bs ++ bs') (bs.length + j)) so1 so2 (some ⟨gs[j], 0, none⟩) 128 (nats bs'[j]) (by rw [nats_length]; exact hlen2) (nats_lt _) t htb false wr (HK.out.below hBr hB) hrd)
      have HLd := Lib.hid (hR.load so1)
      have e1 : stN s0 (bs ++ bs') (bs.length + (j + 1)) = comp (stN s0 (bs ++ bs') (bs.length + j)) (blockW (nats bs'[j])) t false := by
        have e2 : (bs ++ bs').getD (bs.length + j) [] = bs'[j] := by
          rw [List.getD_eq_getElem?_getD, List.getElem?_append_right (by omega), show bs.length + j - bs.length = j by omega, List.getElem?_eq_getElem hlt]; rfl
        rw [← Nat.add_assoc, stN, e2, show 128 * (bs.length + j + 1) = t by rw [ht, HE.out]; omega]
      have HST := Lib.hid fun (w2 : World) (hb2 : Below wr.heap.size wr w2) => (hR.keep (Kept.of_below (M := fun _ => False) hb2) id).store so1 (stN s0 (bs ++ bs') (bs.length + (j + 1))) (stN_ok HSK.out _ _ (by omega)).1
      rw [← e1] at CC
      have HKK := Lib.hid hK
      have ht2 : ((e0 + 128 * j : Nat) : Int) + 128 = (t : Int) := by omega
      have ht3 : (e0 + 128 * (j + 1) : Nat) = t := by omega
      have HT3 := Lib.hid ht3
      have hwt : IntKind.u64.wrap (t : Int) = (t : Int) := u64_in t htb
      have htb2 : t ≤ 1000000000000 := by have := HE.out; omega
      clear hrow hrd so1 so2 hlen2 e1 hc0 hR hK ht ht3
      generalize hst1 : stN s0 (bs ++ bs') (bs.length + (j + 1)) = st1 at *
      have HST1 := Lib.hid hst1
      clear hst1
      generalize (e0 + 128 * j : Nat) = ej at *
      generalize stN s0 (bs ++ bs') (bs.length + j) = st0 at *
      generalize gs[j] = g0 at *
      have hdt : decide ((j : Int) < (bs'.length : Int)) = true := by simp; omega
      have HLT := Lib.hid hlt
      go_wp2_with (first
        | refine wpList_load_of rfl 53 (.tmp 41) rfl ⟨H, 1, none⟩ _ rfl HLd.out ?_
        | (refine CC.out.mono ?_; rintro e w2 ⟨rfl, hb2⟩; obtain ⟨w3, hst, hR3, hK3⟩ := HST.out w2 hb2; have HS3 := Lib.hid hst; have HR3 := Lib.hid hR3; have HK3 := Lib.hid (And.intro hb2 hK3); clear hb2 hst hR3 hK3)
        | refine wpList_store_of rfl 53 (.tmp 50) (.tmp 47) rfl ⟨H, 1, none⟩ _ rfl rfl HS3.out ?_)
      go_roundw
      case rel =>
        refine ⟨j + 1, HLT.out, by rw [HT3.out], by go_num, by rw [HST1.out]; exact HR3.out, ?_⟩
        exact (HKK.out.trans (Kept.of_below (M := fun _ => False) HK3.out.1) (fun _ _ => False.elim)).trans HK3.out.2 (fun _ _ => id)
      case measure => have := HLT.out; simp [intOf]; omega
    · obtain rfl : j = bs'.length := by omega
      have hdt : decide ((bs'.length : Int) < (bs'.length : Int)) = false := by simp
      rw [← List.length_append] at hR
      have HRR := Lib.hid hR
      have HKK := Lib.hid hK
      have HBR := Lib.hid hBr
      clear hR hK hBr
      go_wp2
      go_ret
      have hq := HQ.out
      have hM3 : ∀ k, v'.ownBlock = some k → B ≤ k ∧ k < wr.heap.size ∧ k ≠ H ∧ k ≠ F := fun k hk => by
        have hl := (hq.held.lt k hk).2
        have hs := HKK.out.size
        rcases hq.vat k hk with e | e
        · obtain ⟨a1, a2, a3, a4⟩ := HX.out k e; exact ⟨a1, by omega, a3, a4⟩
        · exact ⟨by omega, by omega, by omega, hq.vF k hk⟩
      refine ⟨rfl, ⟨⟨F, v', h', bs ++ bs', by rw [← HS0.out]; exact HRR.out, ?_, own_kept hq.held HKK.out (fun k hk => (hM3 k hk).2.2.1), HC.out.more_parts HC'.out, h5, by have := HBR.out.size; omega, h7, by have := HBR.out.size; omega, h9, hM3, Nat.le_refl _⟩⟩, HBR.out⟩
      have := hq.row.keep HKK.out (fun e => h9 e.symm)
      rw [List.length_append]
      exact this
open Go.RowKit Bl
theorem wpList_value_of {P : Program} {ops : Array Oper} {rest : List Oper} {o : Oper} {a : Act} {w w' : World} {Q : Exit → Act → World → Prop} (hgd : o.guard = none) (v : Value) (hr : (execOp a.eval o).run P w = .ok (.value v) w') (h : wpList P ops Q rest (a.put o.dst v) w') : wpList P ops Q (o :: rest) a w := wpList_plain hgd fun _ hK => by
  unfold Oper.wp
  rw [hr]
  exact hK _ _ h
theorem hbuild_run (w : World) (p : Option Addr) (st : List Nat) (hs : st.length = 8) (n : Nat) (ev : Operand → Value) (x y z : Operand) (o : Oper) (hop : o.op = .build 213 #[(0, x), (1, y), (2, z)]) (hx : ev x = .pointer p) (hy : ev y = .agg (wq st)) (hz : ev z = .int .i64 (n : Int)) :
    (execOp ev o).run Tryz.prog w = .ok (.value (.agg (.pointer p :: (u64s st ++ [.int .i64 (n : Int)])).toArray)) w := by
  match st, hs with
  | [_, _, _, _, _, _, _, _], _ => simp [execOp, hop, hx, hy, hz, go_sem, wq, u64s]
theorem hbox_run (w : World) (cs : Array Value) (ev : Operand → Value) (x : Operand) (o : Oper) (hop : o.op = .box 213 x) (hx : ev x = .agg cs) : (execOp ev o).run Tryz.prog w = .ok (.value (.pointer (some ⟨w.heap.size, 0, none⟩))) (w.alloc (.cells cs 213)) := by
  simp [execOp, hop, hx, go_sem]
theorem par_eq (kl n : Nat) (hk : kl ≤ 64) (hn : n ≤ 64) : (16842752 ^^^ (256 * kl)) ^^^ n = 16842752 + 256 * kl + n := by
  have h : ((List.range 65).all fun a => (List.range 65).all fun b => (16842752 ^^^ (256 * a)) ^^^ b == 16842752 + 256 * a + b) = true := by kernel_rfl
  have := List.all_eq_true.1 (List.all_eq_true.1 h kl (List.mem_range.2 (by omega))) n (List.mem_range.2 (by omega))
  simpa using this
theorem HRow.set0 {w : World} {H F n : Nat} {st : List Nat} (h : HRow w H F st n) (x : Nat) (hs : st.length = 8) : HRow (w.setCell ⟨H, 1, none⟩ (.int .u64 (x : Int))) H F (st.set 0 x) n := by
  unfold HRow at *
  rw [setCell_eq_setRow w H 1 _ _ (0, 0) _ h, setRow_heap w H _ _ _ (0, 0) h]
  match st, hs with
  | [_, _, _, _, _, _, _, _], _ => rfl
def keyL (key : ByteArray) : List UInt8 := if key.size = 0 then [] else fill128 (tl key)
theorem add_one (w : World) (B T H kl n : Nat) (hkl : kl ≤ 64) (hn : n ≤ 64) (X : List UInt8) (h : HashIs w B T H kl n X) (hk : QAt w) (hB : 1 < B) (s : ByteArray) (hX : X.length + s.size ≤ 900000) :
    Calls Tryz.prog 111 #[.pointer (some ⟨H, 0, none⟩), .slice (some ⟨w.heap.size, 0, none⟩) 1 1] (w.alloc (.cells #[.string s] 9)) fun e w' => e = .returned (.pointer (some ⟨H, 0, none⟩)) ∧ HashIs w' B w'.heap.size H kl n (X ++ tl s) ∧ Below B w w' := by
  have hT : B ≤ T ∧ T ≤ w.heap.size := by
    obtain ⟨F, v, l, bs, h1, h2, h3, h4, h5, h6, h7, h8, h9, h10, h11⟩ := h.ex
    exact ⟨by omega, h11⟩
  have hb : Below w.heap.size w (w.alloc (.cells #[.string s] 9)) := (Below.refl _ w).alloc (Nat.le_refl _) _
  refine (addhash_any _ B T H kl n hkl hn X (h.below hb) (hk.next hb) hB (some ⟨w.heap.size, 0, none⟩) 1 [s] (fun k hk => ?_) (by rw [jn_one, tl_length]; omega) (by simp)).mono ?_
  · have hk0 : k = 0 := by simp [stv] at hk; omega
    subst hk0
    exact ⟨w.heap.size, 0, rfl, by simp, .inr (.inl hT.2), by rw [cell_of_row _ _ _ _ _ (0, 0) (heap_alloc_last w _)]; rfl⟩
  · rintro e w' ⟨rfl, g1, g2⟩
    rw [jn_one] at g1
    exact ⟨rfl, g1, (hb.mono (by omega)).trans g2⟩
set_option maxHeartbeats 1600000 in
theorem newhash_any (n : Nat) (hn1 : 1 ≤ n) (hn : n ≤ 64) (key : ByteArray) (hkl : key.size ≤ 64) (w : World) (hk : QAt w) : Calls Tryz.prog 110 #[.int .i64 (n : Int), .string key] w fun e w' =>
    ∃ H, e = .returned (.tuple #[.pointer (some ⟨H, 0, none⟩), .int .i64 0]) ∧ HashIs w' w.heap.size w'.heap.size H key.size n (keyL key) ∧ Below w.heap.size w w' := by
  have a1 : ¬ (n : Int) < 1 := by omega
  have a2 : ¬ 64 < (n : Int) := by omega
  have a3 : ¬ 64 < (key.size : Int) := by omega
  have d1 : decide ((n : Int) < 1) = false := decide_eq_false a1
  have d2 : decide (64 < (n : Int)) = false := decide_eq_false a2
  have d3 : decide (64 < (key.size : Int)) = false := decide_eq_false a3
  have HKN := Lib.hid (And.intro hkl (And.intro hn1 (And.intro hn hk)))
  clear hkl hn1 hn hk a1 a2 a3
  go_enter Tryz.func110, Tryz.ntmps110
  go_wp2_with fail
  refine (new_good 128 true (by decide) (by decide) w).mono ?_
  rintro e w1 ⟨rfl, hF, hb1⟩
  have HF := Lib.hid hF
  have HB1 := Lib.hid hb1
  clear hF hb1
  go_wp2_with fail
  refine (init_any w1).mono ?_
  rintro e w2 ⟨rfl, hb2⟩
  have HB2 := Lib.hid hb2
  clear hb2
  go_wp2_with (first
    | refine wpList_value_of rfl _ (hbuild_run w2 _ iv rfl n _ _ _ _ _ rfl rfl rfl rfl) ?_
    | refine wpList_value_of rfl _ (hbox_run w2 _ _ _ _ rfl rfl) ?_)
  obtain ⟨hkl, hn1, hn, hk⟩ := HKN.out
  have hsz1 := HB1.out.size
  have hsz2 := HB2.out.size
  have hF1 := HF.out.lt
  obtain ⟨H, hH⟩ : ∃ H, H = w2.heap.size := ⟨_, rfl⟩
  rw [← hH]
  generalize hW : w2.alloc _ = w3
  have R3 : HRow w3 H w.heap.size iv n := by subst hW; subst hH; exact heap_alloc_last w2 _
  have hb3 : Below w2.heap.size w2 w3 := by subst hW; exact (Below.refl _ _).alloc (Nat.le_refl _) _
  have F3 := (HF.out.below HB2.out).below hb3
  have B3 : Below w.heap.size w w3 := (HB1.out.trans (HB2.out.mono hsz1)).trans (hb3.mono (by omega))
  have hHlt : H < w3.heap.size := R3.lt
  have hHw : w.heap.size < H := by omega
  clear hW hb3 hH
  have c1 : w3.cell? ⟨H, 1, none⟩ = some (.int .u64 (iv.getD 0 0 : Nat)) := by rw [cell_of_row w3 H 1 _ _ _ R3]; rfl
  have f1 : w3.frozen? ⟨H, 1, none⟩ = false := by
    have hR := R3
    unfold HRow at hR
    simp [World.frozen?, hR]
  obtain ⟨k8, hk8⟩ : ∃ k, k = 256 * key.size := ⟨_, rfl⟩
  have e1 : IntKind.u64.wrap ((key.size : Nat) : Int) = ((key.size : Nat) : Int) := u64_in _ (by omega)
  have e2 : IntKind.u64.wrap (((key.size : Nat) : Int) * 256) = (k8 : Int) := by
    rw [← u64_in k8 (by omega)]; congr 1; omega
  have e3 : IntKind.u64.wrap (n : Int) = (n : Int) := u64_in _ (by omega)
  have x1 : bits .xor .u64 (16842752 : Int) (k8 : Int) = ((16842752 ^^^ k8 : Nat) : Int) := xor64 16842752 k8 (by decide) (by omega)
  have l1 := xor_lt64 16842752 k8 (by decide) (by omega)
  have x2 := xor64 (16842752 ^^^ k8) n l1 (by omega)
  have hp := par_eq key.size n hkl hn
  rw [← hk8] at hp
  rw [hp] at x2
  have x3 := xor64 (iv.getD 0 0) (16842752 + k8 + n) (by decide) (by omega)
  have R4 := R3.set0 (iv.getD 0 0 ^^^ (16842752 + k8 + n)) rfl
  have E4 : Hid (iv.set 0 (iv.getD 0 0 ^^^ (16842752 + k8 + n)) = h0 key.size n) := Lib.hid (by rw [hk8]; rfl)
  rw [E4.out] at R4
  have HR3 := Lib.hid R3
  have hh0 := h0_ok key.size n hkl hn
  have HH0 := Lib.hid hh0
  have HRS : Hid (∀ w', w'.heap = (w3.setCell ⟨H, 1, none⟩ (.int .u64 (iv.getD 0 0 ^^^ (16842752 + k8 + n) : Nat))).heap → HRow w' H w.heap.size (h0 key.size n) n) := Lib.hid fun w' hw => by unfold HRow at *; rw [hw]; exact R4
  have HKL := Lib.hid (And.intro hkl (And.intro hn hk))
  have HF3 := Lib.hid F3
  have HB3 := Lib.hid B3
  clear R3 R4 F3 B3 hp l1 E4 hk8 hkl hn1 hn hk hh0 HR3
  generalize 16842752 ^^^ k8 = y1 at *
  generalize 16842752 + k8 + n = y2 at *
  generalize iv.getD 0 0 ^^^ y2 = y3 at *
  generalize iv.getD 0 0 = i0 at *
  go_wp2
  have kc : ∀ tp d os out, (World.mk w3.heap tp d os out).cell? ⟨H, 1, none⟩ = some (.int .u64 (i0 : Int)) := fun _ _ _ _ => c1
  refine wp_region_still_tail 16 (by kernel_rfl) (by kernel_rfl) ?_
  simp only [List.take_succ_cons, List.take_zero, List.drop_succ_cons, List.drop_zero]
  repeat still_step
  refine wpStill_nil ?_
  change wpList _ _ _ _ _ w3.drew
  have c2 : w3.drew.cell? ⟨H, 1, none⟩ = some (.int .u64 (i0 : Int)) := c1
  have f2 : w3.drew.frozen? ⟨H, 1, none⟩ = false := f1
  have HRD : Hid (HRow (w3.drew.setCell ⟨H, 1, none⟩ (.int .u64 (y3 : Int))) H w.heap.size (h0 key.size n) n) := Lib.hid (HRS.out _ rfl)
  have HFD := Lib.hid (HF3.out.drew.other (a := ⟨H, 1, none⟩) (by simp; omega) (.int .u64 (y3 : Int)))
  have HBD := Lib.hid (HB3.out.drew.setCell (p := ⟨H, 1, none⟩) (by simp; omega) (.int .u64 (y3 : Int)))
  have hsD : H < (w3.drew.setCell ⟨H, 1, none⟩ (.int .u64 (y3 : Int))).heap.size := HRD.out.lt
  generalize w3.drew = w4 at *
  clear kc c1 f1 HRS HF3 HB3 x1 x2 x3 e1 e2 e3
  generalize hWD : w4.setCell ⟨H, 1, none⟩ (.int .u64 (y3 : Int)) = wD at *
  have hHash : HashIs wD w.heap.size wD.heap.size H key.size n [] := by
    refine ⟨⟨w.heap.size, .slice none 0 0, [], [], HRD.out, HFD.out, World.ownsRow_nil _ _ _ _, Cut.nothing ⟨by simp, by simp⟩, by omega, hsD, Nat.le_refl _, by omega, by omega, fun k hk => by simp [Value.ownBlock] at hk, Nat.le_refl _⟩⟩
  have HH := Lib.hid hHash
  have hs0 : 1 < w.heap.size := HKL.out.2.2.1
  have HQ := Lib.hid (HKL.out.2.2.below HBD.out hs0)
  have HWD := Lib.hid hWD
  clear hHash HRD HFD HH0 hWD
  by_cases hk0 : key.size = 0
  · have hke : key = ⟨#[]⟩ := by
      apply tl_inj
      have := tl_length key
      rw [hk0] at this
      exact List.eq_nil_of_length_eq_zero this
    subst hke
    clear hk0
    go_wp2
    rw [HWD.out]
    go_ret2
    exact ⟨H, rfl, HH.out, HBD.out⟩
  · have HIF : Hid (keyL key = fill128 (tl key)) := Lib.hid (if_neg hk0)
    have hne : key.toList = [] → False := fun e => by
      have := congrArg List.length e
      rw [ByteArray.toList_eq] at this
      have e2 := tl_length key
      unfold tl at e2
      simp [e2] at this
      exact hk0 (by simpa using this)
    have hne1 : key.toList.isEmpty = false := by
      cases hc : key.toList with
      | nil => exact (hne hc).elim
      | cons _ _ => rfl
    have hne2 : (key.toList == []) = false := by
      cases hc : key.toList with
      | nil => exact (hne hc).elim
      | cons _ _ => rfl
    clear hne hk0
    obtain ⟨W, cap, hcv, hbW, hBuf, hWs⟩ := bytes_of_text wD key
    have hrd : Reads W W.heap.size (some ⟨wD.heap.size, 0, none⟩) (cs (tl key)) := by
      rw [cs_nats]
      exact hBuf.reads (by omega)
    have CF := Lib.hid (filled_any (some ⟨wD.heap.size, 0, none⟩) cap (tl key) (by rw [tl_length]; have := HKL.out.1; omega) W hrd (fun e => by cases e))
    rw [tl_length] at CF
    have hfl := fill128_length (tl key) (by rw [tl_length]; have := HKL.out.1; omega)
    have HFL := Lib.hid hfl
    have HBW := Lib.hid hbW
    rw [← HWD.out] at hcv
    have hsw : wD.heap.size = w4.heap.size := by rw [← HWD.out]; simp [World.setCell]
    rw [hsw] at CF
    clear hsw
    clear hBuf hrd hWs hfl hbW
    go_wp2_with fail
    refine CF.out.mono ?_
    rintro e w5 ⟨g, rfl, hRow, hgW, hb5⟩
    have hcr := conv_row (c := 128) hRow HFL.out
    have HB5 := Lib.hid (below_step HBW.out hb5)
    have HA := Lib.hid (add_one w5 w.heap.size wD.heap.size H key.size n HKL.out.1 HKL.out.2.1 [] (HH.out.below HB5.out) (HQ.out.next HB5.out) hs0 (tx (fill128 (tl key))) (by rw [tx_size, HFL.out]; decide))
    rw [tl_tx, List.nil_append] at HA
    clear hRow hgW hb5 CF
    generalize tx (fill128 (tl key)) = txk at *
    go_wp2_with fail
    refine HA.out.mono ?_
    rintro e w6 ⟨rfl, h6, b6⟩
    have H6 := Lib.hid h6
    have B6 := Lib.hid (HBD.out.trans ((HB5.out.mono HBD.out.size).trans b6))
    clear h6 b6
    go_wp2
    go_ret2
    exact ⟨H, rfl, by rw [HIF.out]; exact H6.out, B6.out⟩
open Go.RowKit Bl
def blocksOf : Nat → List UInt8 → List (List UInt8)
  | 0, _ => []
  | k + 1, Y => Y.take 128 :: blocksOf k (Y.drop 128)
theorem blocksOf_length : ∀ (k : Nat) (Y : List UInt8), (blocksOf k Y).length = k
  | 0, _ => rfl
  | k + 1, Y => by rw [blocksOf, List.length_cons, blocksOf_length k]
theorem blocksOf_flat : ∀ (k : Nat) (Y : List UInt8), k * 128 ≤ Y.length → (blocksOf k Y).flatten = Y.take (k * 128) ∧ ∀ b ∈ blocksOf k Y, b.length = 128
  | 0, Y, _ => by simp [blocksOf]
  | k + 1, Y, h => by
    obtain ⟨h1, h2⟩ := blocksOf_flat k (Y.drop 128) (by rw [List.length_drop]; omega)
    refine ⟨?_, fun b hb => ?_⟩
    · rw [blocksOf, List.flatten_cons, h1, show (k + 1) * 128 = 128 + k * 128 by omega, List.take_add]
    · rcases List.mem_cons.1 hb with rfl | hb
      · rw [List.length_take]; omega
      · exact h2 b hb
def lz (X : List UInt8) : Nat := (X.length - 1) / 128
theorem lz_cut (X : List UInt8) : Cut 128 true X (blocksOf (lz X) X) (X.drop (lz X * 128)) := by
  have hz : lz X * 128 ≤ X.length := by unfold lz; omega
  obtain ⟨h1, h2⟩ := blocksOf_flat (lz X) X hz
  refine ⟨by rw [h1, List.take_append_drop], h2, ⟨by rw [List.length_drop]; unfold lz; omega, fun _ => rfl⟩, fun _ hne => ?_⟩
  have hp : 0 < lz X := by
    rcases Nat.eq_zero_or_pos (lz X) with h | h
    · rw [h] at hne; exact absurd rfl hne
    · exact h
  intro e
  have := congrArg List.length e
  rw [List.length_drop] at this
  unfold lz at hp this hz
  simp at this
  omega
def blkSt (kl n : Nat) (X : List UInt8) : List Nat := comp (stN (h0 kl n) (blocksOf (lz X) X) (lz X)) (blockW (nats (fill128 (X.drop (lz X * 128))))) X.length true
theorem blk_one {kl n : Nat} {X l : List UInt8} {bs : List (List UInt8)} (h : Cut 128 true X bs l) : comp (stN (h0 kl n) bs bs.length) (blockW (nats (fill128 l))) X.length true = blkSt kl n X := by
  obtain ⟨rfl, rfl⟩ := cut_one h (lz_cut X)
  unfold blkSt
  rw [blocksOf_length]
def bytesL (l : List Nat) : List UInt8 := l.map UInt8.ofNat
theorem cs_bytesL (l : List Nat) (h : ∀ x ∈ l, x < 256) : cs (bytesL l) = u8s l := by
  unfold cs bytesL u8s
  rw [List.map_map]
  refine List.map_congr_left fun x hx => ?_
  have := h x hx
  have e : (UInt8.ofNat x).toNat = x := by rw [UInt8.toNat_ofNat']; omega
  show Value.int .u8 ((UInt8.ofNat x).toNat : Int) = _
  rw [e]
theorem bytesOf_lt (p : Nat → Nat) (n x : Nat) : ∀ b ∈ bytesOf p n x, b < 256 := by
  intro b hb
  simp only [bytesOf, List.mem_map] at hb
  obtain ⟨i, _, rfl⟩ := hb
  exact Nat.mod_lt _ (by decide)
def outL (st : List Nat) : List UInt8 := bytesL (st.flatMap (bytesOf ups 8))
theorem flat8_lt (st : List Nat) : ∀ x ∈ st.flatMap (bytesOf ups 8), x < 256 := by
  intro x hx
  obtain ⟨y, _, hy⟩ := List.mem_flatMap.1 hx
  exact bytesOf_lt _ _ _ x hy
theorem outL_length (st : List Nat) (h : st.length = 8) : (outL st).length = 64 := by
  unfold outL bytesL
  rw [List.length_map, flat_length, h]
def blkL (kl n : Nat) (X : List UInt8) : List UInt8 := (outL (blkSt kl n X)).take n
theorem nd_of (ops : List Oper) (n : Nat) (es : List (Value → World → Prop)) (h : ((List.range ops.length).all fun i => decide (i = n) || (match ops[i]? with | some o => o.dst.isSome | none => true)) = true) (he : ∀ v w, Ds es n v w) : ∀ i o, ops[i]? = some o → o.dst = none → ∀ v w, Ds es i v w := by
  intro i o hi hd
  have hl := (List.getElem?_eq_some_iff.1 hi).1
  have := List.all_eq_true.1 h i (List.mem_range.2 hl)
  rw [hi] at this
  simp only [hd, Option.isSome_none, Bool.or_false, decide_eq_true_eq] at this
  rw [this]; exact he
theorem st8_run {w : World} {ev : Operand → Value} {x y : Operand} {o : Oper} {B : Nat} {C C' : Array Value} (hop : o.op = .store 53 x y) (hx : ev x = .pointer (some ⟨B, 0, none⟩)) (hy : ev y = .agg C') (hR : RowAt w B 53 C) (h8 : C.size = 8) (h8' : C'.size = 8) (h1 : C'.all (·.oneCell') = true) :
    (execOp ev o).run Tryz.prog w = .ok .skip (w.setRow B C') := by
  have h := RowAt.storeAt (P := Tryz.prog) hR (by rw [h8']; exact q_size8) (by rw [h8, h8']) h1
  simp [execOp, hop, hx, hy, h]
theorem sl8_run {w : World} {ev : Operand → Value} {x : Operand} {o : Oper} {B : Nat} (hop : o.op = .slice 53 x none none none) (hx : ev x = .pointer (some ⟨B, 0, none⟩)) : (execOp ev o).run Tryz.prog w = .ok (.value (.slice (some ⟨B, 0, none⟩) 8 8)) w := by
  simp [execOp, hop, hx, go_sem]
theorem sln_run {w : World} {ev : Operand → Value} {x y : Operand} {o : Oper} {g c n : Nat} (hop : o.op = .slice 86 x none (some y) none) (hx : ev x = .slice (some ⟨g, 0, none⟩) 64 c) (hy : ev y = .int .i64 (n : Int)) (hn : n ≤ c) : (execOp ev o).run Tryz.prog w = .ok (.value (.slice (some ⟨g, 0, none⟩) n c)) w := by
  have h1 : (n : Int) ≤ (c : Int) := by omega
  simp [execOp, hop, hx, hy, go_sem, h1]
theorem hint_run (w : World) (H : Nat) (v : Value) (ev : Operand → Value) (x : Operand) (o : Oper) (hop : o.op = .load 3 x) (hx : ev x = .pointer (some ⟨H, 9, none⟩)) (hc : w.cell? ⟨H, 9, none⟩ = some v) : (execOp ev o).run Tryz.prog w = .ok (.value v) w := by
  simp [execOp, hop, hx, hc, go_sem]
theorem Row.take {w : World} {g : Nat} {b : List UInt8} (h : Row w g b) (n : Nat) : Row w g (b.take n) := by
  obtain ⟨cur, fz, h1, h2⟩ := h
  refine ⟨cur, fz, h1, ?_⟩
  have e : cs (b.take n) = (cs b).take (b.take n).length := by
    unfold cs
    rw [List.length_take, ← List.map_take]
    congr 1
    rcases Nat.le_total n b.length with h | h
    · rw [Nat.min_eq_left h]
    · rw [Nat.min_eq_right h, List.take_of_length_le h, List.take_length]
  rw [e, ← h2, List.take_take, List.length_take]
  congr 1; omega
def OutP (b : List UInt8) : Value → World → Prop := fun x w => ∃ g c, x = .slice (some ⟨g, 0, none⟩) 64 c ∧ 64 ≤ c ∧ Row w g b
theorem stable_out (b : List UInt8) : Stable (OutP b) := fun _ _ _ ⟨g, c, e, h0, h⟩ hb => ⟨g, c, e, h0, h.of_eq (hb.block g h.lt)⟩
def SubP (n : Nat) (b : List UInt8) : Value → World → Prop := fun x w => ∃ g c, x = .slice (some ⟨g, 0, none⟩) n c ∧ Row w g b
theorem stable_sub (n : Nat) (b : List UInt8) : Stable (SubP n b) := fun _ _ _ ⟨g, c, e, h⟩ hb => ⟨g, c, e, h.of_eq (hb.block g h.lt)⟩
def FillP (l : List UInt8) : Value → World → Prop := fun x w => ∃ g, x = .slice (some ⟨g, 0, none⟩) 128 128 ∧ Row w g (fill128 l)
theorem stable_fill (l : List UInt8) : Stable (FillP l) := fun _ _ _ ⟨g, e, h⟩ hb => ⟨g, e, h.of_eq (hb.block g h.lt)⟩
def NewEight (N : Nat) : Value → World → Prop := fun x w => ∃ B, x = .pointer (some ⟨B, 0, none⟩) ∧ N ≤ B ∧ RowAt w B 53 (wq (List.replicate 8 0))
theorem stable_new8 (N : Nat) : Stable (NewEight N) := fun _ _ _ ⟨B, e, h, h2⟩ hb => ⟨B, e, h, h2.below hb h2.lt⟩
def GotEight (N : Nat) (st : List Nat) : Value → World → Prop := fun x w => ∃ B, x = .pointer (some ⟨B, 0, none⟩) ∧ N ≤ B ∧ RowAt w B 53 (wq st)
theorem stable_got8 (N : Nat) (st : List Nat) : Stable (GotEight N st) := fun _ _ _ ⟨B, e, h, h2⟩ hb => ⟨B, e, h, h2.below hb h2.lt⟩
theorem op_eight {N : Nat} {o : Oper} {a : Act} {w : World} {Q : Exit → Act → World → Prop} (hop : o.op = .alloc 53) (hN : N ≤ w.heap.size) : Does Tryz.prog (NewEight N) o a w Q := by
  have hr : (execOp a.eval o).run Tryz.prog w = .ok (.value (.pointer (some ⟨w.heap.size, 0, none⟩))) (w.alloc (.cells (wq (List.replicate 8 0)) 53)) := by
    simp [execOp, hop, go_sem, wq, u64s]
  unfold Does Oper.wp
  rw [hr]
  exact ⟨_, rfl, ⟨w.heap.size, rfl, hN, RowAt.new _ _ _⟩, (Below.refl _ _).alloc (Nat.le_refl _) _⟩
theorem op_call4 {P : Program} {o : Oper} {a : Act} {w : World} {Q : Exit → Act → World → Prop} {p : Value → World → Prop} {f : FuncId} {x1 x2 x3 x4 : Operand} {ts : Array TypeId} {v1 v2 v3 v4 : Value} (ho : o.op = .call { callee := .value (.func f), args := #[x1, x2, x3, x4], argTypes := ts }) (he : ∀ (args : Array Value) (w : World), (callFunc f args).run P w = .ok (.enter f args) w)
    (h1 : a.eval x1 = v1) (h2 : a.eval x2 = v2) (h3 : a.eval x3 = v3) (h4 : a.eval x4 = v4) (hc : Calls P f #[v1, v2, v3, v4] w fun e w' => ∃ v, e = .returned v ∧ p v w' ∧ Below w.heap.size w w') : Does P p o a w Q := by
  subst h1; subst h2; subst h3; subst h4
  exact op_call ho he hc
section
variable {P : Program} {ops : List Oper} {Q : Exit → Act → World → Prop} {a0 : Act} {w0 : World} {ds es : List (Value → World → Prop)} {n i : Nat} {o : Oper} {D : Nat → Value → World → Prop} {a : Act} {w : World}
theorem t_head (hk : sideOf ops n i = 0) (H : ∀ a w, TCtx ops (Ds ds) a0 w0 o a w → Does P (Ds ds i) o a w Q) : TPart P ops n ds es a0 w0 Q i o := .inr ⟨fun _ => H, fun h => absurd h (by rw [hk]; decide)⟩
theorem t_float (_ : sideOf ops n i = 1) (H : ∀ a w, TCtx ops (Ds ds) a0 w0 o a w → Does P (Ds ds i) o a w Q) (H2 : ∀ a w, TCtx ops (Ds es) a0 w0 o a w → Does P (Ds es i) o a w Q) : TPart P ops n ds es a0 w0 Q i o := .inr ⟨fun _ => H, fun _ => H2⟩
theorem t_behind (hk : sideOf ops n i = 2) (H2 : ∀ a w, TCtx ops (Ds es) a0 w0 o a w → Does P (Ds es i) o a w Q) : TPart P ops n ds es a0 w0 Q i o := .inr ⟨fun h => absurd h (by rw [hk]; decide), fun _ => H2⟩
theorem TCtx.on (C : TCtx ops D a0 w0 o a w) {j : Nat} {o' : Oper} {d : Tmp} (h : o.after.toList.any (fun e => Region.binds .any e && e.on == j) = true) (hj : ops[j]? = some o') (hd : o'.dst = some d) : D j (a.tmps.getD d undef) w := by
  simp only [List.any_eq_true, Bool.and_eq_true, beq_iff_eq] at h
  obtain ⟨e, he, hb, rfl⟩ := h
  exact C.dep e (by simpa using he) hb o' d hj hd
theorem TCtx.was (C : TCtx ops D a0 w0 o a w) (t : Tmp) (h : (ops.all fun o' => o'.dst != some t) = true) : a.tmps.getD t undef = a0.tmps.getD t undef :=
  C.old t fun o' ho e => by have := List.all_eq_true.1 h o' ho; rw [e] at this; simp at this
end
set_option maxHeartbeats 1600000 in
theorem sumhash_any (w : World) (B T H kl n : Nat) (hkl : kl ≤ 64) (hn : n ≤ 64) (X : List UInt8) (h : HashIs w B T H kl n X) (hk : QAt w) (hX : X.length ≤ 900000) :
    Calls Tryz.prog 112 #[.pointer (some ⟨H, 0, none⟩)] w fun e w' => e = .returned (.string (tx (blkL kl n X))) ∧ Below w.heap.size w w' := by
  obtain ⟨F, v, l, bs, h1, h2, h3, h4, h5, h6, h7, h8, h9, h10, h11⟩ := h.ex
  obtain ⟨N, hN⟩ : ∃ N, N = w.heap.size := ⟨_, rfl⟩
  have hcut := cut_count h4
  have hll : l.length ≤ 128 := h4.held.1
  have hok := stN_ok (h0_ok kl n hkl hn) bs bs.length (by omega)
  have hone := blk_one (kl := kl) (n := n) h4
  obtain ⟨XL, hXL⟩ : ∃ XL, XL = X.length := ⟨_, rfl⟩
  have hzl : (blkSt kl n X).length = 8 := by rw [← hone, comp_length]; exact hok.1
  have hzo : okw (blkSt kl n X) := by rw [← hone]; exact comp_ok hok.2 _ (by omega) _
  obtain ⟨st, hst⟩ : ∃ st, st = stN (h0 kl n) bs bs.length := ⟨_, rfl⟩
  rw [← hst] at h1 hok hone
  have KP := Lib.hid fun (w1 : World) (hb : Below w.heap.size w w1) => show w1.cell? ⟨H, 0, none⟩ = some (.pointer (some ⟨F, 0, none⟩)) ∧ (loadVar 53 ⟨H, 1, none⟩).run Tryz.prog w1 = .ok (.agg (wq st)) w1 ∧
      (Calls Tryz.prog 122 #[.pointer (some ⟨F, 0, none⟩)] w1 fun e w' => ∃ x, e = .returned x ∧ RestP l x w' ∧ Below w1.heap.size w1 w') ∧
      Calls Tryz.prog 121 #[.pointer (some ⟨F, 0, none⟩)] w1 fun e w' => ∃ x, e = .returned x ∧ Is (.int .i64 (XL : Int)) x w' ∧ Below w1.heap.size w1 w' from by
    have k1 : HRow w1 H F st n := h1.keep (Kept.of_below (M := fun _ => False) hb) id
    refine ⟨k1.at_, k1.load hok.1, (rest_any w1 (h2.below hb) l.length l (own_kept (M := fun _ => False) h3 (Kept.of_below hb) fun _ _ => id) (by omega)).mono ?_, (total_any w1 (h2.below hb)).mono ?_⟩
    · rintro e w' ⟨v', rfl, g1, g2⟩
      exact ⟨_, rfl, rest_of g1, g2⟩
    · rintro e w' ⟨rfl, rfl⟩
      exact ⟨_, rfl, by rw [hXL]; rfl, Below.refl _ _⟩
  have KS := Lib.hid fun (w1 : World) (hb : Below w.heap.size w w1) => show w1.cell? ⟨H, 9, none⟩ = some (.int .i64 (n : Int)) from (h1.keep (Kept.of_below (M := fun _ => False) hb) id).size_ hok.1
  rw [← hXL] at hone
  have HOUT : Hid (blkL kl n X = (outL (blkSt kl n X)).take n) := Lib.hid rfl
  generalize blkSt kl n X = zt at *
  
  have CC := Lib.hid fun (w1 : World) (hb : Below w.heap.size w w1) (g : Nat) (hr : Row w1 g (fill128 l)) => show Calls Tryz.prog 124 #[.agg (wq st), .slice (some ⟨g, 0, none⟩) 128 128, .int .u64 (XL : Int), .bool true] w1 fun e w' => ∃ x, e = .returned x ∧ Is (.tuple #[.agg (wq zt), .int .i64 0]) x w' ∧ Below w1.heap.size w1 w' from by
    have hrd := hr.reads
    rw [cs_nats] at hrd
    have hc := comp_any st hok.1 hok.2 (some ⟨g, 0, none⟩) 128 (nats (fill128 l)) (by rw [nats_length, fill128_length l hll]) (nats_lt _) XL (by omega) true w1 (hk.next hb) hrd
    rw [hone] at hc
    refine hc.mono ?_
    rintro e w' ⟨rfl, g2⟩
    exact ⟨_, rfl, rfl, g2⟩
  have hwX : IntKind.u64.wrap (XL : Int) = (XL : Int) := u64_in _ (by omega)
  have HN := Lib.hid hN
  have HLL := Lib.hid hll
  have HZ := Lib.hid (And.intro hzl hzo)
  have HNN := Lib.hid hn
  clear h h1 h2 h3 h4 h5 h6 h7 h8 h9 h10 h11 hk hcut hll hok hone hzl hzo hst hXL hX hkl hN
  go_enter Tryz.func112, Tryz.ntmps112
  go_wp2
  refine wp_region_turn 21 20 _ _ 3 [Is (.pointer (some ⟨H, 0, none⟩)), Is (.pointer (some ⟨H, 0, none⟩)), Is (.pointer (some ⟨H, 1, none⟩)), Is (.agg (wq st)), Is (.pointer (some ⟨H, 0, none⟩)), Is (.pointer (some ⟨H, 0, none⟩)), Is (.pointer (some ⟨H, 0, none⟩)), Is (.pointer (some ⟨F, 0, none⟩)), RestP l, FillP l, Is (.pointer (some ⟨H, 0, none⟩)), Is (.pointer (some ⟨H, 0, none⟩)), Is (.pointer (some ⟨H, 0, none⟩)), Is (.pointer (some ⟨F, 0, none⟩)), Is (.int .i64 (XL : Int)), Is (.int .u64 (XL : Int)), Is (.tuple #[.agg (wq zt), .int .i64 0]), Is (.tuple #[.agg (wq zt), .int .i64 0]), Is (.agg (wq zt)), Is (.int .i64 0), NewEight N, Free, Is (.int .i64 0)] [Is (.pointer (some ⟨H, 0, none⟩)), Is (.pointer (some ⟨H, 0, none⟩)), Is (.pointer (some ⟨H, 1, none⟩)), Is (.agg (wq st)), Is (.pointer (some ⟨H, 0, none⟩)), Is (.pointer (some ⟨H, 0, none⟩)), Is (.pointer (some ⟨H, 0, none⟩)), Is (.pointer (some ⟨F, 0, none⟩)), Free, Free, Is (.pointer (some ⟨H, 0, none⟩)), Is (.pointer (some ⟨H, 0, none⟩)), Is (.pointer (some ⟨H, 0, none⟩)), Is (.pointer (some ⟨F, 0, none⟩)), Is (.int .i64 (XL : Int)), Is (.int .u64 (XL : Int)), Is (.tuple #[.agg (wq zt), .int .i64 0]), Is (.tuple #[.agg (wq zt), .int .i64 0]), Is (.agg (wq zt)), Is (.int .i64 0), GotEight N zt, Free, Is (.int .i64 0)] (by kernel_rfl) (by kernel_rfl) rfl rfl rfl rfl (by decide) rfl rfl ⟨stable_is _, stable_is _, stable_is _, stable_is _, stable_is _, stable_is _, stable_is _, stable_is _, stable_rest _, stable_fill _, stable_is _, stable_is _, stable_is _, stable_is _, stable_is _, stable_is _, stable_is _, stable_is _, stable_is _, stable_is _, stable_new8 _, stable_free, stable_is _, trivial⟩ ⟨stable_is _, stable_is _, stable_is _, stable_is _, stable_is _, stable_is _, stable_is _, stable_is _, stable_free, stable_free, stable_is _, stable_is _, stable_is _, stable_is _, stable_is _, stable_is _, stable_is _, stable_is _, stable_is _, stable_is _, stable_got8 _ _, stable_free, stable_is _, trivial⟩ ⟨.inr fun _ _ _ h => h, .inr fun _ _ _ h => h, .inr fun _ _ _ h => h, .inr fun _ _ _ h => h, .inr fun _ _ _ h => h, .inr fun _ _ _ h => h, .inr fun _ _ _ h => h, .inr fun _ _ _ h => h, .inr fun _ _ _ _ => trivial, .inr fun _ _ _ _ => trivial, .inr fun _ _ _ h => h, .inr fun _ _ _ h => h, .inr fun _ _ _ h => h, .inr fun _ _ _ h => h, .inr fun _ _ _ h => h, .inr fun _ _ _ h => h, .inr fun _ _ _ h => h, .inr fun _ _ _ h => h, .inr fun _ _ _ h => h, .inr fun _ _ _ h => h, .inl rfl, .inr fun _ _ _ h => h, .inr fun _ _ _ h => h, trivial⟩ ⟨?h0, ?h1, ?h2, ?h3, ?h4, ?h5, ?h6, ?h7, ?h8, ?h9, ?h10, ?h11, ?h12, ?h13, ?h14, ?h15, ?h16, ?h17, ?h18, ?h19, ?h20, ?h21, ?h22, trivial⟩ ?turn (by kernel_rfl) ?nd ?fin
  case h0 =>
    exact t_head (by kernel_rfl) fun a w C => op_move (.inl rfl) (C.was 0 (by kernel_rfl))
  case h1 =>
    exact t_head (by kernel_rfl) fun a w C => op_value (hnil_run _ _ _ _ _ rfl (C.on (j := 0) (by kernel_rfl) rfl rfl)) rfl
  case h2 =>
    exact t_head (by kernel_rfl) fun a w C => op_value (hf1_run _ _ _ _ _ rfl (C.on (j := 1) (by kernel_rfl) rfl rfl)) rfl
  case h3 =>
    exact t_head (by kernel_rfl) fun a w C => op_value (harr_run _ _ _ _ _ _ rfl (C.on (j := 2) (by kernel_rfl) rfl rfl) ((KP.out w C.below).2.1)) rfl
  case h4 =>
    exact t_head (by kernel_rfl) fun a w C => op_move (.inl rfl) (C.was 0 (by kernel_rfl))
  case h5 =>
    exact t_head (by kernel_rfl) fun a w C => op_value (hnil_run _ _ _ _ _ rfl (C.on (j := 4) (by kernel_rfl) rfl rfl)) rfl
  case h6 =>
    exact t_head (by kernel_rfl) fun a w C => op_value (hf0_run _ _ _ _ _ rfl (C.on (j := 5) (by kernel_rfl) rfl rfl)) rfl
  case h7 =>
    exact t_head (by kernel_rfl) fun a w C => op_value (hptr_run _ _ F _ _ _ rfl (C.on (j := 6) (by kernel_rfl) rfl rfl) ((KP.out w C.below).1)) rfl
  case h8 =>
    exact t_head (by kernel_rfl) fun a w C => op_call1 rfl (reg_enters Tryz.func122 (by kernel_rfl) (by kernel_rfl)) (C.on (j := 7) (by kernel_rfl) rfl rfl) ((KP.out w C.below).2.2.1)
  case h9 =>
    exact t_head (by kernel_rfl) fun a w C => by
      obtain ⟨A8, c8, e8, r8, n8⟩ : RestP l _ _ := (C.on (j := 8) (by kernel_rfl) rfl rfl)
      exact op_call1 rfl (reg_enters Tryz.func120 (by kernel_rfl) (by kernel_rfl)) e8 ((filled_any A8 c8 l HLL.out w r8 n8).mono fun e w2 h => by obtain ⟨g, rfl, h1, h2, h3⟩ := h; exact ⟨_, rfl, ⟨g, rfl, h1⟩, h3⟩)
  case h10 =>
    exact t_head (by kernel_rfl) fun a w C => op_move (.inl rfl) (C.was 0 (by kernel_rfl))
  case h11 =>
    exact t_head (by kernel_rfl) fun a w C => op_value (hnil_run _ _ _ _ _ rfl (C.on (j := 10) (by kernel_rfl) rfl rfl)) rfl
  case h12 =>
    exact t_head (by kernel_rfl) fun a w C => op_value (hf0_run _ _ _ _ _ rfl (C.on (j := 11) (by kernel_rfl) rfl rfl)) rfl
  case h13 =>
    exact t_head (by kernel_rfl) fun a w C => op_value (hptr_run _ _ F _ _ _ rfl (C.on (j := 12) (by kernel_rfl) rfl rfl) ((KP.out w C.below).1)) rfl
  case h14 =>
    exact t_head (by kernel_rfl) fun a w C => op_call1 rfl (reg_enters Tryz.func121 (by kernel_rfl) (by kernel_rfl)) (C.on (j := 13) (by kernel_rfl) rfl rfl) ((KP.out w C.below).2.2.2)
  case h15 =>
    exact t_head (by kernel_rfl) fun a w C => op_conv rfl (C.on (j := 14) (by kernel_rfl) rfl rfl) (by simp [go_sem, hwX]) rfl
  case h16 =>
    exact t_head (by kernel_rfl) fun a w C => by
      obtain ⟨g9, e9, r9⟩ : FillP l _ _ := (C.on (j := 9) (by kernel_rfl) rfl rfl)
      exact op_call4 rfl (reg_enters Tryz.func124 (by kernel_rfl) (by kernel_rfl)) (C.on (j := 3) (by kernel_rfl) rfl rfl) e9 (C.on (j := 15) (by kernel_rfl) rfl rfl) rfl (CC.out w C.below g9 r9)
  case h17 =>
    exact t_head (by kernel_rfl) fun a w C => op_move (.inl rfl) (C.on (j := 16) (by kernel_rfl) rfl rfl)
  case h18 =>
    exact t_head (by kernel_rfl) fun a w C => op_value (ex_run rfl (C.on (j := 17) (by kernel_rfl) rfl rfl) rfl) rfl
  case h19 =>
    exact t_float (by kernel_rfl) (fun a w C => op_value (ex_run rfl (C.on (j := 17) (by kernel_rfl) rfl rfl) rfl) rfl) (fun a w C => op_value (ex_run rfl (C.on (j := 17) (by kernel_rfl) rfl rfl) rfl) rfl)
  case h20 =>
    exact t_head (by kernel_rfl) fun a w C => op_eight rfl (by rw [HN.out]; exact C.below.size)
  case h21 =>
    exact .inl rfl
  case h22 =>
    exact t_behind (by kernel_rfl) fun a w C => op_move (.inr rfl) (C.on (j := 19) (by kernel_rfl) rfl rfl)
  case turn =>
    intro a w1 C hs
    obtain ⟨B3, e3, hNB, hR⟩ : NewEight N _ _ := hs
    have e25 : a.tmps.getD 25 undef = .agg (wq zt) := C.on (j := 18) (by kernel_rfl) rfl rfl
    unfold Oper.wp
    rw [st8_run rfl e3 e25 hR (by rw [wq_size]; rfl) (by rw [wq_size]; exact HZ.out.1) (wq_one _)]
    exact ⟨rfl, below_setRow C.below (by rw [← HN.out]; exact hNB) _, ⟨B3, e3, hNB, hR.setRow _⟩⟩
  case nd =>
    exact nd_of _ 21 _ (by kernel_rfl) (fun _ _ => trivial)
  case fin =>
    rintro wF hbF _ rfl _ rfl _ rfl _ rfl _ rfl _ rfl _ rfl _ rfl x8 y8 x9 y9 _ rfl _ rfl _ rfl _ rfl _ rfl _ rfl _ rfl _ rfl _ rfl _ rfl q20 x20 x21 y21 _ rfl
    simp only [Fin, setAt, Exit.then, List.setIfInBounds_toArray, List.set_cons_succ, List.set_cons_zero]
    obtain ⟨B3, rfl, hNB, hR⟩ := x20
    have HR3 := Lib.hid hR
    have HBF := Lib.hid hbF
    clear hR hbF y8 y9 y21 CC KP
    go_wp2
    refine wp_region_text [Is (.slice (some ⟨B3, 0, none⟩) 8 8), OutP (outL zt), Is (.pointer (some ⟨H, 0, none⟩)), Is (.pointer (some ⟨H, 0, none⟩)), Is (.pointer (some ⟨H, 9, none⟩)), Is (.int .i64 (n : Int)), SubP n ((outL zt).take n), Is (.string (tx ((outL zt).take n))), Is (.string (tx ((outL zt).take n)))] (by kernel_rfl) (by kernel_rfl) rfl ⟨stable_is _, stable_out _, stable_is _, stable_is _, stable_is _, stable_is _, stable_sub _ _, stable_is _, stable_is _, trivial⟩ ⟨?_, ?_, ?_, ?_, ?_, ?_, ?_, ?_, ?_, trivial⟩ ?_
    · intro a w C
      exact part_on (wanted_free rfl _) (op_value (sl8_run rfl (C.was 3 (by kernel_rfl))) rfl)
    · intro a w C
      have CL : Calls Tryz.prog 125 #[.slice (some ⟨B3, 0, none⟩) 8 8] w fun e w' => ∃ x, e = .returned x ∧ OutP (outL zt) x w' ∧ Below w.heap.size w w' := by
        have hRw := HR3.out.below C.below HR3.out.lt
        have hl := little64_any (some ⟨B3, 0, none⟩) 8 zt w (fun k hk => ⟨B3, 0, rfl, hRw.lt, by rw [Nat.zero_add, hRw.cell]; simp [wq, List.getElem?_eq_getElem hk]⟩) (by rw [HZ.out.1]; decide) HZ.out.2
        rw [HZ.out.1] at hl
        refine hl.mono ?_
        rintro e w' ⟨v, rfl, hown, hb⟩
        obtain ⟨A', c', rfl, hl1, hl2, hl3⟩ := own_form hown
        obtain ⟨g, rfl, hg⟩ := hl2 (by decide)
        have hcap := own_cap hown (by decide)
        have e8 : u8s (zt.flatMap (bytesOf ups 8)) = cs (outL zt) := (cs_bytesL _ (flat8_lt _)).symm
        rw [e8] at hown
        have h64 : (outL zt).length = 64 := outL_length zt HZ.out.1
        have hrow : Row w' g (outL zt) := Row.own (c := c') (by rw [h64]; exact hown)
        exact ⟨_, rfl, ⟨g, c', rfl, hcap.1, hrow⟩, hb⟩
      exact part_on (wanted_free rfl _) (op_call1 rfl (reg_enters Tryz.func125 (by kernel_rfl) (by kernel_rfl)) (C.on (j := 0) (by kernel_rfl) rfl rfl) CL)
    · intro a w C
      exact part_on (wanted_free rfl _) (op_move (.inl rfl) (C.was 0 (by kernel_rfl)))
    · intro a w C
      exact part_on (wanted_free rfl _) (op_value (hnil_run _ _ _ _ _ rfl (C.on (j := 2) (by kernel_rfl) rfl rfl)) rfl)
    · intro a w C
      exact part_on (wanted_free rfl _) (op_value (hf2_run _ _ _ _ _ rfl (C.on (j := 3) (by kernel_rfl) rfl rfl)) rfl)
    · intro a w C
      exact part_on (wanted_free rfl _) (op_value (hint_run _ _ _ _ _ _ rfl (C.on (j := 4) (by kernel_rfl) rfl rfl) (KS.out w (below_step HBF.out C.below))) rfl)
    · intro a w C
      obtain ⟨g1, c1, e1, hc1, r1⟩ : OutP (outL zt) _ _ := C.on (j := 1) (by kernel_rfl) rfl rfl
      exact part_on (wanted_free rfl _) (op_value (sln_run (n := n) rfl e1 (C.on (j := 5) (by kernel_rfl) rfl rfl) (by have := HNN.out; omega)) ⟨g1, c1, rfl, r1.take n⟩)
    · intro a w C
      obtain ⟨g6, c6, e6, r6⟩ : SubP n ((outL zt).take n) _ _ := C.on (j := 6) (by kernel_rfl) rfl rfl
      exact part_on (wanted_free rfl _) (op_conv rfl e6 (conv_row r6 (by rw [List.length_take, outL_length zt HZ.out.1]; have := HNN.out; omega)) rfl)
    · intro a w C
      exact part_on (wanted_free rfl _) (op_move (.inr rfl) (C.on (j := 7) (by kernel_rfl) rfl rfl))
    rintro wG hbG _ rfl xo hxo _ rfl _ rfl _ rfl _ rfl xs hxs _ rfl _ rfl
    simp only [Fin, setAt, Exit.then, List.setIfInBounds_toArray, List.set_cons_succ, List.set_cons_zero]
    clear hxo hxs
    have HBG := Lib.hid hbG
    clear hbG
    go_wp2
    go_ret
    exact ⟨by rw [HOUT.out]; rfl, below_step HBF.out HBG.out⟩
open Go.RowKit Bl
def zp (s : ByteArray) (k : Nat) : ByteArray := tx (tl s ++ List.replicate k 0)
theorem zp_size (s : ByteArray) (k : Nat) : (zp s k).size = s.size + k := by
  unfold zp
  rw [tx_size, List.length_append, List.length_replicate, tl_length]
theorem zp_zero (s : ByteArray) : zp s 0 = s := by simp [zp, tx, tl]
theorem zp_succ (s : ByteArray) (k : Nat) : zp s k ++ (⟨#[0]⟩ : ByteArray) = zp s (k + 1) := by
  unfold zp tx
  rw [List.replicate_succ', ← List.append_assoc]
  ext1
  simp
set_option maxHeartbeats 1600000 in
theorem zeros_any (s : ByteArray) (hs : s.size ≤ 128) (w : World) : Calls Tryz.prog 77 #[.string s, .int .i64 128] w fun e w' => e = .returned (.string (zp s (128 - s.size))) ∧ w' = w := by
  have H0 := Lib.hid (zp_zero s)
  go_enter Tryz.func77, Tryz.ntmps77
  go_wp2
  go_loopw [0] (fun v0 wr => ∃ k : Nat, s.size + k ≤ 128 ∧ v0 = .string (zp s k) ∧ wr = w) (fun v0 _ => 128 - (match v0 with | .string x => x.size | _ => 0))
  case atStart => exact ⟨0, by omega, by rw [H0.out], rfl⟩
  case round =>
    obtain ⟨k, hk, rfl, rfl⟩ := hrel
    have HZ := Lib.hid (zp_size s k)
    have HS := Lib.hid (zp_succ s k)
    have hz1 : (zp s k).size ≤ 128 := by rw [HZ.out]; omega
    by_cases h : s.size + k < 128
    · have hdt : decide (((zp s k).size : Int) < 128) = true := by rw [HZ.out]; simp; omega
      have hz3 : (zp s k).size + 1 ≤ 128 := by rw [HZ.out]; omega
      go_wp2
      rw [HS.out]
      refine ⟨⟨k + 1, by omega, rfl, trivial⟩, ?_⟩
      have h1 := HZ.out
      have h2 := zp_size s (k + 1)
      simp only
      omega
    · have hdt : decide (((zp s k).size : Int) < 128) = false := by rw [HZ.out]; simp; omega
      obtain rfl : k = 128 - s.size := by omega
      go_wp2
      go_ret
      exact ⟨rfl, rfl⟩
open Go.RowKit Bl
set_option maxHeartbeats 800000 in
theorem blakeof_any (w : World) (n : Nat) (hn1 : 1 ≤ n) (hn : n ≤ 64) (key : ByteArray) (hkl : key.size ≤ 64) (hk : QAt w) (A : Option Addr) (c : Nat) (ps : List ByteArray) (hr : Reads w w.heap.size A (stv ps)) (hlen : (jn ps).length ≤ 800000) (hps : ps.length ≤ 1000000) :
    Calls Tryz.prog 101 #[.int .i64 (n : Int), .string key, .slice A ps.length c] w fun e w' => e = .returned (.tuple #[.string (tx (blkL key.size n (keyL key ++ jn ps))), .int .i64 0]) ∧ Below w.heap.size w w' := by
  have CN := Lib.hid (newhash_any n hn1 hn key hkl w hk)
  have hkeyl : (keyL key).length ≤ 128 := by
    unfold keyL
    split
    · simp
    · rw [fill128_length _ (by rw [tl_length]; omega)]; exact Nat.le_refl _
  have HR := Lib.hid hr
  have HK := Lib.hid hk
  have HL := Lib.hid (And.intro hkl hn)
  clear hr hk hn1
  go_enter Tryz.func101, Tryz.ntmps101
  go_wp2_with fail
  refine CN.out.mono ?_
  rintro e w1 ⟨H, rfl, h1, hb1⟩
  have HB1 := Lib.hid hb1
  have CA := Lib.hid (addhash_any w1 w.heap.size w1.heap.size H key.size n HL.out.1 HL.out.2 (keyL key) h1 (HK.out.next hb1) HK.out.1 A c ps (fun k hk => by
    obtain ⟨b, off, e, hb, hc⟩ := HR.out k hk
    exact ⟨b, off, e, Nat.lt_of_lt_of_le hb hb1.size, .inl hb, (hb1.cell hb).trans hc⟩) (by omega) hps)
  clear h1 hb1 CN
  go_wp2_with fail
  refine CA.out.mono ?_
  rintro e w2 ⟨rfl, h2, hb2⟩
  have HB2 := Lib.hid (HB1.out.trans hb2)
  obtain ⟨S, hS⟩ : ∃ S, S = tx (blkL key.size n (keyL key ++ jn ps)) := ⟨_, rfl⟩
  have CS := Lib.hid (sumhash_any w2 w.heap.size w2.heap.size H key.size n HL.out.1 HL.out.2 (keyL key ++ jn ps) h2 (HK.out.next (HB1.out.trans hb2)) (by rw [List.length_append]; omega))
  rw [← hS] at CS
  have HS := Lib.hid hS
  clear h2 hb2 CA hS
  go_wp2_with fail
  refine CS.out.mono ?_
  rintro e w3 ⟨rfl, hb3⟩
  have HB3 := Lib.hid hb3
  clear hb3 CS
  go_wp2
  go_ret2
  exact ⟨by rw [← HS.out]; rfl, below_step HB2.out HB3.out⟩
end Go.Proofs.YtfoodaobiknihaaGreatDoor

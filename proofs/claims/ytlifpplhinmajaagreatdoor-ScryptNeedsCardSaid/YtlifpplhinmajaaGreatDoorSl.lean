/- Arrays of words of 32 bits and of ints as they lie in memory; Quarter of package salsa by its contract, and the document's Quarter and Undone. Conditions: those typed. Operations on arrays in memory, one by one, as they stand in a statement whose order is open; the table of places. Conditions: those typed. Double of package salsa by its contract. Condition: the package's table reads as it was laid. Core and Eight of package salsa by their contracts. Condition: the package's table reads as it was laid. -/
import Derived.Test.YtlifpplhinmajaaGreatDoorArr
import Derived.Test.YtlifpplhinmajaaGreatDoorPu
import Derived.Test.YtlifpplhinmajaaGreatDoorTurn
import Derived.Test.YtlifpplhinmajaaGreatDoorLaid
import Derived.BigQuiet
import Derived.StillTailTactics
import Derived.Deep.QuietTactic
import Derived.Test.YtlifpplhinmajaaGreatDoorGen
namespace Go.Proofs.YtlifpplhinmajaaGreatDoor
set_option maxRecDepth 50000
open Go.RowKit Rot Sl

def iq (l : List Nat) : Array Value := (l.map fun x : Nat => Value.int .i64 (x : Int)).toArray
theorem iq_size (l : List Nat) : (iq l).size = l.length := by simp [iq]
theorem iq_at (l : List Nat) (i : Nat) (h : i < l.length) : (iq l)[i]? = some (.int .i64 (l.getD i 0 : Nat)) := by
  simp [iq, List.getD_eq_getElem?_getD, List.getElem?_eq_getElem h]
theorem iq_set (l : List Nat) (i x : Nat) : (iq l).setIfInBounds i (.int .i64 (x : Int)) = iq (l.set i x) := by
  simp [iq, List.map_set]
theorem iq_one (l : List Nat) : (iq l).all (·.oneCell') = true := by
  simp [iq, Value.oneCell']
theorem size_16 : (Tryz.prog.info? 128).map (·.size) = some 16 := by kernel_rfl
theorem size_4 : (Tryz.prog.info? 175).map (·.size) = some 4 := by kernel_rfl
theorem size_int4 : (Tryz.prog.info? 174).map (·.size) = some 4 := by kernel_rfl
theorem size_int : (Tryz.prog.info? 3).map (·.size) = some 1 := by kernel_rfl

theorem left_n (n : Nat) (hn : n < 32) (x : Nat) (hx : x < 4294967296) (w : World) : Calls Tryz.prog 141 #[.int .u32 (x : Int), .int .i64 (n : Int)] w fun e w' => e = .returned (.int .u32 (rotl 32 x n : Nat)) ∧ w = w' := by
  have h := left32_any x n hx w
  rwa [show ((n : Int) % 32).toNat = n by omega] at h
theorem rleft_n (n : Nat) (hn : n < 32) (x : Nat) (hx : x < 4294967296) (w : World) : Calls Tryz.prog 132 #[.int .u32 (x : Int), .int .i64 (n : Int)] w fun e w' => e = .returned (.int .u32 (rotl 32 x n : Nat)) ∧ w = w' := by
  have h := refleft_any x n w hx
  rwa [show ((n : Int) % 32).toNat = n by omega] at h

set_option maxHeartbeats 800000 in
theorem quarter_any (q : Q) (hq : q.ok) (w : World) :
    Calls Tryz.prog 136 #[.int .u32 (q.a : Int), .int .u32 (q.b : Int), .int .u32 (q.c : Int), .int .u32 (q.d : Int)] w fun e w' =>
      e = .returned (.tuple #[.int .u32 ((quarter q).a : Int), .int .u32 ((quarter q).b : Int), .int .u32 ((quarter q).c : Int), .int .u32 ((quarter q).d : Int)]) ∧ w = w' := by
  have E : Hid (quarter q = ⟨aO q, bO q, cO q, dO q⟩) := Lib.hid rfl
  have eb : bO q = q.b ^^^ rotl 32 (add q.a q.d) 7 := rfl
  have ec : cO q = q.c ^^^ rotl 32 (add (bO q) q.a) 9 := rfl
  have ed : dO q = q.d ^^^ rotl 32 (add (cO q) (bO q)) 13 := rfl
  have ea : aO q = q.a ^^^ rotl 32 (add (dO q) (cO q)) 18 := rfl
  generalize aO q = a' at *
  generalize bO q = b' at *
  generalize cO q = c' at *
  generalize dO q = d' at *
  obtain ⟨a, b, c, d⟩ := q
  obtain ⟨ha, hb, hc, hd⟩ := hq
  simp only at ha hb hc hd ea eb ec ed
  have e1 := wadd a d
  have R1 := Lib.hid fun w => left_n 7 (by decide) (add a d) (add_lt _ _) w
  have f1 := xor32 b _ hb (rot_lt a 7 (by decide) d)
  rw [← eb] at f1
  have e2 := wadd b' a
  have R2 := Lib.hid fun w => left_n 9 (by decide) (add b' a) (add_lt _ _) w
  have f2 := xor32 c _ hc (rot_lt b' 9 (by decide) a)
  rw [← ec] at f2
  have e3 := wadd c' b'
  have R3 := Lib.hid fun w => left_n 13 (by decide) (add c' b') (add_lt _ _) w
  have f3 := xor32 d _ hd (rot_lt c' 13 (by decide) b')
  rw [← ed] at f3
  have e4 := wadd d' c'
  have R4 := Lib.hid fun w => left_n 18 (by decide) (add d' c') (add_lt _ _) w
  have f4 := xor32 a _ ha (rot_lt d' 18 (by decide) c')
  rw [← ea] at f4
  rw [E.out]
  clear E ea eb ec ed ha hb hc hd
  generalize rotl 32 (add a d) 7 = r1 at *
  generalize rotl 32 (add b' a) 9 = r2 at *
  generalize rotl 32 (add c' b') 13 = r3 at *
  generalize rotl 32 (add d' c') 18 = r4 at *
  generalize add a d = s1 at *
  generalize add b' a = s2 at *
  generalize add c' b' = s3 at *
  generalize add d' c' = s4 at *
  go_enter Tryz.func136, Tryz.ntmps136
  go_wp2_with fail
  refine (R1.out _).mono ?_; rintro e w' ⟨rfl, rfl⟩
  go_wp2_with fail
  refine (R2.out _).mono ?_; rintro e w' ⟨rfl, rfl⟩
  go_wp2_with fail
  refine (R3.out _).mono ?_; rintro e w' ⟨rfl, rfl⟩
  go_wp2_with fail
  refine (R4.out _).mono ?_; rintro e w' ⟨rfl, rfl⟩
  go_wp2
  simp [bodyPost, results, Tryz.results136, go_sem]
end Go.Proofs.YtlifpplhinmajaaGreatDoor

namespace Go.Proofs.YtlifpplhinmajaaGreatDoor
set_option maxRecDepth 50000
open Go.RowKit Rot Sl

section
variable {w : World} {ev : Operand → Value} {x y : Operand} {o : Oper} {B i : Nat}
theorem ix16_run (hop : o.op = .indexAddr 128 x y) (hx : ev x = .pointer (some ⟨B, 0, none⟩)) (hy : ev y = .int .i64 (i : Int)) (hi : i < 16) : (execOp ev o).run Tryz.prog w = .ok (.value (.pointer (some ⟨B, i, none⟩))) w := by
  have h1 : (i : Int) < 16 := by omega
  simp [execOp, hop, hx, hy, go_sem, h1]
theorem ld_run {v : Value} (hop : o.op = .load 36 x) (hx : ev x = .pointer (some ⟨B, i, none⟩)) (hc : w.cell? ⟨B, i, none⟩ = some v) : (execOp ev o).run Tryz.prog w = .ok (.value v) w := by
  simp [execOp, hop, hx, hc, go_sem]
theorem ex_run {cs : Array Value} {v : Value} (hop : o.op = .extract x i) (hx : ev x = .tuple cs) (hc : cs[i]? = some v) : (execOp ev o).run Tryz.prog w = .ok (.value v) w := by
  simp [execOp, hop, hx, hc, go_sem]
theorem st_run {v : Value} {z : Int} (hop : o.op = .store 36 x y) (hx : ev x = .pointer (some ⟨B, i, none⟩)) (hy : ev y = .int .u32 z) (hc : w.cell? ⟨B, i, none⟩ = some v) (hf : w.frozen? ⟨B, i, none⟩ = false) : (execOp ev o).run Tryz.prog w = .ok .skip (w.setCell ⟨B, i, none⟩ (.int .u32 z)) := by
  simp [execOp, hop, hx, hy, hc, hf, go_sem]
end
section
variable {P : Program} {o : Oper} {a : Act} {w : World} {Q : Exit → Act → World → Prop}
theorem op_call4 {p : Value → World → Prop} {f : FuncId} {x1 x2 x3 x4 : Operand} {ts : Array TypeId} {v1 v2 v3 v4 : Value} (ho : o.op = .call { callee := .value (.func f), args := #[x1, x2, x3, x4], argTypes := ts }) (he : ∀ (args : Array Value) (w : World), (callFunc f args).run P w = .ok (.enter f args) w)
    (h1 : a.eval x1 = v1) (h2 : a.eval x2 = v2) (h3 : a.eval x3 = v3) (h4 : a.eval x4 = v4) (hc : Calls P f #[v1, v2, v3, v4] w fun e w' => ∃ v, e = .returned v ∧ p v w' ∧ Below w.heap.size w w') : Does P p o a w Q := by
  subst h1; subst h2; subst h3; subst h4
  exact op_call ho he hc
theorem st_does {W' : World → Prop} {x y : Operand} {B i : Nat} {v : Value} {z : Int} (hop : o.op = .store 36 x y) (hx : a.eval x = .pointer (some ⟨B, i, none⟩)) (hy : a.eval y = .int .u32 z) (hc : w.cell? ⟨B, i, none⟩ = some v) (hf : w.frozen? ⟨B, i, none⟩ = false)
    (h : W' (w.setCell ⟨B, i, none⟩ (.int .u32 z))) : o.wp Tryz.prog a w (fun a' w' => a' = a.put o.dst undef ∧ W' w') Q := by
  unfold Oper.wp
  rw [st_run hop hx hy hc hf]
  exact ⟨rfl, h⟩
end

/-- the table lies at its place -/
def QAt (w : World) : Prop := 2 < w.heap.size ∧ ∀ i, i < 32 → w.cell? ⟨2, i, none⟩ = some (.int .i64 (qq.getD i 0 : Nat))
theorem QAt.below {w w' : World} {B : Nat} (h : QAt w) (hb : Below B w w') (hB : 2 < B) : QAt w' :=
  ⟨Nat.lt_of_lt_of_le h.1 hb.size, fun i hi => (hb.cell (p := ⟨2, i, none⟩) hB).trans (h.2 i hi)⟩
theorem QAt.next {w w' : World} (h : QAt w) (hb : Below w.heap.size w w') : QAt w' := h.below hb h.1
theorem size_32 : (Tryz.prog.info? 190).map (·.size) = some 32 := by kernel_rfl
theorem tab_load {w : World} (h : QAt w) : (loadVar 190 ⟨2, 0, none⟩).run Tryz.prog w = .ok (.agg (iq qq)) w := by
  have hl : (loadCells ⟨2, 0, none⟩ (qq.map fun x : Nat => Value.int .i64 (x : Int)).length).run Tryz.prog w = .ok (qq.map fun x : Nat => Value.int .i64 (x : Int)).toArray w :=
    run_loadCells_list (P := Tryz.prog) w ⟨2, 0, none⟩ _ (fun j v hv => by
      have hadd : (⟨2, 0, none⟩ : Addr).add j = ⟨2, j, none⟩ := by unfold Addr.add; split <;> simp_all
      have hj : j < 32 := by
        have := (List.getElem?_eq_some_iff.1 hv).1
        rw [List.length_map] at this
        exact this
      rw [hadd, h.2 j hj]
      rw [List.getElem?_map, List.getElem?_eq_getElem (show j < qq.length from hj)] at hv
      rw [List.getD_eq_getElem?_getD, List.getElem?_eq_getElem (show j < qq.length from hj)]
      exact hv)
  rw [List.length_map, show qq.length = 32 from rfl] at hl
  have hz := size_32
  cases hq : Tryz.prog.info? 190 with
  | none => rw [hq] at hz; simp at hz
  | some i =>
    have hsz : i.size = 32 := by rw [hq] at hz; simpa using hz
    simp [loadVar, Sem.run_bind, sizeOf, typeInfo, hq, hsz, hl, iq]
theorem qq_part (i : Nat) (hi : i < 8) : (iq qq).extract (i * 4) (i * 4 + 4) = iq [pt i 0, pt i 1, pt i 2, pt i 3] := by
  have h : ∀ i, i < 8 → (qq.drop (i * 4)).take 4 = [pt i 0, pt i 1, pt i 2, pt i 3] := by decide
  rw [← h i hi]
  simp [iq, List.map_take, List.map_drop]
theorem tab_index (w : World) (i : Nat) (hi : i < 8) : (Instr.index 190 (.agg (iq qq)) (.int .i64 (i : Int))).run Tryz.prog w = .ok (.agg (iq [pt i 0, pt i 1, pt i 2, pt i 3])) w := by
  have hz := size_int4
  cases hq : Tryz.prog.info? 174 with
  | none => rw [hq] at hz; simp at hz
  | some q =>
    have hsz : q.size = 4 := by rw [hq] at hz; simpa using hz
    simp [Instr.index, run_underlying Tryz.underlying190, asIntOf, hi, go_sem, sizeOf, typeInfo, hq, hsz, qq_part i hi]

/-- sixteen words that are mixed, and a row for the answer -/
structure Dx (w wr : World) (v : List Nat) : Prop where
  rv : RowAt wr w.heap.size 128 (wd v)
  rz : RowAt wr (w.heap.size + 1) 128 (wd (List.replicate 16 0))
  below : Below w.heap.size w wr
section
variable {w wr wr' : World} {v : List Nat}
theorem Dx.new (w : World) (v : List Nat) : Dx w ((w.alloc (.cells (wd v) 128)).alloc (.cells (wd (List.replicate 16 0)) 128)) v := by
  refine ⟨(RowAt.new w _ _).alloc _, ?_, ((Below.refl _ w).alloc (Nat.le_refl _) _).alloc (by simp) _⟩
  have h := RowAt.new (w.alloc (.cells (wd v) 128)) 128 (wd (List.replicate 16 0))
  rw [World.size_alloc] at h; exact h
theorem Dx.lt (h : Dx w wr v) : w.heap.size + 2 ≤ wr.heap.size := h.rz.lt
theorem Dx.step (h : Dx w wr v) (hb : Below wr.heap.size wr wr') : Dx w wr' v :=
  ⟨h.rv.below hb h.rv.lt, h.rz.below hb h.rz.lt, h.below.trans (hb.mono h.below.size)⟩
theorem Dx.drewN (h : Dx w wr v) (k : Nat) : Dx w (wr.drewN k) v := h.step (below_drewN (Below.refl _ _) k)
theorem Dx.set (h : Dx w wr v) (i x : Nat) : Dx w (wr.setCell ⟨w.heap.size, i, none⟩ (.int .u32 (x : Int))) (v.set i x) :=
  ⟨by rw [← wd_set]; exact h.rv.setCell i _, h.rz.setOther _ (by simp) _, h.below.setCell (by simp) _⟩
end
end Go.Proofs.YtlifpplhinmajaaGreatDoor

namespace Go.Proofs.YtlifpplhinmajaaGreatDoor
set_option maxRecDepth 50000
open Go.RowKit Rot Sl

set_option maxHeartbeats 3200000 in
theorem double_any (x : List Nat) (hx : x.length = 16) (ho : okw x) (w : World) (hk : QAt w) :
    Calls Tryz.prog 129 #[.agg (wd x)] w fun e w' => e = .returned (.agg (wd (dbl x))) ∧ Below w.heap.size w w' := by
  have HL := Lib.hid hx
  have HO := Lib.hid ho
  have HQ := Lib.hid (hk.next (Dx.new w x).below)
  have HD := Lib.hid (Dx.new w x)
  clear hx ho hk
  go_enter Tryz.func129, Tryz.ntmps129
  go_wp2_with (refine wpList_load_of rfl 190 (.global 2) rfl ⟨2, 0, none⟩ _ rfl (tab_load HQ.out) ?_)
  generalize hW0 : World.alloc _ _ = w0
  have HX0 : Hid (Dx w w0 x) := Lib.hid (by subst hW0; exact HD.out)
  clear hW0 HQ HD
  go_loopw [10] (fun v10 wr => ∃ i : Nat, i ≤ 8 ∧ v10 = .int .i64 (i : Int) ∧ Dx w wr (qTo x 0 i)) (fun v10 _ => 8 - (intOf v10).toNat)
  case atStart => exact ⟨0, by omega, rfl, HX0.out⟩
  case round =>
    clear HX0
    obtain ⟨i, hi, rfl, X⟩ := hrel
    have HX := Lib.hid X
    have hsz5 := X.lt
    clear X
    by_cases h8 : i < 8
    · have hdt : decide ((i : Int) < 8) = true := by simp; omega
      have hix := tab_index wr i h8
      have hp0 := pt_lt i 0 h8 (by decide)
      have hp1 := pt_lt i 1 h8 (by decide)
      have hp2 := pt_lt i 2 h8 (by decide)
      have hp3 := pt_lt i 3 h8 (by decide)
      have hvi : (qTo x 0 i).length = 16 := by rw [qTo_length]; exact HL.out
      have hok := take4_ok (qTo_ok HO.out 0 i) i
      have HN : Hid (qTo x 0 (i + 1) = put4 (qTo x 0 i) i (quarter (take4 (qTo x 0 i) i))) := Lib.hid (by rw [qTo, Nat.zero_add])
      have HPT : Hid (∀ q : Q, put4 (qTo x 0 i) i q = ((((qTo x 0 i).set (pt i 0) q.a).set (pt i 1) q.b).set (pt i 2) q.c).set (pt i 3) q.d) := Lib.hid fun _ => rfl
      have HTK : Hid (take4 (qTo x 0 i) i = ⟨(qTo x 0 i).getD (pt i 0) 0, (qTo x 0 i).getD (pt i 1) 0, (qTo x 0 i).getD (pt i 2) 0, (qTo x 0 i).getD (pt i 3) 0⟩) := Lib.hid rfl
      generalize qTo x 0 i = vi at *
      have CQ := Lib.hid fun w => quarter_any (take4 vi i) hok w
      generalize hqd : quarter (take4 vi i) = q at *
      rw [HTK.out] at CQ
      rw [HPT.out] at HN
      clear hqd HPT HTK hok
      obtain ⟨qa, qb, qc, qd⟩ := q
      simp only at CQ HN
      have hw0 := wd_at vi (pt i 0) (by omega)
      have hw1 := wd_at vi (pt i 1) (by omega)
      have hw2 := wd_at vi (pt i 2) (by omega)
      have hw3 := wd_at vi (pt i 3) (by omega)
      generalize pt i 0 = pa at *
      generalize pt i 1 = pb at *
      generalize pt i 2 = pc at *
      generalize pt i 3 = pd at *
      generalize vi.getD pa 0 = va at *
      generalize vi.getD pb 0 = vb at *
      generalize vi.getD pc 0 = vc at *
      generalize vi.getD pd 0 = vd at *
      obtain ⟨B, hB⟩ : ∃ B, B = w.heap.size := ⟨_, rfl⟩
      obtain ⟨W, hWd⟩ : ∃ W : Nat → World → Prop, W = fun k w' => Dx w w' ([vi, (vi.set pa qa), ((vi.set pa qa).set pb qb), (((vi.set pa qa).set pb qb).set pc qc), ((((vi.set pa qa).set pb qb).set pc qc).set pd qd)].getD k []) := ⟨_, rfl⟩
      have HWS : Hid (∀ k w w', W k w → Below w.heap.size w w' → W k w') := Lib.hid fun k w w' h hb => by subst hWd; exact h.step hb
      have HF0 : Hid (∀ w', W 0 w' → w'.cell? ⟨B, pa, none⟩ = some (.int .u32 (va : Int)) ∧ w'.cell? ⟨B, pb, none⟩ = some (.int .u32 (vb : Int)) ∧ w'.cell? ⟨B, pc, none⟩ = some (.int .u32 (vc : Int)) ∧ w'.cell? ⟨B, pd, none⟩ = some (.int .u32 (vd : Int))) := Lib.hid fun w' h => by
        subst hWd; subst hB
        exact ⟨(h.rv.cell pa).trans hw0, (h.rv.cell pb).trans hw1, (h.rv.cell pc).trans hw2, (h.rv.cell pd).trans hw3⟩
      have turn : ∀ (k p x : Nat) (u u' : List Nat), u.length = 16 → p < 16 → u' = u.set p x → [vi, (vi.set pa qa), ((vi.set pa qa).set pb qb), (((vi.set pa qa).set pb qb).set pc qc), ((((vi.set pa qa).set pb qb).set pc qc).set pd qd)].getD k [] = u →
          [vi, (vi.set pa qa), ((vi.set pa qa).set pb qb), (((vi.set pa qa).set pb qb).set pc qc), ((((vi.set pa qa).set pb qb).set pc qc).set pd qd)].getD (k + 1) [] = u' → ∀ w', W k w' → (∃ v, w'.cell? ⟨B, p, none⟩ = some v) ∧ w'.frozen? ⟨B, p, none⟩ = false ∧ W (k + 1) (w'.setCell ⟨B, p, none⟩ (.int .u32 (x : Int))) := fun k p x u u' hu hp e0 e1 e2 w' h1 => by
        subst hWd; subst hB
        simp only at h1 ⊢
        rw [e1] at h1
        refine ⟨⟨_, (h1.rv.cell p).trans (wd_at u p (by omega))⟩, h1.rv.frozen p, ?_⟩
        rw [e2, e0]
        exact h1.set p x
      have HT0 := Lib.hid (turn 0 pa qa _ _ hvi hp0 rfl rfl rfl)
      have HT1 := Lib.hid (turn 1 pb qb _ _ (by simpa using hvi) hp1 rfl rfl rfl)
      have HT2 := Lib.hid (turn 2 pc qc _ _ (by simpa using hvi) hp2 rfl rfl rfl)
      have HT3 := Lib.hid (turn 3 pd qd _ _ (by simpa using hvi) hp3 rfl rfl rfl)
      have HZ0 : Hid (∀ w', Dx w w' vi → W 0 w') := Lib.hid fun w' h1 => by subst hWd; exact h1
      have HZ4 : Hid (∀ w', W 4 w' → Dx w w' ((((vi.set pa qa).set pb qb).set pc qc).set pd qd)) := Lib.hid fun w' h => by subst hWd; exact h
      clear turn hWd hw0 hw1 hw2 hw3 hvi
      rw [← hB]
      clear hB
      go_wp2_with (refine wpList_store_row rfl 174 (.tmp 4) (.tmp 12) rfl wr.heap.size (iq [pa, pb, pc, pd]) rfl rfl 174 _ (RowAt.new _ _ _) (by rw [iq_size]; exact size_int4) rfl (iq_one _) ?_)
      obtain ⟨B4, hB4⟩ : ∃ k, k = wr.heap.size := ⟨_, rfl⟩
      rw [← hB4]
      generalize hWc : World.setRow _ _ _ = wc
      have hbc : Below wr.heap.size wr wc := by
        subst hWc
        exact below_setRow ((Below.refl _ wr).alloc (Nat.le_refl _) _) (by omega) _
      have RQ : RowAt wc B4 174 (iq [pa, pb, pc, pd]) := by
        subst hWc; subst hB4
        exact (RowAt.new wr _ _).setRow _
      have hWc0 := HZ0.out wc (HX.out.step hbc)
      have k0 : wc.cell? ⟨B4, 0, none⟩ = some (.int .i64 (pa : Int)) := (RQ.cell 0).trans rfl
      have k1 : wc.cell? ⟨B4, 1, none⟩ = some (.int .i64 (pb : Int)) := (RQ.cell 1).trans rfl
      have k2 : wc.cell? ⟨B4, 2, none⟩ = some (.int .i64 (pc : Int)) := (RQ.cell 2).trans rfl
      have k3 : wc.cell? ⟨B4, 3, none⟩ = some (.int .i64 (pd : Int)) := (RQ.cell 3).trans rfl
      have HW0 := Lib.hid hWc0
      clear hWc hbc RQ hWc0 HX HZ0 hB4
      simp only [Act.put]
      go_quiet (fail)
      have HW1 := Lib.hid (HWS.out 0 wc (wc.drewN nq) HW0.out (below_drewN (Below.refl _ _) nq))
      clear k0 k1 k2 k3 HW0
      go_wp2
      refine wp_region_seq [23, 25, 27, 29] [.int .i64 (pa : Int), .int .i64 (pb : Int), .int .i64 (pc : Int), .int .i64 (pd : Int), .int .i64 (pa : Int), .pointer (some ⟨B, pa, none⟩), .int .u32 (va : Int), .int .i64 (pb : Int), .pointer (some ⟨B, pb, none⟩), .int .u32 (vb : Int), .int .i64 (pc : Int), .pointer (some ⟨B, pc, none⟩), .int .u32 (vc : Int), .int .i64 (pd : Int), .pointer (some ⟨B, pd, none⟩), .int .u32 (vd : Int), .tuple #[.int .u32 (qa : Int), .int .u32 (qb : Int), .int .u32 (qc : Int), .int .u32 (qd : Int)], .tuple #[.int .u32 (qa : Int), .int .u32 (qb : Int), .int .u32 (qc : Int), .int .u32 (qd : Int)], .int .u32 (qa : Int), .int .u32 (qb : Int), .int .u32 (qc : Int), .int .u32 (qd : Int), .pointer (some ⟨B, pa, none⟩), undef, .pointer (some ⟨B, pb, none⟩), undef, .pointer (some ⟨B, pc, none⟩), undef, .pointer (some ⟨B, pd, none⟩), undef] W (by kernel_rfl) (by kernel_rfl) rfl (HWS.out 0 _ _ HW1.out (Below.refl _ _).drew) ⟨?_, ?_, ?_, ?_, ?_, ?_, ?_, ?_, ?_, ?_, ?_, ?_, ?_, ?_, ?_, ?_, ?_, ?_, ?_, ?_, ?_, ?_, ?_, ?_, ?_, ?_, ?_, ?_, ?_, ?_, trivial⟩ ?_
      · exact seq_head (by kernel_rfl) (HWS.out 0) fun a w C hW => op_move (.inl rfl) (C.was 5 (by kernel_rfl))
      · exact seq_float (by kernel_rfl) HWS.out fun a w C => op_move (.inl rfl) (C.was 6 (by kernel_rfl))
      · exact seq_float (by kernel_rfl) HWS.out fun a w C => op_move (.inl rfl) (C.was 7 (by kernel_rfl))
      · exact seq_float (by kernel_rfl) HWS.out fun a w C => op_move (.inl rfl) (C.was 8 (by kernel_rfl))
      · exact seq_head (by kernel_rfl) (HWS.out 0) fun a w C hW => op_move (.inl rfl) (C.was 5 (by kernel_rfl))
      · exact seq_head (by kernel_rfl) (HWS.out 0) fun a w C hW => op_value (ix16_run rfl (C.was 1 (by kernel_rfl)) (C.on (j := 4) (by kernel_rfl) rfl rfl) hp0) rfl
      · exact seq_head (by kernel_rfl) (HWS.out 0) fun a w C hW => op_value (ld_run rfl (C.on (j := 5) (by kernel_rfl) rfl rfl) (HF0.out _ hW).1) rfl
      · exact seq_head (by kernel_rfl) (HWS.out 0) fun a w C hW => op_move (.inl rfl) (C.was 6 (by kernel_rfl))
      · exact seq_head (by kernel_rfl) (HWS.out 0) fun a w C hW => op_value (ix16_run rfl (C.was 1 (by kernel_rfl)) (C.on (j := 7) (by kernel_rfl) rfl rfl) hp1) rfl
      · exact seq_head (by kernel_rfl) (HWS.out 0) fun a w C hW => op_value (ld_run rfl (C.on (j := 8) (by kernel_rfl) rfl rfl) (HF0.out _ hW).2.1) rfl
      · exact seq_head (by kernel_rfl) (HWS.out 0) fun a w C hW => op_move (.inl rfl) (C.was 7 (by kernel_rfl))
      · exact seq_head (by kernel_rfl) (HWS.out 0) fun a w C hW => op_value (ix16_run rfl (C.was 1 (by kernel_rfl)) (C.on (j := 10) (by kernel_rfl) rfl rfl) hp2) rfl
      · exact seq_head (by kernel_rfl) (HWS.out 0) fun a w C hW => op_value (ld_run rfl (C.on (j := 11) (by kernel_rfl) rfl rfl) (HF0.out _ hW).2.2.1) rfl
      · exact seq_head (by kernel_rfl) (HWS.out 0) fun a w C hW => op_move (.inl rfl) (C.was 8 (by kernel_rfl))
      · exact seq_head (by kernel_rfl) (HWS.out 0) fun a w C hW => op_value (ix16_run rfl (C.was 1 (by kernel_rfl)) (C.on (j := 13) (by kernel_rfl) rfl rfl) hp3) rfl
      · exact seq_head (by kernel_rfl) (HWS.out 0) fun a w C hW => op_value (ld_run rfl (C.on (j := 14) (by kernel_rfl) rfl rfl) (HF0.out _ hW).2.2.2) rfl
      · exact seq_head (by kernel_rfl) (HWS.out 0) fun a w C hW => op_call4 rfl (reg_enters Tryz.func136 (by kernel_rfl) (by kernel_rfl)) (C.on (j := 6) (by kernel_rfl) rfl rfl) (C.on (j := 9) (by kernel_rfl) rfl rfl) (C.on (j := 12) (by kernel_rfl) rfl rfl) (C.on (j := 15) (by kernel_rfl) rfl rfl) ((CQ.out w).mono fun e w2 h => by obtain ⟨rfl, rfl⟩ := h; exact ⟨_, rfl, rfl, Below.refl _ _⟩)
      · exact seq_head (by kernel_rfl) (HWS.out 0) fun a w C hW => op_move (.inl rfl) (C.on (j := 16) (by kernel_rfl) rfl rfl)
      · exact seq_head (by kernel_rfl) (HWS.out 0) fun a w C hW => op_value (ex_run rfl (C.on (j := 17) (by kernel_rfl) rfl rfl) rfl) rfl
      · exact seq_float (by kernel_rfl) HWS.out fun a w C => op_value (ex_run rfl (C.on (j := 17) (by kernel_rfl) rfl rfl) rfl) rfl
      · exact seq_float (by kernel_rfl) HWS.out fun a w C => op_value (ex_run rfl (C.on (j := 17) (by kernel_rfl) rfl rfl) rfl) rfl
      · exact seq_float (by kernel_rfl) HWS.out fun a w C => op_value (ex_run rfl (C.on (j := 17) (by kernel_rfl) rfl rfl) rfl) rfl
      · exact seq_head (by kernel_rfl) (HWS.out 0) fun a w C hW => op_value (ix16_run rfl (C.was 1 (by kernel_rfl)) (C.on (j := 0) (by kernel_rfl) rfl rfl) hp0) rfl
      · exact seq_turn 0 (by kernel_rfl) fun a w C hW => by
            obtain ⟨⟨u, hu⟩, hf, hn⟩ := HT0.out w hW
            exact st_does rfl (C.on (j := 22) (by kernel_rfl) rfl rfl) (C.on (j := 18) (by kernel_rfl) rfl rfl) hu hf hn
      · exact seq_float (by kernel_rfl) HWS.out fun a w C => op_value (ix16_run rfl (C.was 1 (by kernel_rfl)) (C.on (j := 1) (by kernel_rfl) rfl rfl) hp1) rfl
      · exact seq_turn 1 (by kernel_rfl) fun a w C hW => by
            obtain ⟨⟨u, hu⟩, hf, hn⟩ := HT1.out w hW
            exact st_does rfl (C.on (j := 24) (by kernel_rfl) rfl rfl) (C.on (j := 19) (by kernel_rfl) rfl rfl) hu hf hn
      · exact seq_float (by kernel_rfl) HWS.out fun a w C => op_value (ix16_run rfl (C.was 1 (by kernel_rfl)) (C.on (j := 2) (by kernel_rfl) rfl rfl) hp2) rfl
      · exact seq_turn 2 (by kernel_rfl) fun a w C hW => by
            obtain ⟨⟨u, hu⟩, hf, hn⟩ := HT2.out w hW
            exact st_does rfl (C.on (j := 26) (by kernel_rfl) rfl rfl) (C.on (j := 20) (by kernel_rfl) rfl rfl) hu hf hn
      · exact seq_float (by kernel_rfl) HWS.out fun a w C => op_value (ix16_run rfl (C.was 1 (by kernel_rfl)) (C.on (j := 3) (by kernel_rfl) rfl rfl) hp3) rfl
      · exact seq_turn 3 (by kernel_rfl) fun a w C hW => by
            obtain ⟨⟨u, hu⟩, hf, hn⟩ := HT3.out w hW
            exact st_does rfl (C.on (j := 28) (by kernel_rfl) rfl rfl) (C.on (j := 21) (by kernel_rfl) rfl rfl) hu hf hn
      intro wz hz
      have HZ1 := Lib.hid (HZ4.out wz hz)
      clear hz HF0 HT0 HT1 HT2 HT3 HWS HW1 HZ4 CQ
      simp only [setAll, setAt, List.setIfInBounds_toArray, List.set_cons_succ, List.set_cons_zero]
      go_wp2
      go_roundw
      case rel => exact ⟨i + 1, by omega, by go_num, by rw [HN.out]; exact HZ1.out⟩
      case measure => simp [intOf]; omega
    · obtain rfl : i = 8 := by omega
      have hdt : decide (((8 : Nat) : Int) < 8) = false := by simp
      have hl : (wd (dbl x)).size = 16 := by rw [wd_size, dbl_length]; exact HL.out
      have HLL := Lib.hid hl
      have hX8 : Dx w wr (dbl x) := HX.out
      have RV := Lib.hid hX8.rv
      have RZ := Lib.hid hX8.rz
      have HB := Lib.hid hX8.below
      clear hl hX8 HX hsz5
      go_wp2_with (first
        | refine wpList_load_row rfl 128 (.tmp 1) rfl w.heap.size rfl 128 (wd (dbl x)) (0, 0) _ RV.out Tryz.underlying128 rfl (by rw [HLL.out]; exact size_16) ?_
        | refine wpList_store_row rfl 128 (.tmp 2) (.tmp 48) rfl (w.heap.size + 1) (wd (dbl x)) rfl rfl 128 _ RZ.out (by rw [HLL.out]; exact size_16) (by rw [HLL.out]; rfl) (wd_one _) ?_)
      have hR := RowAt.setRow RZ.out (wd (dbl x))
      refine bodyPost_ret (v := .agg (wd (dbl x))) (results_cell_row rfl _ _ (w.heap.size + 1) 128 (wd (dbl x)) (0, 0) _ rfl hR Tryz.underlying128 rfl (by rw [HLL.out]; exact size_16)) rfl ⟨rfl, ?_⟩
      exact below_setRow HB.out (by omega) _
end Go.Proofs.YtlifpplhinmajaaGreatDoor

namespace Go.Proofs.YtlifpplhinmajaaGreatDoor
set_option maxRecDepth 50000
open Go.RowKit Rot Sl

/-- sixteen words as they came, a row for the answer, and those that are mixed -/
structure Ex (w wr : World) (Y : Nat) (x y : List Nat) : Prop where
  rx : RowAt wr w.heap.size 128 (wd x)
  rz : RowAt wr (w.heap.size + 1) 128 (wd (List.replicate 16 0))
  ry : RowAt wr Y 128 (wd y)
  below : Below w.heap.size w wr
  at_ : w.heap.size + 1 < Y
section
variable {w wr wr' : World} {Y : Nat} {x y : List Nat}
theorem Ex.step (h : Ex w wr Y x y) (hb : Below wr.heap.size wr wr') : Ex w wr' Y x y :=
  ⟨h.rx.below hb h.rx.lt, h.rz.below hb h.rz.lt, h.ry.below hb h.ry.lt, h.below.trans (hb.mono h.below.size), h.at_⟩
theorem Ex.drew (h : Ex w wr Y x y) : Ex w wr.drew Y x y := h.step (Below.refl _ _).drew
theorem Ex.drewN (h : Ex w wr Y x y) (k : Nat) : Ex w (wr.drewN k) Y x y := h.step (below_drewN (Below.refl _ _) k)
theorem Ex.set (h : Ex w wr Y x y) (i z : Nat) : Ex w (wr.setCell ⟨Y, i, none⟩ (.int .u32 (z : Int))) Y x (y.set i z) :=
  ⟨h.rx.setOther _ (by have := h.at_; simp; omega) _, h.rz.setOther _ (by have := h.at_; simp; omega) _, by rw [← wd_set]; exact h.ry.setCell i _, h.below.setCell (by have := h.at_; simp; omega) _, h.at_⟩
theorem Ex.setRow (h : Ex w wr Y x y) (y' : List Nat) : Ex w (wr.setRow Y (wd y')) Y x y' :=
  ⟨h.rx.setRowOther _ (by have := h.at_; omega) _, h.rz.setRowOther _ (by have := h.at_; omega) _, h.ry.setRow _, below_setRow h.below (by have := h.at_; omega) _, h.at_⟩
theorem Dx.more (h : Dx w wr x) (hs : wr.heap.size = w.heap.size + 1 + 1) (v : List Nat) : Ex w (wr.alloc (.cells (wd v) 128)) (w.heap.size + 1 + 1) x v := by
  refine ⟨h.rv.alloc _, h.rz.alloc _, ?_, h.below.alloc (by omega) _, by omega⟩
  have e := RowAt.new wr 128 (wd v)
  rwa [hs] at e
end

set_option maxHeartbeats 1600000 in
theorem core_bad (x : List Nat) (z : Int) (hz : z < 0 ∨ 100 < z) (w : World) :
    Calls Tryz.prog 113 #[.agg (wd x), .int .i64 z] w fun e w' => e = .returned (.tuple #[.agg (wd (List.replicate 16 0)), .int .i64 1]) ∧ Below w.heap.size w w' := by
  have HD := Lib.hid (Dx.new w x)
  rcases hz with hz | hz
  all_goals
    have h1 : decide (z < 0) = true ∨ decide (z < 0) = false := by cases decide (z < 0) <;> simp
    first
      | (have d1 : decide (z < 0) = true := by simp; omega)
      | (have d1 : decide (z < 0) = false := by simp; omega)
    have d2 : z < 0 ∨ decide (z > 100) = true := by simp; omega
    clear h1 d2
    first
      | (have d2 : decide (z > 100) = true := by simp; omega)
      | (have d2 : decide (z > 100) = false := by simp; omega)
    go_enter Tryz.func113, Tryz.ntmps113
    go_wp2
    refine bodyPost_ret ?_ rfl ⟨rfl, HD.out.below⟩
    exact results_row_tmp (fn := Tryz.f113) (p := 4) (u := 5) (b := w.heap.size + 1) (t := 128) (C := wd (List.replicate 16 0)) rfl _ rfl HD.out.rz Tryz.underlying128 rfl (by rw [wd_size]; exact size_16)

set_option maxHeartbeats 3200000 in
theorem core_any (x : List Nat) (hx : x.length = 16) (ho : okw x) (n : Nat) (hn : n ≤ 100) (w : World) (hk : QAt w) :
    Calls Tryz.prog 113 #[.agg (wd x), .int .i64 (n : Int)] w fun e w' => e = .returned (.tuple #[.agg (wd (core x n)), .int .i64 0]) ∧ Below w.heap.size w w' := by
  have HL := Lib.hid hx
  have HO := Lib.hid ho
  have HQ := Lib.hid hk
  have hsz : (wd x).size = 16 := by rw [wd_size]; exact hx
  have HSX := Lib.hid hsz
  have HD := Lib.hid (Dx.new w x)
  have HM := Lib.hid fun (v : List Nat) => (Dx.new w x).more (by simp) v
  clear hx ho hk hsz
  have d1 : decide ((n : Int) < 0) = false := by simp
  have d2 : decide ((n : Int) > 100) = false := by simp; omega
  go_enter Tryz.func113, Tryz.ntmps113
  go_wp2_with (first
    | refine wpList_load_row rfl 128 (.tmp 2) rfl w.heap.size rfl 128 (wd x) (0, 0) _ HD.out.rv Tryz.underlying128 rfl (by rw [HSX.out]; exact size_16) ?_
    | refine wpList_store_row rfl 128 (.tmp 6) (.tmp 15) rfl (w.heap.size + 1 + 1) (wd x) rfl rfl 128 _ (HM.out (List.replicate 16 0)).ry (by rw [HSX.out]; exact size_16) (by rw [HSX.out]; rfl) (wd_one _) ?_)
  obtain ⟨Y, hY⟩ : ∃ Y, Y = w.heap.size + 1 + 1 := ⟨_, rfl⟩
  have HX := Lib.hid ((HM.out (List.replicate 16 0)).setRow x)
  rw [← hY] at HX ⊢
  generalize hW : World.setRow _ _ _ = w1
  have HX1 : Hid (Ex w w1 Y x x) := Lib.hid (by subst hW; exact HX.out)
  clear hW HX HD HM hY d1 d2
  go_loopw [17] (fun v17 wr => ∃ k : Nat, k ≤ n ∧ v17 = .int .i64 (k : Int) ∧ Ex w wr Y x (dTo x k)) (fun v17 _ => n - (intOf v17).toNat)
  case atStart => exact ⟨0, by omega, rfl, HX1.out⟩
  case round =>
    clear HX1
    obtain ⟨k, hk, rfl, X⟩ := hrel
    have HX := Lib.hid X
    clear X
    by_cases h : k < n
    · have hdt : decide ((k : Int) < (n : Int)) = true := by simp; omega
      have hdl : (dTo x k).length = 16 := by rw [dTo_length]; exact HL.out
      have CD := Lib.hid (double_any (dTo x k) hdl (dTo_ok HO.out k) wr (HQ.out.next HX.out.below))
      have HN : Hid (dTo x (k + 1) = dbl (dTo x k)) := Lib.hid rfl
      have hz1 : (wd (dTo x k)).size = 16 := by rw [wd_size]; exact hdl
      have hz2 : (wd (dbl (dTo x k))).size = 16 := by rw [wd_size, dbl_length]; exact hdl
      generalize dTo x k = y at *
      have HZ1 := Lib.hid hz1
      have HZ2 := Lib.hid hz2
      generalize dbl y = y2 at *
      clear hz1 hz2 hdl
      go_wp2_with (first
        | refine wpList_load_row rfl 128 (.tmp 6) rfl Y rfl 128 (wd y) (0, 0) _ HX.out.ry Tryz.underlying128 rfl (by rw [HZ1.out]; exact size_16) ?_
        | fail)
      refine CD.out.mono ?_
      rintro e w2 ⟨rfl, hb⟩
      have HX2 := Lib.hid (HX.out.step hb)
      clear hb HX CD
      go_wp2_with (refine wpList_store_row rfl 128 (.tmp 6) (.tmp 20) rfl Y (wd y2) rfl rfl 128 _ HX2.out.ry (by rw [HZ2.out]; exact size_16) (by rw [HZ1.out, HZ2.out]) (wd_one _) ?_)
      go_roundw
      case rel => exact ⟨k + 1, by omega, by go_num, by rw [HN.out]; exact HX2.out.setRow y2⟩
      case measure => simp [intOf]; omega
    · obtain rfl : k = n := by omega
      have hdt : decide ((k : Int) < (k : Int)) = false := by simp
      have hyl : (dTo x k).length = 16 := by rw [dTo_length]; exact HL.out
      have HE : Hid (core x k = plus (dTo x k) x 16) := Lib.hid rfl
      generalize dTo x k = y at *
      have HYL := Lib.hid hyl
      clear hyl
      go_wp2
      go_loopw [7, 22] (fun _ v22 wr => ∃ j : Nat, j ≤ 16 ∧ v22 = .int .i64 (j : Int) ∧ Ex w wr Y x (plus y x j)) (fun _ v22 _ => 16 - (intOf v22).toNat)
      case atStart => exact ⟨0, by omega, rfl, HX.out⟩
      case round =>
        clear HX
        obtain ⟨j, hj, rfl, X⟩ := hrel
        have HX := Lib.hid X
        clear X
        by_cases h6 : j < 16
        · have hd : decide ((j : Int) < 16) = true := by simp; omega
          have cj := (HX.out.ry.cell j).trans (wd_at _ j (by rw [plus_length, HYL.out]; exact h6))
          rw [plus_at y x j j (Nat.le_refl _)] at cj
          have dj := (HX.out.rx.cell j).trans (wd_at _ j (by rw [HL.out]; exact h6))
          have HF : Hid (plus y x (j + 1) = (plus y x j).set j (add (y.getD j 0) (x.getD j 0))) := Lib.hid rfl
          have hv := wadd (y.getD j 0) (x.getD j 0)
          generalize y.getD j 0 = a at *
          generalize x.getD j 0 = b at *
          generalize add a b = s at *
          generalize plus y x j = z at *
          have hj0 : (0 : Int) ≤ (j : Int) := by omega
          have hj6 : (j : Int) < 16 := by omega
          have k1 : ∀ tp d os out, (World.mk wr.heap tp d os out).cell? ⟨Y, j, none⟩ = some (.int .u32 (a : Int)) := fun _ _ _ _ => cj
          have k2 : ∀ tp d os out, (World.mk wr.heap tp d os out).cell? ⟨w.heap.size, j, none⟩ = some (.int .u32 (b : Int)) := fun _ _ _ _ => dj
          clear cj dj
          go_wp2
          refine wp_region_still_tail 8 (by kernel_rfl) (by kernel_rfl) ?_
          simp only [List.take_succ_cons, List.take_zero, List.drop_succ_cons, List.drop_zero]
          repeat still_step
          refine wpStill_nil ?_
          change wpList _ _ _ _ _ wr.drew
          have HD := Lib.hid HX.out.drew
          have ck : wr.drew.cell? ⟨Y, j, none⟩ = some (.int .u32 (a : Int)) := k1 _ _ _ _
          have fk : wr.drew.frozen? ⟨Y, j, none⟩ = false := HX.out.drew.ry.frozen j
          clear k1 k2 HX
          generalize wr.drew = w2 at *
          go_wp2
          go_roundw
          case rel => exact ⟨j + 1, by omega, by go_num, by rw [HF.out]; exact HD.out.set j s⟩
          case measure => simp [intOf]; omega
        · obtain rfl : j = 16 := by omega
          have hd : decide (((16 : Nat) : Int) < 16) = false := by simp
          have hz : (wd (plus y x 16)).size = 16 := by rw [wd_size, plus_length]; exact HYL.out
          generalize plus y x 16 = z at *
          have HZ := Lib.hid hz
          clear hz
          go_wp2_with (first
            | refine wpList_load_row rfl 128 (.tmp 6) rfl Y rfl 128 (wd z) (0, 0) _ HX.out.ry Tryz.underlying128 rfl (by rw [HZ.out]; exact size_16) ?_
            | refine wpList_store_row rfl 128 (.tmp 4) (.tmp 34) rfl (w.heap.size + 1) (wd z) rfl rfl 128 _ HX.out.rz (by rw [HZ.out]; exact size_16) (by rw [HZ.out]; rfl) (wd_one _) ?_)
          have hR := HX.out.rz.setRow (wd z)
          refine bodyPost_ret (results_row_tmp (fn := Tryz.f113) (p := 4) (u := 5) (b := w.heap.size + 1) (t := 128) (C := wd z) rfl _ rfl hR Tryz.underlying128 rfl (by rw [HZ.out]; exact size_16)) rfl ⟨by rw [HE.out]; rfl, ?_⟩
          exact below_setRow HX.out.below (by omega) _

set_option maxHeartbeats 1600000 in
theorem eight_any (x : List Nat) (hx : x.length = 16) (ho : okw x) (w : World) (hk : QAt w) :
    Calls Tryz.prog 97 #[.agg (wd x)] w fun e w' => e = .returned (.agg (wd (core x 4))) ∧ Below w.heap.size w w' := by
  have hsz : (wd x).size = 16 := by rw [wd_size]; exact hx
  have HSX := Lib.hid hsz
  have hzz : (wd (core x 4)).size = 16 := by rw [wd_size, core_length]; exact hx
  have HZ := Lib.hid hzz
  have HD := Lib.hid (Dx.new w x)
  have CD := Lib.hid (core_any x hx ho 4 (by decide) _ (hk.next (Dx.new w x).below))
  clear hx ho hk hsz hzz
  generalize core x 4 = z at *
  go_enter Tryz.func97, Tryz.ntmps97
  go_wp2_with (refine wpList_load_row rfl 128 (.tmp 1) rfl w.heap.size rfl 128 (wd x) (0, 0) _ HD.out.rv Tryz.underlying128 rfl (by rw [HSX.out]; exact size_16) ?_)
  refine CD.out.mono ?_
  rintro e w2 ⟨rfl, hb⟩
  have HX2 := Lib.hid (HD.out.step hb)
  clear hb HD CD
  have RN := Lib.hid (RowAt.new w2 128 (wd (List.replicate 16 0)))
  have RN2 := Lib.hid (RN.out.setRow (wd z))
  have hb3 : Below w2.heap.size w2 ((w2.alloc (.cells (wd (List.replicate 16 0)) 128)).setRow w2.heap.size (wd z)) := below_setRow ((Below.refl _ w2).alloc (Nat.le_refl _) _) (Nat.le_refl _) _
  have HX3 := Lib.hid (HX2.out.step hb3)
  clear hb3
  go_wp2_with (first
    | refine wpList_store_row rfl 128 (.tmp 3) (.tmp 8) rfl w2.heap.size (wd z) rfl rfl 128 _ RN.out (by rw [HZ.out]; exact size_16) (by rw [HZ.out]; rfl) (wd_one _) ?_
    | refine wpList_load_row rfl 128 (.tmp 3) rfl w2.heap.size rfl 128 (wd z) (0, 0) _ RN2.out Tryz.underlying128 rfl (by rw [HZ.out]; exact size_16) ?_
    | refine wpList_store_row rfl 128 (.tmp 2) (.tmp 10) rfl (w.heap.size + 1) (wd z) rfl rfl 128 _ HX3.out.rz (by rw [HZ.out]; exact size_16) (by rw [HZ.out]; rfl) (wd_one _) ?_)
  have hR := HX3.out.rz.setRow (wd z)
  refine bodyPost_ret (v := .agg (wd z)) (results_cell_row rfl _ _ (w.heap.size + 1) 128 (wd z) (0, 0) _ rfl hR Tryz.underlying128 rfl (by rw [HZ.out]; exact size_16)) rfl ⟨rfl, ?_⟩
  exact below_setRow HX3.out.below (by omega) _
end Go.Proofs.YtlifpplhinmajaaGreatDoor

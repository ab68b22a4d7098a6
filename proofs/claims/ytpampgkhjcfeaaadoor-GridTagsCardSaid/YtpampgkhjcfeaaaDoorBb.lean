/- Blocks as they lie in memory, and whether two are the same. Condition: words are below 2^64. Half and SetHalf of package block, and the document's Half, by their contracts. Conditions: those typed. Xor and Clean of package block, and the document's Xor, by their contracts. Conditions: those typed. The law BlockHalves by the calls' contracts. No condition. The law BlockBytes by the calls' contracts. No condition. A block that came in; a list of blocks that came in. No condition. Rows of blocks of one's own: an empty one, one of a block, and blocks put behind them. Conditions: those typed. The law BlockXors by the calls' contracts. No condition. -/
import Derived.Test.YtpampgkhjcfeaaaDoorBka
import Derived.Test.YtpampgkhjcfeaaaDoorArr
import Derived.Test.YtpampgkhjcfeaaaDoorLaid
import Derived.Test.YtpampgkhjcfeaaaDoorBbPure
import Derived.DeepKeys
import Derived.Test.YtpampgkhjcfeaaaDoorFh
import Derived.IntWalk
import Derived.Lib.Hide
import Derived.Deep.QuietTactic
import Derived.BigQuiet
import Derived.BigRegion
import Derived.StillTailTactics
import Derived.LoopTactic
import Derived.RegionTactic
import Derived.Test.YtpampgkhjcfeaaaDoorGen
import Derived.Great.BuildSlice
namespace Go.Proofs.YtpampgkhjcfeaaaDoor
set_option maxRecDepth 50000
open Go.RowKit Bb

theorem b_size : (Tryd.prog.info? 29).map (·.size) = some 128 := by kernel_rfl
theorem b_cells : Tryd.prog.cellsOf 29 = 128 := by kernel_rfl
theorem b_u64 : Tryd.prog.cellsOf 27 = 1 := by kernel_rfl
theorem wfb_u64 (a : Nat) (h : a < 18446744073709551616) : (Lit.int .u64 (a : Int)).wf = true := by
  have e1 : IntKind.u64.min = 0 := rfl
  have e2 : IntKind.u64.max = 18446744073709551615 := rfl
  simp [Lit.wf, e1, e2]
  omega
theorem kb_u64 (d a : Nat) (h : a < 18446744073709551616) : Tryd.prog.keyLits (d + 1) 27 [.int .u64 (a : Int)] = some [.int .u64 (a : Int)] := by
  unfold Program.keyLits
  simp only [Tryd.underlying27]
  simp [wfb_u64 a h]
theorem mapM_some {α β : Type} (f : α → Option β) (g : α → β) : ∀ l : List α, (∀ x ∈ l, f x = some (g x)) → l.mapM f = some (l.map g)
  | [], _ => rfl
  | x :: l, h => by
    rw [List.mapM_cons, h x (by simp), mapM_some f g l fun y hy => h y (by simp [hy])]; rfl
def litsB (L : List Nat) : List Lit := L.map fun x : Nat => Lit.int .u64 (x : Int)
theorem litsB_inj : ∀ {a b : List Nat}, litsB a = litsB b → a = b
  | [], [], _ => rfl
  | [], _ :: _, h => by simp [litsB] at h
  | _ :: _, [], h => by simp [litsB] at h
  | x :: a, y :: b, h => by
    simp only [litsB, List.map_cons, List.cons.injEq, Lit.int.injEq, true_and] at h
    rw [litsB_inj (a := a) (b := b) h.2]
    have := h.1
    congr 1
    omega
theorem flat_one {α β : Type} (f : α → β) : ∀ l : List α, (l.map fun x => [f x]).flatten = l.map f
  | [] => rfl
  | x :: l => by rw [List.map_cons, List.flatten_cons, flat_one f l]; rfl
theorem key_b (d : Nat) {L : List Nat} (h : okb L) : Tryd.prog.keyLits (d + 2) 29 (wq L).toList = some (litsB L) := by
  have hl : (wq L).toList.length = 128 := by rw [Array.length_toList, wq_size]; exact h.1
  have E : (List.range 128).mapM (fun i => Tryd.prog.keyLits (d + 1) 27 (((wq L).toList.drop (i * 1)).take 1)) = some ((List.range 128).map fun i => [Lit.int .u64 (L.getD i 0 : Nat)]) := by
    refine mapM_some _ _ _ fun i hi => ?_
    have hi := List.mem_range.1 hi
    have e : ((wq L).toList.drop (i * 1)).take 1 = [.int .u64 ((L.getD i 0 : Nat) : Int)] := by
      rw [Nat.mul_one, List.drop_eq_getElem_cons (by omega), List.take_succ_cons, List.take_zero]
      congr 1
      have := wq_at L i (by rw [h.1]; exact hi)
      rw [← Array.getElem?_toList, List.getElem?_eq_getElem (by omega)] at this
      exact Option.some.inj this
    rw [e, kb_u64 d _ (ok_at h i)]
  unfold Program.keyLits
  simp only [Tryd.underlying29, b_cells, b_u64, hl, if_true, E, Option.map_some]
  congr 1
  have e2 : (List.range 128).map (fun i => [Lit.int .u64 (L.getD i 0 : Nat)]) = (tb fun k => L.getD k 0).map fun x : Nat => [Lit.int .u64 (x : Int)] := by
    simp [tb, Function.comp_def]
  rw [e2, tb_self L h.1]
  exact flat_one _ L
theorem in_b {a b : List Nat} (ha : okb a) (hb : okb b) (w : World) : (Op.equalIn 10000 29 (.agg (wq a)) (.agg (wq b))).run Tryd.prog w = .ok (decide (a = b)) w := by
  obtain ⟨r, q1, q2⟩ := run_equalIn_deep (P := Tryd.prog) 9990 10 29 (by kernel_rfl) w 10 10 (.agg (wq a)) (.agg (wq b)) _ _ (by simp [Value.formed, Tryd.underlying29, wq_size, ha.1, b_cells]) (by simp [Value.formed, Tryd.underlying29, wq_size, hb.1, b_cells]) (key_b 8 ha) (key_b 8 hb)
  have hr : r = decide (a = b) := by
    cases r with
    | true => exact (decide_eq_true (litsB_inj (q2.1 rfl))).symm
    | false => exact (decide_eq_false fun e => by subst e; cases q2.2 rfl).symm
  subst hr
  rw [show (10000 : Nat) = 9990 + 10 from rfl, q1]
theorem eql_b {a b : List Nat} (ha : okb a) (hb : okb b) (w : World) : (binOp .eql 29 (.agg (wq a)) (.agg (wq b))).run Tryd.prog w = .ok (.bool (decide (a = b))) w := by
  rw [run_eql_struct, in_b ha hb w]; rfl
theorem neq_b {a b : List Nat} (ha : okb a) (hb : okb b) (w : World) : (binOp .neq 29 (.agg (wq a)) (.agg (wq b))).run Tryd.prog w = .ok (.bool (!decide (a = b))) w := by
  rw [run_neq_struct, in_b ha hb w]; rfl
theorem g_b : Tryd.prog.eqGuardType Tryd.prog.depth 29 = false := by kernel_rfl
theorem bneq_run (w : World) {xs ys : List Nat} (hxs : okb xs) (hys : okb ys) {k : Bool} (hk : decide (xs = ys) = !k) (ev : Operand → Value) (x y : Operand) {ty : TypeId} {o : Oper} (hop : o.op = .binOp .neq 29 x y ty) (hx : ev x = .agg (wq xs)) (hy : ev y = .agg (wq ys)) : (execOp ev o).run Tryd.prog w = .ok (.value (.bool k)) w := by
  have hg := run_eqGuard_agg (P := Tryd.prog) w .neq 29 x y (wq xs) (wq ys) g_b
  simp only [execOp, hop, hx, hy, Sem.run_bind, hg, Result.andThen_ok, neq_b hxs hys, Sem.run_pure, hk, Bool.not_not]
theorem beql_run (w : World) {xs ys : List Nat} (hxs : okb xs) (hys : okb ys) {k : Bool} (hk : decide (xs = ys) = k) (ev : Operand → Value) (x y : Operand) {ty : TypeId} {o : Oper} (hop : o.op = .binOp .eql 29 x y ty) (hx : ev x = .agg (wq xs)) (hy : ev y = .agg (wq ys)) : (execOp ev o).run Tryd.prog w = .ok (.value (.bool k)) w := by
  have hg := run_eqGuard_agg (P := Tryd.prog) w .eql 29 x y (wq xs) (wq ys) g_b
  simp only [execOp, hop, hx, hy, Sem.run_bind, hg, Result.andThen_ok, eql_b hxs hys, Sem.run_pure, hk]
theorem wpList_value_want {P : Program} {ops : Array Oper} {rest : List Oper} {o : Oper} {a : Act} {w w' : World} {Q : Exit → Act → World → Prop} (hw : Region.wanted o (yielded ops a.tmps) = true) (v : Value) (hr : (execOp a.eval o).run P w = .ok (.value v) w') (h : wpList P ops Q rest (a.put o.dst v) w') : wpList P ops Q (o :: rest) a w := wpList_step fun K hK => by
  rw [if_pos hw]
  unfold Oper.wp
  rw [hr]
  exact hK _ _ h
/-- a block 0 that is built, and one that is new -/
theorem build_b (w : World) : (Instr.build 29 #[]).run Tryd.prog w = .ok (.agg (wq zb)) w := run_build w _ _ _ (by kernel_rfl)
theorem zero_b (w : World) : (zeroValue 29).run Tryd.prog w = .ok (.agg (wq zb)) w := by kernel_rfl
theorem bbuild_run (w : World) (ev : Operand → Value) {o : Oper} (hop : o.op = .build 29 #[]) : (execOp ev o).run Tryd.prog w = .ok (.value (.agg (wq zb))) w := by
  simp only [execOp, hop, Array.map_empty, Sem.run_bind, build_b, Result.andThen_ok, Sem.run_pure]
end Go.Proofs.YtpampgkhjcfeaaaDoor

namespace Go.Proofs.YtpampgkhjcfeaaaDoor
set_option maxRecDepth 50000
open Go.RowKit Bb

theorem frozen_drew (w : World) (p : Addr) : w.drew.frozen? p = w.frozen? p := rfl

end Go.Proofs.YtpampgkhjcfeaaaDoor

namespace Go.Proofs.YtpampgkhjcfeaaaDoor
set_option maxRecDepth 50000
open Go.RowKit Bb

/-- blocks one behind the other, as cells -/
def bcs (l : List (List Nat)) : List Value := l.flatMap u64s
theorem bcs_append (a b : List (List Nat)) : bcs (a ++ b) = bcs a ++ bcs b := by simp [bcs]
theorem bcs_length : ∀ {l : List (List Nat)}, (∀ b ∈ l, okb b) → (bcs l).length = l.length * 128
  | [], _ => rfl
  | b :: l, h => by
    have := bcs_length (l := l) fun x hx => h x (by simp [hx])
    have h1 := (h b (by simp)).1
    unfold bcs at *
    rw [List.flatMap_cons, List.length_append, this, u64s_length, h1, List.length_cons]
    omega
theorem bcs_at : ∀ {l : List (List Nat)}, (∀ b ∈ l, okb b) → ∀ i k, i < l.length → k < 128 → (bcs l)[i * 128 + k]? = some (.int .u64 (((l.getD i []).getD k 0 : Nat) : Int))
  | [], _, _, _, hi, _ => by simp at hi
  | b :: l, h, i, k, hi, hk => by
    have h1 := (h b (by simp)).1
    have e : bcs (b :: l) = u64s b ++ bcs l := by simp [bcs]
    rw [e]
    cases i with
    | zero =>
      rw [Nat.zero_mul, Nat.zero_add, List.getElem?_append_left (by rw [u64s_length, h1]; exact hk)]
      simp [u64s, List.getD_eq_getElem?_getD, List.getElem?_eq_getElem (show k < b.length by omega)]
    | succ i =>
      rw [List.getElem?_append_right (by rw [u64s_length, h1]; omega), u64s_length, h1, show (i + 1) * 128 + k - 128 = i * 128 + k by omega,
        bcs_at (fun x hx => h x (by simp [hx])) i k (by simpa using hi) hk]
      simp
theorem reads_b {w : World} {B : Nat} {A : Option Addr} {l : List (List Nat)} (hr : Reads w B A (bcs l)) (ho : ∀ b ∈ l, okb b) (i : Nat) (hi : i < l.length) :
    ∃ b off, A = some ⟨b, off, none⟩ ∧ b < B ∧ ∀ k, k < 128 → w.cell? ⟨b, off + i * 128 + k, none⟩ = some (.int .u64 (((l.getD i []).getD k 0 : Nat) : Int)) := by
  have hl := bcs_length ho
  obtain ⟨b, off, e, hb, _⟩ := hr 0 (by omega)
  refine ⟨b, off, e, hb, fun k hk => ?_⟩
  obtain ⟨b', off', e', _, hc⟩ := hr (i * 128 + k) (by omega)
  rw [e] at e'
  cases e'
  rw [Nat.add_assoc, hc, ← List.getElem?_eq_getElem, bcs_at ho i k hi hk]

/-- a row for the answer, and one that is worked on -/
structure Xx (w wr : World) (x : List Nat) : Prop where
  rz : RowAt wr w.heap.size 29 (wq zb)
  rx : RowAt wr (w.heap.size + 1) 29 (wq x)
  below : Below w.heap.size w wr
section
variable {w wr wr' : World} {x : List Nat}
theorem Xx.new (w : World) : Xx w ((w.alloc (.cells (wq zb) 29)).alloc (.cells (wq zb) 29)) zb := by
  refine ⟨(RowAt.new w _ _).alloc _, ?_, ((Below.refl _ w).alloc (Nat.le_refl _) _).alloc (by simp) _⟩
  have h := RowAt.new (w.alloc (.cells (wq zb) 29)) 29 (wq zb)
  rw [World.size_alloc] at h; exact h
theorem Xx.drewN (h : Xx w wr x) (k : Nat) : Xx w (wr.drewN k) x := ⟨h.rz, h.rx, below_drewN h.below k⟩
theorem Xx.drew (h : Xx w wr x) : Xx w wr.drew x := h.drewN 1
theorem Xx.set (h : Xx w wr x) (i v : Nat) : Xx w (wr.setCell ⟨w.heap.size + 1, i, none⟩ (.int .u64 (v : Int))) (x.set i v) :=
  ⟨h.rz.setOther _ (by simp) _, by rw [← wq_set]; exact h.rx.setCell i _, h.below.setCell (by simp) _⟩
end

set_option maxHeartbeats 3200000 in
theorem xor_any {l : List (List Nat)} (ho : ∀ b ∈ l, okb b) (A : Option Addr) (c : Nat) (w : World) (hr : Reads w w.heap.size A (bcs l)) (hlen : l.length ≤ 1000000) :
    Calls Tryd.prog 25 #[.slice A l.length c] w fun e w' => e = .returned (.agg (wq (xB l))) ∧ Below w.heap.size w w' := by
  have HO := Lib.hid ho
  have HR := Lib.hid hr
  have HX0 := Lib.hid (Xx.new w)
  have hz := zero_b
  clear ho hr
  go_enter Tryd.func25, Tryd.ntmps25
  go_wp2
  generalize hW0 : World.alloc _ _ = w0
  have HX1 : Hid (Xx w w0 (xst l 0 0)) := Lib.hid (by subst hW0; rw [xst_start]; exact HX0.out)
  clear hW0 HX0
  go_loopw [4, 8] (fun _ v8 wr => ∃ i : Nat, i ≤ l.length ∧ v8 = .int .i64 (i : Int) ∧ Xx w wr (xst l i 0)) (fun _ v8 _ => l.length - (intOf v8).toNat)
  case atStart => exact ⟨0, by omega, rfl, HX1.out⟩
  case round =>
    clear HX1
    obtain ⟨i, hi, rfl, X⟩ := hrel
    have HX := Lib.hid X
    clear X
    by_cases h : i < l.length
    · have hdt : decide ((i : Int) < (l.length : Int)) = true := by simp; omega
      have hi0 : (0 : Int) ≤ (i : Int) := by omega
      have hi1 : (i : Int) < (l.length : Int) := by omega
      obtain ⟨b, off, rfl, hbB, hrd⟩ := reads_b HR.out HO.out i h
      have HRD := Lib.hid hrd
      clear hrd
      go_wp2
      obtain ⟨wo, rfl⟩ : ∃ wo : World, wo = wr := ⟨_, rfl⟩
      go_loopw [5, 11] (fun _ v11 wr => ∃ k : Nat, k ≤ 128 ∧ v11 = .int .i64 (k : Int) ∧ Xx w wr (xst l i k)) (fun _ v11 _ => 128 - (intOf v11).toNat)
      case atStart => exact ⟨0, by omega, rfl, HX.out⟩
      case round =>
        clear HX
        obtain ⟨k, hk, rfl, X⟩ := hrel
        have HX := Lib.hid X
        clear X
        by_cases h8 : k < 128
        · have hdk : decide ((k : Int) < 128) = true := by simp; omega
          have hk0 : (0 : Int) ≤ (k : Int) := by omega
          have hk1 : (k : Int) < 128 := by omega
          have ck := (HX.out.rx.cell k).trans (wq_at _ k (by rw [xst_length]; exact h8))
          rw [xst_at l i k h8] at ck
          have dk : wr.cell? ⟨b, off + i * 128 + k, none⟩ = _ := (HX.out.below.cell (p := ⟨b, off + i * 128 + k, none⟩) hbB).trans (HRD.out k h8)
          have HF := Lib.hid (xst_next l i k h)
          have hv := u64_xor_nat _ _ (take_lt HO.out i k) (word_lt HO.out i k)
          have HXD := Lib.hid fun v => HX.out.drew.set k v
          have hfz := HX.out.drew.rx.frozen k
          generalize xw (l.take i) k = a at *
          generalize (l.getD i []).getD k 0 = d at *
          generalize a ^^^ d = s at *
          have k1 : ∀ tp d os out, (World.mk wr.heap tp d os out).cell? ⟨w.heap.size + 1, k, none⟩ = some (.int .u64 (a : Int)) := fun _ _ _ _ => ck
          have k2 : ∀ tp d' os out, (World.mk wr.heap tp d' os out).cell? ⟨b, off + i * 128 + k, none⟩ = some (.int .u64 (d : Int)) := fun _ _ _ _ => dk
          clear ck dk HX
          go_wp2
          refine wp_region_still_tail 11 (by kernel_rfl) (by kernel_rfl) ?_
          simp only [List.take_succ_cons, List.take_zero, List.drop_succ_cons, List.drop_zero]
          repeat still_step
          refine wpStill_nil ?_
          change wpList _ _ _ _ _ wr.drew
          have ck : wr.drew.cell? ⟨w.heap.size + 1, k, none⟩ = some (.int .u64 (a : Int)) := k1 _ _ _ _
          clear k1 k2
          generalize wr.drew = w2 at *
          go_wp2
          go_roundw
          case rel => exact ⟨k + 1, by omega, by go_num, by rw [← HF.out]; exact HXD.out s⟩
          case measure => simp [intOf]; omega
        · obtain rfl : k = 128 := by omega
          have hdk : decide (((128 : Nat) : Int) < 128) = false := by simp
          go_wp2
          go_roundw
          case rel => exact ⟨i + 1, by omega, by go_num, by rw [← xst_line]; exact HX.out⟩
          case measure => simp [intOf]; omega
    · obtain rfl : i = l.length := by omega
      have hdt : decide ((l.length : Int) < (l.length : Int)) = false := by simp
      have HZ : Hid ((wq (xB l)).size = 128) := Lib.hid (by rw [wq_size]; exact (xB_ok l HO.out).1)
      have HE := Lib.hid (xst_end l)
      have RX := HX.out.rx
      rw [HE.out] at RX
      have RX := Lib.hid RX
      have RZ := Lib.hid HX.out.rz
      have HB := Lib.hid HX.out.below
      clear HX HO HR hi
      obtain ⟨z, hz⟩ : ∃ z, z = xB l := ⟨_, rfl⟩
      rw [← hz] at RX HZ
      have HZZ := Lib.hid hz
      clear hz
      go_wp2_with (first
        | refine wpList_load_row rfl 29 (.tmp 3) rfl (w.heap.size + 1) rfl 29 (wq z) (0, 0) _ RX.out Tryd.underlying29 rfl (by rw [HZ.out]; exact b_size) ?_
        | refine wpList_store_row rfl 29 (.tmp 2) (.tmp 27) rfl w.heap.size (wq z) rfl rfl 29 _ RZ.out (by rw [HZ.out]; exact b_size) (by rw [HZ.out]; rfl) (wq_one _) ?_)
      have hR := RowAt.setRow RZ.out (wq z)
      refine bodyPost_ret (v := .agg (wq z)) (results_cell_row rfl _ _ w.heap.size 29 (wq z) (0, 0) _ rfl hR Tryd.underlying29 rfl (by rw [HZ.out]; exact b_size)) rfl ⟨by rw [HZZ.out], ?_⟩
      exact below_setRow HB.out (Nat.le_refl _) _

set_option maxHeartbeats 3200000 in
theorem rxor_any {l : List (List Nat)} (ho : ∀ b ∈ l, okb b) (A : Option Addr) (c : Nat) (w : World) (hr : Reads w w.heap.size A (bcs l)) (hlen : l.length ≤ 1000000) :
    Calls Tryd.prog 35 #[.slice A l.length c] w fun e w' => e = .returned (.agg (wq (xB l))) ∧ Below w.heap.size w w' := by
  have HO := Lib.hid ho
  have HR := Lib.hid hr
  have HX0 := Lib.hid (Xx.new w)
  have hz := zero_b
  clear ho hr
  go_enter Tryd.func35, Tryd.ntmps35
  go_wp2
  generalize hW0 : World.alloc _ _ = w0
  have HX1 : Hid (Xx w w0 (rst l 0 0)) := Lib.hid (by subst hW0; rw [rst_start]; exact HX0.out)
  clear hW0 HX0
  go_loopw [4] (fun v4 wr => ∃ i : Nat, i ≤ 128 ∧ v4 = .int .i64 (i : Int) ∧ Xx w wr (rst l i 0)) (fun v4 _ => 128 - (intOf v4).toNat)
  case atStart => exact ⟨0, by omega, rfl, HX1.out⟩
  case round =>
    clear HX1
    obtain ⟨i, hi, rfl, X⟩ := hrel
    have HX := Lib.hid X
    clear X
    by_cases h : i < 128
    · have hdt : decide ((i : Int) < 128) = true := by simp; omega
      have hi0 : (0 : Int) ≤ (i : Int) := by omega
      have hi1 : (i : Int) < 128 := by omega
      go_wp2
      obtain ⟨wo, rfl⟩ : ∃ wo : World, wo = wr := ⟨_, rfl⟩
      go_loopw [5] (fun v5 wr => ∃ k : Nat, k ≤ l.length ∧ v5 = .int .i64 (k : Int) ∧ Xx w wr (rst l i k)) (fun v5 _ => l.length - (intOf v5).toNat)
      case atStart => exact ⟨0, by omega, rfl, HX.out⟩
      case round =>
        clear HX
        obtain ⟨k, hk, rfl, X⟩ := hrel
        have HX := Lib.hid X
        clear X
        by_cases h8 : k < l.length
        · have hdk : decide ((k : Int) < (l.length : Int)) = true := by simp; omega
          have hk0 : (0 : Int) ≤ (k : Int) := by omega
          have hk1 : (k : Int) < (l.length : Int) := by omega
          obtain ⟨b, off, rfl, hbB, hrd⟩ := reads_b HR.out HO.out k h8
          have ci := (HX.out.rx.cell i).trans (wq_at _ i (by rw [rst_length]; exact h))
          rw [rst_at l i k h] at ci
          have di : wr.cell? ⟨b, off + k * 128 + i, none⟩ = _ := (HX.out.below.cell (p := ⟨b, off + k * 128 + i, none⟩) hbB).trans (hrd i h)
          clear hrd
          have HF := Lib.hid (rst_next l i k h8)
          have hv := u64_xor_nat _ _ (take_lt HO.out k i) (word_lt HO.out k i)
          have HXD := Lib.hid fun v => HX.out.drew.set i v
          have hfz := HX.out.drew.rx.frozen i
          generalize xw (l.take k) i = a at *
          generalize (l.getD k []).getD i 0 = d at *
          generalize a ^^^ d = s at *
          have k1 : ∀ tp d os out, (World.mk wr.heap tp d os out).cell? ⟨w.heap.size + 1, i, none⟩ = some (.int .u64 (a : Int)) := fun _ _ _ _ => ci
          have k2 : ∀ tp d' os out, (World.mk wr.heap tp d' os out).cell? ⟨b, off + k * 128 + i, none⟩ = some (.int .u64 (d : Int)) := fun _ _ _ _ => di
          clear ci di HX
          go_wp2
          refine wp_region_still_tail 12 (by kernel_rfl) (by kernel_rfl) ?_
          simp only [List.take_succ_cons, List.take_zero, List.drop_succ_cons, List.drop_zero]
          repeat still_step
          refine wpStill_nil ?_
          change wpList _ _ _ _ _ wr.drew
          have ck : wr.drew.cell? ⟨w.heap.size + 1, i, none⟩ = some (.int .u64 (a : Int)) := k1 _ _ _ _
          clear k1 k2
          generalize wr.drew = w2 at *
          go_wp2
          go_roundw
          case rel => exact ⟨k + 1, by omega, by go_num, by rw [← HF.out]; exact HXD.out s⟩
          case measure => simp [intOf]; omega
        · obtain rfl : k = l.length := by omega
          have hdk : decide ((l.length : Int) < (l.length : Int)) = false := by simp
          go_wp2
          go_roundw
          case rel => exact ⟨i + 1, by omega, by go_num, by rw [← rst_line]; exact HX.out⟩
          case measure => simp [intOf]; omega
    · obtain rfl : i = 128 := by omega
      have hdt : decide (((128 : Nat) : Int) < 128) = false := by simp
      have HZ : Hid ((wq (xB l)).size = 128) := Lib.hid (by rw [wq_size]; exact (xB_ok l HO.out).1)
      have HE := Lib.hid (rst_end l)
      have RX := HX.out.rx
      rw [HE.out] at RX
      have RX := Lib.hid RX
      have RZ := Lib.hid HX.out.rz
      have HB := Lib.hid HX.out.below
      clear HX HO HR hi
      obtain ⟨z, hz⟩ : ∃ z, z = xB l := ⟨_, rfl⟩
      rw [← hz] at RX HZ
      have HZZ := Lib.hid hz
      clear hz
      go_wp2_with (first
        | refine wpList_load_row rfl 29 (.tmp 3) rfl (w.heap.size + 1) rfl 29 (wq z) (0, 0) _ RX.out Tryd.underlying29 rfl (by rw [HZ.out]; exact b_size) ?_
        | refine wpList_store_row rfl 29 (.tmp 2) (.tmp 28) rfl w.heap.size (wq z) rfl rfl 29 _ RZ.out (by rw [HZ.out]; exact b_size) (by rw [HZ.out]; rfl) (wq_one _) ?_)
      have hR := RowAt.setRow RZ.out (wq z)
      refine bodyPost_ret (v := .agg (wq z)) (results_cell_row rfl _ _ w.heap.size 29 (wq z) (0, 0) _ rfl hR Tryd.underlying29 rfl (by rw [HZ.out]; exact b_size)) rfl ⟨by rw [HZZ.out], ?_⟩
      exact below_setRow HB.out (Nat.le_refl _) _

/-- a block loaded out of a row -/
theorem load_b {w : World} {b o : Nat} {L : List Nat} (hL : L.length = 128) (h : ∀ k, k < 128 → w.cell? ⟨b, o + k, none⟩ = some (.int .u64 (L.getD k 0 : Nat))) : (loadVar 29 ⟨b, o, none⟩).run Tryd.prog w = .ok (.agg (wq L)) w := by
  have hl : (loadCells ⟨b, o, none⟩ (u64s L).length).run Tryd.prog w = .ok (u64s L).toArray w :=
    run_loadCells_list (P := Tryd.prog) w ⟨b, o, none⟩ _ (fun j v hv => by
      have hj : j < 128 := by
        have := (List.getElem?_eq_some_iff.1 hv).1
        rwa [u64s_length, hL] at this
      rw [Go.WideShapes.add_plain, h j hj, ← hv]
      unfold u64s
      rw [List.getElem?_map, List.getElem?_eq_getElem (by omega), List.getD_eq_getElem?_getD, List.getElem?_eq_getElem (by omega)]
      rfl)
  rw [u64s_length, hL] at hl
  have hz := b_size
  cases hq : Tryd.prog.info? 29 with
  | none => rw [hq] at hz; simp at hz
  | some i =>
    have hsz : i.size = 128 := by rw [hq] at hz; simpa using hz
    simp [loadVar, Sem.run_bind, sizeOf, typeInfo, hq, hsz, hl, wq]

end Go.Proofs.YtpampgkhjcfeaaaDoor

namespace Go.Proofs.YtpampgkhjcfeaaaDoor
set_option maxRecDepth 50000
open Go.RowKit Bb

theorem op_call3 {P : Program} {o : Oper} {a : Act} {w : World} {Q : Exit → Act → World → Prop} {p : Value → World → Prop} {f : FuncId} {x y z : Operand} {ts : Array TypeId} {v1 v2 v3 : Value} (ho : o.op = .call { callee := .value (.func f), args := #[x, y, z], argTypes := ts }) (he : ∀ (args : Array Value) (w : World), (callFunc f args).run P w = .ok (.enter f args) w)
    (hx : a.eval x = v1) (hy : a.eval y = v2) (hz : a.eval z = v3) (hc : Calls P f #[v1, v2, v3] w fun e w' => ∃ v, e = .returned v ∧ p v w' ∧ Below w.heap.size w w') : Does P p o a w Q := by
  subst hx; subst hy; subst hz
  exact op_call ho he hc
theorem bload_run {w : World} {b : Nat} {L : List Nat} {ev : Operand → Value} {x : Operand} {o : Oper} (hop : o.op = .load 29 x) (hx : ev x = .pointer (some ⟨b, 0, none⟩)) (hR : RowAt w b 29 (wq L)) (hz : (wq L).size = 128) : (execOp ev o).run Tryd.prog w = .ok (.value (.agg (wq L))) w := by
  have h := hR.loadAt (P := Tryd.prog) Tryd.underlying29 (by rw [hz]; exact b_size)
  simp only [execOp, hop, hx, Sem.run_bind, h, Result.andThen_ok, Sem.run_pure]

/-- a block that came in, and a copy of it that is turned -/
structure Cx (w wr : World) (b4 b9 : Nat) (L c : List Nat) : Prop where
  r4 : RowAt wr b4 29 (wq L)
  r9 : RowAt wr b9 29 (wq c)
  lt : b4 < b9
  base : w.heap.size ≤ b9
  below : Below w.heap.size w wr
section
variable {w wr w' : World} {b4 b9 : Nat} {L c : List Nat}
theorem Cx.new (h : RowAt wr b4 29 (wq L)) (hb : Below w.heap.size w wr) : Cx w ((wr.alloc (.cells (wq zb) 29)).setRow wr.heap.size (wq L)) b4 wr.heap.size L L :=
  ⟨(h.alloc _).setRowOther _ (by have := h.lt; omega) _, (RowAt.new wr _ _).setRow _, h.lt, hb.size, below_setRow (hb.alloc hb.size _) hb.size _⟩
theorem Cx.drewN (h : Cx w wr b4 b9 L c) (q : Nat) : Cx w (wr.drewN q) b4 b9 L c := ⟨h.r4, h.r9, h.lt, h.base, below_drewN h.below q⟩
theorem Cx.turn {c' : List Nat} (h : Cx w wr b4 b9 L c) (hr : RowAt w' b9 29 (wq c')) (hk : Kept (fun k => k = b9) wr w') : Cx w w' b4 b9 L c' :=
  ⟨(hk.block b4 h.r4.lt (by have := h.lt; omega)).trans h.r4, hr, h.lt, h.base, h.below.trans (hk.below h.below.size (fun x hx => by subst hx; exact h.base))⟩
end

end Go.Proofs.YtpampgkhjcfeaaaDoor

namespace Go.Proofs.YtpampgkhjcfeaaaDoor
set_option maxRecDepth 50000
open Go.RowKit Bb

/-- a block that is laid anew -/
theorem newb (w : World) (c : List Nat) : RowAt ((w.alloc (.cells (wq zb) 29)).setRow w.heap.size (wq c)) w.heap.size 29 (wq c) ∧ Below w.heap.size w ((w.alloc (.cells (wq zb) 29)).setRow w.heap.size (wq c)) :=
  ⟨(RowAt.new w _ _).setRow _, below_setRow ((Below.refl _ w).alloc (Nat.le_refl _) _) (Nat.le_refl _) _⟩

theorem oper_value {P : Program} {o : Oper} {a : Act} {w w' : World} {K : Act → World → Prop} {Q : Exit → Act → World → Prop} (v : Value) (hr : (execOp a.eval o).run P w = .ok (.value v) w') (h : K (a.put o.dst v) w') : o.wp P a w K Q := by
  unfold Oper.wp
  rw [hr]
  exact h
end Go.Proofs.YtpampgkhjcfeaaaDoor

namespace Go.Proofs.YtpampgkhjcfeaaaDoor
set_option maxRecDepth 50000
open Go.ChangeShapes Go.WideShapes Go.ChangeAt Go.RowKit Bb

/-- what an int cell holds, as a natural -/
def natOf : Value → Nat
  | .int _ z => z.toNat
  | _ => 0
/-- cells that are 128 words -/
theorem cells_b {H : Type} {enc : TypeId × Value → H} {W : World} {base : Nat} {spare : Nat → Bool} {held : Bool} {cl : List Value} {fuel : Nat} {x : DataW H × List MemPlace}
    (hf : DataW.trod enc Tryd.prog W base spare held fuel 29 cl = some x) : cl = u64s (cl.map natOf) ∧ okb (cl.map natOf) := by
  obtain ⟨xs, m, rfl, _, hl, hxl, hall⟩ := DataW.trod_array Tryd.underlying29 hf
  rw [b_cells] at hl
  have G : ∀ i, (hi : i < cl.length) → ∃ n : Nat, n < 18446744073709551616 ∧ cl[i] = .int .u64 (n : Int) := fun i hi => by
    have h1 := hall i (by omega)
    rw [List.getElem?_eq_getElem (by omega : i < xs.length), b_u64, Nat.mul_one] at h1
    obtain ⟨z, e1, _, hw⟩ := DataW.trod_int Tryd.underlying27 h1
    have hb := wf_u64 z hw
    obtain ⟨n, rfl⟩ := Int.eq_ofNat_of_zero_le hb.1
    refine ⟨n, by omega, ?_⟩
    rw [List.drop_eq_getElem_cons hi, List.take_succ_cons] at e1
    exact (List.cons.inj e1).1
  refine ⟨?_, by rw [List.length_map]; exact hl, ?_⟩
  · refine List.ext_getElem (by simp [u64s]) fun i h1 h2 => ?_
    obtain ⟨n, _, e⟩ := G i h1
    simp [u64s, e, natOf]
  · intro y hy
    obtain ⟨c, hc, rfl⟩ := List.mem_map.1 hy
    obtain ⟨i, hi, rfl⟩ := List.getElem_of_mem hc
    obtain ⟨n, hn, e⟩ := G i hi
    rw [e]
    simpa [natOf] using hn
theorem open_b {H : Type} {enc : TypeId × Value → H} {W : World} {r : Reach} {b0 base : Nat} {spare : Nat → Bool} {held : Bool} {v : Value} {d : DataW H} {ps : List MemPlace}
    (hval : Value.okWide Tryd.prog W r b0 29 v) (hd : DataW.Trod enc Tryd.prog W base spare held 29 v d ps) : ∃ L : List Nat, v = .agg (wq L) ∧ okb L := by
  obtain ⟨cs, rfl, _⟩ : ∃ cs, v = .agg cs ∧ cs.size = Tryd.prog.cellsOf 29 ∧ Row.okWide Tryd.prog W r b0 29 cs := by
    have := hval
    simpa [Value.okWide, Tryd.underlying29] using this
  obtain ⟨fuel, hf⟩ := hd
  obtain ⟨e, ho⟩ := cells_b hf
  refine ⟨_, ?_, ho⟩
  unfold wq
  rw [← e]
  simp [Value.cells]
theorem cell_lt {w : World} {p : Addr} {v : Value} (h : w.cell? p = some v) : p.block < w.heap.size := by
  unfold World.cell? at h
  cases hq : w.heap[p.block]? with
  | none => rw [hq] at h; cases h
  | some o => exact (Array.getElem?_eq_some_iff.1 hq).1
theorem open_blocks {H : Type} {enc : TypeId × Value → H} {W : World} {r : Reach} {b0 : Nat} {v : Value} {d : DataW H} {ps : List MemPlace}
    (hval : Value.okWide Tryd.prog W r b0 52 v) (h : DataW.Trod enc Tryd.prog W 0 (fun _ => true) true 52 v d ps) :
    ∃ A c, ∃ l : List (List Nat), v = .slice A l.length c ∧ (∀ b ∈ l, okb b) ∧ Reads W W.heap.size A (bcs l) ∧ l.length ≤ maxLen := by
  obtain ⟨a0, len, cap, rfl⟩ := okWide_slice Tryd.underlying52 hval
  obtain ⟨fuel, hf⟩ := h
  rcases DataW.trod_slice Tryd.underlying52 hf with ⟨hcs, hx⟩ | ⟨a, len', cap', elems, rest, n, _, hcs, _, _, hl, hm, hlen, hel, _, _⟩
  · simp [Value.cells] at hcs
    obtain ⟨rfl, rfl, rfl⟩ := hcs
    exact ⟨none, 0, [], rfl, by simp, Reads.nil_, by simp⟩
  · simp [Value.cells] at hcs
    obtain ⟨rfl, rfl, rfl⟩ := hcs
    have G : ∀ i, i < len → ∃ cl, W.cells? 0 (a.add (i * 128)) 128 = some cl ∧ cl = u64s (cl.map natOf) ∧ okb (cl.map natOf) := fun i hi => by
      have h1 := hel i hi
      rw [List.getElem?_eq_getElem (by omega : i < elems.length), b_cells, Option.bind_eq_some_iff] at h1
      obtain ⟨cl, e, h2⟩ := h1
      exact ⟨cl, e, cells_b h2⟩
    have K : ∀ i k, i < len → k < 128 → W.cell? ((a.add (i * 128)).add k) = some (.int .u64 (((((W.cells? 0 (a.add (i * 128)) 128).getD []).map natOf).getD k 0 : Nat) : Int)) := fun i k hi hk => by
      obtain ⟨cl, e, e2, ho⟩ := G i hi
      rw [e, Option.getD_some]
      unfold World.cells? at e
      rw [if_pos (Nat.zero_le _)] at e
      have h3 := mapM_some_get e k k (by simp [hk])
      rw [h3]
      have hkl : k < (cl.map natOf).length := by rw [ho.1]; exact hk
      conv => lhs; rw [e2]
      simp [u64s, List.getD_eq_getElem?_getD, List.getElem?_eq_getElem (show k < cl.length by simpa using hkl)]
    have O : ∀ i, i < len → okb (((W.cells? 0 (a.add (i * 128)) 128).getD []).map natOf) := fun i hi => by
      obtain ⟨cl, e, _, ho⟩ := G i hi
      rw [e, Option.getD_some]; exact ho
    obtain ⟨l, hl2⟩ : ∃ l, l = (List.range len).map fun i => ((W.cells? 0 (a.add (i * 128)) 128).getD []).map natOf := ⟨_, rfl⟩
    have hll : l.length = len := by rw [hl2]; simp
    have hlo : ∀ b ∈ l, okb b := fun b hb => by
      rw [hl2] at hb
      obtain ⟨i, hi, rfl⟩ := List.mem_map.1 hb
      exact O i (List.mem_range.1 hi)
    refine ⟨some a, cap, l, by rw [hll], hlo, fun k hk => ?_, by omega⟩
    rw [bcs_length hlo, hll] at hk
    obtain ⟨b, off, spot⟩ := a
    have e0 := K 0 0 (by omega) (by decide)
    have hspot : spot = none := by simpa [Addr.add] using World.cell?_spot e0
    subst hspot
    have hlt := cell_lt e0
    have ek := K (k / 128) (k % 128) (by omega) (by omega)
    simp only [add_plain] at ek hlt
    have eb := bcs_at hlo (k / 128) (k % 128) (by omega) (by omega)
    have el : l.getD (k / 128) [] = ((W.cells? 0 ((⟨b, off, none⟩ : Addr).add (k / 128 * 128)) 128).getD []).map natOf := by
      rw [hl2, List.getD_eq_getElem?_getD, List.getElem?_map, List.getElem?_range (by omega)]; rfl
    rw [el] at eb
    simp only [add_plain] at eb
    rw [show k / 128 * 128 + k % 128 = k by omega] at eb
    refine ⟨b, off, rfl, hlt, ?_⟩
    rw [show off + k / 128 * 128 + k % 128 = off + k by omega] at ek
    rw [ek, ← eb, List.getElem?_eq_getElem (by rw [bcs_length hlo, hll]; exact hk)]
end Go.Proofs.YtpampgkhjcfeaaaDoor

namespace Go.Proofs.YtpampgkhjcfeaaaDoor
set_option maxRecDepth 50000
open Go.RowKit Bb

theorem b_info : (Tryd.prog.info? 29).map (fun i => (i.zero, i.size, i.bytes)) = some (some (.agg (wq zb)), 128, 1024) := by kernel_rfl
theorem b_parts : ∃ i, Tryd.prog.info? 29 = some i ∧ i.zero = some (.agg (wq zb)) ∧ i.size = 128 ∧ i.bytes = 1024 := by
  have h := b_info
  cases hq : Tryd.prog.info? 29 with
  | none => rw [hq] at h; cases h
  | some i =>
    rw [hq] at h
    simp only [Option.map_some, Option.some.injEq, Prod.mk.injEq] at h
    exact ⟨i, rfl, h.1, h.2.1, h.2.2⟩
theorem zb_cells : (Value.agg (wq zb)).cells.size = 128 := by
  simp [Value.cells, wq_size, zb]
theorem bcs_one (l : List (List Nat)) : ∀ u ∈ bcs l, u.oneCell' = true := by
  intro u hu
  obtain ⟨b, _, hb⟩ := List.mem_flatMap.1 hu
  obtain ⟨x, _, rfl⟩ := List.mem_map.1 hb
  rfl
theorem bcs_z (z : List Nat) : bcs [z] = u64s z := by simp [bcs]

def OwB (N : Nat) (l : List (List Nat)) : Value → World → Prop := fun v w => w.ownsRow N 29 128 v l.length (bcs l)
def OneB (z : List Nat) : Value → World → Prop := fun v w => ∃ g, v = .slice (some ⟨g, 0, none⟩) 1 1 ∧ RowAt w g 29 (wq z)
/-- a list that reads as these blocks -/
def RdB (l : List (List Nat)) : Value → World → Prop := fun v w => ∃ A c, v = .slice A l.length c ∧ Reads w w.heap.size A (bcs l)
theorem lt_of_some {w : World} {g : Nat} {o : Obj} (h : w.heap[g]? = some o) : g < w.heap.size := (Array.getElem?_eq_some_iff.1 h).1
theorem stable_owb (N : Nat) (l : List (List Nat)) : Stable (OwB N l) := fun v w w' h hb => by
  refine ⟨h.1, ?_⟩
  rcases h.2 with hn | ⟨g, cap, cur, rfl, h0, hg, rest⟩
  · exact .inl hn
  · exact .inr ⟨g, cap, cur, rfl, h0, (hb.block g (lt_of_some hg)).trans hg, rest⟩
theorem stable_oneb (z : List Nat) : Stable (OneB z) := fun _ _ _ ⟨g, e, h⟩ hb => ⟨g, e, h.below hb h.lt⟩
theorem stable_rdb (l : List (List Nat)) : Stable (RdB l) := fun _ _ _ ⟨A, c, e, h⟩ hb => ⟨A, c, e, (h.below hb).more hb.size⟩

/-- what is owned reads so -/
theorem owb_reads {w : World} {N : Nat} {l : List (List Nat)} {v : Value} (h : OwB N l v w) : RdB l v w := by
  rcases h.2 with ⟨rfl, h0⟩ | ⟨g, cap, cur, rfl, h0, hg, _, _, _, ht⟩
  · have : bcs l = [] := List.eq_nil_of_length_eq_zero (by rw [h.1, h0])
    exact ⟨none, 0, by rw [h0], fun k hk => absurd hk (by simp [this])⟩
  · refine ⟨_, _, rfl, fun k hk => ⟨g, 0, rfl, lt_of_some hg, ?_⟩⟩
    rw [Nat.zero_add, h.cellAt k (by rw [← h.1]; exact hk), List.getElem?_eq_getElem hk]

theorem app_more {w : World} {N : Nat} {l : List (List Nat)} {v : Value} (h : OwB N l v w) (hN : N ≤ w.heap.size) {g : Nat} {z : List Nat} (hz' : okb z) (hg : RowAt w g 29 (wq z)) (hl : l.length ≤ 1000000) (ty : TypeId) :
    ∃ v' w', (Builtin.append_ #[52, 52] ty #[v, .slice (some ⟨g, 0, none⟩) 1 1]).run Tryd.prog w = .ok v' w' ∧ OwB N (l ++ [z]) v' w' ∧ Below N w w' := by
  obtain ⟨i, hi, hz, hs, hby⟩ := b_parts
  have hzl : (u64s z).length = 128 := by rw [u64s_length]; exact hz'.1
  obtain ⟨v', w', hr, ho, hgr, _, _⟩ := run_append_own_at (P := Tryd.prog) w N 52 ty 29 i _ 128 1024 Tryd.underlying52 hi hz hs hby zb_cells (by decide) v l.length (bcs l) h ⟨g, 0, none⟩ 1 1 (u64s z) (by rw [hzl])
    (fun j u hj => by
      rw [Go.WideShapes.add_plain, Nat.zero_add, hg.cell j]
      simpa [wq] using hj) (fun u hu => by simp only [u64s, List.mem_map] at hu; obtain ⟨x, _, rfl⟩ := hu; rfl) (by unfold maxLen; omega) (by omega) hN
  refine ⟨v', w', hr, ?_, (Below.refl N w).grown hgr hN (fun k hk => (h.lt k hk).1)⟩
  unfold OwB
  rw [bcs_append, bcs_z, List.length_append]
  exact ho

theorem build_none (w : World) : (Instr.buildSlice 52 0 #[]).run Tryd.prog w = .ok (.slice (some ⟨w.heap.size, 0, none⟩) 0 0) (w.alloc (.cells #[] 29)) := by
  obtain ⟨i, hi, hz, hs, hby⟩ := b_parts
  simp [Instr.buildSlice, run_underlying Tryd.underlying52, sizeOf, typeInfo, hi, Instr.fill, newRow]
  rw [show Array.range 0 = #[] by decide, Array.map_empty]
theorem fold_cells : ∀ (l : List Value) (off : Nat) (cs : Array Value), off + l.length ≤ cs.size → (l.zipIdx off).foldl (fun (cs : Array Value) (x : Value × Nat) => cs.setIfInBounds x.2 x.1) cs = (cs.toList.take off ++ l ++ cs.toList.drop (off + l.length)).toArray
  | [], off, cs, _ => by simp
  | x :: l, off, cs, h => by
    rw [List.zipIdx_cons, List.foldl_cons, fold_cells l (off + 1) _ (by simp at h ⊢; omega)]
    simp only [List.length_cons] at h
    congr 1
    rw [Array.toList_setIfInBounds]
    have h1 : (cs.toList.set off x).take (off + 1) = cs.toList.take off ++ [x] := by
      rw [List.take_add_one, List.getElem?_set_self (by simp; omega), List.take_set_of_le (Nat.le_refl _)]; rfl
    have h2 : (cs.toList.set off x).drop (off + 1 + l.length) = cs.toList.drop (off + (x :: l).length) := by
      rw [List.drop_set_of_lt (by omega), List.length_cons, show off + 1 + l.length = off + (l.length + 1) by omega]
    rw [h1, h2]
    simp
theorem build_one (w : World) {z : List Nat} (hz' : z.length = 128) : (Instr.buildSlice 52 1 #[(0, .agg (wq z))]).run Tryd.prog w = .ok (.slice (some ⟨w.heap.size, 0, none⟩) 1 1) (w.alloc (.cells (wq z) 29)) := by
  obtain ⟨i, hi, hz, hs, hby⟩ := b_parts
  refine run_buildSlice w _ _ 1 _ (wq z) i _ Tryd.underlying52 hi hz (by rw [hs]; decide) (by rw [hs]; decide) ?_
  have hsz : (wq z).size = 128 := by rw [wq_size]; exact hz'
  have e : (Value.agg (wq z)).cells = wq z := rfl
  simp only [Instr.fill, hs, e, hsz, Nat.zero_mul, Nat.one_mul, Nat.zero_add]
  rw [if_neg (by simp)]
  congr 1
  have := fold_cells (wq z).toList 0 ((Array.range 128).map ((Value.agg (wq zb)).cells[· % (Value.agg (wq zb)).cells.size]!)) (by simp [hsz])
  rw [← Array.foldl_toList, Array.toList_zipIdx, this]
  rw [List.take_zero, List.nil_append, List.drop_of_length_le (by simp [hsz]), List.append_nil, Array.toArray_toList]
end Go.Proofs.YtpampgkhjcfeaaaDoor

namespace Go.Proofs.YtpampgkhjcfeaaaDoor
set_option maxRecDepth 50000
open Go.RowKit Bb

theorem op_made {P : Program} {o : Oper} {a : Act} {w w' : World} {Q : Exit → Act → World → Prop} {p : Value → World → Prop} {v : Value} (h : (execOp a.eval o).run P w = .ok (.value v) w') (hp : p v w') (hb : Below w.heap.size w w') : Does P p o a w Q := by
  unfold Does Oper.wp
  rw [h]
  exact ⟨v, rfl, hp, hb⟩
theorem turns_value {P : Program} {o : Oper} {a : Act} {w0 w w' : World} {Q : Exit → Act → World → Prop} {p : Value → World → Prop} {v : Value} (h : (execOp a.eval o).run P w = .ok (.value v) w') (hp : p v w') (hb : Below w0.heap.size w0 w') : Turns P p o a w0 w Q := by
  unfold Turns Oper.wp
  rw [h]
  exact ⟨v, rfl, hp, hb⟩
theorem op_append {P : Program} {o : Oper} {a : Act} {w w' : World} {x y : Operand} {t : TypeId} {v1 v2 v : Value} (ho : o.op = .call { callee := .builtin .append, args := #[x, y], argTypes := #[t, t] }) (hx : a.eval x = v1) (hy : a.eval y = v2) (hr : (Builtin.append_ #[t, t] o.type #[v1, v2]).run P w = .ok v w') : (execOp a.eval o).run P w = .ok (.value v) w' := by
  simp only [execOp, ho, resolve, invoke, builtin, Sem.run_bind, Sem.run_pure, Result.andThen_ok, List.map_toArray, List.map_cons, List.map_nil, hx, hy, hr]
theorem build_none_run {w : World} {ev : Operand → Value} {o : Oper} (hop : o.op = .buildSlice 52 0 #[]) : (execOp ev o).run Tryd.prog w = .ok (.value (.slice (some ⟨w.heap.size, 0, none⟩) 0 0)) (w.alloc (.cells #[] 29)) := by
  simp only [execOp, hop, Array.map_empty, Sem.run_bind, build_none, Result.andThen_ok, Sem.run_pure]
theorem build_one_run {w : World} {ev : Operand → Value} {x : Operand} {o : Oper} {z : List Nat} (hz : z.length = 128) (hop : o.op = .buildSlice 52 1 #[(0, x)]) (hx : ev x = .agg (wq z)) : (execOp ev o).run Tryd.prog w = .ok (.value (.slice (some ⟨w.heap.size, 0, none⟩) 1 1)) (w.alloc (.cells (wq z) 29)) := by
  simp only [execOp, hop, List.map_toArray, List.map_cons, List.map_nil, hx, Sem.run_bind, build_one w hz, Result.andThen_ok, Sem.run_pure]

end Go.Proofs.YtpampgkhjcfeaaaDoor

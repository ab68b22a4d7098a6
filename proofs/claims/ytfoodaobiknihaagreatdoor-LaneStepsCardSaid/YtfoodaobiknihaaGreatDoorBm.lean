/- Blocks of 128 words, arenas and their pieces, by their contracts. Conditions: those typed. -/
import Derived.WalkKit
import Derived.Laws.BitsAllLaws
import Derived.Test.YtfoodaobiknihaaGreatDoorBx
import Derived.Test.YtfoodaobiknihaaGreatDoorKi
import Derived.DeepKeys
import Derived.IntWalk
import Derived.Lib.Hide
import Derived.Deep.QuietTactic
import Derived.BigQuiet
import Derived.BigRegion
import Derived.StillTailTactics
import Derived.LoopTactic
import Derived.RegionTactic
import Derived.Test.YtfoodaobiknihaaGreatDoorGen
import Derived.Great.BuildSlice
import Derived.Laws.CopyRow
import Derived.Laws.MakeOwn
import Derived.OwnWalk
import Derived.Lib.MinMax
import Derived.LaidEqlPtr
import Derived.Deep.MidRow
import Derived.Test.YtfoodaobiknihaaGreatDoorWy
namespace Go.Proofs.YtfoodaobiknihaaGreatDoor.Bb
def okb (L : List Nat) : Prop := L.length = 128 ∧ ∀ x ∈ L, x < 18446744073709551616
def zb : List Nat := List.replicate 128 0
def tb (f : Nat → Nat) : List Nat := (List.range 128).map f
theorem tb_length (f : Nat → Nat) : (tb f).length = 128 := by simp [tb]
theorem tb_at (f : Nat → Nat) (k : Nat) (h : k < 128) : (tb f).getD k 0 = f k := by
  simp [tb, List.getD_eq_getElem?_getD, h]
theorem tb_set (f g : Nat → Nat) (k : Nat) (h : ∀ j, j < 128 → j ≠ k → g j = f j) : (tb f).set k (g k) = tb g := by
  refine List.ext_getElem (by simp [tb]) fun j h1 h2 => ?_
  have hj : j < 128 := by simpa [tb] using h2
  rw [List.getElem_set]
  by_cases e : k = j
  · subst e; simp [tb]
  · rw [if_neg e]; simp [tb, h j hj (fun e' => e e'.symm)]
theorem tb_congr (f g : Nat → Nat) (h : ∀ j, j < 128 → f j = g j) : tb f = tb g := List.map_congr_left fun j hj => h j (List.mem_range.1 hj)
theorem tb_self (L : List Nat) (hL : L.length = 128) : tb (fun k => L.getD k 0) = L := by
  refine List.ext_getElem (by simp [tb, hL]) fun j h1 h2 => ?_
  simp [tb, List.getD_eq_getElem?_getD, List.getElem?_eq_getElem h2]
theorem tb_ok (f : Nat → Nat) (h : ∀ j, j < 128 → f j < 18446744073709551616) : okb (tb f) := ⟨tb_length f, fun x hx => by
  obtain ⟨j, hj, rfl⟩ := List.mem_map.1 hx
  exact h j (List.mem_range.1 hj)⟩
theorem zb_tb : zb = tb fun _ => 0 := by decide
theorem zb_ok : okb zb := ⟨by simp [zb], fun x hx => by rw [List.eq_of_mem_replicate hx]; decide⟩
theorem ok_at {L : List Nat} (h : okb L) (k : Nat) : L.getD k 0 < 18446744073709551616 := by
  rw [List.getD_eq_getElem?_getD]
  cases hk : L[k]? with
  | none => decide
  | some x => exact h.2 x (List.mem_of_getElem? hk)
def xw (l : List (List Nat)) (k : Nat) : Nat := l.foldl (fun a b => a ^^^ b.getD k 0) 0
def xB (l : List (List Nat)) : List Nat := tb (xw l)
theorem xw_snoc (l : List (List Nat)) (b : List Nat) (k : Nat) : xw (l ++ [b]) k = xw l k ^^^ b.getD k 0 := by simp [xw]
theorem xw_take (l : List (List Nat)) (i k : Nat) (h : i < l.length) : xw (l.take (i + 1)) k = xw (l.take i) k ^^^ (l.getD i []).getD k 0 := by
  rw [List.take_add_one, List.getElem?_eq_getElem h, Option.toList_some, xw_snoc]
  congr 2
  rw [List.getD_eq_getElem?_getD, List.getElem?_eq_getElem h]; rfl
theorem xw_lt (k : Nat) : ∀ (l : List (List Nat)), (∀ b ∈ l, okb b) → xw l k < 18446744073709551616 := by
  intro l
  unfold xw
  suffices H : ∀ a, a < 18446744073709551616 → (∀ b ∈ l, okb b) → l.foldl (fun a b => a ^^^ b.getD k 0) a < 18446744073709551616 from fun h => H 0 (by decide) h
  induction l with
  | nil => intro a h _; exact h
  | cons b l ih =>
    intro a h ho
    exact ih _ (Nat.xor_lt_two_pow (n := 64) h (ok_at (ho b (by simp)) k)) fun b hb => ho b (by simp [hb])
theorem xB_ok (l : List (List Nat)) (h : ∀ b ∈ l, okb b) : okb (xB l) := tb_ok _ fun k _ => xw_lt k l h
def xst (l : List (List Nat)) (i k : Nat) : List Nat := tb fun j => if j < k then xw (l.take (i + 1)) j else xw (l.take i) j
theorem xst_length (l : List (List Nat)) (i k : Nat) : (xst l i k).length = 128 := tb_length _
theorem xst_start (l : List (List Nat)) : xst l 0 0 = zb := by
  rw [zb_tb]; exact tb_congr _ _ fun j _ => by simp [xw]
theorem xst_line (l : List (List Nat)) (i : Nat) : xst l i 128 = xst l (i + 1) 0 := tb_congr _ _ fun j hj => by simp [hj]
theorem xst_end (l : List (List Nat)) : xst l l.length 0 = xB l := tb_congr _ _ fun j _ => by simp
theorem xst_at (l : List (List Nat)) (i k : Nat) (hk : k < 128) : (xst l i k).getD k 0 = xw (l.take i) k := by
  unfold xst; rw [tb_at _ _ hk]; simp
theorem xst_next (l : List (List Nat)) (i k : Nat) (hi : i < l.length) : (xst l i k).set k (xw (l.take i) k ^^^ (l.getD i []).getD k 0) = xst l i (k + 1) := by
  rw [← xw_take l i k hi]
  unfold xst
  have := tb_set (fun j => if j < k then xw (l.take (i + 1)) j else xw (l.take i) j) (fun j => if j < k + 1 then xw (l.take (i + 1)) j else xw (l.take i) j) k (fun j _ hj => by
    by_cases h : j < k
    · rw [if_pos (by omega), if_pos h]
    · rw [if_neg (by omega), if_neg h])
  simpa using this
def rst (l : List (List Nat)) (i k : Nat) : List Nat := tb fun j => if j < i then xw l j else if j = i then xw (l.take k) j else 0
theorem rst_length (l : List (List Nat)) (i k : Nat) : (rst l i k).length = 128 := tb_length _
theorem rst_start (l : List (List Nat)) : rst l 0 0 = zb := by
  rw [zb_tb]; exact tb_congr _ _ fun j _ => by simp [xw]
theorem rst_line (l : List (List Nat)) (i : Nat) : rst l i l.length = rst l (i + 1) 0 := tb_congr _ _ fun j hj => by
  by_cases h : j < i
  · simp [h, show j < i + 1 by omega]
  · by_cases e : j = i
    · subst e; simp
    · simp [h, e, show ¬ j < i + 1 by omega, xw]
theorem rst_end (l : List (List Nat)) : rst l 128 0 = xB l := tb_congr _ _ fun j hj => by simp [hj]
theorem rst_at (l : List (List Nat)) (i k : Nat) (hi : i < 128) : (rst l i k).getD i 0 = xw (l.take k) i := by
  unfold rst; rw [tb_at _ _ hi]; simp
theorem rst_next (l : List (List Nat)) (i k : Nat) (hk : k < l.length) : (rst l i k).set i (xw (l.take k) i ^^^ (l.getD k []).getD i 0) = rst l i (k + 1) := by
  rw [← xw_take l k i hk]
  unfold rst
  have := tb_set (fun j => if j < i then xw l j else if j = i then xw (l.take k) j else 0) (fun j => if j < i then xw l j else if j = i then xw (l.take (k + 1)) j else 0) i (fun j _ hj => by simp [hj])
  simpa using this
theorem take_lt {l : List (List Nat)} (h : ∀ b ∈ l, okb b) (i k : Nat) : xw (l.take i) k < 18446744073709551616 := xw_lt k _ fun b hb => h b (List.mem_of_mem_take hb)
theorem word_lt {l : List (List Nat)} (h : ∀ b ∈ l, okb b) (i k : Nat) : (l.getD i []).getD k 0 < 18446744073709551616 := by
  rw [List.getD_eq_getElem?_getD (l := l)]
  cases hi : l[i]? with
  | none => simp
  | some b => exact ok_at (h b (List.mem_of_getElem? hi)) k
theorem block_ok {l : List (List Nat)} (h : ∀ b ∈ l, okb b) (i : Nat) (hi : i < l.length) : okb (l.getD i []) := by
  rw [List.getD_eq_getElem?_getD, List.getElem?_eq_getElem hi]; exact h _ (List.getElem_mem hi)
end Go.Proofs.YtfoodaobiknihaaGreatDoor.Bb
namespace Go.Proofs.YtfoodaobiknihaaGreatDoor
set_option maxRecDepth 50000
open Go.RowKit Bb
theorem b_size : (Tryz.prog.info? 83).map (·.size) = some 128 := by kernel_rfl
theorem wpList_value_want {P : Program} {ops : Array Oper} {rest : List Oper} {o : Oper} {a : Act} {w w' : World} {Q : Exit → Act → World → Prop} (hw : Region.wanted o (yielded ops a.tmps) = true) (v : Value) (hr : (execOp a.eval o).run P w = .ok (.value v) w') (h : wpList P ops Q rest (a.put o.dst v) w') : wpList P ops Q (o :: rest) a w := wpList_step fun K hK => by
  rw [if_pos hw]
  unfold Oper.wp
  rw [hr]
  exact hK _ _ h
theorem build_b (w : World) : (Instr.build 83 #[]).run Tryz.prog w = .ok (.agg (wq zb)) w := run_build w _ _ _ (by kernel_rfl)
theorem zero_b (w : World) : (zeroValue 83).run Tryz.prog w = .ok (.agg (wq zb)) w := by kernel_rfl
theorem bbuild_run (w : World) (ev : Operand → Value) {o : Oper} (hop : o.op = .build 83 #[]) : (execOp ev o).run Tryz.prog w = .ok (.value (.agg (wq zb))) w := by
  simp only [execOp, hop, Array.map_empty, Sem.run_bind, build_b, Result.andThen_ok, Sem.run_pure]
open Go.RowKit Bb
open Go.RowKit Bb
def bcs (l : List (List Nat)) : List Value := l.flatMap u64s
theorem bcs_append (a b : List (List Nat)) : bcs (a ++ b) = bcs a ++ bcs b := by simp [bcs]
theorem bcs_length : ∀ {l : List (List Nat)}, (∀ b ∈ l, okb b) → (bcs l).length = l.length * 128
  | [], _ => rfl
  | b :: l, h => by
    have := bcs_length (l := l) fun x hx => h x (by simp [hx])
    have h1 := (h b (by simp)).1
    unfold bcs at *
    rw [List.flatMap_cons, List.length_append, this, u64s_length, h1, List.length_cons]
    omega
theorem bcs_at : ∀ {l : List (List Nat)}, (∀ b ∈ l, okb b) → ∀ i k, i < l.length → k < 128 → (bcs l)[i * 128 + k]? = some (.int .u64 (((l.getD i []).getD k 0 : Nat) : Int))
  | [], _, _, _, hi, _ => by simp at hi
  | b :: l, h, i, k, hi, hk => by
    have h1 := (h b (by simp)).1
    have e : bcs (b :: l) = u64s b ++ bcs l := by simp [bcs]
    rw [e]
    cases i with
    | zero =>
      rw [Nat.zero_mul, Nat.zero_add, List.getElem?_append_left (by rw [u64s_length, h1]; exact hk)]
      simp [u64s, List.getD_eq_getElem?_getD, List.getElem?_eq_getElem (show k < b.length by omega)]
    | succ i =>
      rw [List.getElem?_append_right (by rw [u64s_length, h1]; omega), u64s_length, h1, show (i + 1) * 128 + k - 128 = i * 128 + k by omega,
        bcs_at (fun x hx => h x (by simp [hx])) i k (by simpa using hi) hk]
      simp
theorem reads_b {w : World} {B : Nat} {A : Option Addr} {l : List (List Nat)} (hr : Reads w B A (bcs l)) (ho : ∀ b ∈ l, okb b) (i : Nat) (hi : i < l.length) :
    ∃ b off, A = some ⟨b, off, none⟩ ∧ b < B ∧ ∀ k, k < 128 → w.cell? ⟨b, off + i * 128 + k, none⟩ = some (.int .u64 (((l.getD i []).getD k 0 : Nat) : Int)) := by
  have hl := bcs_length ho
  obtain ⟨b, off, e, hb, _⟩ := hr 0 (by omega)
  refine ⟨b, off, e, hb, fun k hk => ?_⟩
  obtain ⟨b', off', e', _, hc⟩ := hr (i * 128 + k) (by omega)
  rw [e] at e'
  cases e'
  rw [Nat.add_assoc, hc, ← List.getElem?_eq_getElem, bcs_at ho i k hi hk]
structure Xx (w wr : World) (x : List Nat) : Prop where
  rz : RowAt wr w.heap.size 83 (wq zb)
  rx : RowAt wr (w.heap.size + 1) 83 (wq x)
  below : Below w.heap.size w wr
section
variable {w wr wr' : World} {x : List Nat}
theorem Xx.new (w : World) : Xx w ((w.alloc (.cells (wq zb) 83)).alloc (.cells (wq zb) 83)) zb := by
  refine ⟨(RowAt.new w _ _).alloc _, ?_, ((Below.refl _ w).alloc (Nat.le_refl _) _).alloc (by simp) _⟩
  have h := RowAt.new (w.alloc (.cells (wq zb) 83)) 83 (wq zb)
  rw [World.size_alloc] at h; exact h
theorem Xx.drewN (h : Xx w wr x) (k : Nat) : Xx w (wr.drewN k) x := ⟨h.rz, h.rx, below_drewN h.below k⟩
theorem Xx.drew (h : Xx w wr x) : Xx w wr.drew x := h.drewN 1
theorem Xx.set (h : Xx w wr x) (i v : Nat) : Xx w (wr.setCell ⟨w.heap.size + 1, i, none⟩ (.int .u64 (v : Int))) (x.set i v) :=
  ⟨h.rz.setOther _ (by simp) _, by rw [← wq_set]; exact h.rx.setCell i _, h.below.setCell (by simp) _⟩
end
set_option maxHeartbeats 3200000 in
theorem xor_any {l : List (List Nat)} (ho : ∀ b ∈ l, okb b) (A : Option Addr) (c : Nat) (w : World) (hr : Reads w w.heap.size A (bcs l)) (hlen : l.length ≤ 1000000) :
    Calls Tryz.prog 94 #[.slice A l.length c] w fun e w' => e = .returned (.agg (wq (xB l))) ∧ Below w.heap.size w w' := by
  have HO := Lib.hid ho
  have HR := Lib.hid hr
  have HX0 := Lib.hid (Xx.new w)
  have hz := zero_b
  clear ho hr
  go_enter Tryz.func94, Tryz.ntmps94
  go_wp2
  generalize hW0 : World.alloc _ _ = w0
  have HX1 : Hid (Xx w w0 (xst l 0 0)) := Lib.hid (by subst hW0; rw [xst_start]; exact HX0.out)
  clear hW0 HX0
  go_loopw [4, 8] (fun _ v8 wr => ∃ i : Nat, i ≤ l.length ∧ v8 = .int .i64 (i : Int) ∧ Xx w wr (xst l i 0)) (fun _ v8 _ => l.length - (intOf v8).toNat)
  case atStart => exact ⟨0, by omega, rfl, HX1.out⟩
  case round =>
    clear HX1
    obtain ⟨i, hi, rfl, X⟩ := hrel
    have HX := Lib.hid X
    clear X
    by_cases h : i < l.length
    · have hdt : decide ((i : Int) < (l.length : Int)) = true := by simp; omega
      have hi0 : (0 : Int) ≤ (i : Int) := by omega
      have hi1 : (i : Int) < (l.length : Int) := by omega
      obtain ⟨b, off, rfl, hbB, hrd⟩ := reads_b HR.out HO.out i h
      have HRD := Lib.hid hrd
      clear hrd
      go_wp2
      obtain ⟨wo, rfl⟩ : ∃ wo : World, wo = wr := ⟨_, rfl⟩
      go_loopw [5, 11] (fun _ v11 wr => ∃ k : Nat, k ≤ 128 ∧ v11 = .int .i64 (k : Int) ∧ Xx w wr (xst l i k)) (fun _ v11 _ => 128 - (intOf v11).toNat)
      case atStart => exact ⟨0, by omega, rfl, HX.out⟩
      case round =>
        clear HX
        obtain ⟨k, hk, rfl, X⟩ := hrel
        have HX := Lib.hid X
        clear X
        by_cases h8 : k < 128
        · have hdk : decide ((k : Int) < 128) = true := by simp; omega
          have hk0 : (0 : Int) ≤ (k : Int) := by omega
          have hk1 : (k : Int) < 128 := by omega
          have ck := (HX.out.rx.cell k).trans (wq_at _ k (by rw [xst_length]; exact h8))
          rw [xst_at l i k h8] at ck
          have dk : wr.cell? ⟨b, off + i * 128 + k, none⟩ = _ := (HX.out.below.cell (p := ⟨b, off + i * 128 + k, none⟩) hbB).trans (HRD.out k h8)
          have HF := Lib.hid (xst_next l i k h)
          have hv := u64_xor_nat _ _ (take_lt HO.out i k) (word_lt HO.out i k)
          have HXD := Lib.hid fun v => HX.out.drew.set k v
          have hfz := HX.out.drew.rx.frozen k
          generalize xw (l.take i) k = a at *
          generalize (l.getD i []).getD k 0 = d at *
          generalize a ^^^ d = s at *
          have k1 : ∀ tp d os out, (World.mk wr.heap tp d os out).cell? ⟨w.heap.size + 1, k, none⟩ = some (.int .u64 (a : Int)) := fun _ _ _ _ => ck
          have k2 : ∀ tp d' os out, (World.mk wr.heap tp d' os out).cell? ⟨b, off + i * 128 + k, none⟩ = some (.int .u64 (d : Int)) := fun _ _ _ _ => dk
          clear ck dk HX
          go_wp2
          refine wp_region_still_tail 11 (by kernel_rfl) (by kernel_rfl) ?_
          simp only [List.take_succ_cons, List.take_zero, List.drop_succ_cons, List.drop_zero]
          repeat still_step
          refine wpStill_nil ?_
          change wpList _ _ _ _ _ wr.drew
          have ck : wr.drew.cell? ⟨w.heap.size + 1, k, none⟩ = some (.int .u64 (a : Int)) := k1 _ _ _ _
          clear k1 k2
          generalize wr.drew = w2 at *
          go_wp2
          go_roundw
          case rel => exact ⟨k + 1, by omega, by go_num, by rw [← HF.out]; exact HXD.out s⟩
          case measure => simp [intOf]; omega
        · obtain rfl : k = 128 := by omega
          have hdk : decide (((128 : Nat) : Int) < 128) = false := by simp
          go_wp2
          go_roundw
          case rel => exact ⟨i + 1, by omega, by go_num, by rw [← xst_line]; exact HX.out⟩
          case measure => simp [intOf]; omega
    · obtain rfl : i = l.length := by omega
      have hdt : decide ((l.length : Int) < (l.length : Int)) = false := by simp
      have HZ : Hid ((wq (xB l)).size = 128) := Lib.hid (by rw [wq_size]; exact (xB_ok l HO.out).1)
      have HE := Lib.hid (xst_end l)
      have RX := HX.out.rx
      rw [HE.out] at RX
      have RX := Lib.hid RX
      have RZ := Lib.hid HX.out.rz
      have HB := Lib.hid HX.out.below
      clear HX HO HR hi
      obtain ⟨z, hz⟩ : ∃ z, z = xB l := ⟨_, rfl⟩
      rw [← hz] at RX HZ
      have HZZ := Lib.hid hz
      clear hz
      go_wp2_with (first
        | refine wpList_load_row rfl 83 (.tmp 3) rfl (w.heap.size + 1) rfl 83 (wq z) (0, 0) _ RX.out Tryz.underlying83 rfl (by rw [HZ.out]; exact b_size) ?_
        | refine wpList_store_row rfl 83 (.tmp 2) (.tmp 27) rfl w.heap.size (wq z) rfl rfl 83 _ RZ.out (by rw [HZ.out]; exact b_size) (by rw [HZ.out]; rfl) (wq_one _) ?_)
      have hR := RowAt.setRow RZ.out (wq z)
      refine bodyPost_ret (v := .agg (wq z)) (results_cell_row rfl _ _ w.heap.size 83 (wq z) (0, 0) _ rfl hR Tryz.underlying83 rfl (by rw [HZ.out]; exact b_size)) rfl ⟨by rw [HZZ.out], ?_⟩
      exact below_setRow HB.out (Nat.le_refl _) _
set_option maxHeartbeats 3200000 in
theorem rxor_any {l : List (List Nat)} (ho : ∀ b ∈ l, okb b) (A : Option Addr) (c : Nat) (w : World) (hr : Reads w w.heap.size A (bcs l)) (hlen : l.length ≤ 1000000) :
    Calls Tryz.prog 61 #[.slice A l.length c] w fun e w' => e = .returned (.agg (wq (xB l))) ∧ Below w.heap.size w w' := by
  have HO := Lib.hid ho
  have HR := Lib.hid hr
  have HX0 := Lib.hid (Xx.new w)
  have hz := zero_b
  clear ho hr
  go_enter Tryz.func61, Tryz.ntmps61
  go_wp2
  generalize hW0 : World.alloc _ _ = w0
  have HX1 : Hid (Xx w w0 (rst l 0 0)) := Lib.hid (by subst hW0; rw [rst_start]; exact HX0.out)
  clear hW0 HX0
  go_loopw [4] (fun v4 wr => ∃ i : Nat, i ≤ 128 ∧ v4 = .int .i64 (i : Int) ∧ Xx w wr (rst l i 0)) (fun v4 _ => 128 - (intOf v4).toNat)
  case atStart => exact ⟨0, by omega, rfl, HX1.out⟩
  case round =>
    clear HX1
    obtain ⟨i, hi, rfl, X⟩ := hrel
    have HX := Lib.hid X
    clear X
    by_cases h : i < 128
    · have hdt : decide ((i : Int) < 128) = true := by simp; omega
      have hi0 : (0 : Int) ≤ (i : Int) := by omega
      have hi1 : (i : Int) < 128 := by omega
      go_wp2
      obtain ⟨wo, rfl⟩ : ∃ wo : World, wo = wr := ⟨_, rfl⟩
      go_loopw [5] (fun v5 wr => ∃ k : Nat, k ≤ l.length ∧ v5 = .int .i64 (k : Int) ∧ Xx w wr (rst l i k)) (fun v5 _ => l.length - (intOf v5).toNat)
      case atStart => exact ⟨0, by omega, rfl, HX.out⟩
      case round =>
        clear HX
        obtain ⟨k, hk, rfl, X⟩ := hrel
        have HX := Lib.hid X
        clear X
        by_cases h8 : k < l.length
        · have hdk : decide ((k : Int) < (l.length : Int)) = true := by simp; omega
          have hk0 : (0 : Int) ≤ (k : Int) := by omega
          have hk1 : (k : Int) < (l.length : Int) := by omega
          obtain ⟨b, off, rfl, hbB, hrd⟩ := reads_b HR.out HO.out k h8
          have ci := (HX.out.rx.cell i).trans (wq_at _ i (by rw [rst_length]; exact h))
          rw [rst_at l i k h] at ci
          have di : wr.cell? ⟨b, off + k * 128 + i, none⟩ = _ := (HX.out.below.cell (p := ⟨b, off + k * 128 + i, none⟩) hbB).trans (hrd i h)
          clear hrd
          have HF := Lib.hid (rst_next l i k h8)
          have hv := u64_xor_nat _ _ (take_lt HO.out k i) (word_lt HO.out k i)
          have HXD := Lib.hid fun v => HX.out.drew.set i v
          have hfz := HX.out.drew.rx.frozen i
          generalize xw (l.take k) i = a at *
          generalize (l.getD k []).getD i 0 = d at *
          generalize a ^^^ d = s at *
          have k1 : ∀ tp d os out, (World.mk wr.heap tp d os out).cell? ⟨w.heap.size + 1, i, none⟩ = some (.int .u64 (a : Int)) := fun _ _ _ _ => ci
          have k2 : ∀ tp d' os out, (World.mk wr.heap tp d' os out).cell? ⟨b, off + k * 128 + i, none⟩ = some (.int .u64 (d : Int)) := fun _ _ _ _ => di
          clear ci di HX
          go_wp2
          refine wp_region_still_tail 12 (by kernel_rfl) (by kernel_rfl) ?_
          simp only [List.take_succ_cons, List.take_zero, List.drop_succ_cons, List.drop_zero]
          repeat still_step
          refine wpStill_nil ?_
          change wpList _ _ _ _ _ wr.drew
          have ck : wr.drew.cell? ⟨w.heap.size + 1, i, none⟩ = some (.int .u64 (a : Int)) := k1 _ _ _ _
          clear k1 k2
          generalize wr.drew = w2 at *
          go_wp2
          go_roundw
          case rel => exact ⟨k + 1, by omega, by go_num, by rw [← HF.out]; exact HXD.out s⟩
          case measure => simp [intOf]; omega
        · obtain rfl : k = l.length := by omega
          have hdk : decide ((l.length : Int) < (l.length : Int)) = false := by simp
          go_wp2
          go_roundw
          case rel => exact ⟨i + 1, by omega, by go_num, by rw [← rst_line]; exact HX.out⟩
          case measure => simp [intOf]; omega
    · obtain rfl : i = 128 := by omega
      have hdt : decide (((128 : Nat) : Int) < 128) = false := by simp
      have HZ : Hid ((wq (xB l)).size = 128) := Lib.hid (by rw [wq_size]; exact (xB_ok l HO.out).1)
      have HE := Lib.hid (rst_end l)
      have RX := HX.out.rx
      rw [HE.out] at RX
      have RX := Lib.hid RX
      have RZ := Lib.hid HX.out.rz
      have HB := Lib.hid HX.out.below
      clear HX HO HR hi
      obtain ⟨z, hz⟩ : ∃ z, z = xB l := ⟨_, rfl⟩
      rw [← hz] at RX HZ
      have HZZ := Lib.hid hz
      clear hz
      go_wp2_with (first
        | refine wpList_load_row rfl 83 (.tmp 3) rfl (w.heap.size + 1) rfl 83 (wq z) (0, 0) _ RX.out Tryz.underlying83 rfl (by rw [HZ.out]; exact b_size) ?_
        | refine wpList_store_row rfl 83 (.tmp 2) (.tmp 28) rfl w.heap.size (wq z) rfl rfl 83 _ RZ.out (by rw [HZ.out]; exact b_size) (by rw [HZ.out]; rfl) (wq_one _) ?_)
      have hR := RowAt.setRow RZ.out (wq z)
      refine bodyPost_ret (v := .agg (wq z)) (results_cell_row rfl _ _ w.heap.size 83 (wq z) (0, 0) _ rfl hR Tryz.underlying83 rfl (by rw [HZ.out]; exact b_size)) rfl ⟨by rw [HZZ.out], ?_⟩
      exact below_setRow HB.out (Nat.le_refl _) _
theorem load_b {w : World} {b o : Nat} {L : List Nat} (hL : L.length = 128) (h : ∀ k, k < 128 → w.cell? ⟨b, o + k, none⟩ = some (.int .u64 (L.getD k 0 : Nat))) : (loadVar 83 ⟨b, o, none⟩).run Tryz.prog w = .ok (.agg (wq L)) w := by
  have hl : (loadCells ⟨b, o, none⟩ (u64s L).length).run Tryz.prog w = .ok (u64s L).toArray w :=
    run_loadCells_list (P := Tryz.prog) w ⟨b, o, none⟩ _ (fun j v hv => by
      have hj : j < 128 := by
        have := (List.getElem?_eq_some_iff.1 hv).1
        rwa [u64s_length, hL] at this
      rw [Go.WideShapes.add_plain, h j hj, ← hv]
      unfold u64s
      rw [List.getElem?_map, List.getElem?_eq_getElem (by omega), List.getD_eq_getElem?_getD, List.getElem?_eq_getElem (by omega)]
      rfl)
  rw [u64s_length, hL] at hl
  have hz := b_size
  cases hq : Tryz.prog.info? 83 with
  | none => rw [hq] at hz; simp at hz
  | some i =>
    have hsz : i.size = 128 := by rw [hq] at hz; simpa using hz
    simp [loadVar, Sem.run_bind, sizeOf, typeInfo, hq, hsz, hl, wq]
open Go.RowKit Bb
theorem op_call3 {P : Program} {o : Oper} {a : Act} {w : World} {Q : Exit → Act → World → Prop} {p : Value → World → Prop} {f : FuncId} {x y z : Operand} {ts : Array TypeId} {v1 v2 v3 : Value} (ho : o.op = .call { callee := .value (.func f), args := #[x, y, z], argTypes := ts }) (he : ∀ (args : Array Value) (w : World), (callFunc f args).run P w = .ok (.enter f args) w)
    (hx : a.eval x = v1) (hy : a.eval y = v2) (hz : a.eval z = v3) (hc : Calls P f #[v1, v2, v3] w fun e w' => ∃ v, e = .returned v ∧ p v w' ∧ Below w.heap.size w w') : Does P p o a w Q := by
  subst hx; subst hy; subst hz
  exact op_call ho he hc
theorem bload_run {w : World} {b : Nat} {L : List Nat} {ev : Operand → Value} {x : Operand} {o : Oper} (hop : o.op = .load 83 x) (hx : ev x = .pointer (some ⟨b, 0, none⟩)) (hR : RowAt w b 83 (wq L)) (hz : (wq L).size = 128) : (execOp ev o).run Tryz.prog w = .ok (.value (.agg (wq L))) w := by
  have h := hR.loadAt (P := Tryz.prog) Tryz.underlying83 (by rw [hz]; exact b_size)
  simp only [execOp, hop, hx, Sem.run_bind, h, Result.andThen_ok, Sem.run_pure]
section
variable {w wr w' : World} {b4 b9 : Nat} {L c : List Nat}
end
open Go.RowKit Bb
theorem newb (w : World) (c : List Nat) : RowAt ((w.alloc (.cells (wq zb) 83)).setRow w.heap.size (wq c)) w.heap.size 83 (wq c) ∧ Below w.heap.size w ((w.alloc (.cells (wq zb) 83)).setRow w.heap.size (wq c)) :=
  ⟨(RowAt.new w _ _).setRow _, below_setRow ((Below.refl _ w).alloc (Nat.le_refl _) _) (Nat.le_refl _) _⟩
open Go.ChangeShapes Go.WideShapes Go.ChangeAt Go.RowKit Bb
open Go.RowKit Bb
theorem b_info : (Tryz.prog.info? 83).map (fun i => (i.zero, i.size, i.bytes)) = some (some (.agg (wq zb)), 128, 1024) := by kernel_rfl
theorem b_parts : ∃ i, Tryz.prog.info? 83 = some i ∧ i.zero = some (.agg (wq zb)) ∧ i.size = 128 ∧ i.bytes = 1024 := by
  have h := b_info
  cases hq : Tryz.prog.info? 83 with
  | none => rw [hq] at h; cases h
  | some i =>
    rw [hq] at h
    simp only [Option.map_some, Option.some.injEq, Prod.mk.injEq] at h
    exact ⟨i, rfl, h.1, h.2.1, h.2.2⟩
theorem zb_cells : (Value.agg (wq zb)).cells.size = 128 := by
  simp [Value.cells, wq_size, zb]
theorem bcs_z (z : List Nat) : bcs [z] = u64s z := by simp [bcs]
def OwB (N : Nat) (l : List (List Nat)) : Value → World → Prop := fun v w => w.ownsRow N 83 128 v l.length (bcs l)
def RdB (l : List (List Nat)) : Value → World → Prop := fun v w => ∃ A c, v = .slice A l.length c ∧ Reads w w.heap.size A (bcs l)
theorem lt_of_some {w : World} {g : Nat} {o : Obj} (h : w.heap[g]? = some o) : g < w.heap.size := (Array.getElem?_eq_some_iff.1 h).1
theorem stable_owb (N : Nat) (l : List (List Nat)) : Stable (OwB N l) := fun v w w' h hb => by
  refine ⟨h.1, ?_⟩
  rcases h.2 with hn | ⟨g, cap, cur, rfl, h0, hg, rest⟩
  · exact .inl hn
  · exact .inr ⟨g, cap, cur, rfl, h0, (hb.block g (lt_of_some hg)).trans hg, rest⟩
theorem stable_rdb (l : List (List Nat)) : Stable (RdB l) := fun _ _ _ ⟨A, c, e, h⟩ hb => ⟨A, c, e, (h.below hb).more hb.size⟩
theorem app_more {w : World} {N : Nat} {l : List (List Nat)} {v : Value} (h : OwB N l v w) (hN : N ≤ w.heap.size) {g : Nat} {z : List Nat} (hz' : okb z) (hg : RowAt w g 83 (wq z)) (hl : l.length ≤ 1000000) (ty : TypeId) :
    ∃ v' w', (Builtin.append_ #[91, 91] ty #[v, .slice (some ⟨g, 0, none⟩) 1 1]).run Tryz.prog w = .ok v' w' ∧ OwB N (l ++ [z]) v' w' ∧ Below N w w' := by
  obtain ⟨i, hi, hz, hs, hby⟩ := b_parts
  have hzl : (u64s z).length = 128 := by rw [u64s_length]; exact hz'.1
  obtain ⟨v', w', hr, ho, hgr, _, _⟩ := run_append_own_at (P := Tryz.prog) w N 91 ty 83 i _ 128 1024 Tryz.underlying91 hi hz hs hby zb_cells (by decide) v l.length (bcs l) h ⟨g, 0, none⟩ 1 1 (u64s z) (by rw [hzl])
    (fun j u hj => by
      rw [Go.WideShapes.add_plain, Nat.zero_add, hg.cell j]
      simpa [wq] using hj) (fun u hu => by simp only [u64s, List.mem_map] at hu; obtain ⟨x, _, rfl⟩ := hu; rfl) (by unfold maxLen; omega) (by omega) hN
  refine ⟨v', w', hr, ?_, (Below.refl N w).grown hgr hN (fun k hk => (h.lt k hk).1)⟩
  unfold OwB
  rw [bcs_append, bcs_z, List.length_append]
  exact ho
theorem fold_cells : ∀ (l : List Value) (off : Nat) (cs : Array Value), off + l.length ≤ cs.size → (l.zipIdx off).foldl (fun (cs : Array Value) (x : Value × Nat) => cs.setIfInBounds x.2 x.1) cs = (cs.toList.take off ++ l ++ cs.toList.drop (off + l.length)).toArray
  | [], off, cs, _ => by simp
  | x :: l, off, cs, h => by
    rw [List.zipIdx_cons, List.foldl_cons, fold_cells l (off + 1) _ (by simp at h ⊢; omega)]
    simp only [List.length_cons] at h
    congr 1
    rw [Array.toList_setIfInBounds]
    have h1 : (cs.toList.set off x).take (off + 1) = cs.toList.take off ++ [x] := by
      rw [List.take_add_one, List.getElem?_set_self (by simp; omega), List.take_set_of_le (Nat.le_refl _)]; rfl
    have h2 : (cs.toList.set off x).drop (off + 1 + l.length) = cs.toList.drop (off + (x :: l).length) := by
      rw [List.drop_set_of_lt (by omega), List.length_cons, show off + 1 + l.length = off + (l.length + 1) by omega]
    rw [h1, h2]
    simp
theorem build_one (w : World) {z : List Nat} (hz' : z.length = 128) : (Instr.buildSlice 91 1 #[(0, .agg (wq z))]).run Tryz.prog w = .ok (.slice (some ⟨w.heap.size, 0, none⟩) 1 1) (w.alloc (.cells (wq z) 83)) := by
  obtain ⟨i, hi, hz, hs, hby⟩ := b_parts
  refine run_buildSlice w _ _ 1 _ (wq z) i _ Tryz.underlying91 hi hz (by rw [hs]; decide) (by rw [hs]; decide) ?_
  have hsz : (wq z).size = 128 := by rw [wq_size]; exact hz'
  have e : (Value.agg (wq z)).cells = wq z := rfl
  simp only [Instr.fill, hs, e, hsz, Nat.zero_mul, Nat.one_mul, Nat.zero_add]
  rw [if_neg (by simp)]
  congr 1
  have := fold_cells (wq z).toList 0 ((Array.range 128).map ((Value.agg (wq zb)).cells[· % (Value.agg (wq zb)).cells.size]!)) (by simp [hsz])
  rw [← Array.foldl_toList, Array.toList_zipIdx, this]
  rw [List.take_zero, List.nil_append, List.drop_of_length_le (by simp [hsz]), List.append_nil, Array.toArray_toList]
open Go.RowKit Bb
theorem op_made {P : Program} {o : Oper} {a : Act} {w w' : World} {Q : Exit → Act → World → Prop} {p : Value → World → Prop} {v : Value} (h : (execOp a.eval o).run P w = .ok (.value v) w') (hp : p v w') (hb : Below w.heap.size w w') : Does P p o a w Q := by
  unfold Does Oper.wp
  rw [h]
  exact ⟨v, rfl, hp, hb⟩
theorem op_append {P : Program} {o : Oper} {a : Act} {w w' : World} {x y : Operand} {t : TypeId} {v1 v2 v : Value} (ho : o.op = .call { callee := .builtin .append, args := #[x, y], argTypes := #[t, t] }) (hx : a.eval x = v1) (hy : a.eval y = v2) (hr : (Builtin.append_ #[t, t] o.type #[v1, v2]).run P w = .ok v w') : (execOp a.eval o).run P w = .ok (.value v) w' := by
  simp only [execOp, ho, resolve, invoke, builtin, Sem.run_bind, Sem.run_pure, Result.andThen_ok, List.map_toArray, List.map_cons, List.map_nil, hx, hy, hr]
theorem build_one_run {w : World} {ev : Operand → Value} {x : Operand} {o : Oper} {z : List Nat} (hz : z.length = 128) (hop : o.op = .buildSlice 91 1 #[(0, x)]) (hx : ev x = .agg (wq z)) : (execOp ev o).run Tryz.prog w = .ok (.value (.slice (some ⟨w.heap.size, 0, none⟩) 1 1)) (w.alloc (.cells (wq z) 83)) := by
  simp only [execOp, hop, List.map_toArray, List.map_cons, List.map_nil, hx, Sem.run_bind, build_one w hz, Result.andThen_ok, Sem.run_pure]
open Go.RowKit Bb
def ars (B u h c : Nat) : Array Value := #[.int .i64 (B : Int), .int .i64 (u : Int), .int .i64 (h : Int), .int .i64 (c : Int)]
def AreAt (w : World) (a B u h c : Nat) : Prop := RowAt w a 109 (ars B u h c)
def pcs (a n : Nat) (live : Bool) (v : Value) : Array Value := #[.pointer (some ⟨a, 0, none⟩), .int .i64 (n : Int), .bool live, v]
def PceAt (w : World) (p a n : Nat) (live : Bool) (v : Value) : Prop := RowAt w p 111 (pcs a n live v)
def BlkAt (w : World) (g : Nat) (l : List (List Nat)) : Prop := RowAt w g 83 (bcs l).toArray
structure LiveAt (w : World) (p a g : Nat) (l : List (List Nat)) : Prop where
  row : PceAt w p a l.length true (.slice (some ⟨g, 0, none⟩) l.length l.length)
  blk : BlkAt w g l
  ok : ∀ b ∈ l, okb b
section
variable {w w' : World} {a p g n B u h c : Nat} {live : Bool} {v : Value} {l : List (List Nat)} {M : Nat → Prop}
theorem RowAt.kept {t : TypeId} {C : Array Value} {b : Nat} (h : RowAt w b t C) (hk : Kept M w w') (hM : ¬ M b) : RowAt w' b t C := (hk.block b h.lt hM).trans h
theorem RowAt.unlike {t t' : TypeId} {C C' : Array Value} {b b' : Nat} (h : RowAt w b t C) (k : RowAt w b' t' C') (ht : (t == t') = false) : b ≠ b' := fun e => by
  subst e
  unfold RowAt at h k
  rw [h] at k
  simp only [Option.some.injEq, Obj.cells.injEq] at k
  rw [k.2.1] at ht
  simp at ht
theorem AreAt.at_ (h' : AreAt w a B u h c) : w.cell? ⟨a, 0, none⟩ = some (.int .i64 (B : Int)) ∧ w.cell? ⟨a, 1, none⟩ = some (.int .i64 (u : Int)) ∧ w.cell? ⟨a, 2, none⟩ = some (.int .i64 (h : Int)) ∧ w.cell? ⟨a, 3, none⟩ = some (.int .i64 (c : Int)) ∧
    w.frozen? ⟨a, 0, none⟩ = false ∧ w.frozen? ⟨a, 1, none⟩ = false ∧ w.frozen? ⟨a, 2, none⟩ = false ∧ w.frozen? ⟨a, 3, none⟩ = false :=
  ⟨by rw [RowAt.cell h' 0]; rfl, by rw [RowAt.cell h' 1]; rfl, by rw [RowAt.cell h' 2]; rfl, by rw [RowAt.cell h' 3]; rfl, RowAt.frozen h' 0, RowAt.frozen h' 1, RowAt.frozen h' 2, RowAt.frozen h' 3⟩
theorem PceAt.at_ (h' : PceAt w p a n live v) : w.cell? ⟨p, 0, none⟩ = some (.pointer (some ⟨a, 0, none⟩)) ∧ w.cell? ⟨p, 1, none⟩ = some (.int .i64 (n : Int)) ∧ w.cell? ⟨p, 2, none⟩ = some (.bool live) ∧ w.cell? ⟨p, 3, none⟩ = some v ∧
    w.frozen? ⟨p, 0, none⟩ = false ∧ w.frozen? ⟨p, 1, none⟩ = false ∧ w.frozen? ⟨p, 2, none⟩ = false ∧ w.frozen? ⟨p, 3, none⟩ = false :=
  ⟨by rw [RowAt.cell h' 0]; rfl, by rw [RowAt.cell h' 1]; rfl, by rw [RowAt.cell h' 2]; rfl, by rw [RowAt.cell h' 3]; rfl, RowAt.frozen h' 0, RowAt.frozen h' 1, RowAt.frozen h' 2, RowAt.frozen h' 3⟩
theorem AreAt.setU (h' : AreAt w a B u h c) (u' : Nat) : AreAt (w.setCell ⟨a, 1, none⟩ (.int .i64 (u' : Int))) a B u' h c := RowAt.setCell h' 1 _
theorem AreAt.setH (h' : AreAt w a B u h c) (x : Nat) : AreAt (w.setCell ⟨a, 2, none⟩ (.int .i64 (x : Int))) a B u x c := RowAt.setCell h' 2 _
theorem AreAt.setC (h' : AreAt w a B u h c) (x : Nat) : AreAt (w.setCell ⟨a, 3, none⟩ (.int .i64 (x : Int))) a B u h x := RowAt.setCell h' 3 _
end
theorem anew_any (n : Nat) (h : n ≤ 4194304) (w : World) : Calls Tryz.prog 27 #[.int .i64 (n : Int)] w fun e w' => e = .returned (.tuple #[.pointer (some ⟨w.heap.size, 0, none⟩), .int .i64 0]) ∧ AreAt w' w.heap.size n 0 0 0 ∧ Below w.heap.size w w' := by
  have d1 : decide ((n : Int) < 0) = false := by simp
  have d2 : decide ((4194304 : Int) < (n : Int)) = false := by simp; omega
  have d3 : decide (4194304 < n) = false := by simp; omega
  go_enter Tryz.func27, Tryz.ntmps27
  go_wp2
  go_ret2
  exact ⟨rfl, RowAt.new _ _ _, (Below.refl _ _).alloc (Nat.le_refl _) _⟩
theorem len_any {w : World} {p a n : Nat} {live : Bool} {v : Value} (h : PceAt w p a n live v) : Calls Tryz.prog 48 #[.pointer (some ⟨p, 0, none⟩)] w fun e w' => e = .returned (.int .i64 (n : Int)) ∧ w' = w := by
  obtain ⟨x0, x1, x2, x3, f0, f1, f2, f3⟩ := h.at_
  clear h
  go_enter Tryz.func48, Tryz.ntmps48
  go_wp2
  go_ret
  exact ⟨rfl, rfl⟩
open Go.RowKit Bb
theorem zb_cells' : u64s zb = List.replicate 128 (.int .u64 0) := by unfold u64s zb; rw [List.map_replicate]; rfl
theorem bcs_zeros : ∀ n : Nat, bcs (List.replicate n zb) = List.replicate (n * 128) (.int .u64 0)
  | 0 => rfl
  | n + 1 => by
    rw [List.replicate_succ, show bcs (zb :: List.replicate n zb) = u64s zb ++ bcs (List.replicate n zb) by simp [bcs], bcs_zeros n,
      zb_cells', List.replicate_append_replicate]
    congr 1
    omega
theorem zeros_ok (n : Nat) : ∀ b ∈ List.replicate n zb, okb b := fun b hb => by rw [List.eq_of_mem_replicate hb]; exact zb_ok
theorem made_b (n : Nat) : madeCells (wq zb) (n * 128) = (bcs (List.replicate n zb)).toArray := by
  rw [bcs_zeros]
  apply Array.ext
  · simp [size_madeCells]
  · intro i h1 h2
    simp only [madeCells, Array.getElem_map, Array.getElem_range, wq_size, List.getElem_toArray, List.getElem_replicate]
    rw [show zb.length = 128 by simp [zb], getElem!_pos (wq zb) (i % 128) (by rw [wq_size]; simp [zb]; omega)]
    simp only [wq, zb_cells', List.getElem_toArray, List.getElem_replicate]
theorem make_blocks (n : Nat) (hn : n ≤ 4194304) (w : World) : (Instr.makeSlice 91 (.int .i64 (n : Int)) (.int .i64 (n : Int))).run Tryz.prog w = .ok (.slice (some ⟨w.heap.size, 0, none⟩) n n) (w.alloc (.cells (bcs (List.replicate n zb)).toArray 83)) := by
  obtain ⟨i, hi, hz, hs, hb⟩ := b_parts
  have := run_make (P := Tryz.prog) w 91 83 i _ Tryz.underlying91 hi hz .i64 .i64 (n : Int) (n : Int) (by omega) (Int.le_refl _) (by rw [hb]; omega) (by omega)
  rw [this, hs, Int.toNat_natCast, ← made_b]
  rfl
set_option maxHeartbeats 1600000 in
theorem ares_any {w : World} {a B u h c : Nat} (hA : AreAt w a B u h c) (n : Nat) (hn : u + n ≤ B) (hB : B ≤ 4194304) (hc : c ≤ 4194304) : Calls Tryz.prog 28 #[.pointer (some ⟨a, 0, none⟩), .int .i64 (n : Int)] w fun e w' => (∃ p g, e = .returned (.tuple #[.pointer (some ⟨p, 0, none⟩), .int .i64 0]) ∧ LiveAt w' p a g (List.replicate n zb) ∧ w.heap.size ≤ p ∧ w.heap.size ≤ g) ∧ AreAt w' a B (u + n) (max h (u + n)) (c + 1) ∧ Kept (fun k => k = a) w w' := by
  obtain ⟨x0, x1, x2, x3, f0, f1, f2, f3⟩ := hA.at_
  have HA := Lib.hid fun q => ((AreAt.setU (w := w.drewN q) hA (u + n)).setC (c + 1))
  clear hA
  obtain ⟨r, hr⟩ : ∃ r : Nat, (B : Int) - u = r := ⟨B - u, by omega⟩
  have d1 : decide ((n : Int) < 0) = false := by simp
  have d2 : decide ((r : Int) < (n : Int)) = false := by simp; omega
  have d3 : decide (r < n) = false := by simp; omega
  have hw : IntKind.i64.wrap ((B : Int) - u) = (r : Int) := by rw [IntKind.wrap_i64]; omega
  have hm : max (h : Int) ((u : Int) + (n : Int)) = ((max h (u + n) : Nat) : Int) := by omega
  have hmk := make_blocks n (by omega)
  have hln : (List.replicate n zb).length = n := List.length_replicate ..
  generalize max h (u + n) = m at *
  go_enter Tryz.func28, Tryz.ntmps28
  go_wp2
  go_quiet (fail)
  go_wp2
  obtain ⟨w1, e1⟩ : ∃ w1, w1 = ((w.drewN nq).setCell ⟨a, 1, none⟩ (.int .i64 ((u : Int) + n))).setCell ⟨a, 3, none⟩ (.int .i64 ((c : Int) + 1)) := ⟨_, rfl⟩
  have hK : Kept (fun k => k = a) w w1 := by
    rw [e1]
    have h0 : Kept (fun k => k = a) w (w.drewN nq) := ⟨rfl, rfl, rfl, Nat.le_refl _, fun _ _ _ => rfl⟩
    exact (h0.set (p := ⟨a, 1, none⟩) (.inl rfl) _).set (p := ⟨a, 3, none⟩) (.inl rfl) _
  have hA1 : AreAt w1 a B (u + n) h (c + 1) := by
    have := HA.out nq
    rw [show ((u + n : Nat) : Int) = (u : Int) + n by omega, show ((c + 1 : Nat) : Int) = (c : Int) + 1 by omega] at this
    rw [e1]
    exact this
  rw [← e1]
  clear e1 HA x0 x1 x2 x3 f0 f1 f2 f3
  obtain ⟨y0, y1, y2, y3, f0, f1, f2, f3⟩ := hA1.at_
  have HA := Lib.hid (AreAt.setH (w := w1.drew) hA1 m)
  have HK := Lib.hid hK
  clear hK hA1
  rw [show ((u + n : Nat) : Int) = (u : Int) + n by omega] at y1
  clear y0 y3 f0 f1 f3
  go_region
  go_wp2
  go_ret2
  have hs := HK.out.size
  have HZ := zeros_ok n
  generalize List.replicate n zb = l at *
  obtain rfl := hln
  generalize hw2 : w1.setCell _ _ = w2
  have hA2 : AreAt w2 a B (u + l.length) m (c + 1) := by rw [← hw2]; exact HA.out
  have hs2 : w2.heap.size = w1.heap.size := by rw [← hw2]; simp [World.setCell]
  have hK2 : Kept (fun k => k = a) w w2 := by rw [← hw2]; exact HK.out.set (p := ⟨a, 2, none⟩) (.inl rfl) _
  have R1 := RowAt.new w2 83 (bcs l).toArray
  have R2 := RowAt.new (w2.alloc (.cells (bcs l).toArray 83)) 111 (pcs a l.length true (.slice (some ⟨w2.heap.size, 0, none⟩) l.length l.length))
  rw [World.size_alloc] at R2
  rw [← hs2]
  exact ⟨⟨_, w2.heap.size, rfl, ⟨R2, R1.alloc _, HZ⟩, by omega, by omega⟩, (RowAt.alloc hA2 _).alloc _, ((hK2.alloc _).alloc _).drew⟩
open Go.RowKit Bb
open Go.RowKit Bb
section
variable {w : World} {p a g n : Nat} {live : Bool} {v : Value} {l : List (List Nat)}
theorem fault_out (hP : PceAt w p a n live v) (i : Int) (hi : i < 0 ∨ (n : Int) ≤ i) : Calls Tryz.prog 72 #[.pointer (some ⟨p, 0, none⟩), .int .i64 i] w fun e w' => e = .returned (.int .i64 11) ∧ w' = w := by
  obtain ⟨x0, x1, x2, x3, f0, f1, f2, f3⟩ := hP.at_
  clear hP
  have hh : decide (i < 0) = true ∨ decide (i < 0) = false ∧ decide ((n : Int) ≤ i) = true := by simp; omega
  rcases hh with d1 | ⟨d1, d2⟩
  all_goals
    go_enter Tryz.func72, Tryz.ntmps72
    go_wp2
    go_ret
    exact ⟨rfl, rfl⟩
theorem fault_in (hP : PceAt w p a n live v) (i : Nat) (hi : i < n) : Calls Tryz.prog 72 #[.pointer (some ⟨p, 0, none⟩), .int .i64 (i : Int)] w fun e w' => e = .returned (.int .i64 (if live then 0 else 12)) ∧ w' = w := by
  obtain ⟨x0, x1, x2, x3, f0, f1, f2, f3⟩ := hP.at_
  clear hP
  have d1 : decide ((i : Int) < 0) = false := by simp
  have d2 : decide ((n : Int) ≤ (i : Int)) = false := by simp; omega
  have d3 : decide (n ≤ i) = false := by simp; omega
  cases live
  all_goals
    go_enter Tryz.func72, Tryz.ntmps72
    go_wp2
    go_ret
    exact ⟨rfl, rfl⟩
def faN (n : Nat) (live : Bool) (i : Int) : Int := if i < 0 ∨ (n : Int) ≤ i then 11 else if live then 0 else 12
theorem fault_any (hP : PceAt w p a n live v) (i : Int) : Calls Tryz.prog 72 #[.pointer (some ⟨p, 0, none⟩), .int .i64 i] w fun e w' => e = .returned (.int .i64 (faN n live i)) ∧ w' = w := by
  by_cases h : i < 0 ∨ (n : Int) ≤ i
  · rw [show faN n live i = 11 from if_pos h]; exact fault_out hP i h
  · rw [show faN n live i = if live then 0 else 12 from if_neg h]
    obtain ⟨k, rfl⟩ := Int.eq_ofNat_of_zero_le (show 0 ≤ i by omega)
    exact fault_in hP k (by omega)
theorem fa_ok {i : Nat} (hi : i < n) : faN n true (i : Int) = 0 := by
  unfold faN; rw [if_neg (by omega)]; rfl
end
open Go.RowKit Bb
theorem wpStill_load_b {P : Program} {ops : Array Oper} {w : World} {Q : Act → Prop} {a : Act} {o : Oper} {rest : List Oper} (hg : o.guard = none) (ty : TypeId) (x : Operand) (ho : o.op = .load ty x) (ad : Addr) (v : Value) (hx : a.eval x = .pointer (some ad))
    (hl : (loadVar ty ad).run P w = .ok v w) (h : wpStill P ops w Q rest (a.put o.dst v)) : wpStill P ops w Q (o :: rest) a := by
  refine wpStill_step fun K hK => ?_
  rw [if_pos (by simp [Region.wanted, hg])]
  unfold Oper.still execOp
  simp only [ho, hx, Instr.loadAt, Instr.sureAddr, Sem.run_bind, Sem.run_pure, Result.andThen_ok, hl]
  exact ⟨rfl, hK _ h⟩
theorem okl_take {l : List (List Nat)} (h : ∀ b ∈ l, okb b) (i : Nat) : ∀ b ∈ l.take i, okb b := fun b hb => h b (List.mem_of_mem_take hb)
theorem okl_set {l : List (List Nat)} (h : ∀ b ∈ l, okb b) (i : Nat) {x : List Nat} (hx : okb x) : ∀ b ∈ l.set i x, okb b := fun b hb => by
  rcases List.mem_or_eq_of_mem_set hb with hb | rfl
  · exact h b hb
  · exact hx
theorem bcs_set {l : List (List Nat)} (h : ∀ b ∈ l, okb b) (i : Nat) (hi : i < l.length) (x : List Nat) : (bcs l).take (i * 128) ++ u64s x ++ (bcs l).drop (i * 128 + 128) = bcs (l.set i x) := by
  have h1 : (bcs (l.take i)).length = i * 128 := by rw [bcs_length (okl_take h i), List.length_take]; congr 1; omega
  have h2 : (bcs (l.take (i + 1))).length = i * 128 + 128 := by rw [bcs_length (okl_take h (i + 1)), List.length_take]; rw [show min (i + 1) l.length = i + 1 by omega]; omega
  have e1 : bcs l = bcs (l.take i) ++ bcs (l.drop i) := by rw [← bcs_append, List.take_append_drop]
  have e2 : bcs l = bcs (l.take (i + 1)) ++ bcs (l.drop (i + 1)) := by rw [← bcs_append, List.take_append_drop]
  have t1 : (bcs l).take (i * 128) = bcs (l.take i) := by rw [e1, ← h1]; exact List.take_left
  have t2 : (bcs l).drop (i * 128 + 128) = bcs (l.drop (i + 1)) := by rw [e2, ← h2]; exact List.drop_left
  rw [t1, t2, List.set_eq_take_append_cons_drop, if_pos hi, bcs_append, show bcs (x :: l.drop (i + 1)) = u64s x ++ bcs (l.drop (i + 1)) by simp [bcs], List.append_assoc]
section
variable {w w' : World} {p a g n : Nat} {live : Bool} {v : Value} {l : List (List Nat)}
theorem BlkAt.at_ (h : BlkAt w g l) (ho : ∀ b ∈ l, okb b) (i : Nat) (hi : i < l.length) : ∀ k, k < 128 → w.cell? ⟨g, i * 128 + k, none⟩ = some (.int .u64 (((l.getD i []).getD k 0 : Nat) : Int)) := fun k hk => by
  rw [RowAt.cell h, List.getElem?_toArray, bcs_at ho i k hi hk]
theorem BlkAt.load (h : BlkAt w g l) (ho : ∀ b ∈ l, okb b) (i : Nat) (hi : i < l.length) : (loadVar 83 ⟨g, i * 128, none⟩).run Tryz.prog w = .ok (.agg (wq (l.getD i []))) w :=
  load_b (block_ok ho i hi).1 (h.at_ ho i hi)
theorem BlkAt.store (h : BlkAt w g l) (ho : ∀ b ∈ l, okb b) (i : Nat) (hi : i < l.length) {x : List Nat} (hx : okb x) : (storeVar 83 ⟨g, i * 128, none⟩ (.agg (wq x))).run Tryz.prog w = .ok () (w.setRow g (bcs (l.set i x)).toArray) := by
  have hst := run_storeCells_at Tryz.prog g (i * 128) 83 (u64s x) 0 (bcs l).toArray w h (by
    rw [List.size_toArray, bcs_length ho, u64s_length, hx.1]
    have : i * 128 + 128 ≤ l.length * 128 := by omega
    omega) (fun v hv => by
    obtain ⟨y, _, rfl⟩ := List.mem_map.1 hv
    rfl)
  rw [u64s_length, hx.1, Nat.add_zero] at hst
  rw [bcs_set ho i hi x] at hst
  have hz := b_size
  cases hq : Tryz.prog.info? 83 with
  | none => rw [hq] at hz; simp at hz
  | some j =>
    have hsz : j.size = 128 := by rw [hq] at hz; simpa using hz
    have hc : (Value.agg (wq x)).cells = wq x := rfl
    have hl : (wq x).toList = u64s x := rfl
    simp [storeVar, sizeOf, typeInfo, hq, hsz, hc, wq_size, hx.1, hl, hst]
theorem LiveAt.alloc (h : LiveAt w p a g l) (o : Obj) : LiveAt (w.alloc o) p a g l := ⟨RowAt.alloc h.row o, RowAt.alloc h.blk o, h.ok⟩
theorem LiveAt.drew (h : LiveAt w p a g l) : LiveAt w.drew p a g l := ⟨h.row, h.blk, h.ok⟩
theorem LiveAt.set (h : LiveAt w p a g l) (i : Nat) {x : List Nat} (hx : okb x) : LiveAt (w.setRow g (bcs (l.set i x)).toArray) p a g (l.set i x) :=
  ⟨by rw [List.length_set]; exact RowAt.setRowOther h.row g (RowAt.unlike h.row h.blk (by rfl)).symm _, RowAt.setRow h.blk _, okl_set h.ok i hx⟩
set_option maxHeartbeats 1600000 in
theorem get_any (hP : LiveAt w p a g l) (i : Nat) (hi : i < l.length) : Calls Tryz.prog 62 #[.pointer (some ⟨p, 0, none⟩), .int .i64 (i : Int)] w fun e w' => e = .returned (.tuple #[.agg (wq (l.getD i [])), .int .i64 0]) ∧ Below w.heap.size w w' := by
  have hz := zero_b
  have hP1 := hP.alloc (.cells (wq zb) 83)
  have C := Lib.hid (fault_any hP1.row i)
  rw [fa_ok hi] at C
  have HR := Lib.hid (RowAt.new w 83 (wq zb))
  have HL := Lib.hid (hP1.blk.load hP1.ok i hi)
  have hx : okb (l.getD i []) := block_ok hP.ok i hi
  have HS : Hid ((wq (l.getD i [])).size = 128) := Lib.hid (by rw [wq_size]; exact hx.1)
  generalize l.getD i [] = x at *
  obtain ⟨x0, x1, x2, x3, f0, f1, f2, f3⟩ := hP1.row.at_
  have hi0 : (0 : Int) ≤ (i : Int) := by omega
  have hi1 : (i : Int) < (l.length : Int) := by omega
  clear hP hP1 hx
  go_enter Tryz.func62, Tryz.ntmps62
  go_wp2_with fail
  refine C.out.mono ?_; rintro e w' ⟨rfl, rfl⟩
  go_wp2_with (first
    | refine wpList_load_of rfl 83 (.tmp 19) rfl ⟨g, i * 128, none⟩ _ (by first | rfl | simp [Act.eval]) HL.out ?_
    | refine wpList_store_row rfl 83 (.tmp 4) (.tmp 20) rfl w.heap.size (wq x) rfl rfl 83 _ HR.out (by rw [HS.out]; exact b_size) (by rw [HS.out, wq_size]; exact zb_ok.1) (wq_one _) ?_)
  have hR := RowAt.setRow HR.out (wq x)
  refine bodyPost_ret (results_row_tmp rfl _ (p := 4) rfl hR Tryz.underlying83 rfl (by rw [HS.out]; exact b_size)) rfl ⟨rfl, ?_⟩
  exact below_setRow ((Below.refl _ _).alloc (Nat.le_refl _) _) (Nat.le_refl _) _
set_option maxHeartbeats 1600000 in
theorem pset_any (hP : LiveAt w p a g l) (i : Nat) (hi : i < l.length) {x : List Nat} (hx : okb x) : Calls Tryz.prog 50 #[.pointer (some ⟨p, 0, none⟩), .int .i64 (i : Int), .agg (wq x)] w fun e w' => e = .returned (.int .i64 0) ∧ LiveAt w' p a g (l.set i x) ∧ Kept (fun k => k = g) w w' := by
  have hP1 := hP.alloc (.cells (wq x) 83)
  have C := Lib.hid (fault_any hP1.row i)
  rw [fa_ok hi] at C
  obtain ⟨w1, e1⟩ : ∃ w1, w1 = w.alloc (.cells (wq x) 83) := ⟨_, rfl⟩
  rw [← e1] at hP1
  have HR : Hid (RowAt w1 w.heap.size 83 (wq x)) := Lib.hid (by rw [e1]; exact RowAt.new w _ _)
  have HK : Hid (Kept (fun k => k = g) w w1) := Lib.hid (by rw [e1]; exact (Kept.refl _ w).alloc _)
  have HS : Hid ((wq x).size = 128) := Lib.hid (by rw [wq_size]; exact hx.1)
  have HST := Lib.hid (BlkAt.store hP1.drew.blk hP1.ok i hi hx)
  have HP := Lib.hid (hP1.drew.set i hx)
  have HLX2 := Lib.hid (show (loadVar 83 ⟨w.heap.size, 0, none⟩).run Tryz.prog w1.drew = .ok (.agg (wq x)) w1.drew from RowAt.load (RowAt.drew HR.out) Tryz.underlying83 (by rw [HS.out]; exact b_size))
  obtain ⟨x0, x1, x2, x3, f0, f1, f2, f3⟩ := hP1.row.at_
  have hi0 : (0 : Int) ≤ (i : Int) := by omega
  have hi1 : (i : Int) < (l.length : Int) := by omega
  have E1 := Lib.hid e1
  clear hP hP1 hx e1
  go_enter Tryz.func50, Tryz.ntmps50
  go_wp2_with fail
  refine C.out.mono ?_; rintro e w' ⟨rfl, rfl⟩
  rw [← E1.out]
  clear C
  go_wp2
  refine wp_region_still_tail 7 (by kernel_rfl) (by kernel_rfl) ?_
  simp only [List.take_succ_cons, List.take_zero, List.drop_succ_cons, List.drop_zero]
  repeat still_step
  refine wpStill_load_b rfl 83 (.tmp 5) rfl ⟨w.heap.size, 0, none⟩ _ rfl HLX2.out ?_
  simp only [Act.put, List.setIfInBounds_toArray, List.set_cons_succ, List.set_cons_zero]
  repeat still_step
  refine wpStill_nil ?_
  change wpList _ _ _ _ _ w1.drew
  go_wp2_with (refine wpList_store_of rfl 83 (.tmp 20) (.tmp 19) rfl ⟨g, i * 128, none⟩ (.agg (wq x)) (by first | rfl | simp [Act.eval]) rfl HST.out ?_)
  go_ret
  exact ⟨rfl, HP.out, HK.out.drew.trans ⟨rfl, rfl, rfl, Nat.le_of_eq (setRow_size _ _ _).symm, fun k _ hne => setRow_other _ _ _ _ hne⟩ (fun _ _ e => e)⟩
end
open Go.RowKit Bb
def frB (bs : List Nat) : List Nat := wordsAt ups 8 128 bs (8 * 128)
theorem frB_ok (bs : List Nat) (hx : ∀ x ∈ bs, x < 256) : okb (frB bs) := by
  refine ⟨by simp [frB, wordsAt], fun x h => ?_⟩
  simp only [frB, wordsAt, List.mem_map, List.mem_range] at h
  obtain ⟨j, _, rfl⟩ := h
  exact wordAt_lt ups 8 (fun i h => h) bs hx _ _
theorem array_at (g c : Nat) (w : World) : (Instr.arrayAt 83 (.slice (some ⟨g, 0, none⟩) 128 c)).run Tryz.prog w = .ok (.pointer (some ⟨g, 0, none⟩)) w := by
  simp [Instr.arrayAt, go_sem]
set_option maxHeartbeats 1600000 in
theorem from_any (s : ByteArray) (h : s.size = 1024) (w : World) : Calls Tryz.prog 52 #[.string s] w fun e w' => e = .returned (.tuple #[.agg (wq (frB (nb s))), .int .i64 0]) ∧ Below w.heap.size w w' := by
  have h1 : ((s.size : Int) == 1024) = true := by simp; omega
  have h2 : ((s.size : Int) != 1024) = false := by simp; omega
  have hfo := frB_ok (nb s) (nb_lt s)
  have RN := RowAt.new w 83 (wq zb)
  have hb := (Below.refl _ w).alloc (Nat.le_refl _) (.cells (wq zb) 83)
  obtain ⟨W1, c1, hcv, hbw, hbuf, hsw⟩ := bytes_of_text (w.alloc (.cells (wq zb) 83)) s
  have C := take64_any (some ⟨(w.alloc (.cells (wq zb) 83)).heap.size, 0, none⟩) c1 (nb s) 128 (by rw [nb_length, h]) W1 (hbuf.reads (by omega)) (by rw [nb_length, h]; decide) (nb_lt s)
  rw [nb_length, h, World.size_alloc] at C
  rw [h, World.size_alloc] at hcv
  have HC := Lib.hid C
  have HE : Hid (wordsAt ups 8 128 (nb s) (8 * 128) = frB (nb s)) := Lib.hid rfl
  have HFO := Lib.hid hfo
  have HR1 := Lib.hid (RN.below hbw RN.lt)
  have HB1 := Lib.hid (below_step hb hbw)
  clear C hfo hbuf hsw hbw hb RN
  have hz := zero_b
  go_enter Tryz.func52, Tryz.ntmps52
  go_wp2_with fail
  refine HC.out.mono ?_
  rintro e w3 ⟨v, rfl, hown, hb3⟩
  rw [HE.out] at hown
  have HZ : Hid ((wq (frB (nb s))).size = 128) := Lib.hid (by rw [wq_size]; exact HFO.out.1)
  obtain ⟨z, hz2⟩ : ∃ z, z = frB (nb s) := ⟨_, rfl⟩
  rw [← hz2] at hown HZ HFO
  obtain ⟨A', c', rfl, hnl, hA, _⟩ := own_form hown
  obtain ⟨g, rfl, hg⟩ := hA (by decide)
  clear hnl
  have hrd := Reads.of_own hown
  have HL := Lib.hid (load_b (w := w3) (b := g) (o := 0) HFO.out.1 (fun k hk => by
    obtain ⟨b', off', e', _, hc'⟩ := hrd k (by rw [u64s_length, HFO.out.1]; exact hk)
    cases e'
    rw [hc', u64_at, List.getD_eq_getElem?_getD, List.getElem?_eq_getElem (by rw [HFO.out.1]; exact hk)]
    rfl))
  have HR3 := Lib.hid (HR1.out.below hb3 HR1.out.lt)
  have HB3 := Lib.hid (below_step HB1.out hb3)
  have hA := array_at g c' w3
  have HZ2 := Lib.hid hz2
  clear hown hrd hb3 HR1 HB1 HC hg hz2
  go_wp2_with (first
    | refine wpList_load_of rfl 83 (.tmp 17) rfl ⟨g, 0, none⟩ _ rfl HL.out ?_
    | refine wpList_store_row rfl 83 (.tmp 2) (.tmp 18) rfl w.heap.size (wq z) rfl rfl 83 _ HR3.out (by rw [HZ.out]; exact b_size) (by rw [HZ.out]; rfl) (wq_one _) ?_)
  refine bodyPost_ret ?_ rfl ⟨by rw [← HZ2.out], below_setRow HB3.out (Nat.le_refl _) _⟩
  exact results_row_tmp (fn := Tryz.f52) (p := 2) (u := 3) (b := w.heap.size) (t := 83) (C := wq z) rfl _ rfl (HR3.out.setRow _) Tryz.underlying83 rfl (by rw [HZ.out]; exact b_size)
end Go.Proofs.YtfoodaobiknihaaGreatDoor

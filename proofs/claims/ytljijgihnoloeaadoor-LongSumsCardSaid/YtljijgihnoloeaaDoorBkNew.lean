/- New of package blake by its contract. Conditions: those typed. -/
import Derived.Test.YtljijgihnoloeaaDoorBkAdd
import Derived.Test.YtljijgihnoloeaaDoorBuf
namespace Go.Proofs.YtljijgihnoloeaaDoor
set_option maxRecDepth 50000
open Go.RowKit Bl

theorem wpList_value_of {P : Program} {ops : Array Oper} {rest : List Oper} {o : Oper} {a : Act} {w w' : World} {Q : Exit → Act → World → Prop} (hgd : o.guard = none) (v : Value) (hr : (execOp a.eval o).run P w = .ok (.value v) w') (h : wpList P ops Q rest (a.put o.dst v) w') : wpList P ops Q (o :: rest) a w := wpList_plain hgd fun _ hK => by
  unfold Oper.wp
  rw [hr]
  exact hK _ _ h
theorem hbuild_run (w : World) (p : Option Addr) (st : List Nat) (hs : st.length = 8) (n : Nat) (ev : Operand → Value) (x y z : Operand) (o : Oper) (hop : o.op = .build 66 #[(0, x), (1, y), (2, z)]) (hx : ev x = .pointer p) (hy : ev y = .agg (wq st)) (hz : ev z = .int .i64 (n : Int)) :
    (execOp ev o).run Tryd.prog w = .ok (.value (.agg (.pointer p :: (u64s st ++ [.int .i64 (n : Int)])).toArray)) w := by
  match st, hs with
  | [_, _, _, _, _, _, _, _], _ => simp [execOp, hop, hx, hy, hz, go_sem, wq, u64s]
theorem hbox_run (w : World) (cs : Array Value) (ev : Operand → Value) (x : Operand) (o : Oper) (hop : o.op = .box 66 x) (hx : ev x = .agg cs) : (execOp ev o).run Tryd.prog w = .ok (.value (.pointer (some ⟨w.heap.size, 0, none⟩))) (w.alloc (.cells cs 66)) := by
  simp [execOp, hop, hx, go_sem]

theorem par_eq (kl n : Nat) (hk : kl ≤ 64) (hn : n ≤ 64) : (16842752 ^^^ (256 * kl)) ^^^ n = 16842752 + 256 * kl + n := by
  have h : ((List.range 65).all fun a => (List.range 65).all fun b => (16842752 ^^^ (256 * a)) ^^^ b == 16842752 + 256 * a + b) = true := by kernel_rfl
  have := List.all_eq_true.1 (List.all_eq_true.1 h kl (List.mem_range.2 (by omega))) n (List.mem_range.2 (by omega))
  simpa using this
theorem HRow.set0 {w : World} {H F n : Nat} {st : List Nat} (h : HRow w H F st n) (x : Nat) (hs : st.length = 8) : HRow (w.setCell ⟨H, 1, none⟩ (.int .u64 (x : Int))) H F (st.set 0 x) n := by
  unfold HRow at *
  rw [setCell_eq_setRow w H 1 _ _ (0, 0) _ h, setRow_heap w H _ _ _ (0, 0) h]
  match st, hs with
  | [_, _, _, _, _, _, _, _], _ => rfl

set_option maxHeartbeats 800000 in
theorem newhash_bad (z : Int) (key : ByteArray) (hbad : z < 1 ∨ 64 < z ∨ 64 < key.size) (w : World) : Calls Tryd.prog 17 #[.int .i64 z, .string key] w fun e w' => e = .returned (.tuple #[.pointer none, .int .i64 1]) ∧ w = w' := by
  have hb : z < 1 ∨ (1 ≤ z ∧ 64 < z) ∨ (1 ≤ z ∧ z ≤ 64 ∧ 64 < key.size) := by omega
  clear hbad
  rcases hb with h | ⟨h, h2⟩ | ⟨h, h2, h3⟩
  all_goals
    go_enter Tryd.func17, Tryd.ntmps17
    go_wp2
    go_ret2
    exact ⟨rfl, rfl⟩

/-- what a key begins with -/
def keyL (key : ByteArray) : List UInt8 := if key.size = 0 then [] else fill128 (tl key)
/-- one more text, in a list that was just made -/
theorem add_one (w : World) (B T H kl n : Nat) (hkl : kl ≤ 64) (hn : n ≤ 64) (X : List UInt8) (h : HashIs w B T H kl n X) (hk : QAt w) (hB : 0 < B) (s : ByteArray) (hX : X.length + s.size ≤ 900000) :
    Calls Tryd.prog 18 #[.pointer (some ⟨H, 0, none⟩), .slice (some ⟨w.heap.size, 0, none⟩) 1 1] (w.alloc (.cells #[.string s] 9)) fun e w' => e = .returned (.pointer (some ⟨H, 0, none⟩)) ∧ HashIs w' B w'.heap.size H kl n (X ++ tl s) ∧ Below B w w' := by
  have hT : B ≤ T ∧ T ≤ w.heap.size := by
    obtain ⟨F, v, l, bs, h1, h2, h3, h4, h5, h6, h7, h8, h9, h10, h11⟩ := h.ex
    exact ⟨by omega, h11⟩
  have hb : Below w.heap.size w (w.alloc (.cells #[.string s] 9)) := (Below.refl _ w).alloc (Nat.le_refl _) _
  refine (addhash_any _ B T H kl n hkl hn X (h.below hb) (hk.next hb) hB (some ⟨w.heap.size, 0, none⟩) 1 [s] (fun k hk => ?_) (by rw [jn_one, tl_length]; omega) (by simp)).mono ?_
  · have hk0 : k = 0 := by simp [stv] at hk; omega
    subst hk0
    exact ⟨w.heap.size, 0, rfl, by simp, .inr (.inl hT.2), by rw [cell_of_row _ _ _ _ _ (0, 0) (heap_alloc_last w _)]; rfl⟩
  · rintro e w' ⟨rfl, g1, g2⟩
    rw [jn_one] at g1
    exact ⟨rfl, g1, (hb.mono (by omega)).trans g2⟩
set_option maxHeartbeats 1600000 in
theorem newhash_any (n : Nat) (hn1 : 1 ≤ n) (hn : n ≤ 64) (key : ByteArray) (hkl : key.size ≤ 64) (w : World) (hk : QAt w) : Calls Tryd.prog 17 #[.int .i64 (n : Int), .string key] w fun e w' =>
    ∃ H, e = .returned (.tuple #[.pointer (some ⟨H, 0, none⟩), .int .i64 0]) ∧ HashIs w' w.heap.size w'.heap.size H key.size n (keyL key) ∧ Below w.heap.size w w' := by
  have a1 : ¬ (n : Int) < 1 := by omega
  have a2 : ¬ 64 < (n : Int) := by omega
  have a3 : ¬ 64 < (key.size : Int) := by omega
  have d1 : decide ((n : Int) < 1) = false := decide_eq_false a1
  have d2 : decide (64 < (n : Int)) = false := decide_eq_false a2
  have d3 : decide (64 < (key.size : Int)) = false := decide_eq_false a3
  have HKN := Lib.hid (And.intro hkl (And.intro hn1 (And.intro hn hk)))
  clear hkl hn1 hn hk a1 a2 a3
  go_enter Tryd.func17, Tryd.ntmps17
  go_wp2_with fail
  refine (new_good 128 true (by decide) (by decide) w).mono ?_
  rintro e w1 ⟨rfl, hF, hb1⟩
  have HF := Lib.hid hF
  have HB1 := Lib.hid hb1
  clear hF hb1
  go_wp2_with fail
  refine (init_any w1).mono ?_
  rintro e w2 ⟨rfl, hb2⟩
  have HB2 := Lib.hid hb2
  clear hb2
  go_wp2_with (first
    | refine wpList_value_of rfl _ (hbuild_run w2 _ iv rfl n _ _ _ _ _ rfl rfl rfl rfl) ?_
    | refine wpList_value_of rfl _ (hbox_run w2 _ _ _ _ rfl rfl) ?_)
  obtain ⟨hkl, hn1, hn, hk⟩ := HKN.out
  have hsz1 := HB1.out.size
  have hsz2 := HB2.out.size
  have hF1 := HF.out.lt
  obtain ⟨H, hH⟩ : ∃ H, H = w2.heap.size := ⟨_, rfl⟩
  rw [← hH]
  generalize hW : w2.alloc _ = w3
  have R3 : HRow w3 H w.heap.size iv n := by subst hW; subst hH; exact heap_alloc_last w2 _
  have hb3 : Below w2.heap.size w2 w3 := by subst hW; exact (Below.refl _ _).alloc (Nat.le_refl _) _
  have F3 := (HF.out.below HB2.out).below hb3
  have B3 : Below w.heap.size w w3 := (HB1.out.trans (HB2.out.mono hsz1)).trans (hb3.mono (by omega))
  have hHlt : H < w3.heap.size := R3.lt
  have hHw : w.heap.size < H := by omega
  clear hW hb3 hH
  have c1 : w3.cell? ⟨H, 1, none⟩ = some (.int .u64 (iv.getD 0 0 : Nat)) := by rw [cell_of_row w3 H 1 _ _ _ R3]; rfl
  have f1 : w3.frozen? ⟨H, 1, none⟩ = false := by
    have hR := R3
    unfold HRow at hR
    simp [World.frozen?, hR]
  obtain ⟨k8, hk8⟩ : ∃ k, k = 256 * key.size := ⟨_, rfl⟩
  have e1 : IntKind.u64.wrap ((key.size : Nat) : Int) = ((key.size : Nat) : Int) := u64_in _ (by omega)
  have e2 : IntKind.u64.wrap (((key.size : Nat) : Int) * 256) = (k8 : Int) := by
    rw [← u64_in k8 (by omega)]; congr 1; omega
  have e3 : IntKind.u64.wrap (n : Int) = (n : Int) := u64_in _ (by omega)
  have x1 : bits .xor .u64 (16842752 : Int) (k8 : Int) = ((16842752 ^^^ k8 : Nat) : Int) := xor64 16842752 k8 (by decide) (by omega)
  have l1 := xor_lt64 16842752 k8 (by decide) (by omega)
  have x2 := xor64 (16842752 ^^^ k8) n l1 (by omega)
  have hp := par_eq key.size n hkl hn
  rw [← hk8] at hp
  rw [hp] at x2
  have x3 := xor64 (iv.getD 0 0) (16842752 + k8 + n) (by decide) (by omega)
  have R4 := R3.set0 (iv.getD 0 0 ^^^ (16842752 + k8 + n)) rfl
  have E4 : Hid (iv.set 0 (iv.getD 0 0 ^^^ (16842752 + k8 + n)) = h0 key.size n) := Lib.hid (by rw [hk8]; rfl)
  rw [E4.out] at R4
  have HR3 := Lib.hid R3
  have hh0 := h0_ok key.size n hkl hn
  have HH0 := Lib.hid hh0
  have HRS : Hid (∀ w', w'.heap = (w3.setCell ⟨H, 1, none⟩ (.int .u64 (iv.getD 0 0 ^^^ (16842752 + k8 + n) : Nat))).heap → HRow w' H w.heap.size (h0 key.size n) n) := Lib.hid fun w' hw => by unfold HRow at *; rw [hw]; exact R4
  have HKL := Lib.hid (And.intro hkl (And.intro hn hk))
  have HF3 := Lib.hid F3
  have HB3 := Lib.hid B3
  clear R3 R4 F3 B3 hp l1 E4 hk8 hkl hn1 hn hk hh0 HR3
  generalize 16842752 ^^^ k8 = y1 at *
  generalize 16842752 + k8 + n = y2 at *
  generalize iv.getD 0 0 ^^^ y2 = y3 at *
  generalize iv.getD 0 0 = i0 at *
  go_wp2
  have kc : ∀ tp d os out, (World.mk w3.heap tp d os out).cell? ⟨H, 1, none⟩ = some (.int .u64 (i0 : Int)) := fun _ _ _ _ => c1
  refine wp_region_still_tail 16 (by kernel_rfl) (by kernel_rfl) ?_
  simp only [List.take_succ_cons, List.take_zero, List.drop_succ_cons, List.drop_zero]
  repeat still_step
  refine wpStill_nil ?_
  change wpList _ _ _ _ _ w3.drew
  have c2 : w3.drew.cell? ⟨H, 1, none⟩ = some (.int .u64 (i0 : Int)) := c1
  have f2 : w3.drew.frozen? ⟨H, 1, none⟩ = false := f1
  have HRD : Hid (HRow (w3.drew.setCell ⟨H, 1, none⟩ (.int .u64 (y3 : Int))) H w.heap.size (h0 key.size n) n) := Lib.hid (HRS.out _ rfl)
  have HFD := Lib.hid (HF3.out.drew.other (a := ⟨H, 1, none⟩) (by simp; omega) (.int .u64 (y3 : Int)))
  have HBD := Lib.hid (HB3.out.drew.setCell (p := ⟨H, 1, none⟩) (by simp; omega) (.int .u64 (y3 : Int)))
  have hsD : H < (w3.drew.setCell ⟨H, 1, none⟩ (.int .u64 (y3 : Int))).heap.size := HRD.out.lt
  generalize w3.drew = w4 at *
  clear kc c1 f1 HRS HF3 HB3 x1 x2 x3 e1 e2 e3
  generalize hWD : w4.setCell ⟨H, 1, none⟩ (.int .u64 (y3 : Int)) = wD at *
  have hHash : HashIs wD w.heap.size wD.heap.size H key.size n [] := by
    refine ⟨⟨w.heap.size, .slice none 0 0, [], [], HRD.out, HFD.out, World.ownsRow_nil _ _ _ _, Cut.nothing ⟨by simp, by simp⟩, by omega, hsD, Nat.le_refl _, by omega, by omega, fun k hk => by simp [Value.ownBlock] at hk, Nat.le_refl _⟩⟩
  have HH := Lib.hid hHash
  have hs0 : 0 < w.heap.size := HKL.out.2.2.1
  have HQ := Lib.hid (HKL.out.2.2.below HBD.out hs0)
  have HWD := Lib.hid hWD
  clear hHash HRD HFD HH0 hWD
  by_cases hk0 : key.size = 0
  · have hke : key = ⟨#[]⟩ := by
      apply tl_inj
      have := tl_length key
      rw [hk0] at this
      exact List.eq_nil_of_length_eq_zero this
    subst hke
    clear hk0
    go_wp2
    rw [HWD.out]
    go_ret2
    exact ⟨H, rfl, HH.out, HBD.out⟩
  · have HIF : Hid (keyL key = fill128 (tl key)) := Lib.hid (if_neg hk0)
    have hne : key.toList = [] → False := fun e => by
      have := congrArg List.length e
      rw [ByteArray.toList_eq] at this
      have e2 := tl_length key
      unfold tl at e2
      simp [e2] at this
      exact hk0 (by simpa using this)
    have hne1 : key.toList.isEmpty = false := by
      cases hc : key.toList with
      | nil => exact (hne hc).elim
      | cons _ _ => rfl
    have hne2 : (key.toList == []) = false := by
      cases hc : key.toList with
      | nil => exact (hne hc).elim
      | cons _ _ => rfl
    clear hne hk0
    obtain ⟨W, cap, hcv, hbW, hBuf, hWs⟩ := bytes_of_text wD key
    have hrd : Reads W W.heap.size (some ⟨wD.heap.size, 0, none⟩) (cs (tl key)) := by
      rw [cs_nats]
      exact hBuf.reads (by omega)
    have CF := Lib.hid (filled_any (some ⟨wD.heap.size, 0, none⟩) cap (tl key) (by rw [tl_length]; have := HKL.out.1; omega) W hrd (fun e => by cases e))
    rw [tl_length] at CF
    have hfl := fill128_length (tl key) (by rw [tl_length]; have := HKL.out.1; omega)
    have HFL := Lib.hid hfl
    have HBW := Lib.hid hbW
    rw [← HWD.out] at hcv
    have hsw : wD.heap.size = w4.heap.size := by rw [← HWD.out]; simp [World.setCell]
    rw [hsw] at CF
    clear hsw
    clear hBuf hrd hWs hfl hbW
    go_wp2_with fail
    refine CF.out.mono ?_
    rintro e w5 ⟨g, rfl, hRow, hgW, hb5⟩
    have hcr := conv_row (c := 128) hRow HFL.out
    have HB5 := Lib.hid (below_step HBW.out hb5)
    have HA := Lib.hid (add_one w5 w.heap.size wD.heap.size H key.size n HKL.out.1 HKL.out.2.1 [] (HH.out.below HB5.out) (HQ.out.next HB5.out) hs0 (tx (fill128 (tl key))) (by rw [tx_size, HFL.out]; decide))
    rw [tl_tx, List.nil_append] at HA
    clear hRow hgW hb5 CF
    generalize tx (fill128 (tl key)) = txk at *
    go_wp2_with fail
    refine HA.out.mono ?_
    rintro e w6 ⟨rfl, h6, b6⟩
    have H6 := Lib.hid h6
    have B6 := Lib.hid (HBD.out.trans ((HB5.out.mono HBD.out.size).trans b6))
    clear h6 b6
    go_wp2
    go_ret2
    exact ⟨H, rfl, by rw [HIF.out]; exact H6.out, B6.out⟩
end Go.Proofs.YtljijgihnoloeaaDoor

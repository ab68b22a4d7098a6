/- Blocks of addresses, by their contracts. Conditions: those typed. -/
import Derived.Test.YtfoodaobiknihaaGreatDoorBnm
import Derived.Test.YtfoodaobiknihaaGreatDoorPl
namespace Go.Proofs.YtfoodaobiknihaaGreatDoor
set_option maxRecDepth 50000
open Go.RowKit Bb Bn
def w64 (x : Int) : Nat := (x % 18446744073709551616).toNat
theorem w64_lt (x : Int) : w64 x < 18446744073709551616 := by unfold w64; omega
theorem w64_wrap (x : Int) : IntKind.u64.wrap x = ((w64 x : Nat) : Int) := by
  rw [IntKind.wrap_u64]; unfold w64; omega
def sdTo (L : List Int) (i : Nat) : List Nat := (L.take i).map w64 ++ List.replicate (128 - i) 0
theorem sdTo_length {L : List Int} {i : Nat} (h : i ≤ L.length) (hi : i ≤ 128) : (sdTo L i).length = 128 := by
  simp [sdTo]; omega
theorem sdTo_next {L : List Int} {i : Nat} (h : i < L.length) (hi : i < 128) : sdTo L (i + 1) = (sdTo L i).set i (w64 (L.getD i 0)) := by
  unfold sdTo
  have hl : ((L.take i).map w64).length = i := by simp; omega
  rw [List.set_append, if_neg (by omega), hl, Nat.sub_self, show 128 - i = (128 - (i + 1)) + 1 by omega, List.replicate_succ, List.set_cons_zero, List.take_add_one, List.getElem?_eq_getElem h, List.map_append, List.append_assoc, List.getD_eq_getElem?_getD, List.getElem?_eq_getElem h]
  rfl
theorem sdTo_ok (L : List Int) (i : Nat) : ∀ x ∈ sdTo L i, x < 18446744073709551616 := by
  intro x hx
  unfold sdTo at hx
  rcases List.mem_append.1 hx with hx | hx
  · obtain ⟨y, _, rfl⟩ := List.mem_map.1 hx
    exact w64_lt y
  · obtain ⟨_, rfl⟩ := List.mem_replicate.1 hx
    decide
def seedL (p k s b t a c : Int) : List Nat := sdTo [p, k, s, b, t, a, c] 7
theorem seed_ok (p k s b t a c : Int) : okb (seedL p k s b t a c) := ⟨sdTo_length (by simp) (by omega), sdTo_ok _ _⟩
theorem zb_ok : okb zb := ⟨by simp [zb], by simp [zb]⟩
def addL (p k s b t a c : Int) : List Nat := mix zb (mix zb (seedL p k s b t a c))
theorem add_in (p k s b t a c : Int) : okb (mix zb (seedL p k s b t a c)) := mix_ok zb_ok (seed_ok ..)
theorem add_ok (p k s b t a c : Int) : okb (addL p k s b t a c) := mix_ok zb_ok (add_in ..)
def freeB (a : Nat) (p s : Int) : Bool := if a = 3 then decide (p = 0 ∧ s < 2) else decide (a = 2)
theorem kind_any {a : Nat} (ha : a = 1 ∨ a = 2 ∨ a = 3) (t l m b c g z : Nat) (w : World) : Calls Tryz.prog 128 #[spv a t l m b c g z] w fun e w' => e = .returned (.int .i64 ((a : Int) - 1)) ∧ Below w.heap.size w w' := by
  have HB := Lib.hid (one_box w (.cells (spc a t l m b c g z) 44))
  rcases ha with rfl | rfl | rfl
  all_goals
    go_enter Tryz.func128, Tryz.ntmps128
    go_wp2
    go_ret
    exact ⟨rfl, HB.out⟩
open Go.RowKit Bb Bn
section
variable {w : World} {b : Nat} {v : Value} {ev : Operand → Value} {x : Operand} {o : Oper}
theorem spf_allN {off : Nat} {k : Nat} (hop : o.op = .fieldAddr 44 x k) (hk : k < 8) (hx : ev x = .pointer (some ⟨b, off, none⟩)) : (execOp ev o).run Tryz.prog w = .ok (.value (.pointer (some ⟨b, off + k, none⟩))) w := by
  rcases (show k = 0 ∨ k = 1 ∨ k = 2 ∨ k = 3 ∨ k = 4 ∨ k = 5 ∨ k = 6 ∨ k = 7 by omega) with rfl | rfl | rfl | rfl | rfl | rfl | rfl | rfl
  all_goals
    simp [execOp, hop, hx, go_sem]
end
def iz (L : List Int) : Array Value := (L.map fun x : Int => Value.int .i64 x).toArray
theorem iz_at (L : List Int) (i : Nat) (h : i < L.length) : (iz L)[i]? = some (.int .i64 (L.getD i 0)) := by
  simp [iz, h]
theorem iz_index (w : World) {L : List Int} (hL : L.length = 7) (i : Nat) (hi : i < 7) : (Instr.index 223 (.agg (iz L)) (.int .i64 (i : Int))).run Tryz.prog w = .ok (.int .i64 (L.getD i 0)) w :=
  run_index_arr w Tryz.underlying223 (by kernel_rfl) Tryz.underlying3 i hi (iz_at L i (by omega))
theorem b_index (w : World) {L : List Nat} (hL : L.length = 128) (i : Nat) (hi : i < 128) : (Instr.index 83 (.agg (wq L)) (.int .i64 (i : Int))).run Tryz.prog w = .ok (.int .u64 ((L.getD i 0 : Nat) : Int)) w :=
  run_index_arr w Tryz.underlying83 (by kernel_rfl) Tryz.underlying52 i hi (wq_at L i (by omega))
theorem seven_build (w : World) (p k s b t a c : Int) : (Instr.build 223 #[(0, .int .i64 p), (1, .int .i64 k), (2, .int .i64 s), (3, .int .i64 b), (4, .int .i64 t), (5, .int .i64 a), (6, .int .i64 c)]).run Tryz.prog w = .ok (.agg (iz [p, k, s, b, t, a, c])) w := run_build w _ _ _ (by kernel_rfl)
theorem seven_run {w : World} {ev : Operand → Value} {o : Oper} {x0 x1 x2 x3 x4 x5 x6 : Operand} {p k s b t a c : Int} (hop : o.op = .build 223 #[(0, x0), (1, x1), (2, x2), (3, x3), (4, x4), (5, x5), (6, x6)])
    (h0 : ev x0 = .int .i64 p) (h1 : ev x1 = .int .i64 k) (h2 : ev x2 = .int .i64 s) (h3 : ev x3 = .int .i64 b) (h4 : ev x4 = .int .i64 t) (h5 : ev x5 = .int .i64 a) (h6 : ev x6 = .int .i64 c) : (execOp ev o).run Tryz.prog w = .ok (.value (.agg (iz [p, k, s, b, t, a, c]))) w := by
  simp only [execOp, hop, List.map_toArray, List.map_cons, List.map_nil, h0, h1, h2, h3, h4, h5, h6, Sem.run_bind, seven_build, Result.andThen_ok, Sem.run_pure]
open Go.RowKit Bb Bn
structure Sd (w wr : World) (a t l m b c g z : Nat) (p s : Int) (v : List Nat) : Prop where
  sh : RowAt wr w.heap.size 44 (spc a t l m b c g z)
  tu : RowAt wr (w.heap.size + 1) 28 (tuc p s)
  rz : RowAt wr (w.heap.size + 1 + 1) 83 (wq zb)
  rv : RowAt wr (w.heap.size + 1 + 1 + 1) 83 (wq v)
  below : Below w.heap.size w wr
section
variable {w wr w' : World} {a t l m b c g z : Nat} {p s : Int} {v : List Nat}
theorem Sd.new (w : World) (a t l m b c g z : Nat) (p s : Int) : Sd w ((((w.alloc (.cells (spc a t l m b c g z) 44)).alloc (.cells (tuc p s) 28)).alloc (.cells (wq zb) 83)).alloc (.cells (wq zb) 83)) a t l m b c g z p s zb := by
  have H := tw_new a t l m b c g z p s w
  have B := two_box w (.cells (spc a t l m b c g z) 44) (.cells (tuc p s) 28)
  have hs : ((w.alloc (.cells (spc a t l m b c g z) 44)).alloc (.cells (tuc p s) 28)).heap.size = w.heap.size + 1 + 1 := by simp
  generalize (w.alloc (.cells (spc a t l m b c g z) 44)).alloc (.cells (tuc p s) 28) = w2 at *
  have r1 := (RowAt.new w2 83 (wq zb)).alloc (.cells (wq zb) 83)
  have r2 := RowAt.new (w2.alloc (.cells (wq zb) 83)) 83 (wq zb)
  rw [World.size_alloc] at r2
  rw [hs] at r1 r2
  exact ⟨(H.sh.alloc _).alloc _, (H.tu.alloc _).alloc _, r1, r2, (B.alloc (by omega) _).alloc (by rw [World.size_alloc]; omega) _⟩
theorem Sd.on (H : Sd w wr a t l m b c g z p s v) (hb : Below wr.heap.size wr w') : Sd w w' a t l m b c g z p s v := ⟨H.sh.step hb, H.tu.step hb, H.rz.step hb, H.rv.step hb, H.below.trans (hb.mono H.below.size)⟩
theorem Sd.set (H : Sd w wr a t l m b c g z p s v) (i x : Nat) : Sd w (wr.setCell ⟨w.heap.size + 1 + 1 + 1, i, none⟩ (.int .u64 (x : Int))) a t l m b c g z p s (v.set i x) := by
  have r := H.rv.setCell i (.int .u64 (x : Int))
  rw [wq_set] at r
  exact ⟨H.sh.setOther _ (by simp; omega) _, H.tu.setOther _ (by simp; omega) _, H.rz.setOther _ (by simp) _, r, H.below.setCell (by show w.heap.size ≤ w.heap.size + 1 + 1 + 1; omega) _⟩
end
set_option maxHeartbeats 3200000 in
theorem seed_any {a : Nat} (ha : a = 1 ∨ a = 2 ∨ a = 3) (t l m b c g z : Nat) (p s k n : Int) (w : World) : Calls Tryz.prog 116 #[spv a t l m b c g z, tuv p s, .int .i64 k, .int .i64 n] w fun e w' => e = .returned (.agg (wq (seedL p k s b t ((a : Int) - 1) n))) ∧ Below w.heap.size w w' := by
  have CK := Lib.hid fun w => calls_isL (kind_any ha t l m b c g z w)
  have HS0 := Lib.hid (Sd.new w a t l m b c g z p s)
  have hz := zero_b
  clear ha
  go_enter Tryz.func116, Tryz.ntmps116
  go_wp2_with fail
  generalize hW0 : World.alloc (World.alloc (World.alloc (World.alloc w _) _) _) _ = w0
  have HS : Hid (Sd w w0 a t l m b c g z p s zb) := Lib.hid (by subst hW0; exact HS0.out)
  clear hW0 HS0
  refine wp_region_text [Is (.pointer (some ⟨(w.heap.size + 1), 0 + 0, none⟩)), Is (.int .i64 p), Is (.int .i64 k), Is (.pointer (some ⟨(w.heap.size + 1), 0 + 1, none⟩)), Is (.int .i64 s), Is (.pointer (some ⟨w.heap.size, 0 + 4, none⟩)), Is (.int .i64 (b : Int)), Is (.pointer (some ⟨w.heap.size, 0 + 1, none⟩)), Is (.int .i64 (t : Int)), Is (spv a t l m b c g z), Is (.int .i64 ((a : Int) - 1)), Is (.int .i64 n), Is (.agg (iz [p, k, s, (b : Int), (t : Int), (a : Int) - 1, n])), Is (.int .i64 0)] (by kernel_rfl) (by kernel_rfl) rfl ⟨stable_is _, stable_is _, stable_is _, stable_is _, stable_is _, stable_is _, stable_is _, stable_is _, stable_is _, stable_is _, stable_is _, stable_is _, stable_is _, stable_is _, trivial⟩ ⟨?_, ?_, ?_, ?_, ?_, ?_, ?_, ?_, ?_, ?_, ?_, ?_, ?_, ?_, trivial⟩ ?_
  · intro a w C
    exact part_on (wanted_free rfl _) (op_value (tuf_run (k := 0) rfl (by decide) (C.was 5 (by kernel_rfl))) rfl)
  · intro a w C
    exact part_on (wanted_free rfl _) (op_value (int_runS rfl (C.on (j := 0) (by kernel_rfl) rfl rfl) (((HS.out.tu.below C.below HS.out.tu.lt).cell 0).trans rfl)) rfl)
  · intro a w C
    exact part_on (wanted_free rfl _) (op_move (.inl rfl) (C.was 2 (by kernel_rfl)))
  · intro a w C
    exact part_on (wanted_free rfl _) (op_value (tuf_run (k := 1) rfl (by decide) (C.was 5 (by kernel_rfl))) rfl)
  · intro a w C
    exact part_on (wanted_free rfl _) (op_value (int_runS rfl (C.on (j := 3) (by kernel_rfl) rfl rfl) (((HS.out.tu.below C.below HS.out.tu.lt).cell 1).trans rfl)) rfl)
  · intro a w C
    exact part_on (wanted_free rfl _) (op_value (spf_allN (k := 4) rfl (by decide) (C.was 4 (by kernel_rfl))) rfl)
  · intro a w C
    exact part_on (wanted_free rfl _) (op_value (int_runS rfl (C.on (j := 5) (by kernel_rfl) rfl rfl) (((HS.out.sh.below C.below HS.out.sh.lt).cell 4).trans rfl)) rfl)
  · intro a w C
    exact part_on (wanted_free rfl _) (op_value (spf_allN (k := 1) rfl (by decide) (C.was 4 (by kernel_rfl))) rfl)
  · intro a w C
    exact part_on (wanted_free rfl _) (op_value (int_runS rfl (C.on (j := 7) (by kernel_rfl) rfl rfl) (((HS.out.sh.below C.below HS.out.sh.lt).cell 1).trans rfl)) rfl)
  · intro a w C
    exact part_on (wanted_free rfl _) (op_value (load_runN rfl (C.was 4 (by kernel_rfl)) (sp_load (HS.out.sh.below C.below HS.out.sh.lt))) rfl)
  · intro a w C
    exact part_on (wanted_free rfl _) (op_call1 rfl (reg_enters Tryz.func128 (by kernel_rfl) (by kernel_rfl)) (C.on (j := 9) (by kernel_rfl) rfl rfl) (CK.out w))
  · intro a w C
    exact part_on (wanted_free rfl _) (op_move (.inl rfl) (C.was 3 (by kernel_rfl)))
  · intro a w C
    exact part_on (wanted_free rfl _) (op_value (seven_run rfl (C.on (j := 1) (by kernel_rfl) rfl rfl) (C.on (j := 2) (by kernel_rfl) rfl rfl) (C.on (j := 4) (by kernel_rfl) rfl rfl) (C.on (j := 6) (by kernel_rfl) rfl rfl) (C.on (j := 8) (by kernel_rfl) rfl rfl) (C.on (j := 10) (by kernel_rfl) rfl rfl) (C.on (j := 11) (by kernel_rfl) rfl rfl)) rfl)
  · intro a w C
    exact part_on (wanted_free rfl _) (op_move (.inl rfl) rfl)
  rintro wF hbF _ rfl _ rfl _ rfl _ rfl _ rfl _ rfl _ rfl _ rfl _ rfl _ rfl _ rfl _ rfl _ rfl _ rfl
  simp only [Fin, setAt, Exit.then, List.setIfInBounds_toArray, List.set_cons_succ, List.set_cons_zero]
  have HS1 : Hid (Sd w wF a t l m b c g z p s (sdTo [p, k, s, b, t, (a : Int) - 1, n] 0)) := Lib.hid (HS.out.on hbF)
  have HQ : Hid (seedL p k s b t ((a : Int) - 1) n = sdTo [p, k, s, b, t, (a : Int) - 1, n] 7) := Lib.hid rfl
  have HL : Hid ([p, k, s, (b : Int), (t : Int), (a : Int) - 1, n].length = 7) := Lib.hid rfl
  clear hbF HS CK
  generalize [p, k, s, (b : Int), (t : Int), (a : Int) - 1, n] = L at *
  go_wp2
  go_loopw [25] (fun v25 wr => ∃ i : Nat, i ≤ 7 ∧ v25 = .int .i64 (i : Int) ∧ Sd w wr a t l m b c g z p s (sdTo L i)) (fun v25 _ => 7 - (intOf v25).toNat)
  case atStart => exact ⟨0, by omega, rfl, HS1.out⟩
  case round =>
    clear HS1
    obtain ⟨i, hi, rfl, X⟩ := hrel
    have HX := Lib.hid X
    clear X
    by_cases h8 : i < 7
    · have hdt : decide ((i : Int) < 7) = true := by simp; omega
      have hi0 : (0 : Int) ≤ (i : Int) := by omega
      have hi1 : (i : Int) < 128 := by omega
      have hix := iz_index wr HL.out i h8
      have HN := Lib.hid (sdTo_next (L := L) (i := i) (by rw [HL.out]; exact h8) (by omega))
      have hw := w64_wrap (L.getD i 0)
      have ck := (HX.out.rv.cell i).trans (wq_at _ i (by rw [sdTo_length (by rw [HL.out]; omega) (by omega)]; omega))
      have hf := HX.out.rv.frozen i
      have HXS := Lib.hid fun x => HX.out.set i x
      have hlt : w.heap.size + 1 + 1 + 1 < wr.heap.size := HX.out.rv.lt
      generalize L.getD i 0 = x at *
      generalize w64 x = y at *
      clear HX
      go_wp2
      go_roundw
      case rel => exact ⟨i + 1, by omega, by go_num, by rw [HN.out]; exact HXS.out y⟩
      case measure => simp [intOf]; omega
    · obtain rfl : i = 7 := by omega
      have hdt : decide (((7 : Nat) : Int) < 7) = false := by simp
      obtain ⟨v, hv⟩ : ∃ v, v = sdTo L 7 := ⟨_, rfl⟩
      have HV := Lib.hid hv
      have HLL : Hid ((wq v).size = 128) := Lib.hid (by rw [wq_size, hv]; exact sdTo_length (by rw [HL.out]; omega) (by omega))
      rw [← hv] at HX
      have RV := Lib.hid HX.out.rv
      have RZ := Lib.hid HX.out.rz
      have HB := Lib.hid HX.out.below
      clear HX hv HL
      go_wp2_with (first
        | refine wpList_load_row rfl 83 (.tmp 9) rfl (w.heap.size + 1 + 1 + 1) rfl 83 (wq v) (0, 0) _ RV.out Tryz.underlying83 rfl (by rw [HLL.out]; exact b_size) ?_
        | refine wpList_store_row rfl 83 (.tmp 8) (.tmp 34) rfl (w.heap.size + 1 + 1) (wq v) rfl rfl 83 _ RZ.out (by rw [HLL.out]; exact b_size) (by rw [HLL.out]; rfl) (wq_one _) ?_)
      have hR := RowAt.setRow RZ.out (wq v)
      refine bodyPost_ret (v := .agg (wq v)) (results_cell_row rfl _ _ (w.heap.size + 1 + 1) 83 (wq v) (0, 0) _ rfl hR Tryz.underlying83 rfl (by rw [HLL.out]; exact b_size)) rfl ⟨by rw [HQ.out, HV.out], ?_⟩
      exact below_setRow HB.out (by omega) _
open Go.RowKit Bb Bn
structure Bk (w wr : World) (a t l m b c g z : Nat) (p s : Int) : Prop where
  sh : RowAt wr w.heap.size 44 (spc a t l m b c g z)
  tu : RowAt wr (w.heap.size + 1) 28 (tuc p s)
  rz : RowAt wr (w.heap.size + 1 + 1) 83 (wq zb)
  below : Below w.heap.size w wr
section
variable {w wr w' : World} {a t l m b c g z : Nat} {p s : Int}
theorem Bk.new (w : World) (a t l m b c g z : Nat) (p s : Int) : Bk w (((w.alloc (.cells (spc a t l m b c g z) 44)).alloc (.cells (tuc p s) 28)).alloc (.cells (wq zb) 83)) a t l m b c g z p s := by
  have H := tw_new a t l m b c g z p s w
  have B := two_box w (.cells (spc a t l m b c g z) 44) (.cells (tuc p s) 28)
  have hs : ((w.alloc (.cells (spc a t l m b c g z) 44)).alloc (.cells (tuc p s) 28)).heap.size = w.heap.size + 1 + 1 := by simp
  generalize (w.alloc (.cells (spc a t l m b c g z) 44)).alloc (.cells (tuc p s) 28) = w2 at *
  have r1 := RowAt.new w2 83 (wq zb)
  rw [hs] at r1
  exact ⟨H.sh.alloc _, H.tu.alloc _, r1, B.alloc (by omega) _⟩
theorem Bk.on (H : Bk w wr a t l m b c g z p s) (hb : Below wr.heap.size wr w') : Bk w w' a t l m b c g z p s := ⟨H.sh.step hb, H.tu.step hb, H.rz.step hb, H.below.trans (hb.mono H.below.size)⟩
end
theorem mix_at {x y : List Nat} (hx : okb x) (hy : okb y) {w : World} (ht : TAt w) {w' : World} (hb : Below w.heap.size w w') : Calls Tryz.prog 95 #[.agg (wq x), .agg (wq y)] w' fun e w2 => e = .returned (.agg (wq (mix x y))) ∧ Below w'.heap.size w' w2 := mix_any hx hy w' (ht.next hb)
set_option maxHeartbeats 3200000 in
theorem block_anyN {a : Nat} (ha : a = 1 ∨ a = 2 ∨ a = 3) (t l m b c g z : Nat) (p s k n : Int) (w : World) (ht : TAt w) : Calls Tryz.prog 107 #[spv a t l m b c g z, tuv p s, .int .i64 k, .int .i64 n] w fun e w' => e = .returned (.agg (wq (addL p k s b t ((a : Int) - 1) n))) ∧ Below w.heap.size w w' := by
  have CS := Lib.hid fun w => seed_any ha t l m b c g z p s k n w
  have HQ : Hid (addL p k s b t ((a : Int) - 1) n = mix zb (mix zb (seedL p k s b t ((a : Int) - 1) n))) := Lib.hid rfl
  have HO := Lib.hid (seed_ok p k s b t ((a : Int) - 1) n)
  have HB0 := Lib.hid (Bk.new w a t l m b c g z p s)
  have hz := zero_b
  have HT := Lib.hid ht
  generalize seedL p k s b t ((a : Int) - 1) n = q at *
  clear ha ht
  go_enter Tryz.func107, Tryz.ntmps107
  go_wp2_with (first
    | refine wpList_load_want rfl 44 _ rfl _ _ rfl (sp_load HB0.out.sh) ?_
    | refine wpList_load_want rfl 28 _ rfl _ _ rfl (tu_load HB0.out.tu) ?_
    | refine wpList_value_wantS rfl _ (bbuild_run _ _ rfl) ?_)
  generalize hW0 : World.alloc (World.alloc (World.alloc w _) _) _ = w0
  have HB : Hid (Bk w w0 a t l m b c g z p s) := Lib.hid (by subst hW0; exact HB0.out)
  clear hW0 HB0
  refine (CS.out _).mono ?_
  rintro e w1 ⟨rfl, hb⟩
  have HB1 := Lib.hid (HB.out.on hb)
  clear hb HB CS
  go_wp2_with fail
  refine (mix_at zb_ok HO.out HT.out HB1.out.below).mono ?_
  rintro e w2 ⟨rfl, hb⟩
  have HB2 := Lib.hid (HB1.out.on hb)
  have HO2 := Lib.hid (mix_ok zb_ok HO.out)
  generalize mix zb q = r at *
  clear hb HB1
  go_wp2_with fail
  refine (mix_at zb_ok HO2.out HT.out HB2.out.below).mono ?_
  rintro e w3 ⟨rfl, hb⟩
  have RZ := Lib.hid (HB2.out.on hb).rz
  have HB3 := Lib.hid (HB2.out.on hb).below
  have HLL : Hid ((wq (mix zb r)).size = 128) := Lib.hid (by rw [wq_size]; exact (mix_ok zb_ok HO2.out).1)
  generalize mix zb r = y at *
  clear hb HB2 HT
  go_wp2_with (refine wpList_store_row rfl 83 (.tmp 8) (.tmp 17) rfl (w.heap.size + 1 + 1) (wq y) rfl rfl 83 _ RZ.out (by rw [HLL.out]; exact b_size) (by rw [HLL.out]; rfl) (wq_one _) ?_)
  have hR := RowAt.setRow RZ.out (wq y)
  refine bodyPost_ret (v := .agg (wq y)) (results_cell_row rfl _ _ (w.heap.size + 1 + 1) 83 (wq y) (0, 0) _ rfl hR Tryz.underlying83 rfl (by rw [HLL.out]; exact b_size)) rfl ⟨by rw [HQ.out], ?_⟩
  exact below_setRow HB3.out (by omega) _
theorem free_any {a : Nat} (ha : a = 1 ∨ a = 2 ∨ a = 3) (t l m b c g z : Nat) (p s : Int) (hs : 0 ≤ s) (w : World) : Calls Tryz.prog 84 #[spv a t l m b c g z, tuv p s] w fun e w' => e = .returned (.bool (freeB a p s)) ∧ Below w.heap.size w w' := by
  have HB := Lib.hid (two_box w (.cells (spc a t l m b c g z) 44) (.cells (tuc p s) 28))
  unfold freeB
  rcases ha with rfl | rfl | rfl
  · go_enter Tryz.func84, Tryz.ntmps84
    go_wp2
    go_ret
    exact ⟨rfl, HB.out⟩
  · go_enter Tryz.func84, Tryz.ntmps84
    go_wp2
    go_ret
    exact ⟨rfl, HB.out⟩
  · rcases (show (p ≠ 0) ∨ (p = 0 ∧ s = 0) ∨ (p = 0 ∧ s = 1) ∨ (p = 0 ∧ 2 ≤ s) by omega) with h | ⟨rfl, rfl⟩ | ⟨rfl, rfl⟩ | ⟨rfl, h⟩
    · have e1 : (p == 0) = false := by simpa using h
      go_enter Tryz.func84, Tryz.ntmps84
      go_wp2
      go_ret
      exact ⟨by simp, HB.out⟩
    · go_enter Tryz.func84, Tryz.ntmps84
      go_wp2
      go_ret
      exact ⟨rfl, HB.out⟩
    · go_enter Tryz.func84, Tryz.ntmps84
      go_wp2
      go_ret
      exact ⟨rfl, HB.out⟩
    · have e1 : (s == 0) = false := by simp; omega
      have e2 : (s == 1) = false := by simp; omega
      go_enter Tryz.func84, Tryz.ntmps84
      go_wp2
      go_ret
      exact ⟨by simp; omega, HB.out⟩
theorem rfree_any {a : Nat} (ha : a = 1 ∨ a = 2 ∨ a = 3) (t l m b c g z : Nat) (p s : Int) (w : World) : Calls Tryz.prog 57 #[spv a t l m b c g z, .int .i64 p, .int .i64 s] w fun e w' => e = .returned (.bool (freeB a p s)) ∧ Below w.heap.size w w' := by
  have HB := Lib.hid (one_box w (.cells (spc a t l m b c g z) 48))
  unfold freeB
  rcases ha with rfl | rfl | rfl
  · go_enter Tryz.func57, Tryz.ntmps57
    go_wp2
    go_ret
    exact ⟨rfl, HB.out⟩
  · go_enter Tryz.func57, Tryz.ntmps57
    go_wp2
    go_ret
    exact ⟨rfl, HB.out⟩
  · by_cases h : p = 0
    · subst h
      go_enter Tryz.func57, Tryz.ntmps57
      go_wp2
      go_ret
      exact ⟨by simp, HB.out⟩
    · have e1 : (p == 0) = false := by simpa using h
      go_enter Tryz.func57, Tryz.ntmps57
      go_wp2
      go_ret
      exact ⟨by simp, HB.out⟩
end Go.Proofs.YtfoodaobiknihaaGreatDoor

/- Seed of package address by its contract. Conditions: those typed. -/
import Derived.Test.YtnbdmkgldjhcaaaDoorAdOps
namespace Go.Proofs.YtnbdmkgldjhcaaaDoor
set_option maxRecDepth 50000
open Go.RowKit Bb Bn

/-- what stands in memory while a seed is made -/
structure Sd (w wr : World) (a t l m b c g z : Nat) (p s : Int) (v : List Nat) : Prop where
  sh : RowAt wr w.heap.size 28 (spc a t l m b c g z)
  tu : RowAt wr (w.heap.size + 1) 25 (tuc p s)
  rz : RowAt wr (w.heap.size + 1 + 1) 36 (wq zb)
  rv : RowAt wr (w.heap.size + 1 + 1 + 1) 36 (wq v)
  below : Below w.heap.size w wr
section
variable {w wr w' : World} {a t l m b c g z : Nat} {p s : Int} {v : List Nat}
theorem Sd.new (w : World) (a t l m b c g z : Nat) (p s : Int) : Sd w ((((w.alloc (.cells (spc a t l m b c g z) 28)).alloc (.cells (tuc p s) 25)).alloc (.cells (wq zb) 36)).alloc (.cells (wq zb) 36)) a t l m b c g z p s zb := by
  have H := tw_new a t l m b c g z p s w
  have B := two_box w (.cells (spc a t l m b c g z) 28) (.cells (tuc p s) 25)
  have hs : ((w.alloc (.cells (spc a t l m b c g z) 28)).alloc (.cells (tuc p s) 25)).heap.size = w.heap.size + 1 + 1 := by simp
  generalize (w.alloc (.cells (spc a t l m b c g z) 28)).alloc (.cells (tuc p s) 25) = w2 at *
  have r1 := (RowAt.new w2 36 (wq zb)).alloc (.cells (wq zb) 36)
  have r2 := RowAt.new (w2.alloc (.cells (wq zb) 36)) 36 (wq zb)
  rw [World.size_alloc] at r2
  rw [hs] at r1 r2
  exact ⟨(H.sh.alloc _).alloc _, (H.tu.alloc _).alloc _, r1, r2, (B.alloc (by omega) _).alloc (by rw [World.size_alloc]; omega) _⟩
theorem Sd.on (H : Sd w wr a t l m b c g z p s v) (hb : Below wr.heap.size wr w') : Sd w w' a t l m b c g z p s v := ⟨H.sh.step hb, H.tu.step hb, H.rz.step hb, H.rv.step hb, H.below.trans (hb.mono H.below.size)⟩
theorem Sd.set (H : Sd w wr a t l m b c g z p s v) (i x : Nat) : Sd w (wr.setCell ⟨w.heap.size + 1 + 1 + 1, i, none⟩ (.int .u64 (x : Int))) a t l m b c g z p s (v.set i x) := by
  have r := H.rv.setCell i (.int .u64 (x : Int))
  rw [wq_set] at r
  exact ⟨H.sh.setOther _ (by simp; omega) _, H.tu.setOther _ (by simp; omega) _, H.rz.setOther _ (by simp) _, r, H.below.setCell (by show w.heap.size ≤ w.heap.size + 1 + 1 + 1; omega) _⟩
end

set_option maxHeartbeats 3200000 in
theorem seed_any {a : Nat} (ha : a = 1 ∨ a = 2 ∨ a = 3) (t l m b c g z : Nat) (p s k n : Int) (w : World) : Calls Tryd.prog 8 #[spv a t l m b c g z, tuv p s, .int .i64 k, .int .i64 n] w fun e w' => e = .returned (.agg (wq (seedL p k s b t ((a : Int) - 1) n))) ∧ Below w.heap.size w w' := by
  have CK := Lib.hid fun w => calls_is (kind_any ha t l m b c g z w)
  have HS0 := Lib.hid (Sd.new w a t l m b c g z p s)
  have hz := zero_b
  clear ha
  go_enter Tryd.func8, Tryd.ntmps8
  go_wp2_with fail
  generalize hW0 : World.alloc (World.alloc (World.alloc (World.alloc w _) _) _) _ = w0
  have HS : Hid (Sd w w0 a t l m b c g z p s zb) := Lib.hid (by subst hW0; exact HS0.out)
  clear hW0 HS0
  refine wp_region_text [Is (.pointer (some ⟨(w.heap.size + 1), 0 + 0, none⟩)), Is (.int .i64 p), Is (.int .i64 k), Is (.pointer (some ⟨(w.heap.size + 1), 0 + 1, none⟩)), Is (.int .i64 s), Is (.pointer (some ⟨w.heap.size, 0 + 4, none⟩)), Is (.int .i64 (b : Int)), Is (.pointer (some ⟨w.heap.size, 0 + 1, none⟩)), Is (.int .i64 (t : Int)), Is (spv a t l m b c g z), Is (.int .i64 ((a : Int) - 1)), Is (.int .i64 n), Is (.agg (iz [p, k, s, (b : Int), (t : Int), (a : Int) - 1, n])), Is (.int .i64 0)] (by kernel_rfl) (by kernel_rfl) rfl ⟨stable_is _, stable_is _, stable_is _, stable_is _, stable_is _, stable_is _, stable_is _, stable_is _, stable_is _, stable_is _, stable_is _, stable_is _, stable_is _, stable_is _, trivial⟩ ⟨?_, ?_, ?_, ?_, ?_, ?_, ?_, ?_, ?_, ?_, ?_, ?_, ?_, ?_, trivial⟩ ?_
  · intro a w C
    exact part_on (wanted_free rfl _) (op_value (tuf_run (k := 0) rfl (by decide) (C.was 5 (by kernel_rfl))) rfl)
  · intro a w C
    exact part_on (wanted_free rfl _) (op_value (int_run rfl (C.on (j := 0) (by kernel_rfl) rfl rfl) (((HS.out.tu.below C.below HS.out.tu.lt).cell 0).trans rfl)) rfl)
  · intro a w C
    exact part_on (wanted_free rfl _) (op_move (.inl rfl) (C.was 2 (by kernel_rfl)))
  · intro a w C
    exact part_on (wanted_free rfl _) (op_value (tuf_run (k := 1) rfl (by decide) (C.was 5 (by kernel_rfl))) rfl)
  · intro a w C
    exact part_on (wanted_free rfl _) (op_value (int_run rfl (C.on (j := 3) (by kernel_rfl) rfl rfl) (((HS.out.tu.below C.below HS.out.tu.lt).cell 1).trans rfl)) rfl)
  · intro a w C
    exact part_on (wanted_free rfl _) (op_value (spf_all (k := 4) rfl (by decide) (C.was 4 (by kernel_rfl))) rfl)
  · intro a w C
    exact part_on (wanted_free rfl _) (op_value (int_run rfl (C.on (j := 5) (by kernel_rfl) rfl rfl) (((HS.out.sh.below C.below HS.out.sh.lt).cell 4).trans rfl)) rfl)
  · intro a w C
    exact part_on (wanted_free rfl _) (op_value (spf_all (k := 1) rfl (by decide) (C.was 4 (by kernel_rfl))) rfl)
  · intro a w C
    exact part_on (wanted_free rfl _) (op_value (int_run rfl (C.on (j := 7) (by kernel_rfl) rfl rfl) (((HS.out.sh.below C.below HS.out.sh.lt).cell 1).trans rfl)) rfl)
  · intro a w C
    exact part_on (wanted_free rfl _) (op_value (load_run rfl (C.was 4 (by kernel_rfl)) (sp_load (HS.out.sh.below C.below HS.out.sh.lt))) rfl)
  · intro a w C
    exact part_on (wanted_free rfl _) (op_call1 rfl (reg_enters Tryd.func22 (by kernel_rfl) (by kernel_rfl)) (C.on (j := 9) (by kernel_rfl) rfl rfl) (CK.out w))
  · intro a w C
    exact part_on (wanted_free rfl _) (op_move (.inl rfl) (C.was 3 (by kernel_rfl)))
  · intro a w C
    exact part_on (wanted_free rfl _) (op_value (seven_run rfl (C.on (j := 1) (by kernel_rfl) rfl rfl) (C.on (j := 2) (by kernel_rfl) rfl rfl) (C.on (j := 4) (by kernel_rfl) rfl rfl) (C.on (j := 6) (by kernel_rfl) rfl rfl) (C.on (j := 8) (by kernel_rfl) rfl rfl) (C.on (j := 10) (by kernel_rfl) rfl rfl) (C.on (j := 11) (by kernel_rfl) rfl rfl)) rfl)
  · intro a w C
    exact part_on (wanted_free rfl _) (op_move (.inl rfl) rfl)
  rintro wF hbF _ rfl _ rfl _ rfl _ rfl _ rfl _ rfl _ rfl _ rfl _ rfl _ rfl _ rfl _ rfl _ rfl _ rfl
  simp only [Fin, setAt, Exit.then, List.setIfInBounds_toArray, List.set_cons_succ, List.set_cons_zero]
  have HS1 : Hid (Sd w wF a t l m b c g z p s (sdTo [p, k, s, b, t, (a : Int) - 1, n] 0)) := Lib.hid (HS.out.on hbF)
  have HQ : Hid (seedL p k s b t ((a : Int) - 1) n = sdTo [p, k, s, b, t, (a : Int) - 1, n] 7) := Lib.hid rfl
  have HL : Hid ([p, k, s, (b : Int), (t : Int), (a : Int) - 1, n].length = 7) := Lib.hid rfl
  clear hbF HS CK
  generalize [p, k, s, (b : Int), (t : Int), (a : Int) - 1, n] = L at *
  go_wp2
  go_loopw [25] (fun v25 wr => ∃ i : Nat, i ≤ 7 ∧ v25 = .int .i64 (i : Int) ∧ Sd w wr a t l m b c g z p s (sdTo L i)) (fun v25 _ => 7 - (intOf v25).toNat)
  case atStart => exact ⟨0, by omega, rfl, HS1.out⟩
  case round =>
    clear HS1
    obtain ⟨i, hi, rfl, X⟩ := hrel
    have HX := Lib.hid X
    clear X
    by_cases h8 : i < 7
    · have hdt : decide ((i : Int) < 7) = true := by simp; omega
      have hi0 : (0 : Int) ≤ (i : Int) := by omega
      have hi1 : (i : Int) < 128 := by omega
      have hix := iz_index wr HL.out i h8
      have HN := Lib.hid (sdTo_next (L := L) (i := i) (by rw [HL.out]; exact h8) (by omega))
      have hw := w64_wrap (L.getD i 0)
      have ck := (HX.out.rv.cell i).trans (wq_at _ i (by rw [sdTo_length (by rw [HL.out]; omega) (by omega)]; omega))
      have hf := HX.out.rv.frozen i
      have HXS := Lib.hid fun x => HX.out.set i x
      have hlt : w.heap.size + 1 + 1 + 1 < wr.heap.size := HX.out.rv.lt
      generalize L.getD i 0 = x at *
      generalize w64 x = y at *
      clear HX
      go_wp2
      go_roundw
      case rel => exact ⟨i + 1, by omega, by go_num, by rw [HN.out]; exact HXS.out y⟩
      case measure => simp [intOf]; omega
    · obtain rfl : i = 7 := by omega
      have hdt : decide (((7 : Nat) : Int) < 7) = false := by simp
      obtain ⟨v, hv⟩ : ∃ v, v = sdTo L 7 := ⟨_, rfl⟩
      have HV := Lib.hid hv
      have HLL : Hid ((wq v).size = 128) := Lib.hid (by rw [wq_size, hv]; exact sdTo_length (by rw [HL.out]; omega) (by omega))
      rw [← hv] at HX
      have RV := Lib.hid HX.out.rv
      have RZ := Lib.hid HX.out.rz
      have HB := Lib.hid HX.out.below
      clear HX hv HL
      go_wp2_with (first
        | refine wpList_load_row rfl 36 (.tmp 9) rfl (w.heap.size + 1 + 1 + 1) rfl 36 (wq v) (0, 0) _ RV.out Tryd.underlying36 rfl (by rw [HLL.out]; exact b_size) ?_
        | refine wpList_store_row rfl 36 (.tmp 8) (.tmp 34) rfl (w.heap.size + 1 + 1) (wq v) rfl rfl 36 _ RZ.out (by rw [HLL.out]; exact b_size) (by rw [HLL.out]; rfl) (wq_one _) ?_)
      have hR := RowAt.setRow RZ.out (wq v)
      refine bodyPost_ret (v := .agg (wq v)) (results_cell_row rfl _ _ (w.heap.size + 1 + 1) 36 (wq v) (0, 0) _ rfl hR Tryd.underlying36 rfl (by rw [HLL.out]; exact b_size)) rfl ⟨by rw [HQ.out, HV.out], ?_⟩
      exact below_setRow HB.out (by omega) _
end Go.Proofs.YtnbdmkgldjhcaaaDoor

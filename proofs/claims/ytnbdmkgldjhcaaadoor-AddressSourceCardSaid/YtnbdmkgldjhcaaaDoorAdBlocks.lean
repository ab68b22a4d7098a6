/- The law AddressBlocks by the calls' contracts. Condition: the package's tables read as they were laid. -/
import Derived.Test.YtnbdmkgldjhcaaaDoorPlRows
namespace Go.Proofs.YtnbdmkgldjhcaaaDoor
set_option maxRecDepth 50000
open Go.RowKit Bb Bn

theorem awake30_any (w : World) : Calls Tryd.prog 5 #[] w fun e w' => e = .returned (.bool true) ∧ Below w.heap.size w w' := by
  have H := Lib.hid (of_walk 3 2 8 1 32 4 8 8 2 (by unfold Mok; omega) rfl rfl rfl rfl w)
  have C1 := Lib.hid fun w => free_any (a := 3) (by omega) 2 1 8 8 8 2 32 0 1 (by omega) w
  have C2 := Lib.hid fun w => free_any (a := 3) (by omega) 2 1 8 8 8 2 32 1 0 (by omega) w
  rw [show freeB 3 0 1 = true by decide] at C1
  rw [show freeB 3 1 0 = false by decide] at C2
  go_enter Tryd.func5, Tryd.ntmps5
  go_wp2_with fail
  refine H.out.mono ?_
  rintro e w1 ⟨rfl, hb⟩
  have HB := Lib.hid (hb.alloc hb.size (.cells (spc 3 2 1 8 8 8 2 32) 28))
  have HS := Lib.hid (RowAt.new w1 28 (spc 3 2 1 8 8 8 2 32))
  clear hb H
  go_wp2_with (refine wpList_load_want rfl 28 _ rfl _ _ rfl (sp_load HS.out) ?_)
  refine (C1.out _).mono ?_
  rintro e w2 ⟨rfl, hb⟩
  have HS2 := Lib.hid (HS.out.step hb)
  have HB2 := Lib.hid (HB.out.trans (hb.mono HB.out.size))
  clear hb HS HB C1
  go_wp2_with (refine wpList_load_want rfl 28 _ rfl _ _ rfl (sp_load HS2.out) ?_)
  refine (C2.out _).mono ?_
  rintro e w3 ⟨rfl, hb⟩
  have HB3 := Lib.hid (HB2.out.trans (hb.mono HB2.out.size))
  clear hb HS2 HB2 C2
  go_wp2
  go_ret
  exact ⟨rfl, HB3.out⟩

/-- the parameters have no shape -/
theorem blocks30_bad (pa pt pm pl pz p s k n : Int) (h : mayB pa pt pm pl pz = false) (w : World) :
    Calls Tryd.prog 3 #[pav pa pt pm pl pz, tuv p s, .int .i64 k, .int .i64 n] w fun e w' => e = .returned (.bool true) ∧ Below w.heap.size w w' := by
  have CO := of_bad pa pt pm pl pz h
  clear h
  have CA := Lib.hid awake30_any
  have CO := Lib.hid CO
  have HP := Lib.hid (law_new pa pt pm pl pz p s w)
  go_enter Tryd.func3, Tryd.ntmps3
  go_wp2_with fail
  refine (CA.out _).mono ?_
  rintro e w1 ⟨rfl, hb⟩
  have HP1 := Lib.hid (HP.out.1.step hb)
  have HP2 := Lib.hid (HP.out.2.1.step hb)
  have HP3 := Lib.hid (below_step HP.out.2.2 hb)
  clear hb CA HP
  go_wp2_with (refine wpList_load_want rfl 23 _ rfl _ _ rfl (pa_load HP1.out) ?_)
  refine (CO.out _).mono ?_
  rintro e w2 ⟨rfl, hb⟩
  have HB := Lib.hid (HP3.out.trans (hb.mono HP3.out.size))
  have HB2 := Lib.hid (HB.out.alloc HB.out.size (.cells spzc 28))
  clear hb CO HP1 HP2 HP3 HB
  go_wp2
  go_ret
  exact ⟨rfl, HB2.out⟩

/-- it is no turn of the shape -/
theorem blocks30_turn (pa pt pm pl pz p s k n : Int) (a t l m b c g z : Nat) (ht : t ≤ 4294967295) (hx : hasB t p s = false)
    (CO : ∀ w : World, Calls Tryd.prog 6 #[pav pa pt pm pl pz] w fun e w' => e = .returned (.tuple #[spv a t l m b c g z, .int .i64 0]) ∧ Below w.heap.size w w') (w : World) :
    Calls Tryd.prog 3 #[pav pa pt pm pl pz, tuv p s, .int .i64 k, .int .i64 n] w fun e w' => e = .returned (.bool true) ∧ Below w.heap.size w w' := by
  have CH := sphas_any a t l m b c g z ht p s
  rw [hx] at CH
  have CH := Lib.hid CH
  clear hx
  have CA := Lib.hid awake30_any
  have CO := Lib.hid CO
  have HP := Lib.hid (law_new pa pt pm pl pz p s w)
  go_enter Tryd.func3, Tryd.ntmps3
  go_wp2_with fail
  refine (CA.out _).mono ?_
  rintro e w1 ⟨rfl, hb⟩
  have HP1 := Lib.hid (HP.out.1.step hb)
  have HP2 := Lib.hid (HP.out.2.1.step hb)
  have HP3 := Lib.hid (below_step HP.out.2.2 hb)
  clear hb CA HP
  go_wp2_with (refine wpList_load_want rfl 23 _ rfl _ _ rfl (pa_load HP1.out) ?_)
  refine (CO.out _).mono ?_
  rintro e w2 ⟨rfl, hb⟩
  have HL := Lib.hid (lw_new (HP2.out.step hb) (HP3.out.trans (hb.mono HP3.out.size)) a t l m b c g z)
  have HPA := Lib.hid ((HP1.out.step hb).alloc (.cells (spc a t l m b c g z) 28))
  clear hb CO HP1 HP2 HP3
  obtain ⟨q, hq⟩ : ∃ q, w2.heap.size = q := ⟨_, rfl⟩
  rw [hq] at HL
  go_wp2_with (first
    | refine wpList_load_want rfl 25 _ rfl _ _ rfl (tu_load HL.out.tw.tu) ?_
    | refine wpList_load_want rfl 28 _ rfl _ _ rfl (sp_load HL.out.tw.sh) ?_)
  refine (CH.out _).mono ?_
  rintro e w3 ⟨rfl, hb⟩
  have HL3 := Lib.hid (HL.out.on hb)
  have kl : w3.cell? ⟨q, 2, none⟩ = some (.int .i64 (l : Int)) := (HL3.out.tw.sh.cell 2).trans rfl
  clear hb HL CH hq kl
  go_wp2
  go_ret
  exact ⟨rfl, HL3.out.below⟩
/-- it is no lane of the shape -/
theorem blocks30_lane (pa pt pm pl pz p s k n : Int) (a t l m b c g z : Nat) (ht : t ≤ 4294967295) (hx : hasB t p s = true) (hk : k < 0 ∨ (l : Int) ≤ k)
    (CO : ∀ w : World, Calls Tryd.prog 6 #[pav pa pt pm pl pz] w fun e w' => e = .returned (.tuple #[spv a t l m b c g z, .int .i64 0]) ∧ Below w.heap.size w w') (w : World) :
    Calls Tryd.prog 3 #[pav pa pt pm pl pz, tuv p s, .int .i64 k, .int .i64 n] w fun e w' => e = .returned (.bool true) ∧ Below w.heap.size w w' := by
  have CH := sphas_any a t l m b c g z ht p s
  rw [hx] at CH
  have CH := Lib.hid CH
  clear hx
  have CA := Lib.hid awake30_any
  have CO := Lib.hid CO
  have HP := Lib.hid (law_new pa pt pm pl pz p s w)
  go_enter Tryd.func3, Tryd.ntmps3
  go_wp2_with fail
  refine (CA.out _).mono ?_
  rintro e w1 ⟨rfl, hb⟩
  have HP1 := Lib.hid (HP.out.1.step hb)
  have HP2 := Lib.hid (HP.out.2.1.step hb)
  have HP3 := Lib.hid (below_step HP.out.2.2 hb)
  clear hb CA HP
  go_wp2_with (refine wpList_load_want rfl 23 _ rfl _ _ rfl (pa_load HP1.out) ?_)
  refine (CO.out _).mono ?_
  rintro e w2 ⟨rfl, hb⟩
  have HL := Lib.hid (lw_new (HP2.out.step hb) (HP3.out.trans (hb.mono HP3.out.size)) a t l m b c g z)
  have HPA := Lib.hid ((HP1.out.step hb).alloc (.cells (spc a t l m b c g z) 28))
  clear hb CO HP1 HP2 HP3
  obtain ⟨q, hq⟩ : ∃ q, w2.heap.size = q := ⟨_, rfl⟩
  rw [hq] at HL
  go_wp2_with (first
    | refine wpList_load_want rfl 25 _ rfl _ _ rfl (tu_load HL.out.tw.tu) ?_
    | refine wpList_load_want rfl 28 _ rfl _ _ rfl (sp_load HL.out.tw.sh) ?_)
  refine (CH.out _).mono ?_
  rintro e w3 ⟨rfl, hb⟩
  have HL3 := Lib.hid (HL.out.on hb)
  have kl : w3.cell? ⟨q, 2, none⟩ = some (.int .i64 (l : Int)) := (HL3.out.tw.sh.cell 2).trans rfl
  clear hb HL CH hq
  rcases hk with hk | hk
  · have d1 : decide (k < 0) = true := by simpa using hk
    go_wp2
    go_ret
    exact ⟨rfl, HL3.out.below⟩
  · have d1 : decide (k < 0) = false := by simp; omega
    have d2 : decide ((l : Int) ≤ k) = true := by simpa using hk
    go_wp2
    go_ret
    exact ⟨rfl, HL3.out.below⟩

/-- what the law has in memory -/
structure Ab (w wr : World) (q q1 q2 : Nat) (a t l m b c g z : Nat) (p s : Int) (y : List Nat) : Prop where
  tw : Tw wr q (w.heap.size + 1) a t l m b c g z p s
  rs : RowAt wr q1 33 (spc a t l m b c g z)
  sd : RowAt wr q2 36 (wq y)
section
variable {w wr w' : World} {q q1 q2 a t l m b c g z : Nat} {p s : Int} {y : List Nat}
theorem Ab.on (H : Ab w wr q q1 q2 a t l m b c g z p s y) (hb : Below wr.heap.size wr w') : Ab w w' q q1 q2 a t l m b c g z p s y := ⟨H.tw.on hb, H.rs.step hb, H.sd.step hb⟩
theorem ab_new (H : Tw wr q (w.heap.size + 1) a t l m b c g z p s) (y : List Nat) : Ab w (((wr.alloc (.cells (spc a t l m b c g z) 33)).alloc (.cells (wq zb) 36)).setRow (wr.heap.size + 1) (wq y)) q wr.heap.size (wr.heap.size + 1) a t l m b c g z p s y := by
  have B := newb (wr.alloc (.cells (spc a t l m b c g z) 33)) y
  rw [World.size_alloc] at B
  have B1 := one_box wr (.cells (spc a t l m b c g z) 33)
  have R1 := RowAt.new wr 33 (spc a t l m b c g z)
  have B2 : Below (wr.alloc (.cells (spc a t l m b c g z) 33)).heap.size (wr.alloc (.cells (spc a t l m b c g z) 33)) (((wr.alloc (.cells (spc a t l m b c g z) 33)).alloc (.cells (wq zb) 36)).setRow (wr.heap.size + 1) (wq y)) := by
    rw [World.size_alloc]
    exact B.2
  exact ⟨(H.on B1).on B2, R1.step B2, B.1⟩
theorem ab_below (wr : World) (a t l m b c g z : Nat) (y : List Nat) : Below wr.heap.size wr (((wr.alloc (.cells (spc a t l m b c g z) 33)).alloc (.cells (wq zb) 36)).setRow (wr.heap.size + 1) (wq y)) :=
  below_setRow (((Below.refl _ _).alloc (Nat.le_refl _) _).alloc (by simp) _) (by omega) _
end
theorem seedb_run {w : World} {ev : Operand → Value} {o : Oper} {x0 x1 x2 x3 x4 x5 x6 : Operand} {y0 y1 y2 y3 y4 y5 y6 : Nat} {y : List Nat} (hy : ∀ w : World, (Instr.build 36 #[(0, .int .u64 (y0 : Int)), (1, .int .u64 (y1 : Int)), (2, .int .u64 (y2 : Int)), (3, .int .u64 (y3 : Int)), (4, .int .u64 (y4 : Int)), (5, .int .u64 (y5 : Int)), (6, .int .u64 (y6 : Int))]).run Tryd.prog w = .ok (.agg (wq y)) w) (hop : o.op = .build 36 #[(0, x0), (1, x1), (2, x2), (3, x3), (4, x4), (5, x5), (6, x6)])
    (h0 : ev x0 = .int .u64 (y0 : Int)) (h1 : ev x1 = .int .u64 (y1 : Int)) (h2 : ev x2 = .int .u64 (y2 : Int)) (h3 : ev x3 = .int .u64 (y3 : Int)) (h4 : ev x4 = .int .u64 (y4 : Int)) (h5 : ev x5 = .int .u64 (y5 : Int)) (h6 : ev x6 = .int .u64 (y6 : Int)) : (execOp ev o).run Tryd.prog w = .ok (.value (.agg (wq y))) w := by
  simp only [execOp, hop, List.map_toArray, List.map_cons, List.map_nil, h0, h1, h2, h3, h4, h5, h6, Sem.run_bind, hy w, Result.andThen_ok, Sem.run_pure]

set_option maxHeartbeats 6400000 in
theorem blocks30_good (t l m b c g z : Nat) (p s k n : Int) {a : Nat} (ha : a = 1 ∨ a = 2 ∨ a = 3) (ht : t ≤ 4294967295) (hx : hasB t p s = true) (hk0 : 0 ≤ k) (hk1 : k < (l : Int)) (hs0 : 0 ≤ s)
    (CO : ∀ w : World, Calls Tryd.prog 6 #[pav a t m l z] w fun e w' => e = .returned (.tuple #[spv a t l m b c g z, .int .i64 0]) ∧ Below w.heap.size w w') (w : World) (hT : TAt w) :
    Calls Tryd.prog 3 #[pav a t m l z, tuv p s, .int .i64 k, .int .i64 n] w fun e w' => e = .returned (.bool true) ∧ Below w.heap.size w w' := by
  have CH := sphas_any a t l m b c g z ht p s
  rw [hx] at CH
  have CH := Lib.hid CH
  have HT := Lib.hid hT
  have CS := Lib.hid fun w => calls_is (seed_any ha t l m b c g z p s k n w)
  have CB : Hid (∀ w', Below w.heap.size w w' → Calls Tryd.prog 9 #[spv a t l m b c g z, tuv p s, .int .i64 k, .int .i64 n] w' fun e w2 => ∃ v, e = .returned v ∧ Is (.agg (wq (addL p k s b t ((a : Int) - 1) n))) v w2 ∧ Below w'.heap.size w' w2) := Lib.hid fun w' hb => calls_is (block_any ha t l m b c g z p s k n w' (HT.out.next hb))
  have CR := Lib.hid fun w => calls_is (rblock_any a t l m b c g z (by omega) p s k n w)
  have CF := Lib.hid fun w => calls_is (free_any ha t l m b c g z p s hs0 w)
  have CG := Lib.hid fun w => calls_is (rfree_any ha t l m b c g z p s w)
  have HYO := Lib.hid (seed_ok p k s b t ((a : Int) - 1) n)
  have HRO := Lib.hid (add_ok p k s b t ((a : Int) - 1) n)
  have HSB := Lib.hid fun w => seed_build w p k s b t ((a : Int) - 1) n
  have hwa : IntKind.i64.wrap ((a : Int) - 1) = (a : Int) - 1 := by rw [IntKind.wrap_i64]; omega
  have e0 := w64_wrap (p)
  have e1 := w64_wrap (k)
  have e2 := w64_wrap (s)
  have e3 := w64_wrap ((b : Int))
  have e4 := w64_wrap ((t : Int))
  have e5 := w64_wrap ((a : Int) - 1)
  have e6 := w64_wrap (n)
  generalize w64 (p) = y0 at *
  generalize w64 (k) = y1 at *
  generalize w64 (s) = y2 at *
  generalize w64 ((b : Int)) = y3 at *
  generalize w64 ((t : Int)) = y4 at *
  generalize w64 ((a : Int) - 1) = y5 at *
  generalize w64 (n) = y6 at *
  generalize seedL p k s b t ((a : Int) - 1) n = y at *
  generalize addL p k s b t ((a : Int) - 1) n = r at *
  generalize freeB a p s = f at *
  have HSY : Hid ((wq y).size = 128) := Lib.hid (by rw [wq_size]; exact HYO.out.1)
  have hz := zero_b
  have d1 : decide (k < 0) = false := by simp; omega
  have d2 : decide ((l : Int) ≤ k) = false := by simp; omega
  clear hx hT ha ht hs0 hk0 hk1
  have CA := Lib.hid awake30_any
  have CO := Lib.hid CO
  have HP := Lib.hid (law_new a t m l z p s w)
  go_enter Tryd.func3, Tryd.ntmps3
  go_wp2_with fail
  refine (CA.out _).mono ?_
  rintro e w1 ⟨rfl, hb⟩
  have HP1 := Lib.hid (HP.out.1.step hb)
  have HP2 := Lib.hid (HP.out.2.1.step hb)
  have HP3 := Lib.hid (below_step HP.out.2.2 hb)
  clear hb CA HP
  go_wp2_with (refine wpList_load_want rfl 23 _ rfl _ _ rfl (pa_load HP1.out) ?_)
  refine (CO.out _).mono ?_
  rintro e w2 ⟨rfl, hb⟩
  have hq0 : w.heap.size < w2.heap.size := (HP1.out.step hb).lt
  have HL := Lib.hid (lw_new (HP2.out.step hb) (HP3.out.trans (hb.mono HP3.out.size)) a t l m b c g z)
  have HPA := Lib.hid ((HP1.out.step hb).alloc (.cells (spc a t l m b c g z) 28))
  clear hb CO HP1 HP2 HP3
  obtain ⟨q, hq⟩ : ∃ q, w2.heap.size = q := ⟨_, rfl⟩
  rw [hq] at HL
  rw [hq] at hq0
  go_wp2_with (first
    | refine wpList_load_want rfl 25 _ rfl _ _ rfl (tu_load HL.out.tw.tu) ?_
    | refine wpList_load_want rfl 28 _ rfl _ _ rfl (sp_load HL.out.tw.sh) ?_)
  refine (CH.out _).mono ?_
  rintro e w3 ⟨rfl, hb⟩
  have HL3 := Lib.hid (HL.out.on hb)
  have kl : w3.cell? ⟨q, 2, none⟩ = some (.int .i64 (l : Int)) := (HL3.out.tw.sh.cell 2).trans rfl
  have HPA3 := Lib.hid (HPA.out.step hb)
  clear hb HL HPA CH hq
  have k0 : w3.cell? ⟨w.heap.size, 0, none⟩ = some (.int .i64 (a : Int)) := (HPA3.out.cell 0).trans rfl
  have k1 : w3.cell? ⟨w.heap.size + 1, 0, none⟩ = some (.int .i64 p) := (HL3.out.tw.tu.cell 0).trans rfl
  have k2 : w3.cell? ⟨w.heap.size + 1, 1, none⟩ = some (.int .i64 s) := (HL3.out.tw.tu.cell 1).trans rfl
  have k3 : w3.cell? ⟨q, 4, none⟩ = some (.int .i64 (b : Int)) := (HL3.out.tw.sh.cell 4).trans rfl
  have k4 : w3.cell? ⟨q, 1, none⟩ = some (.int .i64 (t : Int)) := (HL3.out.tw.sh.cell 1).trans rfl
  have hlt0 : w.heap.size < w3.heap.size := HPA3.out.lt
  have hlt1 : w.heap.size + 1 < w3.heap.size := HL3.out.tw.tu.lt
  have hlt2 : q < w3.heap.size := HL3.out.tw.sh.lt
  have HA0 := Lib.hid (ab_new HL3.out.tw y)
  have HB0 := Lib.hid (HL3.out.below.trans ((ab_below w3 a t l m b c g z y).mono HL3.out.below.size))
  clear HPA3
  go_wp2_with (first
    | refine wpList_load_want rfl 28 _ rfl _ _ rfl (sp_load HL3.out.tw.sh) ?_
    | refine wpList_value_want rfl _ (seedb_run HSB.out rfl rfl rfl rfl rfl rfl rfl rfl) ?_
    | refine wpList_store_row rfl 36 (.tmp 12) (.tmp 59) rfl (w3.heap.size + 1) (wq y) rfl rfl 36 _ (by have h := RowAt.new (w3.alloc (.cells (spc a t l m b c g z) 33)) 36 (wq zb); rw [World.size_alloc] at h; exact h) (by rw [HSY.out]; exact b_size) (by rw [HSY.out]; rfl) (wq_one _) ?_)
  obtain ⟨q1, hq1⟩ : ∃ q1, w3.heap.size = q1 := ⟨_, rfl⟩
  obtain ⟨q2, hq2⟩ : ∃ q2, q1 + 1 = q2 := ⟨_, rfl⟩
  rw [hq1, hq2] at HA0 HB0
  rw [hq1, hq2]
  generalize World.setRow _ _ _ = w4 at *
  have HA : Hid (Ab w w4 q q1 q2 a t l m b c g z p s y) := Lib.hid HA0.out
  have HB : Hid (Below w.heap.size w w4) := Lib.hid HB0.out
  clear HA0 HB0 HL3 hlt0 hlt1 hlt2 k0 k1 k2 k3 k4 kl hq1 hq2 HSB hq0
  simp only [Act.put]
  refine wp_region_text [Is (spv a t l m b c g z), Is (tuv p s), Is (.int .i64 k), Is (.int .i64 n), Is (.agg (wq y)), Is (.agg (wq y)), Is (.bool false)] (by kernel_rfl) (by kernel_rfl) rfl ⟨stable_is _, stable_is _, stable_is _, stable_is _, stable_is _, stable_is _, stable_is _, trivial⟩ ⟨?_, ?_, ?_, ?_, ?_, ?_, ?_, trivial⟩ ?_
  · intro a w C
    exact part_on (wanted_free rfl _) (op_value (load_run rfl (C.was 9 (by kernel_rfl)) (sp_load (HA.out.tw.sh.below C.below HA.out.tw.sh.lt))) rfl)
  · intro a w C
    exact part_on (wanted_free rfl _) (op_value (load_run rfl (C.was 5 (by kernel_rfl)) (tu_load (HA.out.tw.tu.below C.below HA.out.tw.tu.lt))) rfl)
  · intro a w C
    exact part_on (wanted_free rfl _) (op_move (.inl rfl) (C.was 2 (by kernel_rfl)))
  · intro a w C
    exact part_on (wanted_free rfl _) (op_move (.inl rfl) (C.was 3 (by kernel_rfl)))
  · intro a w C
    exact part_on (wanted_free rfl _) (op_call4 rfl (reg_enters Tryd.func8 (by kernel_rfl) (by kernel_rfl)) (C.on (j := 0) (by kernel_rfl) rfl rfl) (C.on (j := 1) (by kernel_rfl) rfl rfl) (C.on (j := 2) (by kernel_rfl) rfl rfl) (C.on (j := 3) (by kernel_rfl) rfl rfl) (CS.out w))
  · intro a w C
    exact part_on (wanted_free rfl _) (op_value (bload_run rfl (C.was 12 (by kernel_rfl)) (HA.out.sd.below C.below HA.out.sd.lt) HSY.out) rfl)
  · intro a w C
    exact part_on (wanted_free rfl _) (op_value (bneq_run w HYO.out HYO.out (k := false) (by simp) _ _ _ rfl (C.on (j := 4) (by kernel_rfl) rfl rfl) (C.on (j := 5) (by kernel_rfl) rfl rfl)) rfl)
  rintro wF hbF _ rfl _ rfl _ rfl _ rfl _ rfl _ rfl _ rfl
  simp only [Fin, setAt, Exit.then, List.setIfInBounds_toArray, List.set_cons_succ, List.set_cons_zero]
  have HA5 := Lib.hid (HA.out.on hbF)
  have HB5 := Lib.hid (HB.out.trans (hbF.mono HB.out.size))
  clear hbF HA HB CS
  have HA := HA5
  have HB := HB5
  clear HA5 HB5
  go_wp2
  refine wp_region_text [Is (spv a t l m b c g z), Is (tuv p s), Is (.int .i64 k), Is (.int .i64 n), Is (.agg (wq r)), Is (spv a t l m b c g z), Is (.pointer (some ⟨(w.heap.size + 1), 0 + 0, none⟩)), Is (.int .i64 p), Is (.pointer (some ⟨(w.heap.size + 1), 0 + 1, none⟩)), Is (.int .i64 s), Is (.int .i64 k), Is (.int .i64 n), Is (.agg (wq r)), Is (.bool true), Is (.bool true), Is (spv a t l m b c g z), Is (tuv p s), Is (.bool f), Is (spv a t l m b c g z), Is (.pointer (some ⟨(w.heap.size + 1), 0 + 0, none⟩)), Is (.int .i64 p), Is (.pointer (some ⟨(w.heap.size + 1), 0 + 1, none⟩)), Is (.int .i64 s), Is (.bool f), Is (.bool true), Is (.bool true), Is (.bool true)] (by kernel_rfl) (by kernel_rfl) rfl ⟨stable_is _, stable_is _, stable_is _, stable_is _, stable_is _, stable_is _, stable_is _, stable_is _, stable_is _, stable_is _, stable_is _, stable_is _, stable_is _, stable_is _, stable_is _, stable_is _, stable_is _, stable_is _, stable_is _, stable_is _, stable_is _, stable_is _, stable_is _, stable_is _, stable_is _, stable_is _, stable_is _, trivial⟩ ⟨?_, ?_, ?_, ?_, ?_, ?_, ?_, ?_, ?_, ?_, ?_, ?_, ?_, ?_, ?_, ?_, ?_, ?_, ?_, ?_, ?_, ?_, ?_, ?_, ?_, ?_, ?_, trivial⟩ ?_
  · intro a w C
    exact part_on (wanted_free rfl _) (op_value (load_run rfl (C.was 9 (by kernel_rfl)) (sp_load (HA.out.tw.sh.below C.below HA.out.tw.sh.lt))) rfl)
  · intro a w C
    exact part_on (wanted_free rfl _) (op_value (load_run rfl (C.was 5 (by kernel_rfl)) (tu_load (HA.out.tw.tu.below C.below HA.out.tw.tu.lt))) rfl)
  · intro a w C
    exact part_on (wanted_free rfl _) (op_move (.inl rfl) (C.was 2 (by kernel_rfl)))
  · intro a w C
    exact part_on (wanted_free rfl _) (op_move (.inl rfl) (C.was 3 (by kernel_rfl)))
  · intro a w C
    exact part_on (wanted_free rfl _) (op_call4 rfl (reg_enters Tryd.func9 (by kernel_rfl) (by kernel_rfl)) (C.on (j := 0) (by kernel_rfl) rfl rfl) (C.on (j := 1) (by kernel_rfl) rfl rfl) (C.on (j := 2) (by kernel_rfl) rfl rfl) (C.on (j := 3) (by kernel_rfl) rfl rfl) (CB.out w (HB.out.trans (C.below.mono HB.out.size))))
  · intro a w C
    exact part_on (wanted_free rfl _) (op_value (load_run rfl (C.was 11 (by kernel_rfl)) (rsp_load (HA.out.rs.below C.below HA.out.rs.lt))) rfl)
  · intro a w C
    exact part_on (wanted_free rfl _) (op_value (tuf_run (k := 0) rfl (by decide) (C.was 5 (by kernel_rfl))) rfl)
  · intro a w C
    exact part_on (wanted_free rfl _) (op_value (int_run rfl (C.on (j := 6) (by kernel_rfl) rfl rfl) (((HA.out.tw.tu.below C.below HA.out.tw.tu.lt).cell 0).trans rfl)) rfl)
  · intro a w C
    exact part_on (wanted_free rfl _) (op_value (tuf_run (k := 1) rfl (by decide) (C.was 5 (by kernel_rfl))) rfl)
  · intro a w C
    exact part_on (wanted_free rfl _) (op_value (int_run rfl (C.on (j := 8) (by kernel_rfl) rfl rfl) (((HA.out.tw.tu.below C.below HA.out.tw.tu.lt).cell 1).trans rfl)) rfl)
  · intro a w C
    exact part_on (wanted_free rfl _) (op_move (.inl rfl) (C.was 2 (by kernel_rfl)))
  · intro a w C
    exact part_on (wanted_free rfl _) (op_move (.inl rfl) (C.was 3 (by kernel_rfl)))
  · intro a w C
    exact part_on (wanted_free rfl _) (op_call5 rfl (reg_enters Tryd.func10 (by kernel_rfl) (by kernel_rfl)) (C.on (j := 5) (by kernel_rfl) rfl rfl) (C.on (j := 7) (by kernel_rfl) rfl rfl) (C.on (j := 9) (by kernel_rfl) rfl rfl) (C.on (j := 10) (by kernel_rfl) rfl rfl) (C.on (j := 11) (by kernel_rfl) rfl rfl) (CR.out w))
  · intro a w C
    exact part_on (wanted_free rfl _) (op_value (beql_run w HRO.out HRO.out (k := true) (by simp) _ _ _ rfl (C.on (j := 4) (by kernel_rfl) rfl rfl) (C.on (j := 12) (by kernel_rfl) rfl rfl)) rfl)
  · intro a w C
    exact part_on (wanted_free rfl _) (op_move (.inl rfl) (C.on (j := 13) (by kernel_rfl) rfl rfl))
  · intro a w C
    exact part_on (wanted_on (j := 14) rfl rfl rfl (C.on (j := 14) (by kernel_rfl) rfl rfl)) (op_value (load_run rfl (C.was 9 (by kernel_rfl)) (sp_load (HA.out.tw.sh.below C.below HA.out.tw.sh.lt))) rfl)
  · intro a w C
    exact part_on (wanted_on (j := 14) rfl rfl rfl (C.on (j := 14) (by kernel_rfl) rfl rfl)) (op_value (load_run rfl (C.was 5 (by kernel_rfl)) (tu_load (HA.out.tw.tu.below C.below HA.out.tw.tu.lt))) rfl)
  · intro a w C
    exact part_on (wanted_on (j := 14) rfl rfl rfl (C.on (j := 14) (by kernel_rfl) rfl rfl)) (op_call2 rfl (reg_enters Tryd.func11 (by kernel_rfl) (by kernel_rfl)) (C.on (j := 15) (by kernel_rfl) rfl rfl) (C.on (j := 16) (by kernel_rfl) rfl rfl) (CF.out w))
  · intro a w C
    exact part_on (wanted_on (j := 14) rfl rfl rfl (C.on (j := 14) (by kernel_rfl) rfl rfl)) (op_value (load_run rfl (C.was 11 (by kernel_rfl)) (rsp_load (HA.out.rs.below C.below HA.out.rs.lt))) rfl)
  · intro a w C
    exact part_on (wanted_on (j := 14) rfl rfl rfl (C.on (j := 14) (by kernel_rfl) rfl rfl)) (op_value (tuf_run (k := 0) rfl (by decide) (C.was 5 (by kernel_rfl))) rfl)
  · intro a w C
    exact part_on (wanted_on (j := 14) rfl rfl rfl (C.on (j := 14) (by kernel_rfl) rfl rfl)) (op_value (int_run rfl (C.on (j := 19) (by kernel_rfl) rfl rfl) (((HA.out.tw.tu.below C.below HA.out.tw.tu.lt).cell 0).trans rfl)) rfl)
  · intro a w C
    exact part_on (wanted_on (j := 14) rfl rfl rfl (C.on (j := 14) (by kernel_rfl) rfl rfl)) (op_value (tuf_run (k := 1) rfl (by decide) (C.was 5 (by kernel_rfl))) rfl)
  · intro a w C
    exact part_on (wanted_on (j := 14) rfl rfl rfl (C.on (j := 14) (by kernel_rfl) rfl rfl)) (op_value (int_run rfl (C.on (j := 21) (by kernel_rfl) rfl rfl) (((HA.out.tw.tu.below C.below HA.out.tw.tu.lt).cell 1).trans rfl)) rfl)
  · intro a w C
    exact part_on (wanted_on (j := 14) rfl rfl rfl (C.on (j := 14) (by kernel_rfl) rfl rfl)) (op_call3 rfl (reg_enters Tryd.func12 (by kernel_rfl) (by kernel_rfl)) (C.on (j := 18) (by kernel_rfl) rfl rfl) (C.on (j := 20) (by kernel_rfl) rfl rfl) (C.on (j := 22) (by kernel_rfl) rfl rfl) (CG.out w))
  · intro a w C
    exact part_on (wanted_on (j := 14) rfl rfl rfl (C.on (j := 14) (by kernel_rfl) rfl rfl)) (op_bin rfl (C.on (j := 17) (by kernel_rfl) rfl rfl) (C.on (j := 23) (by kernel_rfl) rfl rfl) rfl (by simp [go_sem]) rfl)
  · intro a w C
    exact part_on (wanted_free rfl _) (op_pick (k := true) rfl (C.on (j := 14) (by kernel_rfl) rfl rfl) (C.on (j := 24) (by kernel_rfl) rfl rfl))
  · intro a w C
    exact part_on (wanted_free rfl _) (op_move (.inr rfl) (C.on (j := 25) (by kernel_rfl) rfl rfl))
  rintro wF hbF _ rfl _ rfl _ rfl _ rfl _ rfl _ rfl _ rfl _ rfl _ rfl _ rfl _ rfl _ rfl _ rfl _ rfl _ rfl _ rfl _ rfl _ rfl _ rfl _ rfl _ rfl _ rfl _ rfl _ rfl _ rfl _ rfl _ rfl
  simp only [Fin, setAt, Exit.then, List.setIfInBounds_toArray, List.set_cons_succ, List.set_cons_zero]
  have HB6 := Lib.hid (HB.out.trans (hbF.mono HB.out.size))
  clear hbF HA HB CB CR CF CG
  go_wp2
  go_ret
  exact ⟨rfl, HB6.out⟩

theorem blocks30_any (pa pt pm pl pz p s k n : Int) (w : World) (hT : TAt w) : Calls Tryd.prog 3 #[pav pa pt pm pl pz, tuv p s, .int .i64 k, .int .i64 n] w fun e w' => e = .returned (.bool true) ∧ Below w.heap.size w w' := by
  cases hm : mayB pa pt pm pl pz with
  | false => exact blocks30_bad pa pt pm pl pz p s k n hm w
  | true =>
    obtain ⟨a, t, m, l, z, rfl, rfl, rfl, rfl, rfl, hM⟩ := may_nats hm
    obtain ⟨b, c, g, _, _, _, _, _, CO⟩ := of_good hM
    unfold Mok at hM
    cases hx : hasB t p s with
    | false => exact blocks30_turn a t m l z p s k n a t l m b c g z (by omega) hx CO w
    | true =>
      by_cases hk : k < 0 ∨ (l : Int) ≤ k
      · exact blocks30_lane a t m l z p s k n a t l m b c g z (by omega) hx hk CO w
      · have hs : 0 ≤ s := by
          unfold hasB at hx
          simp [inB] at hx
          omega
        exact blocks30_good t l m b c g z p s k n hM.1 (by omega) hx (by omega) (by omega) hs CO w hT
end Go.Proofs.YtnbdmkgldjhcaaaDoor

/- The law ShaCompresses, for every state of eight words and every block. Condition: the package's table lies at its place. -/
import Derived.Test.YtdgfdgdekocodaaDoorShEq
import Derived.Test.YtdgfdgdekocodaaDoorShAwake
import Derived.Test.YtdgfdgdekocodaaDoorShRsum
import Derived.Test.YtdgfdgdekocodaaDoorShReck
namespace Go.Proofs.YtdgfdgdekocodaaDoor
open Go.RowKit Sha

theorem load_run (w : World) (ty : TypeId) (ad : Addr) (v : Value) (ev : Operand → Value) (x : Operand) (o : Oper) (hop : o.op = .load ty x) (hx : ev x = .pointer (some ad)) (hc : (loadVar ty ad).run Tryd.prog w = .ok v w) : (execOp ev o).run Tryd.prog w = .ok (.value v) w := by
  simp [execOp, hop, hx, Instr.loadAt, Instr.sureAddr, hc]
theorem fieldF_run (w : World) (b : Nat) (ev : Operand → Value) (x : Operand) (o : Oper) (hop : o.op = .fieldAddr 31 x 1) (hx : ev x = .pointer (some ⟨b, 0, none⟩)) : (execOp ev o).run Tryd.prog w = .ok (.value (.pointer (some ⟨b, 64, none⟩))) w := by
  simp [execOp, hop, hx, go_sem]
theorem eql_run (w : World) (xs ys : Array Value) (ev : Operand → Value) (x y : Operand) {t ty : TypeId} {o : Oper} (hop : o.op = .binOp .eql t x y ty) (hx : ev x = .agg xs) (hy : ev y = .agg ys) (hm : Tryd.prog.eqGuardType Tryd.prog.depth t = false) (hr : (binOp .eql t (.agg xs) (.agg ys)).run Tryd.prog w = .ok (.bool true) w) : (execOp ev o).run Tryd.prog w = .ok (.value (.bool true)) w := by
  have hg := run_eqGuard_agg (P := Tryd.prog) w .eql t x y xs ys hm
  simp only [execOp, hop, hx, hy, Sem.run_bind, hg, Result.andThen_ok, hr, Sem.run_pure]
theorem op_call0 {P : Program} {p : Value → World → Prop} {o : Oper} {a : Act} {w : World} {Q : Exit → Act → World → Prop} {f : FuncId} {ts : Array TypeId} (ho : o.op = .call { callee := .value (.func f), args := #[], argTypes := ts }) (he : ∀ (args : Array Value) (w : World), (callFunc f args).run P w = .ok (.enter f args) w)
    (hc : Calls P f #[] w fun e w' => ∃ v, e = .returned v ∧ p v w' ∧ Below w.heap.size w w') : Does P p o a w Q := op_call ho he hc
theorem op_call3 {P : Program} {p : Value → World → Prop} {o : Oper} {a : Act} {w : World} {Q : Exit → Act → World → Prop} {f : FuncId} {x y z : Operand} {ts : Array TypeId} {v1 v2 v3 : Value} (ho : o.op = .call { callee := .value (.func f), args := #[x, y, z], argTypes := ts }) (he : ∀ (args : Array Value) (w : World), (callFunc f args).run P w = .ok (.enter f args) w)
    (hx : a.eval x = v1) (hy : a.eval y = v2) (hz : a.eval z = v3) (hc : Calls P f #[v1, v2, v3] w fun e w' => ∃ v, e = .returned v ∧ p v w' ∧ Below w.heap.size w w') : Does P p o a w Q := by
  subst hx; subst hy; subst hz
  exact op_call ho he hc
theorem eqF (w : World) : (binOp .eql 31 (.agg (wd (kk ++ hh))) (.agg (wd (kk ++ hh)))).run Tryd.prog w = .ok (.bool true) w := by kernel_rfl
theorem nats_bytesL (bs : List Nat) (h : ∀ x ∈ bs, x < 256) : nats (bytesL bs) = bs := by
  unfold nats bytesL
  rw [List.map_map]
  conv => rhs; rw [← List.map_id bs]
  refine List.map_congr_left fun x hx => ?_
  have := h x hx
  simp [Function.comp, Nat.mod_eq_of_lt this]
/-- bytes that came in, as a text -/
theorem conv_reads {w : World} {B : Nat} {A : Option Addr} {c : Nat} {bs : List Nat} (hl : bs.length = 64) (hx : ∀ x ∈ bs, x < 256) (h : Reads w B A (u8s bs)) : (convert 24 9 (.slice A 64 c)).run Tryd.prog w = .ok (.string (tx (bytesL bs))) w := by
  obtain ⟨g, off, rfl, _, _⟩ := h 0 (by rw [u8s_length]; omega)
  have e : tx (bytesL bs) = strOfNums (bs.map fun b : Nat => (b : Int)) := by
    unfold tx strOfNums bytesL
    congr 1
    congr 1
    rw [List.map_map]
    refine List.map_congr_left fun b hb => ?_
    simp [Function.comp]
  rw [e]
  refine run_convert_bytes_arg w 24 5 Tryd.underlying24 Tryd.underlying5 g off 64 c _ (by simpa using hl) (fun i hi => ?_) 9 Tryd.underlying9
  obtain ⟨b', off', hb', _, hc⟩ := h i (by rw [u8s_length]; omega)
  cases hb'
  rw [hc, u8_at]
  simp [List.getElem?_eq_getElem (show i < bs.length by omega)]

set_option maxRecDepth 20000 in
set_option maxHeartbeats 1600000 in
theorem scomp_bad (st : List Nat) (hs : st.length = 8) (A : Option Addr) (n c : Nat) (hn : n ≠ 64) (w : World) (hk : KAt w) :
    Calls Tryd.prog 3 #[.agg (wd st), .slice A n c] w fun e w' => e = .returned (.bool true) ∧ Below w.heap.size w w' := by
  obtain ⟨SV, hSV⟩ : ∃ SV, SV = wd st := ⟨_, rfl⟩
  have SV8 := Lib.hid (show SV.size = 8 from by rw [hSV, wd_size, hs])
  rw [← hSV]
  have CB := Lib.hid fun (W : World) => show Calls Tryd.prog 8 #[.agg SV, .slice A n c] W fun e w' => e = .returned (.tuple #[.agg #[.int .u32 0, .int .u32 0, .int .u32 0, .int .u32 0, .int .u32 0, .int .u32 0, .int .u32 0, .int .u32 0], .int .i64 9]) ∧ Below W.heap.size W w' from comp_bad SV A n c hn W
  have EQ0 : ∀ W : World, (binOp .eql 23 (.agg #[.int .u32 0, .int .u32 0, .int .u32 0, .int .u32 0, .int .u32 0, .int .u32 0, .int .u32 0, .int .u32 0]) (.agg #[.int .u32 0, .int .u32 0, .int .u32 0, .int .u32 0, .int .u32 0, .int .u32 0, .int .u32 0, .int .u32 0])).run Tryd.prog W = .ok (.bool true) W := fun W => by kernel_rfl
  have EQ1 : ∀ W : World, (Op.equalIn 10000 23 (.agg #[.int .u32 0, .int .u32 0, .int .u32 0, .int .u32 0, .int .u32 0, .int .u32 0, .int .u32 0, .int .u32 0]) (.agg #[.int .u32 0, .int .u32 0, .int .u32 0, .int .u32 0, .int .u32 0, .int .u32 0, .int .u32 0, .int .u32 0])).run Tryd.prog W = .ok true W := fun W => by kernel_rfl
  have hg23 : Tryd.prog.eqGuardType Tryd.prog.depth 23 = false := by kernel_rfl
  have hne : ((n : Int) != 64) = true := by simp; omega
  have hne2 : ¬ (n : Int) = 64 := by omega
  have HK := Lib.hid hk
  clear hs hk hSV
  go_enter Tryd.func3, Tryd.ntmps3
  go_wp2_with fail
  refine (awake_any _ (HK.out.next ((Below.refl _ w).alloc (Nat.le_refl _) _))).mono ?_
  rintro e w1 ⟨rfl, b1⟩
  have R2 : RowAt w1 w.heap.size 23 SV := (RowAt.new w _ _).below b1 (by simp)
  have B1 := Lib.hid (((Below.refl _ w).alloc (Nat.le_refl _) (.cells SV 23)).trans (b1.mono (by simp)))
  have H2 := Lib.hid R2
  clear b1 R2
  go_wp2_with (first
    | refine wpList_load_row rfl 23 (.tmp 2) rfl w.heap.size rfl 23 SV (0, 0) _ H2.out Tryd.underlying23 rfl (by rw [SV8.out]; exact size8) ?_
    | (refine (CB.out w1).mono ?_; rintro e w2 ⟨rfl, b2⟩; have B2 := Lib.hid b2; clear b2))
  go_ret
  have hs2 := (below_step B1.out B2.out).size
  exact ⟨rfl, (below_step B1.out B2.out).alloc hs2 _⟩

set_option maxRecDepth 20000 in
set_option maxHeartbeats 1600000 in
theorem scomp_good (st : List Nat) (hs : st.length = 8) (hst : ∀ x ∈ st, x < 4294967296) (A : Option Addr) (c : Nat) (bs : List Nat) (hbs : bs.length = 64) (hx : ∀ x ∈ bs, x < 256) (w : World) (hk : KAt w) (hr : Reads w w.heap.size A (u8s bs)) :
    Calls Tryd.prog 3 #[.agg (wd st), .slice A 64 c] w fun e w' => e = .returned (.bool true) ∧ Below w.heap.size w w' := by
  obtain ⟨CV, hCV⟩ : ∃ CV, CV = wd (comp kk st (blockWords bs)) := ⟨_, rfl⟩
  obtain ⟨SV, hSV⟩ : ∃ SV, SV = wd st := ⟨_, rfl⟩
  obtain ⟨FX, hFX⟩ : ∃ FX, FX = wd (kk ++ hh) := ⟨_, rfl⟩
  obtain ⟨HH, hHH⟩ : ∃ HH, HH = wd hh := ⟨_, rfl⟩
  obtain ⟨TX, hTX⟩ : ∃ TX, TX = tx (bytesL bs) := ⟨_, rfl⟩
  have CC := Lib.hid fun (W : World) (h1 : KAt W) (h2 : Reads W W.heap.size A (u8s bs)) => show Calls Tryd.prog 8 #[.agg SV, .slice A 64 c] W fun e w' => e = .returned (.tuple #[.agg CV, .int .i64 0]) ∧ Below W.heap.size W w' from by
    rw [hSV, hCV]; exact comp_any st hs hst A c bs hbs hx W h1 h2
  have CK := Lib.hid fun (W : World) => show Calls Tryd.prog 10 #[] W fun e w' => ∃ v, e = .returned v ∧ Is (.agg FX) v w' ∧ Below W.heap.size W w' from by
    rw [hFX]; exact (known_any W).mono fun e w' ⟨a, b⟩ => ⟨_, a, rfl, b⟩
  have CI := Lib.hid fun (W : World) => show Calls Tryd.prog 11 #[] W fun e w' => ∃ v, e = .returned v ∧ Is (.agg HH) v w' ∧ Below W.heap.size W w' from by
    rw [hHH]; exact (init_any W).mono fun e w' ⟨a, b⟩ => ⟨_, a, rfl, b⟩
  have CRK := Lib.hid fun (W : World) => show Calls Tryd.prog 9 #[] W fun e w' => e = .returned (.agg FX) ∧ Below W.heap.size W w' from by
    rw [hFX]; exact reck_any W
  have CR := Lib.hid fun (W : World) => show Calls Tryd.prog 12 #[.agg FX, .agg SV, .string TX] W fun e w' => ∃ v, e = .returned v ∧ Is (.agg CV) v w' ∧ Below W.heap.size W w' from by
    have h := rcomp_any st hs hst TX (by rw [hTX, tx_size]; simp [bytesL, hbs]) W
    have e : nats (tl TX) = bs := by rw [hTX, tl_tx, nats_bytesL bs hx]
    rw [e] at h
    rw [hFX, hSV, hCV]
    exact h.mono fun e w' ⟨a, b⟩ => ⟨_, a, rfl, b⟩
  have EQF := Lib.hid fun (W : World) => show (binOp .eql 31 (.agg FX) (.agg FX)).run Tryd.prog W = .ok (.bool true) W from by rw [hFX]; exact eqF W
  have EQH := Lib.hid fun (W : World) => show (binOp .eql 23 (.agg HH) (.agg HH)).run Tryd.prog W = .ok (.bool true) W from by rw [hHH]; exact eq8_words hh rfl (by decide) W
  have EQC := Lib.hid fun (W : World) => show (binOp .eql 23 (.agg CV) (.agg CV)).run Tryd.prog W = .ok (.bool true) W from by rw [hCV]; exact eq8_words _ (comp_length _ _ _) (comp_lt _ _ _) W
  have CV8 := Lib.hid (show CV.size = 8 from by rw [hCV, wd_size]; rfl)
  have SV8 := Lib.hid (show SV.size = 8 from by rw [hSV, wd_size, hs])
  have FX72 := Lib.hid (show FX.size = 72 from by rw [hFX, wd_size]; rfl)
  have CV1 := Lib.hid (show CV.all (·.oneCell') = true from by rw [hCV]; exact wd_one _)
  have FX1 := Lib.hid (show FX.all (·.oneCell') = true from by rw [hFX]; exact wd_one _)
  have FL := Lib.hid fun (W : World) (b : Nat) (h : RowAt W b 31 FX) => show (loadVar 23 ⟨b, 64, none⟩).run Tryd.prog W = .ok (.agg HH) W from by rw [hHH]; exact fixed_load (hFX ▸ h)
  have CT := Lib.hid fun (W : World) (B : Nat) (h : Reads W B A (u8s bs)) => show (convert 24 9 (.slice A 64 c)).run Tryd.prog W = .ok (.string TX) W from by rw [hTX]; exact conv_reads hbs hx h
  rw [← hSV]
  have HK := Lib.hid hk
  have HR := Lib.hid hr
  have hz := (zero_of_info (P := Tryd.prog) (t := 31) (v := .agg (wd (List.replicate 72 0))) (n := 72) (by kernel_rfl)).1
  clear hs hst hbs hx hk hr hCV hSV hFX hHH hTX
  go_enter Tryd.func3, Tryd.ntmps3
  go_wp2_with fail
  refine (awake_any _ (HK.out.next ((Below.refl _ w).alloc (Nat.le_refl _) _))).mono ?_
  rintro e w1 ⟨rfl, b1⟩
  have R2 : RowAt w1 w.heap.size 23 SV := (RowAt.new w _ _).below b1 (by simp)
  have B1 := Lib.hid (((Below.refl _ w).alloc (Nat.le_refl _) (.cells SV 23)).trans (b1.mono (by simp)))
  have H2 := Lib.hid R2
  have l1 : w.heap.size < w1.heap.size := R2.lt
  clear b1 R2
  go_wp2_with (first
    | refine wpList_load_row rfl 23 (.tmp 2) rfl w.heap.size rfl 23 SV (0, 0) _ H2.out Tryd.underlying23 rfl (by rw [SV8.out]; exact size8) ?_
    | (refine (CC.out w1 (HK.out.next B1.out) ((HR.out.below B1.out).more B1.out.size)).mono ?_; rintro e w2 ⟨rfl, b2⟩; have B2 := Lib.hid b2; clear b2)
    | refine wpList_store_row rfl 23 (.tmp 5) (.tmp 14) rfl w2.heap.size CV rfl rfl 23 _ (RowAt.new _ _ _) (by rw [CV8.out]; exact size8) (by rw [CV8.out]; rfl) CV1.out ?_
    | (refine (CRK.out _).mono ?_; rintro e w3 ⟨rfl, b3⟩; have B3 := Lib.hid b3; clear b3)
    | refine wpList_store_row rfl 31 (.tmp 7) (.tmp 26) rfl w3.heap.size FX rfl rfl 31 _ (RowAt.new _ _ _) (by rw [FX72.out]; exact size72) (by rw [FX72.out]; rfl) FX1.out ?_)
  simp only [Act.put]
  generalize hW4 : World.setRow _ _ _ = w4
  obtain ⟨b2, hb2⟩ : ∃ b2, b2 = w.heap.size := ⟨_, rfl⟩
  obtain ⟨b5, hb5⟩ : ∃ b5, b5 = w2.heap.size := ⟨_, rfl⟩
  obtain ⟨b7, hb7⟩ : ∃ b7, b7 = w3.heap.size := ⟨_, rfl⟩
  have l2 := B2.out.size
  have l3 : w2.heap.size < w3.heap.size := by have := B3.out.size; simp only [setRow_size, World.size_alloc] at this; omega
  have BB2 : Below w2.heap.size w2 w3 := (below_setRow ((Below.refl _ w2).alloc (Nat.le_refl _) _) (Nat.le_refl _) CV).trans (B3.out.mono (by simp only [setRow_size, World.size_alloc]; omega))
  have BB3 : Below w3.heap.size w3 w4 := by subst hW4; exact below_setRow ((Below.refl _ w3).alloc (Nat.le_refl _) _) (Nat.le_refl _) _
  have R7 : RowAt w4 b7 31 FX := by subst hW4; rw [hb7]; exact (RowAt.new _ _ _).setRow _
  have R5 : RowAt w4 b5 23 CV := by
    rw [hb5]
    exact (((RowAt.new w2 _ _).setRow CV).below B3.out (by simp only [setRow_size, World.size_alloc]; omega)).below BB3 (by omega)
  have R2 : RowAt w4 b2 23 SV := by
    rw [hb2]
    exact ((H2.out.below B2.out (by omega)).below BB2 (by omega)).below BB3 (by omega)
  have BW : Below w.heap.size w w4 := ((B1.out.trans (B2.out.mono (by omega))).trans (BB2.mono (by omega))).trans (BB3.mono (by omega))
  have KP := Lib.hid fun (W : World) (hb : Below w4.heap.size w4 W) => show (loadVar 31 ⟨b7, 0, none⟩).run Tryd.prog W = .ok (.agg FX) W ∧ (loadVar 23 ⟨b7, 64, none⟩).run Tryd.prog W = .ok (.agg HH) W ∧ (loadVar 23 ⟨b5, 0, none⟩).run Tryd.prog W = .ok (.agg CV) W ∧ (loadVar 23 ⟨b2, 0, none⟩).run Tryd.prog W = .ok (.agg SV) W ∧ (convert 24 9 (.slice A 64 c)).run Tryd.prog W = .ok (.string TX) W from
    ⟨run_loadVar_row (P := Tryd.prog) _ _ 31 31 FX (0, 0) _ (R7.below hb R7.lt) Tryd.underlying31 rfl (by rw [FX72.out]; exact size72), FL.out W b7 (R7.below hb R7.lt),
      (R5.below hb R5.lt).load Tryd.underlying23 (by rw [CV8.out]; exact size8), (R2.below hb R2.lt).load Tryd.underlying23 (by rw [SV8.out]; exact size8), CT.out W _ (HR.out.below (below_step BW hb))⟩
  have HBW := Lib.hid BW
  rw [← hb7, ← hb5, ← hb2]
  clear hW4 hb2 hb5 hb7 l2 l3 BB2 BB3 R7 R5 R2 BW l1
  refine wp_region_text [Is (.int .i64 0), Is (.bool true), Is (.bool true), Is (.agg FX), Is (.agg FX), Is (.bool true), Is (.bool true), Is (.bool true), Is (.agg HH), Is (.pointer (some ⟨b7, 64, none⟩)), Is (.agg HH), Is (.bool true), Is (.bool true), Is (.bool true), Is (.agg CV), Is (.agg FX), Is (.agg SV), Is (.slice A 64 c), Is (.string TX), Is (.agg CV), Is (.bool true), Is (.bool true), Is (.bool true)] (by kernel_rfl) (by kernel_rfl) rfl ⟨stable_is _, stable_is _, stable_is _, stable_is _, stable_is _, stable_is _, stable_is _, stable_is _, stable_is _, stable_is _, stable_is _, stable_is _, stable_is _, stable_is _, stable_is _, stable_is _, stable_is _, stable_is _, stable_is _, stable_is _, stable_is _, stable_is _, stable_is _, trivial⟩ ⟨?_, ?_, ?_, ?_, ?_, ?_, ?_, ?_, ?_, ?_, ?_, ?_, ?_, ?_, ?_, ?_, ?_, ?_, ?_, ?_, ?_, ?_, ?_, trivial⟩ ?_
  · intro a w C
    exact part_on (wanted_free rfl _) (op_move (.inl rfl) (C.was 6 (by kernel_rfl)))
  · intro a w C
    exact part_on (wanted_free rfl _) (op_bin rfl (C.on (j := 0) (by kernel_rfl) rfl rfl) rfl rfl (by simp [go_sem]) rfl)
  · intro a w C
    exact part_on (wanted_free rfl _) (op_move (.inl rfl) (C.on (j := 1) (by kernel_rfl) rfl rfl))
  · intro a w C
    exact part_on (wanted_on (j := 2) rfl rfl rfl (C.on (j := 2) (by kernel_rfl) rfl rfl)) (op_value (load_run _ _ _ _ _ _ _ rfl (C.was 7 (by kernel_rfl)) ((KP.out w C.below).1)) rfl)
  · intro a w C
    exact part_on (wanted_on (j := 2) rfl rfl rfl (C.on (j := 2) (by kernel_rfl) rfl rfl)) (op_call0 rfl (reg_enters Tryd.func10 (by kernel_rfl) (by kernel_rfl)) (CK.out w))
  · intro a w C
    exact part_on (wanted_on (j := 2) rfl rfl rfl (C.on (j := 2) (by kernel_rfl) rfl rfl)) (op_value (eql_run _ _ _ _ _ _ rfl (C.on (j := 3) (by kernel_rfl) rfl rfl) (C.on (j := 4) (by kernel_rfl) rfl rfl) (by kernel_rfl) (EQF.out w)) rfl)
  · intro a w C
    exact part_on (wanted_free rfl _) (op_pick (k := true) rfl (C.on (j := 2) (by kernel_rfl) rfl rfl) (C.on (j := 5) (by kernel_rfl) rfl rfl))
  · intro a w C
    exact part_on (wanted_free rfl _) (op_move (.inl rfl) (C.on (j := 6) (by kernel_rfl) rfl rfl))
  · intro a w C
    exact part_on (wanted_on (j := 7) rfl rfl rfl (C.on (j := 7) (by kernel_rfl) rfl rfl)) (op_call0 rfl (reg_enters Tryd.func11 (by kernel_rfl) (by kernel_rfl)) (CI.out w))
  · intro a w C
    exact part_on (wanted_on (j := 7) rfl rfl rfl (C.on (j := 7) (by kernel_rfl) rfl rfl)) (op_value (fieldF_run _ _ _ _ _ rfl (C.was 7 (by kernel_rfl))) rfl)
  · intro a w C
    exact part_on (wanted_on (j := 7) rfl rfl rfl (C.on (j := 7) (by kernel_rfl) rfl rfl)) (op_value (load_run _ _ _ _ _ _ _ rfl (C.on (j := 9) (by kernel_rfl) rfl rfl) ((KP.out w C.below).2.1)) rfl)
  · intro a w C
    exact part_on (wanted_on (j := 7) rfl rfl rfl (C.on (j := 7) (by kernel_rfl) rfl rfl)) (op_value (eql_run _ _ _ _ _ _ rfl (C.on (j := 8) (by kernel_rfl) rfl rfl) (C.on (j := 10) (by kernel_rfl) rfl rfl) (by kernel_rfl) (EQH.out w)) rfl)
  · intro a w C
    exact part_on (wanted_free rfl _) (op_pick (k := true) rfl (C.on (j := 7) (by kernel_rfl) rfl rfl) (C.on (j := 11) (by kernel_rfl) rfl rfl))
  · intro a w C
    exact part_on (wanted_free rfl _) (op_move (.inl rfl) (C.on (j := 12) (by kernel_rfl) rfl rfl))
  · intro a w C
    exact part_on (wanted_on (j := 13) rfl rfl rfl (C.on (j := 13) (by kernel_rfl) rfl rfl)) (op_value (load_run _ _ _ _ _ _ _ rfl (C.was 5 (by kernel_rfl)) ((KP.out w C.below).2.2.1)) rfl)
  · intro a w C
    exact part_on (wanted_on (j := 13) rfl rfl rfl (C.on (j := 13) (by kernel_rfl) rfl rfl)) (op_value (load_run _ _ _ _ _ _ _ rfl (C.was 7 (by kernel_rfl)) ((KP.out w C.below).1)) rfl)
  · intro a w C
    exact part_on (wanted_on (j := 13) rfl rfl rfl (C.on (j := 13) (by kernel_rfl) rfl rfl)) (op_value (load_run _ _ _ _ _ _ _ rfl (C.was 2 (by kernel_rfl)) ((KP.out w C.below).2.2.2.1)) rfl)
  · intro a w C
    exact part_on (wanted_on (j := 13) rfl rfl rfl (C.on (j := 13) (by kernel_rfl) rfl rfl)) (op_move (.inl rfl) (C.was 1 (by kernel_rfl)))
  · intro a w C
    exact part_on (wanted_on (j := 13) rfl rfl rfl (C.on (j := 13) (by kernel_rfl) rfl rfl)) (op_conv rfl (C.on (j := 17) (by kernel_rfl) rfl rfl) ((KP.out w C.below).2.2.2.2) rfl)
  · intro a w C
    exact part_on (wanted_on (j := 13) rfl rfl rfl (C.on (j := 13) (by kernel_rfl) rfl rfl)) (op_call3 rfl (reg_enters Tryd.func12 (by kernel_rfl) (by kernel_rfl)) (C.on (j := 15) (by kernel_rfl) rfl rfl) (C.on (j := 16) (by kernel_rfl) rfl rfl) (C.on (j := 18) (by kernel_rfl) rfl rfl) (CR.out w))
  · intro a w C
    exact part_on (wanted_on (j := 13) rfl rfl rfl (C.on (j := 13) (by kernel_rfl) rfl rfl)) (op_value (eql_run _ _ _ _ _ _ rfl (C.on (j := 14) (by kernel_rfl) rfl rfl) (C.on (j := 19) (by kernel_rfl) rfl rfl) (by kernel_rfl) (EQC.out w)) rfl)
  · intro a w C
    exact part_on (wanted_free rfl _) (op_pick (k := true) rfl (C.on (j := 13) (by kernel_rfl) rfl rfl) (C.on (j := 20) (by kernel_rfl) rfl rfl))
  · intro a w C
    exact part_on (wanted_free rfl _) (op_move (.inr rfl) (C.on (j := 21) (by kernel_rfl) rfl rfl))
  rintro wF hbF _ rfl _ rfl _ rfl _ rfl _ rfl _ rfl _ rfl _ rfl _ rfl _ rfl _ rfl _ rfl _ rfl _ rfl _ rfl _ rfl _ rfl _ rfl _ rfl _ rfl _ rfl _ rfl _ rfl
  simp only [Fin, setAt, Exit.then, List.setIfInBounds_toArray, List.set_cons_succ, List.set_cons_zero]
  go_wp2
  go_ret
  exact ⟨rfl, below_step HBW.out hbF⟩
end Go.Proofs.YtdgfdgdekocodaaDoor

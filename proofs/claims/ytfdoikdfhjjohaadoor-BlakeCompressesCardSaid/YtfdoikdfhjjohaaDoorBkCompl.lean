/- The law BlakeCompresses, for every state of eight words, every block, every number and every mark. Condition: the package's table lies at its place. -/
import Derived.Test.YtfdoikdfhjjohaaDoorBkMixes
import Derived.Test.YtfdoikdfhjjohaaDoorBkReck
import Derived.Test.YtfdoikdfhjjohaaDoorBkRcomp
import Derived.Test.YtfdoikdfhjjohaaDoorBkSum
namespace Go.Proofs.YtfdoikdfhjjohaaDoor
set_option maxRecDepth 50000
open Go.RowKit Bl

theorem load_run (w : World) (ty : TypeId) (ad : Addr) (v : Value) (ev : Operand → Value) (x : Operand) (o : Oper) (hop : o.op = .load ty x) (hx : ev x = .pointer (some ad)) (hc : (loadVar ty ad).run Tryd.prog w = .ok v w) : (execOp ev o).run Tryd.prog w = .ok (.value v) w := by
  simp [execOp, hop, hx, Instr.loadAt, Instr.sureAddr, hc]
theorem op_call0 {P : Program} {p : Value → World → Prop} {o : Oper} {a : Act} {w : World} {Q : Exit → Act → World → Prop} {f : FuncId} {ts : Array TypeId} (ho : o.op = .call { callee := .value (.func f), args := #[], argTypes := ts }) (he : ∀ (args : Array Value) (w : World), (callFunc f args).run P w = .ok (.enter f args) w)
    (hc : Calls P f #[] w fun e w' => ∃ v, e = .returned v ∧ p v w' ∧ Below w.heap.size w w') : Does P p o a w Q := op_call ho he hc
theorem op_call5 {P : Program} {p : Value → World → Prop} {o : Oper} {a : Act} {w : World} {Q : Exit → Act → World → Prop} {f : FuncId} {x1 x2 x3 x4 x5 : Operand} {ts : Array TypeId} {v1 v2 v3 v4 v5 : Value} (ho : o.op = .call { callee := .value (.func f), args := #[x1, x2, x3, x4, x5], argTypes := ts }) (he : ∀ (args : Array Value) (w : World), (callFunc f args).run P w = .ok (.enter f args) w)
    (h1 : a.eval x1 = v1) (h2 : a.eval x2 = v2) (h3 : a.eval x3 = v3) (h4 : a.eval x4 = v4) (h5 : a.eval x5 = v5) (hc : Calls P f #[v1, v2, v3, v4, v5] w fun e w' => ∃ v, e = .returned v ∧ p v w' ∧ Below w.heap.size w w') : Does P p o a w Q := by
  subst h1; subst h2; subst h3; subst h4; subst h5
  exact op_call ho he hc
theorem nb_bytesL (bs : List Nat) (h : ∀ x ∈ bs, x < 256) : nb (tx (bytesL bs)) = bs := by
  unfold nb tx bytesL
  show ((bs.map UInt8.ofNat).map UInt8.toNat) = bs
  rw [List.map_map]
  conv => rhs; rw [← List.map_id bs]
  refine List.map_congr_left fun x hx => ?_
  have := h x hx
  simp [Function.comp, Nat.mod_eq_of_lt this]
/-- bytes that came in, as a text -/
theorem conv_reads {w : World} {B : Nat} {A : Option Addr} {c : Nat} {bs : List Nat} (hl : bs.length = 128) (_hx : ∀ x ∈ bs, x < 256) (h : Reads w B A (u8s bs)) : (convert 24 9 (.slice A 128 c)).run Tryd.prog w = .ok (.string (tx (bytesL bs))) w := by
  obtain ⟨g, off, rfl, _, _⟩ := h 0 (by rw [u8s_length]; omega)
  have e : tx (bytesL bs) = strOfNums (bs.map fun b : Nat => (b : Int)) := by
    unfold tx strOfNums bytesL
    congr 1
    congr 1
    rw [List.map_map]
    refine List.map_congr_left fun b hb => ?_
    simp [Function.comp]
  rw [e]
  refine run_convert_bytes_arg w 24 5 Tryd.underlying24 Tryd.underlying5 g off 128 c _ (by simpa using hl) (fun i hi => ?_) 9 Tryd.underlying9
  obtain ⟨b', off', hb', _, hc⟩ := h i (by rw [u8s_length]; omega)
  cases hb'
  rw [hc, u8_at]
  simp [List.getElem?_eq_getElem (show i < bs.length by omega)]

set_option maxHeartbeats 1600000 in
theorem bcomp_bad (st : List Nat) (hs : st.length = 8) (A : Option Addr) (n c : Nat) (hn : n ≠ 128) (t : Int) (last : Bool) (w : World) (hk : QAt w) :
    Calls Tryd.prog 3 #[.agg (wq st), .slice A n c, .int .u64 t, .bool last] w fun e w' => e = .returned (.bool true) ∧ Below w.heap.size w w' := by
  obtain ⟨SV, hSV⟩ : ∃ SV, SV = wq st := ⟨_, rfl⟩
  obtain ⟨ZV, hZV⟩ : ∃ ZV, ZV = wq (List.replicate 8 0) := ⟨_, rfl⟩
  have SV8 := Lib.hid (show SV.size = 8 from by rw [hSV, wq_size, hs])
  have ZV8 := Lib.hid (show ZV.size = 8 from by rw [hZV, wq_size]; simp)
  have ZV1 := Lib.hid (show ZV.all (·.oneCell') = true from by rw [hZV]; exact wq_one _)
  have CB := Lib.hid fun (W : World) => show Calls Tryd.prog 8 #[.agg SV, .slice A n c, .int .u64 t, .bool last] W fun e w' => e = .returned (.tuple #[.agg ZV, .int .i64 9]) ∧ Below W.heap.size W w' from by rw [hSV, hZV]; exact comp_bad st A n c hn t last W
  have e0 : (#[.int .u64 0, .int .u64 0, .int .u64 0, .int .u64 0, .int .u64 0, .int .u64 0, .int .u64 0, .int .u64 0] : Array Value) = ZV := by rw [hZV]; rfl
  have EQ0 := Lib.hid fun (W : World) => show (binOp .eql 23 (.agg ZV) (.agg #[.int .u64 0, .int .u64 0, .int .u64 0, .int .u64 0, .int .u64 0, .int .u64 0, .int .u64 0, .int .u64 0])).run Tryd.prog W = .ok (.bool true) W from by rw [e0, hZV]; exact same_q8 _ (by simp) (by simp) W
  have hg8 : Tryd.prog.eqGuardType Tryd.prog.depth 23 = false := by kernel_rfl
  have hne : ((n : Int) != 128) = true := by simp; omega
  have hne2 : ¬ (n : Int) = 128 := by omega
  rw [← hSV]
  have HK := Lib.hid hk
  clear hs hk hSV e0 hZV
  go_enter Tryd.func3, Tryd.ntmps3
  go_wp2_with fail
  refine (awake_any _ (HK.out.next ((Below.refl _ w).alloc (Nat.le_refl _) _))).mono ?_
  rintro e w1 ⟨rfl, b1⟩
  have R2 : RowAt w1 w.heap.size 23 SV := (RowAt.new w _ _).below b1 (by simp)
  have B1 := Lib.hid (((Below.refl _ w).alloc (Nat.le_refl _) (.cells SV 23)).trans (b1.mono (by simp)))
  have H2 := Lib.hid R2
  clear b1 R2
  go_wp2_with (first
    | refine wpList_load_row rfl 23 (.tmp 4) rfl w.heap.size rfl 23 SV (0, 0) _ H2.out Tryd.underlying23 rfl (by rw [SV8.out]; exact q_size8) ?_
    | (refine (CB.out w1).mono ?_; rintro e w2 ⟨rfl, b2⟩; have B2 := Lib.hid b2; clear b2)
    | refine wpList_store_row rfl 23 (.tmp 9) (.tmp 20) rfl w2.heap.size ZV rfl rfl 23 _ (RowAt.new _ _ _) (by rw [ZV8.out]; exact q_size8) (by rw [ZV8.out]; rfl) ZV1.out ?_
    | refine wpList_value_want rfl _ (load_run _ _ _ (.agg ZV) _ _ _ rfl rfl (((RowAt.new _ _ _).setRow ZV).load Tryd.underlying23 (by rw [ZV8.out]; exact q_size8))) ?_
    | refine wpList_value_want rfl (.bool true) (eql_run _ _ _ _ _ _ rfl rfl rfl hg8 (EQ0.out _)) ?_)
  go_ret
  refine ⟨rfl, ?_⟩
  have hs2 := B2.out.size
  exact below_setRow ((below_step B1.out B2.out).alloc (by have := B1.out.size; omega) _) (by have := B1.out.size; omega) _

set_option maxHeartbeats 3200000 in
theorem bcomp_good (st : List Nat) (hs : st.length = 8) (hst : okw st) (A : Option Addr) (c : Nat) (bs : List Nat) (hbs : bs.length = 128) (hx : ∀ x ∈ bs, x < 256) (t : Nat) (ht : t < 18446744073709551616) (last : Bool) (w : World) (hk : QAt w) (hr : Reads w w.heap.size A (u8s bs)) :
    Calls Tryd.prog 3 #[.agg (wq st), .slice A 128 c, .int .u64 (t : Int), .bool last] w fun e w' => e = .returned (.bool true) ∧ Below w.heap.size w w' := by
  obtain ⟨CV, hCV⟩ : ∃ CV, CV = wq (comp st (blockW bs) t last) := ⟨_, rfl⟩
  obtain ⟨SV, hSV⟩ : ∃ SV, SV = wq st := ⟨_, rfl⟩
  obtain ⟨FX, hFX⟩ : ∃ FX, FX = wq iv := ⟨_, rfl⟩
  obtain ⟨TX, hTX⟩ : ∃ TX, TX = tx (bytesL bs) := ⟨_, rfl⟩
  have hcl : (comp st (blockW bs) t last).length = 8 := by rw [comp_length, hs]
  have hck : okw (comp st (blockW bs) t last) := comp_ok hst _ ht _
  have CC := Lib.hid fun (W : World) (h1 : QAt W) (h2 : Reads W W.heap.size A (u8s bs)) => show Calls Tryd.prog 8 #[.agg SV, .slice A 128 c, .int .u64 (t : Int), .bool last] W fun e w' => e = .returned (.tuple #[.agg CV, .int .i64 0]) ∧ Below W.heap.size W w' from by
    rw [hSV, hCV]; exact comp_any st hs hst A c bs hbs hx t ht last W h1 h2
  have CK := Lib.hid fun (W : World) => show Calls Tryd.prog 10 #[] W fun e w' => ∃ v, e = .returned v ∧ Is (.agg FX) v w' ∧ Below W.heap.size W w' from by
    rw [hFX]; exact (rknown_any W).mono fun e w' ⟨a, b⟩ => ⟨_, a, rfl, b⟩
  have CI := Lib.hid fun (W : World) => show Calls Tryd.prog 11 #[] W fun e w' => ∃ v, e = .returned v ∧ Is (.agg FX) v w' ∧ Below W.heap.size W w' from by
    rw [hFX]; exact (init_any W).mono fun e w' ⟨a, b⟩ => ⟨_, a, rfl, b⟩
  have CRK := Lib.hid fun (W : World) => show Calls Tryd.prog 9 #[] W fun e w' => e = .returned (.agg FX) ∧ Below W.heap.size W w' from by
    rw [hFX]; exact reck_any W
  have CR := Lib.hid fun (W : World) => show Calls Tryd.prog 12 #[.agg FX, .agg SV, .string TX, .int .u64 (t : Int), .bool last] W fun e w' => ∃ v, e = .returned v ∧ Is (.agg CV) v w' ∧ Below W.heap.size W w' from by
    have h := rcomp_any st hs hst TX (by rw [hTX, tx_size]; simp [bytesL, hbs]) t ht last W
    have e : nb TX = bs := by rw [hTX, nb_bytesL bs hx]
    rw [e] at h
    rw [hFX, hSV, hCV]
    exact h.mono fun e w' ⟨a, b⟩ => ⟨_, a, rfl, b⟩
  have EQF := Lib.hid fun (W : World) => show (binOp .eql 29 (.agg FX) (.agg FX)).run Tryd.prog W = .ok (.bool true) W from by rw [hFX]; exact same_qf iv rfl iv_ok W
  have EQH := Lib.hid fun (W : World) => show (binOp .eql 23 (.agg FX) (.agg FX)).run Tryd.prog W = .ok (.bool true) W from by rw [hFX]; exact same_q8 iv rfl iv_ok W
  have EQC := Lib.hid fun (W : World) => show (binOp .eql 23 (.agg CV) (.agg CV)).run Tryd.prog W = .ok (.bool true) W from by rw [hCV]; exact same_q8 _ hcl hck W
  have CV8 := Lib.hid (show CV.size = 8 from by rw [hCV, wq_size, hcl])
  have SV8 := Lib.hid (show SV.size = 8 from by rw [hSV, wq_size, hs])
  have FX8 := Lib.hid (show FX.size = 8 from by rw [hFX, wq_size]; rfl)
  have CV1 := Lib.hid (show CV.all (·.oneCell') = true from by rw [hCV]; exact wq_one _)
  have FX1 := Lib.hid (show FX.all (·.oneCell') = true from by rw [hFX]; exact wq_one _)
  have CT := Lib.hid fun (W : World) (B : Nat) (h : Reads W B A (u8s bs)) => show (convert 24 9 (.slice A 128 c)).run Tryd.prog W = .ok (.string TX) W from by rw [hTX]; exact conv_reads hbs hx h
  rw [← hSV]
  have HK := Lib.hid hk
  have HR := Lib.hid hr
  clear hs hst hbs hx hk hr hCV hSV hFX hTX hcl hck ht
  go_enter Tryd.func3, Tryd.ntmps3
  go_wp2_with fail
  refine (awake_any _ (HK.out.next ((Below.refl _ w).alloc (Nat.le_refl _) _))).mono ?_
  rintro e w1 ⟨rfl, b1⟩
  have R2 : RowAt w1 w.heap.size 23 SV := (RowAt.new w _ _).below b1 (by simp)
  have B1 := Lib.hid (((Below.refl _ w).alloc (Nat.le_refl _) (.cells SV 23)).trans (b1.mono (by simp)))
  have H2 := Lib.hid R2
  have l1 : w.heap.size < w1.heap.size := R2.lt
  clear b1 R2
  go_wp2_with (first
    | refine wpList_load_row rfl 23 (.tmp 4) rfl w.heap.size rfl 23 SV (0, 0) _ H2.out Tryd.underlying23 rfl (by rw [SV8.out]; exact q_size8) ?_
    | (refine (CC.out w1 (HK.out.next B1.out) ((HR.out.below B1.out).more B1.out.size)).mono ?_; rintro e w2 ⟨rfl, b2⟩; have B2 := Lib.hid b2; clear b2)
    | refine wpList_store_row rfl 23 (.tmp 9) (.tmp 20) rfl w2.heap.size CV rfl rfl 23 _ (RowAt.new _ _ _) (by rw [CV8.out]; exact q_size8) (by rw [CV8.out]; rfl) CV1.out ?_
    | (refine (CRK.out _).mono ?_; rintro e w3 ⟨rfl, b3⟩; have B3 := Lib.hid b3; clear b3)
    | refine wpList_store_row rfl 29 (.tmp 11) (.tmp 32) rfl w3.heap.size FX rfl rfl 29 _ (RowAt.new _ _ _) (by rw [FX8.out]; exact q_fixed8) (by rw [FX8.out]; rfl) FX1.out ?_)
  simp only [Act.put]
  generalize hW4 : World.setRow _ _ _ = w4
  obtain ⟨b4, hb4⟩ : ∃ b4, b4 = w.heap.size := ⟨_, rfl⟩
  obtain ⟨b9, hb9⟩ : ∃ b9, b9 = w2.heap.size := ⟨_, rfl⟩
  obtain ⟨b11, hb11⟩ : ∃ b11, b11 = w3.heap.size := ⟨_, rfl⟩
  have l2 := B2.out.size
  have l3 : w2.heap.size < w3.heap.size := by have := B3.out.size; simp only [setRow_size, World.size_alloc] at this; omega
  have BB2 : Below w2.heap.size w2 w3 := (below_setRow ((Below.refl _ w2).alloc (Nat.le_refl _) _) (Nat.le_refl _) CV).trans (B3.out.mono (by simp only [setRow_size, World.size_alloc]; omega))
  have BB3 : Below w3.heap.size w3 w4 := by subst hW4; exact below_setRow ((Below.refl _ w3).alloc (Nat.le_refl _) _) (Nat.le_refl _) _
  have R11 : RowAt w4 b11 29 FX := by subst hW4; rw [hb11]; exact (RowAt.new _ _ _).setRow _
  have R9 : RowAt w4 b9 23 CV := by
    rw [hb9]
    exact (((RowAt.new w2 _ _).setRow CV).below B3.out (by simp only [setRow_size, World.size_alloc]; omega)).below BB3 (by omega)
  have R4 : RowAt w4 b4 23 SV := by
    rw [hb4]
    exact ((H2.out.below B2.out (by omega)).below BB2 (by omega)).below BB3 (by omega)
  have BW : Below w.heap.size w w4 := ((B1.out.trans (B2.out.mono (by omega))).trans (BB2.mono (by omega))).trans (BB3.mono (by omega))
  have KP := Lib.hid fun (W : World) (hb : Below w4.heap.size w4 W) => show (loadVar 29 ⟨b11, 0, none⟩).run Tryd.prog W = .ok (.agg FX) W ∧ (loadVar 23 ⟨b9, 0, none⟩).run Tryd.prog W = .ok (.agg CV) W ∧ (loadVar 23 ⟨b4, 0, none⟩).run Tryd.prog W = .ok (.agg SV) W ∧ (convert 24 9 (.slice A 128 c)).run Tryd.prog W = .ok (.string TX) W from
    ⟨(R11.below hb R11.lt).load Tryd.underlying29 (by rw [FX8.out]; exact q_fixed8),
      (R9.below hb R9.lt).load Tryd.underlying23 (by rw [CV8.out]; exact q_size8), (R4.below hb R4.lt).load Tryd.underlying23 (by rw [SV8.out]; exact q_size8), CT.out W _ (HR.out.below (below_step BW hb))⟩
  have HBW := Lib.hid BW
  rw [← hb11, ← hb9, ← hb4]
  clear hW4 hb4 hb9 hb11 l2 l3 BB2 BB3 R11 R9 R4 BW l1
  refine wp_region_text [Is (.int .i64 0), Is (.bool true), Is (.bool true), Is (.agg FX), Is (.agg FX), Is (.bool true), Is (.bool true), Is (.bool true), Is (.agg FX), Is (.agg FX), Is (.bool true), Is (.bool true), Is (.bool true), Is (.agg CV), Is (.agg FX), Is (.agg SV), Is (.slice A 128 c), Is (.string TX), Is (.int .u64 (t : Int)), Is (.bool last), Is (.agg CV), Is (.bool true), Is (.bool true), Is (.bool true)] (by kernel_rfl) (by kernel_rfl) rfl ⟨stable_is _, stable_is _, stable_is _, stable_is _, stable_is _, stable_is _, stable_is _, stable_is _, stable_is _, stable_is _, stable_is _, stable_is _, stable_is _, stable_is _, stable_is _, stable_is _, stable_is _, stable_is _, stable_is _, stable_is _, stable_is _, stable_is _, stable_is _, stable_is _, trivial⟩ ⟨?_, ?_, ?_, ?_, ?_, ?_, ?_, ?_, ?_, ?_, ?_, ?_, ?_, ?_, ?_, ?_, ?_, ?_, ?_, ?_, ?_, ?_, ?_, ?_, trivial⟩ ?_
  · intro a w C
    exact part_on (wanted_free rfl _) (op_move (.inl rfl) (C.was 10 (by kernel_rfl)))
  · intro a w C
    exact part_on (wanted_free rfl _) (op_bin rfl (C.on (j := 0) (by kernel_rfl) rfl rfl) rfl rfl (by simp [go_sem]) rfl)
  · intro a w C
    exact part_on (wanted_free rfl _) (op_move (.inl rfl) (C.on (j := 1) (by kernel_rfl) rfl rfl))
  · intro a w C
    exact part_on (wanted_on (j := 2) rfl rfl rfl (C.on (j := 2) (by kernel_rfl) rfl rfl)) (op_value (load_run _ _ _ _ _ _ _ rfl (C.was 11 (by kernel_rfl)) ((KP.out w C.below).1)) rfl)
  · intro a w C
    exact part_on (wanted_on (j := 2) rfl rfl rfl (C.on (j := 2) (by kernel_rfl) rfl rfl)) (op_call0 rfl (reg_enters Tryd.func10 (by kernel_rfl) (by kernel_rfl)) (CK.out w))
  · intro a w C
    exact part_on (wanted_on (j := 2) rfl rfl rfl (C.on (j := 2) (by kernel_rfl) rfl rfl)) (op_value (eql_run _ _ _ _ _ _ rfl (C.on (j := 3) (by kernel_rfl) rfl rfl) (C.on (j := 4) (by kernel_rfl) rfl rfl) (by kernel_rfl) (EQF.out w)) rfl)
  · intro a w C
    exact part_on (wanted_free rfl _) (op_pick (k := true) rfl (C.on (j := 2) (by kernel_rfl) rfl rfl) (C.on (j := 5) (by kernel_rfl) rfl rfl))
  · intro a w C
    exact part_on (wanted_free rfl _) (op_move (.inl rfl) (C.on (j := 6) (by kernel_rfl) rfl rfl))
  · intro a w C
    exact part_on (wanted_on (j := 7) rfl rfl rfl (C.on (j := 7) (by kernel_rfl) rfl rfl)) (op_call0 rfl (reg_enters Tryd.func11 (by kernel_rfl) (by kernel_rfl)) (CI.out w))
  · intro a w C
    exact part_on (wanted_on (j := 7) rfl rfl rfl (C.on (j := 7) (by kernel_rfl) rfl rfl)) (op_value (load_run _ _ _ _ _ _ _ rfl (C.was 11 (by kernel_rfl)) ((KP.out w C.below).1)) rfl)
  · intro a w C
    exact part_on (wanted_on (j := 7) rfl rfl rfl (C.on (j := 7) (by kernel_rfl) rfl rfl)) (op_value (eql_run _ _ _ _ _ _ rfl (C.on (j := 8) (by kernel_rfl) rfl rfl) (C.on (j := 9) (by kernel_rfl) rfl rfl) (by kernel_rfl) (EQH.out w)) rfl)
  · intro a w C
    exact part_on (wanted_free rfl _) (op_pick (k := true) rfl (C.on (j := 7) (by kernel_rfl) rfl rfl) (C.on (j := 10) (by kernel_rfl) rfl rfl))
  · intro a w C
    exact part_on (wanted_free rfl _) (op_move (.inl rfl) (C.on (j := 11) (by kernel_rfl) rfl rfl))
  · intro a w C
    exact part_on (wanted_on (j := 12) rfl rfl rfl (C.on (j := 12) (by kernel_rfl) rfl rfl)) (op_value (load_run _ _ _ _ _ _ _ rfl (C.was 9 (by kernel_rfl)) ((KP.out w C.below).2.1)) rfl)
  · intro a w C
    exact part_on (wanted_on (j := 12) rfl rfl rfl (C.on (j := 12) (by kernel_rfl) rfl rfl)) (op_value (load_run _ _ _ _ _ _ _ rfl (C.was 11 (by kernel_rfl)) ((KP.out w C.below).1)) rfl)
  · intro a w C
    exact part_on (wanted_on (j := 12) rfl rfl rfl (C.on (j := 12) (by kernel_rfl) rfl rfl)) (op_value (load_run _ _ _ _ _ _ _ rfl (C.was 4 (by kernel_rfl)) ((KP.out w C.below).2.2.1)) rfl)
  · intro a w C
    exact part_on (wanted_on (j := 12) rfl rfl rfl (C.on (j := 12) (by kernel_rfl) rfl rfl)) (op_move (.inl rfl) (C.was 1 (by kernel_rfl)))
  · intro a w C
    exact part_on (wanted_on (j := 12) rfl rfl rfl (C.on (j := 12) (by kernel_rfl) rfl rfl)) (op_conv rfl (C.on (j := 16) (by kernel_rfl) rfl rfl) ((KP.out w C.below).2.2.2) rfl)
  · intro a w C
    exact part_on (wanted_on (j := 12) rfl rfl rfl (C.on (j := 12) (by kernel_rfl) rfl rfl)) (op_move (.inl rfl) (C.was 2 (by kernel_rfl)))
  · intro a w C
    exact part_on (wanted_on (j := 12) rfl rfl rfl (C.on (j := 12) (by kernel_rfl) rfl rfl)) (op_move (.inl rfl) (C.was 3 (by kernel_rfl)))
  · intro a w C
    exact part_on (wanted_on (j := 12) rfl rfl rfl (C.on (j := 12) (by kernel_rfl) rfl rfl)) (op_call5 rfl (reg_enters Tryd.func12 (by kernel_rfl) (by kernel_rfl)) (C.on (j := 14) (by kernel_rfl) rfl rfl) (C.on (j := 15) (by kernel_rfl) rfl rfl) (C.on (j := 17) (by kernel_rfl) rfl rfl) (C.on (j := 18) (by kernel_rfl) rfl rfl) (C.on (j := 19) (by kernel_rfl) rfl rfl) (CR.out w))
  · intro a w C
    exact part_on (wanted_on (j := 12) rfl rfl rfl (C.on (j := 12) (by kernel_rfl) rfl rfl)) (op_value (eql_run _ _ _ _ _ _ rfl (C.on (j := 13) (by kernel_rfl) rfl rfl) (C.on (j := 20) (by kernel_rfl) rfl rfl) (by kernel_rfl) (EQC.out w)) rfl)
  · intro a w C
    exact part_on (wanted_free rfl _) (op_pick (k := true) rfl (C.on (j := 12) (by kernel_rfl) rfl rfl) (C.on (j := 21) (by kernel_rfl) rfl rfl))
  · intro a w C
    exact part_on (wanted_free rfl _) (op_move (.inr rfl) (C.on (j := 22) (by kernel_rfl) rfl rfl))
  rintro wF hbF _ rfl _ rfl _ rfl _ rfl _ rfl _ rfl _ rfl _ rfl _ rfl _ rfl _ rfl _ rfl _ rfl _ rfl _ rfl _ rfl _ rfl _ rfl _ rfl _ rfl _ rfl _ rfl _ rfl _ rfl
  simp only [Fin, setAt, Exit.then, List.setIfInBounds_toArray, List.set_cons_succ, List.set_cons_zero]
  go_wp2
  go_ret
  exact ⟨rfl, below_step HBW.out hbF⟩
theorem bcomp_any (st : List Nat) (hs : st.length = 8) (hst : okw st) (A : Option Addr) (n c : Nat) (bs : List Nat) (hn : bs.length = n) (hx : ∀ x ∈ bs, x < 256) (t : Int) (ht : 0 ≤ t ∧ t ≤ 18446744073709551615) (last : Bool) (w : World) (hk : QAt w) (hr : Reads w w.heap.size A (u8s bs)) :
    Calls Tryd.prog 3 #[.agg (wq st), .slice A n c, .int .u64 t, .bool last] w fun e w' => e = .returned (.bool true) ∧ Below w.heap.size w w' := by
  by_cases h : n = 128
  · subst h
    obtain ⟨m, rfl⟩ := Int.eq_ofNat_of_zero_le ht.1
    exact bcomp_good st hs hst A c bs hn hx m (by omega) last w hk hr
  · exact bcomp_bad st hs A n c h t last w hk
end Go.Proofs.YtfdoikdfhjjohaaDoor

/- The law PlaceSettled by the calls' contracts. Conditions: those typed. -/
import Derived.Test.YtgjaamiileoknaaPlRows
import Derived.Test.YtgjaamiileoknaaPlGood
namespace Go.Proofs.Ytgjaamiileoknaa
set_option maxRecDepth 50000
open Go.RowKit

set_option maxHeartbeats 3200000 in
theorem settled29_bad (pa pt pm pl pz p s k i e0 : Int) (a t l m b c g z J K : Nat) (ht : t ≤ 4294967295) (hl : l ≤ 4294967295) (hg : g ≤ 4294967295) (hx : reB t l g p s k i = false)
    (CO : ∀ w : World, Calls Try.prog 7 #[pav pa pt pm pl pz] w fun e w' => e = .returned (.tuple #[spv a t l m b c g z, .int .i64 e0]) ∧ Below w.heap.size w w') (w : World) :
    Calls Try.prog 4 #[pav pa pt pm pl pz, tuv p s, .int .i64 k, .int .i64 i, .int .u32 (J : Int), .int .u32 (K : Int)] w fun e w' => e = .returned (.bool true) ∧ Below w.heap.size w w' := by
  have CP : ∀ w, Calls Try.prog 8 #[spv a t l m b c g z, tuv p s, .int .i64 k, .int .i64 i, .int .u32 (J : Int), .int .u32 (K : Int)] w fun e w' => e = .returned (.tuple #[.agg #[.int .i64 0, .int .i64 0], .int .i64 11]) ∧ Below w.heap.size w w' := plof_bad a t l m b c g z p s k i J K ht hl hg hx
  have CP := Lib.hid CP
  have NE : ∀ w, (binOp .eql 35 (.agg #[.int .i64 0, .int .i64 0]) (.agg #[.int .i64 0, .int .i64 0])).run Try.prog w = .ok (.bool true) w := so_eql 0 0 0 0 (by omega) (by omega) (by omega) (by omega)
  have NE := Lib.hid NE
  clear hx
  have CA := Lib.hid awake29_any
  have CO := Lib.hid CO
  have HP := Lib.hid (law_new pa pt pm pl pz p s w)
  go_enter Try.func4, Try.ntmps4
  go_wp2_with fail
  refine (CA.out _).mono ?_
  rintro e w1 ⟨rfl, rfl⟩
  clear CA
  go_wp2_with (refine wpList_load_want rfl 23 _ rfl _ _ rfl (pa_load HP.out.1) ?_)
  refine (CO.out _).mono ?_
  rintro e w2 ⟨rfl, hb⟩
  have HL := Lib.hid (lw_new (HP.out.2.1.step hb) (HP.out.2.2.trans (hb.mono HP.out.2.2.size)) a t l m b c g z)
  clear hb CO HP
  obtain ⟨q, hq⟩ : ∃ q, w2.heap.size = q := ⟨_, rfl⟩
  rw [hq] at HL
  go_wp2_with (first
    | refine wpList_load_want rfl 25 _ rfl _ _ rfl (tu_load HL.out.tw.tu) ?_
    | refine wpList_load_want rfl 29 _ rfl _ _ rfl (sp_load HL.out.tw.sh) ?_)
  refine (CP.out _).mono ?_
  rintro e w3 ⟨rfl, hb⟩
  have HB := Lib.hid (((HL.out.on hb).alloc (.cells (soc 0 0) 35)).below)
  clear hb HL CP
  go_wp2_with (refine wpList_value_want rfl (.bool true) (cmp_run _ _ _ _ rfl rfl rfl g_so (NE.out _)) ?_)
  go_ret
  exact ⟨rfl, HB.out⟩

set_option maxHeartbeats 6400000 in
theorem settled29_own (pa pt pm pl pz : Int) (a t l m b c g z p s k i J K y f n v : Nat) (hf : s * g = f) (hn : f + i = n) (hg1 : 1 ≤ g) (hgb : g ≤ 4294967295) (hfb : f ≤ 4294967296) (hs3 : s ≤ 3) (hib : i ≤ 4294967295) (hk : k ≤ 4294967295) (hxl : k < l) (hyc : y < c) (hcb : c ≤ 4294967295)
    (hyn : k = k → y ≠ n) (hA : k = k ∨ y < f ∨ f + g ≤ y) (hp0 : p = 0 → y < n) (hv : y / g = v) (hvs : k = k ∨ v ≠ s)
    (CP : ∀ w, Calls Try.prog 8 #[spv a t l m b c g z, tuv p s, .int .i64 (k : Int), .int .i64 (i : Int), .int .u32 (J : Int), .int .u32 (K : Int)] w fun e w' => e = .returned (.tuple #[sov k y, .int .i64 0]) ∧ Below w.heap.size w w')
    (CO : ∀ w : World, Calls Try.prog 7 #[pav pa pt pm pl pz] w fun e w' => e = .returned (.tuple #[spv a t l m b c g z, .int .i64 0]) ∧ Below w.heap.size w w') (w : World) :
    Calls Try.prog 4 #[pav pa pt pm pl pz, tuv p s, .int .i64 (k : Int), .int .i64 (i : Int), .int .u32 (J : Int), .int .u32 (K : Int)] w fun e w' => e = .returned (.bool true) ∧ Below w.heap.size w w' := by
  have CP := Lib.hid CP
  have NE : ∀ w, (binOp .eql 35 (sov k y) (sov k n)).run Try.prog w = .ok (.bool false) w := fun w => by
    rw [so_eql k y k n (by omega) (by omega) (by omega) (by omega), decide_eq_false (by omega)]
  have NE := Lib.hid NE
  have CC := Lib.hid (column_is a t l m b c g z s i n (by omega) (by omega))
  have hne : ∀ w : World, (binOp .neq 3 (.int .i64 (k : Int)) (.int .i64 (k : Int))).run Try.prog w = .ok (.bool false) w := fun w => by rw [int_neq, decide_eq_true rfl]; rfl
  have CS := Lib.hid fun d w hr => calls_is (settled_any a t l m b c g z k k y d p s f hf hg1 (by omega) hfb hs3 hA w hr)
  have HV := Lib.hid hv
  have HP0 := Lib.hid hp0
  clear hf hA hv hvs hyn hp0
  have CA := Lib.hid awake29_any
  have CO := Lib.hid CO
  have HP := Lib.hid (law_new pa pt pm pl pz (p : Int) (s : Int) w)
  go_enter Try.func4, Try.ntmps4
  go_wp2_with fail
  refine (CA.out _).mono ?_
  rintro e w1 ⟨rfl, rfl⟩
  clear CA
  go_wp2_with (refine wpList_load_want rfl 23 _ rfl _ _ rfl (pa_load HP.out.1) ?_)
  refine (CO.out _).mono ?_
  rintro e w2 ⟨rfl, hb⟩
  have HL := Lib.hid (lw_new (HP.out.2.1.step hb) (HP.out.2.2.trans (hb.mono HP.out.2.2.size)) a t l m b c g z)
  clear hb CO HP
  obtain ⟨q, hq⟩ : ∃ q, w2.heap.size = q := ⟨_, rfl⟩
  rw [hq] at HL
  go_wp2_with (first
    | refine wpList_load_want rfl 25 _ rfl _ _ rfl (tu_load HL.out.tw.tu) ?_
    | refine wpList_load_want rfl 29 _ rfl _ _ rfl (sp_load HL.out.tw.sh) ?_)
  refine (CP.out _).mono ?_
  rintro e w3 ⟨rfl, hb⟩
  have HL4 := Lib.hid ((HL.out.on hb).alloc (.cells (soc k y) 35))
  have HS4 := Lib.hid (RowAt.new w3 35 (soc k y))
  have f1 := (tu_cells (HL.out.on hb).tw.tu).2
  have f0 := sp_load (HL.out.on hb).tw.sh
  have hlt1 : w.heap.size + 1 < w3.heap.size := (HL.out.on hb).tw.tu.lt
  have hlt2 : q < w3.heap.size := (HL.out.on hb).tw.sh.lt
  have hne1 : ¬ w.heap.size + 1 = w3.heap.size := by omega
  have hne2 : ¬ q = w3.heap.size := by omega
  clear hb HL CP
  go_wp2_with (first
    | refine wpList_load_want rfl 29 _ rfl _ _ rfl (sp_load HL4.out.tw.sh) ?_)
  refine (CC.out _).mono ?_
  rintro e w4 ⟨rfl, hb⟩
  have HL5 := Lib.hid (HL4.out.on hb)
  have HS5 := Lib.hid (HS4.out.step hb)
  clear hb HL4 HS4 CC f0 f1 hlt1 hlt2 hne1 hne2
  generalize w3.heap.size = d at *
  obtain ⟨k0, k1⟩ := so_cells HS5.out
  obtain ⟨-, -, k2, -, -, k3, -, -⟩ := sp_cells HL5.out.tw.sh
  go_wp2_with (first
    | refine wpList_load_want rfl 35 _ rfl _ _ rfl (so_load HS5.out) ?_
    | refine wpList_value_want rfl (.bool false) (cmp_run _ _ _ _ rfl rfl rfl g_so (NE.out _)) ?_)
  have HC := HL5.out.tw.later
  have HE := so_later HS5.out
  generalize hr : w.heap.size + 1 = r at *
  refine wp_region_text [Is (spv a t l m b c g z), Is (tuv (p : Int) (s : Int)), Is (.int .i64 (k : Int)), Is (sov k y), SoAt k y, Is (.bool true), Is (.bool false), Is (.bool false), Is (.pointer (some ⟨d, 0 + 0, none⟩)), Is (.int .i64 (k : Int)), Is (.int .i64 (k : Int)), Is (.bool false), Is (.bool false), Is undef, Is undef, Is undef, Is undef, Is undef, Is undef, Is undef, Is undef, Is (.bool false), Is (.bool false)] (by kernel_rfl) (by kernel_rfl) rfl ⟨stable_is _, stable_is _, stable_is _, stable_is _, stable_so _ _, stable_is _, stable_is _, stable_is _, stable_is _, stable_is _, stable_is _, stable_is _, stable_is _, stable_is _, stable_is _, stable_is _, stable_is _, stable_is _, stable_is _, stable_is _, stable_is _, stable_is _, stable_is _, trivial⟩ ⟨?_, ?_, ?_, ?_, ?_, ?_, ?_, ?_, ?_, ?_, ?_, ?_, ?_, ?_, ?_, ?_, ?_, ?_, ?_, ?_, ?_, ?_, ?_, trivial⟩ ?_
  · intro a w C
    exact part_on (wanted_free rfl _) (op_value (load_run rfl (C.was 13 (by kernel_rfl)) (HC.out w C.below).sh) rfl)
  · intro a w C
    exact part_on (wanted_free rfl _) (op_value (load_run rfl (C.was 7 (by kernel_rfl)) (HC.out w C.below).tu) rfl)
  · intro a w C
    exact part_on (wanted_free rfl _) (op_move (.inl rfl) (C.was 2 (by kernel_rfl)))
  · intro a w C
    exact part_on (wanted_free rfl _) (op_value (load_run rfl (C.was 15 (by kernel_rfl)) (HE.out w C.below).so) rfl)
  · intro a w C
    exact part_on (wanted_free rfl _) (op_made (build_so_run rfl (C.on (j := 3) (by kernel_rfl) rfl rfl)) ⟨_, rfl, RowAt.new _ _ _⟩ ((Below.refl _ w).alloc (Nat.le_refl _) _))
  · intro a w C
    obtain ⟨d0, hv, hr⟩ : SoAt _ _ _ _ := (C.on (j := 4) (by kernel_rfl) rfl rfl)
    exact part_on (wanted_free rfl _) (op_call4 rfl (reg_enters Try.func16 (by kernel_rfl) (by kernel_rfl)) (C.on (j := 0) (by kernel_rfl) rfl rfl) (C.on (j := 1) (by kernel_rfl) rfl rfl) (C.on (j := 2) (by kernel_rfl) rfl rfl) hv (CS.out d0 w hr))
  · intro a w C
    exact part_on (wanted_free rfl _) (op_value (not_run rfl (C.on (j := 5) (by kernel_rfl) rfl rfl)) rfl)
  · intro a w C
    exact part_on (wanted_free rfl _) (op_move (.inl rfl) (C.on (j := 6) (by kernel_rfl) rfl rfl))
  · intro a w C
    exact part_on (wanted_on (j := 7) rfl rfl rfl (C.on (j := 7) (by kernel_rfl) rfl rfl)) (op_value (sof_run (k := 0) rfl (by decide) (C.was 15 (by kernel_rfl))) rfl)
  · intro a w C
    exact part_on (wanted_on (j := 7) rfl rfl rfl (C.on (j := 7) (by kernel_rfl) rfl rfl)) (op_value (int_run rfl (C.on (j := 8) (by kernel_rfl) rfl rfl) (HE.out w C.below).x) rfl)
  · intro a w C
    exact part_on (wanted_on (j := 7) rfl rfl rfl (C.on (j := 7) (by kernel_rfl) rfl rfl)) (op_move (.inl rfl) (C.was 2 (by kernel_rfl)))
  · intro a w C
    exact part_on (wanted_on (j := 7) rfl rfl rfl (C.on (j := 7) (by kernel_rfl) rfl rfl)) (op_bin rfl (C.on (j := 9) (by kernel_rfl) rfl rfl) (C.on (j := 10) (by kernel_rfl) rfl rfl) rfl (hne w) rfl)
  · intro a w C
    exact part_on (wanted_on (j := 7) rfl rfl rfl (C.on (j := 7) (by kernel_rfl) rfl rfl)) (op_move (.inl rfl) (C.on (j := 11) (by kernel_rfl) rfl rfl))
  · intro a w C
    exact part_off (wanted_off (j := 12) rfl rfl rfl (C.on (j := 12) (by kernel_rfl) rfl rfl)) rfl
  · intro a w C
    exact part_off (wanted_off (j := 12) rfl rfl rfl (C.on (j := 12) (by kernel_rfl) rfl rfl)) rfl
  · intro a w C
    exact part_off (wanted_off (j := 12) rfl rfl rfl (C.on (j := 12) (by kernel_rfl) rfl rfl)) rfl
  · intro a w C
    exact part_off (wanted_off (j := 12) rfl rfl rfl (C.on (j := 12) (by kernel_rfl) rfl rfl)) rfl
  · intro a w C
    exact part_off (wanted_off (j := 12) rfl rfl rfl (C.on (j := 12) (by kernel_rfl) rfl rfl)) rfl
  · intro a w C
    exact part_off (wanted_off (j := 12) rfl rfl rfl (C.on (j := 12) (by kernel_rfl) rfl rfl)) rfl
  · intro a w C
    exact part_off (wanted_off (j := 12) rfl rfl rfl (C.on (j := 12) (by kernel_rfl) rfl rfl)) rfl
  · intro a w C
    exact part_off (wanted_off (j := 12) rfl rfl rfl (C.on (j := 12) (by kernel_rfl) rfl rfl)) rfl
  · intro a w C
    exact part_on (wanted_on (j := 7) rfl rfl rfl (C.on (j := 7) (by kernel_rfl) rfl rfl)) (op_pick (k := false) rfl (C.on (j := 12) (by kernel_rfl) rfl rfl) rfl)
  · intro a w C
    exact part_on (wanted_free rfl _) (op_pick (k := false) rfl (C.on (j := 7) (by kernel_rfl) rfl rfl) (C.on (j := 21) (by kernel_rfl) rfl rfl))
  rintro wF hbF _ rfl _ rfl _ rfl _ rfl x78 hx78 _ rfl _ rfl _ rfl _ rfl _ rfl _ rfl _ rfl _ rfl _ rfl _ rfl _ rfl _ rfl _ rfl _ rfl _ rfl _ rfl _ rfl _ rfl
  simp only [Fin, setAt, Exit.then, List.setIfInBounds_toArray, List.set_cons_succ, List.set_cons_zero]
  subst hr
  have HL6 := Lib.hid (HL5.out.on hbF)
  obtain ⟨k0', k1'⟩ := so_cells (HS5.out.step hbF)
  obtain ⟨-, -, -, -, -, -, k2', -⟩ := sp_cells HL6.out.tw.sh
  obtain ⟨t0, t1⟩ := tu_cells HL6.out.tw.tu
  clear hbF HC HE HL5 HS5 NE hne k0 k1 k2 k3
  by_cases hp : p = 0
  · have hlt : y < n := HP0.out hp
    subst hp
    clear HP0
    go_wp2
    go_ret
    exact ⟨rfl, HL6.out.below⟩
  · clear HP0
    have hp1 : (0 : Int) < (p : Int) := by omega
    go_wp2
    go_ret
    exact ⟨rfl, HL6.out.below⟩

set_option maxHeartbeats 6400000 in
theorem settled29_other (pa pt pm pl pz : Int) (a t l m b c g z p s k i J K x y f n v : Nat) (hf : s * g = f) (hn : f + i = n) (hg1 : 1 ≤ g) (hgb : g ≤ 4294967295) (hfb : f ≤ 4294967296) (hs3 : s ≤ 3) (hib : i ≤ 4294967295) (hk : k ≤ 4294967295) (hxl : x < l) (hlb : l ≤ 4294967295) (hyc : y < c) (hcb : c ≤ 4294967295)
    (hxk : x ≠ k) (hyn : x = k → y ≠ n) (hA : x = k ∨ y < f ∨ f + g ≤ y) (hp0 : p = 0 → y < n) (hv : y / g = v) (hvs : x = k ∨ v ≠ s)
    (CP : ∀ w, Calls Try.prog 8 #[spv a t l m b c g z, tuv p s, .int .i64 (k : Int), .int .i64 (i : Int), .int .u32 (J : Int), .int .u32 (K : Int)] w fun e w' => e = .returned (.tuple #[sov x y, .int .i64 0]) ∧ Below w.heap.size w w')
    (CO : ∀ w : World, Calls Try.prog 7 #[pav pa pt pm pl pz] w fun e w' => e = .returned (.tuple #[spv a t l m b c g z, .int .i64 0]) ∧ Below w.heap.size w w') (w : World) :
    Calls Try.prog 4 #[pav pa pt pm pl pz, tuv p s, .int .i64 (k : Int), .int .i64 (i : Int), .int .u32 (J : Int), .int .u32 (K : Int)] w fun e w' => e = .returned (.bool true) ∧ Below w.heap.size w w' := by
  have CP := Lib.hid CP
  have NE : ∀ w, (binOp .eql 35 (sov x y) (sov k n)).run Try.prog w = .ok (.bool false) w := fun w => by
    rw [so_eql x y k n (by omega) (by omega) (by omega) (by omega), decide_eq_false (by omega)]
  have NE := Lib.hid NE
  have CC := Lib.hid (column_is a t l m b c g z s i n (by omega) (by omega))
  have hne : ∀ w : World, (binOp .neq 3 (.int .i64 (x : Int)) (.int .i64 (k : Int))).run Try.prog w = .ok (.bool true) w := fun w => by rw [int_neq, decide_eq_false hxk]; rfl
  have hve : ∀ w : World, (binOp .eql 3 (.int .i64 (v : Int)) (.int .i64 (s : Int))).run Try.prog w = .ok (.bool false) w := fun w => by rw [int_eql, decide_eq_false (by omega)]
  have CS := Lib.hid fun d w hr => calls_is (settled_any a t l m b c g z k x y d p s f hf hg1 (by omega) hfb hs3 hA w hr)
  have HV := Lib.hid hv
  have HP0 := Lib.hid hp0
  clear hf hA hv hvs hyn hp0
  have CA := Lib.hid awake29_any
  have CO := Lib.hid CO
  have HP := Lib.hid (law_new pa pt pm pl pz (p : Int) (s : Int) w)
  go_enter Try.func4, Try.ntmps4
  go_wp2_with fail
  refine (CA.out _).mono ?_
  rintro e w1 ⟨rfl, rfl⟩
  clear CA
  go_wp2_with (refine wpList_load_want rfl 23 _ rfl _ _ rfl (pa_load HP.out.1) ?_)
  refine (CO.out _).mono ?_
  rintro e w2 ⟨rfl, hb⟩
  have HL := Lib.hid (lw_new (HP.out.2.1.step hb) (HP.out.2.2.trans (hb.mono HP.out.2.2.size)) a t l m b c g z)
  clear hb CO HP
  obtain ⟨q, hq⟩ : ∃ q, w2.heap.size = q := ⟨_, rfl⟩
  rw [hq] at HL
  go_wp2_with (first
    | refine wpList_load_want rfl 25 _ rfl _ _ rfl (tu_load HL.out.tw.tu) ?_
    | refine wpList_load_want rfl 29 _ rfl _ _ rfl (sp_load HL.out.tw.sh) ?_)
  refine (CP.out _).mono ?_
  rintro e w3 ⟨rfl, hb⟩
  have HL4 := Lib.hid ((HL.out.on hb).alloc (.cells (soc x y) 35))
  have HS4 := Lib.hid (RowAt.new w3 35 (soc x y))
  have f1 := (tu_cells (HL.out.on hb).tw.tu).2
  have f0 := sp_load (HL.out.on hb).tw.sh
  have hlt1 : w.heap.size + 1 < w3.heap.size := (HL.out.on hb).tw.tu.lt
  have hlt2 : q < w3.heap.size := (HL.out.on hb).tw.sh.lt
  have hne1 : ¬ w.heap.size + 1 = w3.heap.size := by omega
  have hne2 : ¬ q = w3.heap.size := by omega
  clear hb HL CP
  go_wp2_with (first
    | refine wpList_load_want rfl 29 _ rfl _ _ rfl (sp_load HL4.out.tw.sh) ?_)
  refine (CC.out _).mono ?_
  rintro e w4 ⟨rfl, hb⟩
  have HL5 := Lib.hid (HL4.out.on hb)
  have HS5 := Lib.hid (HS4.out.step hb)
  clear hb HL4 HS4 CC f0 f1 hlt1 hlt2 hne1 hne2
  generalize w3.heap.size = d at *
  obtain ⟨k0, k1⟩ := so_cells HS5.out
  obtain ⟨-, -, k2, -, -, k3, -, -⟩ := sp_cells HL5.out.tw.sh
  go_wp2_with (first
    | refine wpList_load_want rfl 35 _ rfl _ _ rfl (so_load HS5.out) ?_
    | refine wpList_value_want rfl (.bool false) (cmp_run _ _ _ _ rfl rfl rfl g_so (NE.out _)) ?_)
  have HC := HL5.out.tw.later
  have HE := so_later HS5.out
  generalize hr : w.heap.size + 1 = r at *
  refine wp_region_text [Is (spv a t l m b c g z), Is (tuv (p : Int) (s : Int)), Is (.int .i64 (k : Int)), Is (sov x y), SoAt x y, Is (.bool true), Is (.bool false), Is (.bool false), Is (.pointer (some ⟨d, 0 + 0, none⟩)), Is (.int .i64 (x : Int)), Is (.int .i64 (k : Int)), Is (.bool true), Is (.bool true), Is (.pointer (some ⟨d, 0 + 1, none⟩)), Is (.int .i64 (y : Int)), Is (.pointer (some ⟨q, 0 + 6, none⟩)), Is (.int .i64 (g : Int)), Is (.int .i64 (v : Int)), Is (.pointer (some ⟨r, 0 + 1, none⟩)), Is (.int .i64 (s : Int)), Is (.bool false), Is (.bool false), Is (.bool false)] (by kernel_rfl) (by kernel_rfl) rfl ⟨stable_is _, stable_is _, stable_is _, stable_is _, stable_so _ _, stable_is _, stable_is _, stable_is _, stable_is _, stable_is _, stable_is _, stable_is _, stable_is _, stable_is _, stable_is _, stable_is _, stable_is _, stable_is _, stable_is _, stable_is _, stable_is _, stable_is _, stable_is _, trivial⟩ ⟨?_, ?_, ?_, ?_, ?_, ?_, ?_, ?_, ?_, ?_, ?_, ?_, ?_, ?_, ?_, ?_, ?_, ?_, ?_, ?_, ?_, ?_, ?_, trivial⟩ ?_
  · intro a w C
    exact part_on (wanted_free rfl _) (op_value (load_run rfl (C.was 13 (by kernel_rfl)) (HC.out w C.below).sh) rfl)
  · intro a w C
    exact part_on (wanted_free rfl _) (op_value (load_run rfl (C.was 7 (by kernel_rfl)) (HC.out w C.below).tu) rfl)
  · intro a w C
    exact part_on (wanted_free rfl _) (op_move (.inl rfl) (C.was 2 (by kernel_rfl)))
  · intro a w C
    exact part_on (wanted_free rfl _) (op_value (load_run rfl (C.was 15 (by kernel_rfl)) (HE.out w C.below).so) rfl)
  · intro a w C
    exact part_on (wanted_free rfl _) (op_made (build_so_run rfl (C.on (j := 3) (by kernel_rfl) rfl rfl)) ⟨_, rfl, RowAt.new _ _ _⟩ ((Below.refl _ w).alloc (Nat.le_refl _) _))
  · intro a w C
    obtain ⟨d0, hv, hr⟩ : SoAt _ _ _ _ := (C.on (j := 4) (by kernel_rfl) rfl rfl)
    exact part_on (wanted_free rfl _) (op_call4 rfl (reg_enters Try.func16 (by kernel_rfl) (by kernel_rfl)) (C.on (j := 0) (by kernel_rfl) rfl rfl) (C.on (j := 1) (by kernel_rfl) rfl rfl) (C.on (j := 2) (by kernel_rfl) rfl rfl) hv (CS.out d0 w hr))
  · intro a w C
    exact part_on (wanted_free rfl _) (op_value (not_run rfl (C.on (j := 5) (by kernel_rfl) rfl rfl)) rfl)
  · intro a w C
    exact part_on (wanted_free rfl _) (op_move (.inl rfl) (C.on (j := 6) (by kernel_rfl) rfl rfl))
  · intro a w C
    exact part_on (wanted_on (j := 7) rfl rfl rfl (C.on (j := 7) (by kernel_rfl) rfl rfl)) (op_value (sof_run (k := 0) rfl (by decide) (C.was 15 (by kernel_rfl))) rfl)
  · intro a w C
    exact part_on (wanted_on (j := 7) rfl rfl rfl (C.on (j := 7) (by kernel_rfl) rfl rfl)) (op_value (int_run rfl (C.on (j := 8) (by kernel_rfl) rfl rfl) (HE.out w C.below).x) rfl)
  · intro a w C
    exact part_on (wanted_on (j := 7) rfl rfl rfl (C.on (j := 7) (by kernel_rfl) rfl rfl)) (op_move (.inl rfl) (C.was 2 (by kernel_rfl)))
  · intro a w C
    exact part_on (wanted_on (j := 7) rfl rfl rfl (C.on (j := 7) (by kernel_rfl) rfl rfl)) (op_bin rfl (C.on (j := 9) (by kernel_rfl) rfl rfl) (C.on (j := 10) (by kernel_rfl) rfl rfl) rfl (hne w) rfl)
  · intro a w C
    exact part_on (wanted_on (j := 7) rfl rfl rfl (C.on (j := 7) (by kernel_rfl) rfl rfl)) (op_move (.inl rfl) (C.on (j := 11) (by kernel_rfl) rfl rfl))
  · intro a w C
    exact part_on (wanted_on (j := 12) rfl rfl rfl (C.on (j := 12) (by kernel_rfl) rfl rfl)) (op_value (sof_run (k := 1) rfl (by decide) (C.was 15 (by kernel_rfl))) rfl)
  · intro a w C
    exact part_on (wanted_on (j := 12) rfl rfl rfl (C.on (j := 12) (by kernel_rfl) rfl rfl)) (op_value (int_run rfl (C.on (j := 13) (by kernel_rfl) rfl rfl) (HE.out w C.below).y) rfl)
  · intro a w C
    exact part_on (wanted_on (j := 12) rfl rfl rfl (C.on (j := 12) (by kernel_rfl) rfl rfl)) (op_value (spf_run (k := 6) rfl (by decide) (C.was 13 (by kernel_rfl))) rfl)
  · intro a w C
    exact part_on (wanted_on (j := 12) rfl rfl rfl (C.on (j := 12) (by kernel_rfl) rfl rfl)) (op_value (int_run rfl (C.on (j := 15) (by kernel_rfl) rfl rfl) (HC.out w C.below).g) rfl)
  · intro a w C
    exact part_on (wanted_on (j := 12) rfl rfl rfl (C.on (j := 12) (by kernel_rfl) rfl rfl)) (op_bin rfl (C.on (j := 14) (by kernel_rfl) rfl rfl) (C.on (j := 16) (by kernel_rfl) rfl rfl) rfl (quo_run w y g v (by omega) HV.out (by omega)) rfl)
  · intro a w C
    exact part_on (wanted_on (j := 12) rfl rfl rfl (C.on (j := 12) (by kernel_rfl) rfl rfl)) (op_value (tuf_run (k := 1) rfl (by decide) (C.was 7 (by kernel_rfl))) rfl)
  · intro a w C
    exact part_on (wanted_on (j := 12) rfl rfl rfl (C.on (j := 12) (by kernel_rfl) rfl rfl)) (op_value (int_run rfl (C.on (j := 18) (by kernel_rfl) rfl rfl) (HC.out w C.below).s) rfl)
  · intro a w C
    exact part_on (wanted_on (j := 12) rfl rfl rfl (C.on (j := 12) (by kernel_rfl) rfl rfl)) (op_bin rfl (C.on (j := 17) (by kernel_rfl) rfl rfl) (C.on (j := 19) (by kernel_rfl) rfl rfl) rfl (hve w) rfl)
  · intro a w C
    exact part_on (wanted_on (j := 7) rfl rfl rfl (C.on (j := 7) (by kernel_rfl) rfl rfl)) (op_pick (k := true) rfl (C.on (j := 12) (by kernel_rfl) rfl rfl) (C.on (j := 20) (by kernel_rfl) rfl rfl))
  · intro a w C
    exact part_on (wanted_free rfl _) (op_pick (k := false) rfl (C.on (j := 7) (by kernel_rfl) rfl rfl) (C.on (j := 21) (by kernel_rfl) rfl rfl))
  rintro wF hbF _ rfl _ rfl _ rfl _ rfl x78 hx78 _ rfl _ rfl _ rfl _ rfl _ rfl _ rfl _ rfl _ rfl _ rfl _ rfl _ rfl _ rfl _ rfl _ rfl _ rfl _ rfl _ rfl _ rfl
  simp only [Fin, setAt, Exit.then, List.setIfInBounds_toArray, List.set_cons_succ, List.set_cons_zero]
  subst hr
  have HL6 := Lib.hid (HL5.out.on hbF)
  obtain ⟨k0', k1'⟩ := so_cells (HS5.out.step hbF)
  obtain ⟨-, -, -, -, -, -, k2', -⟩ := sp_cells HL6.out.tw.sh
  obtain ⟨t0, t1⟩ := tu_cells HL6.out.tw.tu
  clear hbF HC HE HL5 HS5 NE hne k0 k1 k2 k3
  by_cases hp : p = 0
  · have hlt : y < n := HP0.out hp
    subst hp
    clear HP0
    go_wp2
    go_ret
    exact ⟨rfl, HL6.out.below⟩
  · clear HP0
    have hp1 : (0 : Int) < (p : Int) := by omega
    go_wp2
    go_ret
    exact ⟨rfl, HL6.out.below⟩

theorem settled29_any (pa pt pm pl pz p s k i : Int) (J K : Nat) (hJ : J < 4294967296) (hK : K < 4294967296) (w : World) :
    Calls Try.prog 4 #[pav pa pt pm pl pz, tuv p s, .int .i64 k, .int .i64 i, .int .u32 (J : Int), .int .u32 (K : Int)] w fun e w' => e = .returned (.bool true) ∧ Below w.heap.size w w' := by
  cases h : mayB pa pt pm pl pz
  · exact settled29_bad pa pt pm pl pz p s k i 2 0 0 0 0 0 0 0 0 J K (by omega) (by omega) (by omega) (re_zero _ _ _ _) (of_bad pa pt pm pl pz h) w
  · obtain ⟨a, t, m, l, z, rfl, rfl, rfl, rfl, rfl, hM⟩ := may_nats h
    obtain ⟨b, c, g, hg, hc, hb, hbm, -, CO⟩ := of_good hM
    obtain ⟨ht, hl, hgb, hcb⟩ := mok_small hM hc hb hbm
    cases hx : reB t l g p s k i
    · exact settled29_bad a t m l z p s k i 0 a t l m b c g z J K ht hl hgb hx CO w
    · obtain ⟨p, s, k, i, rfl, rfl, rfl, rfl, R⟩ := ref_of hx hg hc
      obtain ⟨A, h1, h2, h3, h4, CP⟩ := plof_good a b m z J K hJ hK R hx ht hl hcb
      obtain ⟨t1, t2, t3, t4, t5, t6⟩ := R.times
      obtain ⟨u1, u2, u3, u4⟩ := R.spot _ A (piN A J) (pi_lt h2) h4
      have hLl : lnN l p s k K < l := ln_lt R.kl
      have hkl := R.kl
      have hil := R.ig
      have hs3 := R.s3
      by_cases hk : lnN l p s k K = k
      · rw [hk] at CP
        exact settled29_own a t m l z a t l m b c g z p s k i J K _ (s * g) _ _ rfl rfl (by omega) hgb (by omega) hs3 (by omega) (by omega) hkl u1 hcb (fun _ => u2 (decide_eq_true hk)) (.inl rfl) u4 rfl (.inl rfl) CP CO w
      · have hset := u3 (decide_eq_false hk)
        exact settled29_other a t m l z a t l m b c g z p s k i J K _ _ (s * g) _ _ rfl rfl (by omega) hgb (by omega) hs3 (by omega) (by omega) hLl hl u1 hcb hk (fun e => absurd e hk) (.inr hset) u4 rfl (.inr (other_slice (by omega) hset)) CP CO w
end Go.Proofs.Ytgjaamiileoknaa

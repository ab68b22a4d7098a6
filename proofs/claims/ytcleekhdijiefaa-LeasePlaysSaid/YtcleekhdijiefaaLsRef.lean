/- The document's rows: Held and Take, by their contracts. Conditions: those typed. -/
import Derived.Test.YtcleekhdijiefaaLsOps
import Derived.LoopTactic
import Derived.RegionTactic
import Derived.Laws.OwnMore
import Derived.Deep.RegionWith
import Derived.Deep.CutBlock
import Derived.Deep.CutRange
namespace Go.Proofs.Ytcleekhdijiefaa
set_option maxRecDepth 50000
open Go.RowKit

def ints (zs : List Nat) : List Value := zs.map fun z : Nat => .int .i64 (z : Int)
theorem ints_length (zs : List Nat) : (ints zs).length = zs.length := by simp [ints]
theorem ints_at (zs : List Nat) (i : Nat) (h : i < zs.length) : (ints zs)[i]'(by rw [ints_length]; exact h) = .int .i64 (zs[i] : Int) := by simp [ints]
theorem ints_append (a b : List Nat) : ints (a ++ b) = ints a ++ ints b := by simp [ints]
theorem ints_one (l : List Nat) : ∀ u ∈ ints l, u.oneCell' = true := by
  intro u hu
  obtain ⟨x, _, rfl⟩ := List.mem_map.1 hu
  rfl
def sm : List Nat → Nat
  | [] => 0
  | x :: l => x + sm l
theorem sm_append (a b : List Nat) : sm (a ++ b) = sm a + sm b := by
  induction a with
  | nil => simp [sm]
  | cons x a ih => simp [sm, ih]; omega
theorem sm_take (l : List Nat) (i : Nat) (h : i < l.length) : sm (l.take (i + 1)) = sm (l.take i) + l[i] := by
  rw [List.take_add_one, List.getElem?_eq_getElem h, sm_append]; simp [sm]
theorem sm_part (l : List Nat) (i : Nat) : sm (l.take i) ≤ sm l := by
  conv => rhs; rw [← List.take_append_drop i l, sm_append]
  omega
/-- a row of the document's -/
def rcs (A : Option Addr) (n c high : Nat) (closed : Bool) : Array Value := #[.slice A n c, .int .i64 (high : Int), .bool closed]
theorem r_size : (Try.prog.info? 32).map (·.size) = some 3 := by kernel_rfl

set_option maxHeartbeats 1600000 in
theorem rheld_any (A : Option Addr) (c high : Nat) (closed : Bool) (zs : List Nat) (w : World) (hr : Reads w w.heap.size A (ints zs)) (hl : zs.length ≤ 1000000) (hu : sm zs ≤ 1000000000) :
    Calls Try.prog 8 #[.agg (rcs A zs.length c high closed)] w fun e w' => e = .returned (.int .i64 (sm zs : Int)) ∧ Below w.heap.size w w' := by
  have HR := Lib.hid hr
  have HU := Lib.hid hu
  have HW := Lib.hid (RowAt.new w 32 (rcs A zs.length c high closed))
  have HB := Lib.hid ((Below.refl w.heap.size w).alloc (Nat.le_refl _) (.cells (rcs A zs.length c high closed) 32))
  clear hr hu
  unfold rcs at *
  go_enter Try.func8, Try.ntmps8
  go_wp2
  generalize World.alloc w _ = w1 at *
  have x0 : w1.cell? ⟨w.heap.size, 0, none⟩ = some (.slice A zs.length c) := by rw [HW.out.cell 0]; rfl
  go_loopw [3, 4] (fun v3 v4 wr => ∃ i : Nat, i ≤ zs.length ∧ v3 = .int .i64 (sm (zs.take i) : Int) ∧ v4 = .int .i64 (i : Int) ∧ wr = w1) (fun _ v4 _ => zs.length - (intOf v4).toNat)
  case atStart => exact ⟨0, by omega, rfl, rfl, rfl⟩
  case round =>
    obtain ⟨i, hi, rfl, rfl, rfl⟩ := hrel
    by_cases hlt : i < zs.length
    · have hdt : decide ((i : Int) < (zs.length : Int)) = true := by simp; omega
      have hi0 : (0 : Int) ≤ (i : Int) := by omega
      have hi1 : (i : Int) < (zs.length : Int) := by omega
      obtain ⟨b, off, rfl, hbB, hc0⟩ := HR.out i (by rw [ints_length]; exact hlt)
      rw [ints_at zs i hlt] at hc0
      have y0 := (HB.out.cell (p := ⟨b, off + i, none⟩) hbB).trans hc0
      have HT := Lib.hid (sm_take zs i hlt)
      have hp := Nat.le_trans (sm_part zs i) HU.out
      have hq := Nat.le_trans (sm_part zs (i + 1)) HU.out
      rw [HT.out] at hq
      clear hc0
      generalize zs[i] = z at *
      generalize sm (zs.take i) = U at *
      go_wp2
      go_roundw
      case rel => exact ⟨i + 1, by omega, by rw [HT.out]; go_num, by go_num, trivial⟩
      case measure => simp [intOf]; omega
    · obtain rfl : i = zs.length := by omega
      have hdt : decide ((zs.length : Int) < (zs.length : Int)) = false := by simp
      rw [List.take_length]
      go_wp2
      go_ret
      exact ⟨rfl, HB.out⟩

/-- rows of ints of one's own -/
theorem i_info : (Try.prog.info? 3).map (fun i => (i.zero, i.size, i.bytes)) = some (some (.int .i64 0), 1, 8) := by kernel_rfl
theorem app_ints {w : World} {N : Nat} {v x : Value} {l k : List Nat} (h : w.ownsRow N 3 1 v l.length (ints l)) (hN : N ≤ w.heap.size) {A : Option Addr} {c B : Nat} (hx : x = .slice A k.length c) (hr : Reads w B A (ints k)) (hl : l.length + k.length ≤ 1000000) :
    ∃ v' w', (∀ ty, (Builtin.append_ #[30, 30] ty #[v, x]).run Try.prog w = .ok v' w') ∧ w'.ownsRow N 3 1 v' (l.length + k.length) (ints (l ++ k)) ∧ Below N w w' := by
  obtain ⟨i, hi, hz, hs, hby⟩ := info_parts i_info
  subst hx
  by_cases h0 : k = []
  · subst h0
    exact ⟨v, w, fun ty => append_empty w N _ ty _ i 1 Try.underlying30 hi v l.length (ints l) h A c, by rw [List.append_nil]; exact h, Below.refl _ _⟩
  · have hk : 0 < k.length := List.length_pos_iff.2 h0
    obtain ⟨b, off, e, _, _⟩ := hr 0 (by rw [ints_length]; exact hk)
    subst e
    obtain ⟨v', w', hr', ho, hg, _, _⟩ := run_append_own_at (P := Try.prog) w N 30 0 3 i _ 1 8 Try.underlying30 hi hz hs hby rfl (by decide) v l.length (ints l) h ⟨b, off, none⟩ k.length c (ints k) (by rw [ints_length]; omega)
      (fun j u hj => by
        obtain ⟨hj', rfl⟩ := List.getElem?_eq_some_iff.1 hj
        obtain ⟨b', off', e, _, hc⟩ := hr j hj'
        cases e
        rw [Go.WideShapes.add_plain]; exact hc) (ints_one k) (by unfold maxLen; omega) (by omega) hN
    refine ⟨v', w', fun ty => by rw [← hr']; rfl, ?_, (Below.refl N w).grown hg hN (fun k hk => (h.lt k hk).1)⟩
    rw [ints_append]
    exact ho
theorem own_no_ints (w : World) (N : Nat) (hN : N ≤ w.heap.size) : (w.alloc (.cells #[] 3)).ownsRow N 3 1 (.slice (some ⟨w.heap.size, 0, none⟩) 0 0) 0 (ints []) :=
  ⟨rfl, .inr ⟨_, 0, #[], rfl, hN, heap_alloc_last w _, Nat.le_refl _, Nat.zero_le _, rfl, by simp [ints]⟩⟩

theorem rtake_bad (A : Option Addr) (n c high : Nat) (closed : Bool) (left k z : Int) (hz : closed = true ∧ z = 12 ∨ closed = false ∧ k < 0 ∧ z = 1 ∨ closed = false ∧ 0 ≤ k ∧ left < k ∧ z = 4) (w : World) :
    Calls Try.prog 9 #[.agg (rcs A n c high closed), .int .i64 left, .int .i64 k] w fun e w' => e = .returned (.tuple #[.agg (rcs A n c high closed), .int .i64 z]) ∧ Below w.heap.size w w' := by
  have HF : Hid (RowAt ((w.alloc (.cells (rcs A n c high closed) 32)).alloc (.cells (rcs A n c high closed) 32)) (w.heap.size + 1) 32 (rcs A n c high closed)) := Lib.hid (by
    have := RowAt.new (w.alloc (.cells (rcs A n c high closed) 32)) 32 (rcs A n c high closed)
    rwa [World.size_alloc] at this)
  have HFB := Lib.hid (((Below.refl _ w).alloc (Nat.le_refl _) (.cells (rcs A n c high closed) 32)).alloc (by simp) (.cells (rcs A n c high closed) 32))
  unfold rcs at *
  have hh : closed = true ∧ z = 12 ∨ closed = false ∧ decide (k < 0) = true ∧ z = 1 ∨ closed = false ∧ decide (k < 0) = false ∧ decide (left < k) = true ∧ z = 4 := by
    rcases hz with h | ⟨h1, h2, h3⟩ | ⟨h1, h2, h3, h4⟩
    · exact .inl h
    · exact .inr (.inl ⟨h1, by simpa using h2, h3⟩)
    · exact .inr (.inr ⟨h1, by simpa using h2, by simpa using h3, h4⟩)
  clear hz
  rcases hh with ⟨rfl, rfl⟩ | ⟨rfl, d1, rfl⟩ | ⟨rfl, d1, d2, rfl⟩
  all_goals
    go_enter Try.func9, Try.ntmps9
    go_wp2
    refine bodyPost_ret (results_row_tmp (u := 7) rfl _ rfl HF.out Try.underlying32 rfl r_size) rfl ⟨rfl, HFB.out⟩
set_option maxHeartbeats 3200000 in
theorem rtake_any (A : Option Addr) (c high : Nat) (zs : List Nat) (left k : Nat) (hk : k ≤ left) (hleft : left ≤ 1000000) (w : World) (hr : Reads w w.heap.size A (ints zs)) (hl : zs.length ≤ 100000) (hu : sm zs ≤ 1000000) :
    Calls Try.prog 9 #[.agg (rcs A zs.length c high false), .int .i64 (left : Int), .int .i64 (k : Int)] w fun e w' => ∃ A' c', e = .returned (.tuple #[.agg (rcs A' (zs ++ [k]).length c' (max high (sm zs + k)) false), .int .i64 0]) ∧ w'.ownsRow w.heap.size 3 1 (.slice A' (zs ++ [k]).length c') (zs ++ [k]).length (ints (zs ++ [k])) ∧ Below w.heap.size w w' := by
  have d1 : decide ((k : Int) < 0) = false := by simp
  have d2 : decide ((left : Int) < (k : Int)) = false := by simp; omega
  have d2' : decide (left < k) = false := by simp; omega
  obtain ⟨w3, hw3⟩ : ∃ w3, w3 = ((w.alloc (.cells (rcs A zs.length c high false) 32)).alloc (.cells #[.slice none 0 0, .int .i64 0, .bool false] 32)).alloc (.cells (rcs A zs.length c high false) 32) := ⟨_, rfl⟩
  have hb3 : Below w.heap.size w w3 := by rw [hw3]; exact (((Below.refl _ w).alloc (Nat.le_refl _) _).alloc (by simp) _).alloc (by simp; omega) _
  have R0 : RowAt w3 w.heap.size 32 (rcs A zs.length c high false) := by rw [hw3]; exact ((RowAt.new w _ _).alloc _).alloc _
  have R1 : RowAt w3 (w.heap.size + 1) 32 #[.slice none 0 0, .int .i64 0, .bool false] := by
    rw [hw3]
    have := RowAt.new (w.alloc (.cells (rcs A zs.length c high false) 32)) 32 #[.slice none 0 0, .int .i64 0, .bool false]
    rw [World.size_alloc] at this
    exact this.alloc _
  have R2 : RowAt w3 (w.heap.size + 1 + 1) 32 (rcs A zs.length c high false) := by
    rw [hw3]
    have := RowAt.new ((w.alloc (.cells (rcs A zs.length c high false) 32)).alloc (.cells #[.slice none 0 0, .int .i64 0, .bool false] 32)) 32 (rcs A zs.length c high false)
    simpa [World.size_alloc] using this
  unfold rcs at *
  go_enter Try.func9, Try.ntmps9
  go_upto_region 8 with fail
  rw [← hw3]
  have hs3 := hb3.size
  have hlt2 := R2.lt
  have hr3 : Reads w3 w.heap.size A (ints zs) := hr.below hb3
  obtain ⟨w4, hw4⟩ : ∃ w4, w4 = w3.alloc (.cells #[] 3) := ⟨_, rfl⟩
  have hb4 : Below w3.heap.size w3 w4 := by rw [hw4]; exact (Below.refl _ w3).alloc (Nat.le_refl _) _
  have ho4 : w4.ownsRow w3.heap.size 3 1 (.slice (some ⟨w3.heap.size, 0, none⟩) 0 0) ([] : List Nat).length (ints []) := by rw [hw4]; exact own_no_ints w3 _ (Nat.le_refl _)
  obtain ⟨v5, w5, ha5, ho5, hb5⟩ := app_ints ho4 hb4.size (x := .slice A zs.length c) rfl (hr3.below (hb4.mono hs3)) (by simp; omega)
  rw [List.nil_append] at ho5
  obtain ⟨A5, c5, rfl, hown, _, _⟩ := own_form ho5
  clear hown
  obtain ⟨w6, hw6⟩ : ∃ w6, w6 = w5.alloc (.cells #[.int .i64 (k : Int)] 3) := ⟨_, rfl⟩
  have hb6 : Below w5.heap.size w5 w6 := by rw [hw6]; exact (Below.refl _ w5).alloc (Nat.le_refl _) _
  have ho6 := own_leaves ho5 (.below hb6 _)
  have hone : Reads w6 w6.heap.size (some ⟨w5.heap.size, 0, none⟩) (ints [k]) := fun j hj => by
    have hj0 : j = 0 := by simp [ints] at hj; omega
    subst hj0
    refine ⟨w5.heap.size, 0, rfl, by rw [hw6]; simp, ?_⟩
    rw [hw6]
    exact one_new w5 _ _ 0 _ rfl
  simp only [List.length_nil, Nat.zero_add] at ho6
  obtain ⟨v7, w7, ha7, ho7, hb7⟩ := app_ints ho6 (by have := hb5.size; have := hb6.size; have := hb4.size; omega) (x := .slice (some ⟨w5.heap.size, 0, none⟩) 1 1) (k := [k]) rfl hone (by simp; omega)
  have hb37 : Below w3.heap.size w3 w7 := ((hb4.trans hb5).trans (hb6.mono (by have := hb5.size; have := hb4.size; omega))).trans hb7
  obtain ⟨A7, c7, rfl, hown, _, _⟩ := own_form ho7
  clear hown
  have HO7 := Lib.hid ho7
  have R0' := R0.below hb37 R0.lt
  have R1' := R1.below hb37 R1.lt
  have R2' := R2.below hb37 hlt2
  have y0 : w4.cell? ⟨w.heap.size, 0, none⟩ = some (.slice A zs.length c) := by rw [(R0.below hb4 R0.lt).cell 0]; rfl
  have z0 : w7.cell? ⟨w.heap.size + 1 + 1, 0, none⟩ = some (.slice A zs.length c) := by rw [R2'.cell 0]; rfl
  have f0 := R2'.frozen 0
  have HA5 := Lib.hid ha5
  have HA7 := Lib.hid ha7
  rw [hw4] at HA5 y0
  rw [hw6] at HA7
  have HS := Lib.hid (R2'.setCell 0 (.slice A7 (zs ++ [k]).length c7))
  have H0 := Lib.hid R0'
  have H1 := Lib.hid R1'
  have HRow := Lib.hid R2'
  have HB7 := Lib.hid (hb3.trans (hb37.mono hs3))
  clear R0 R1 R2 R0' R1' R2' hb37 hb7 ho7 ho6 ho5 hone hb6 hb5 ho4 hb4 ha5 ha7 hw3 hw4 hw6 hb3 hr hr3
  go_wp2_with (first | (at_builtin; refine wpList_append_of rfl (.tmp 20) (.tmp 22) 30 rfl _ _ _ rfl rfl (HA5.out _) ?_) | (at_builtin; refine wpList_append_of rfl (.tmp 23) (.tmp 25) 30 rfl _ _ _ rfl rfl (HA7.out _) ?_))
  clear y0 z0 f0 HA5 HA7
  obtain ⟨q, hq⟩ : ∃ q, q = w.heap.size + 1 + 1 := ⟨_, rfl⟩
  rw [← hq] at HS HRow ⊢
  have hqw : w.heap.size ≤ q := by omega
  have HQ1 : Hid (q ≠ w.heap.size + 1) := Lib.hid (by omega)
  clear hq
  have HQW : Hid (w.heap.size ≤ w.heap.size + 1) := Lib.hid (by omega)
  generalize w.heap.size + 1 = q1 at *
  have hlen : (zs ++ [k]).length = zs.length + 1 := by simp
  have hsum : sm (zs ++ [k]) = sm zs + k := by rw [sm_append]; simp [sm]
  rw [hlen] at HS
  have K8 : Kept (fun k => k = q) w7 (w7.setCell ⟨q, 0, none⟩ (.slice A7 (zs.length + 1) c7)) := (Kept.refl (fun k => k = q) w7).set (p := ⟨q, 0, none⟩) (.inl rfl) _
  have HB8 := Lib.hid (HB7.out.trans (K8.under (N := w.heap.size) (fun k e => by rw [e]; exact hqw) HB7.out.size))
  have H1 := Lib.hid (RowAt.kept H1.out K8 (fun e => HQ1.out e.symm))
  have hO8 := own_kept' HO7.out K8 (fun k e1 e2 => by subst e2; exact own_unlike HO7.out HRow.out (by rfl) e1)
  have HO8 := Lib.hid (own_base' hO8 (show w.heap.size ≤ w3.heap.size by omega))
  have HR8 := Lib.hid (Reads.of_own hO8)
  clear hO8
  have HS : Hid (RowAt (w7.setCell ⟨q, 0, none⟩ (.slice A7 (zs.length + 1) c7)) q 32 (rcs A7 (zs.length + 1) c7 high false)) := HS
  clear K8 HB7 HRow HO7 H0
  generalize w7.setCell ⟨q, 0, none⟩ (.slice A7 (zs.length + 1) c7) = w8 at *
  have C9 : Hid (∀ w', Below w8.heap.size w8 w' → Calls Try.prog 8 #[.agg #[.slice A7 (zs.length + 1) c7, .int .i64 (high : Int), .bool false]] w' fun e w'' => e = .returned (.int .i64 ((sm zs + k : Nat) : Int)) ∧ Below w'.heap.size w' w'') := Lib.hid fun w' hb => by
    have := rheld_any A7 c7 high false (zs ++ [k]) w' ((HR8.out.below hb).more hb.size) (by rw [hlen]; omega) (by rw [hsum]; omega)
    rw [hlen, hsum] at this
    exact this
  have hb8 := HB8.out.size
  have HLEN := Lib.hid hlen
  obtain ⟨s, hs⟩ : ∃ s, s = sm zs + k := ⟨_, rfl⟩
  rw [← hs] at C9
  have HSS := Lib.hid hs
  clear hlen hsum hs
  have HRL : Hid (∀ w', Below w8.heap.size w8 w' → (loadVar 32 ⟨q, 0, none⟩).run Try.prog w' = .ok (.agg #[.slice A7 (zs.length + 1) c7, .int .i64 (high : Int), .bool false]) w') := Lib.hid fun w' hb => sub_load (RowAt.step HS.out hb) row_agg row_size 0 [.slice A7 (zs.length + 1) c7, .int .i64 (high : Int), .bool false] rfl (fun j v h => by simpa [rcs] using h)
  refine wp_region_text [Is (.agg #[.slice A7 (zs.length + 1) c7, .int .i64 (high : Int), .bool false]), Is (.int .i64 (s : Int)), Is (.pointer (some ⟨q, 0 + 1, none⟩)), Is (.int .i64 (high : Int)), Is (.bool (decide ((high : Int) < (s : Int))))] (by kernel_rfl) (by kernel_rfl) rfl ⟨stable_is _, stable_is _, stable_is _, stable_is _, stable_is _, trivial⟩ ⟨?_, ?_, ?_, ?_, ?_, trivial⟩ ?_
  · intro a w C
    exact part_on (wanted_free rfl _) (op_value (load_run rfl (C.was 8 (by kernel_rfl)) (HRL.out w C.below)) rfl)
  · intro a w C
    exact part_on (wanted_free rfl _) (op_call1 rfl (reg_enters Try.func8 (by kernel_rfl) (by kernel_rfl)) (C.on (j := 0) (by kernel_rfl) rfl rfl) ((C9.out w C.below).mono fun _ _ h => ⟨_, h.1, rfl, h.2⟩))
  · intro a w C
    exact part_on (wanted_free rfl _) (op_value (rowf_run (k := 1) rfl (.inl rfl) (C.was 8 (by kernel_rfl))) rfl)
  · intro a w C
    exact part_on (wanted_free rfl _) (op_value (lint_run rfl (C.on (j := 2) (by kernel_rfl) rfl rfl) ((RowAt.step HS.out C.below).cell 1)) rfl)
  · intro a w C
    exact part_on (wanted_free rfl _) (op_bin rfl (C.on (j := 1) (by kernel_rfl) rfl rfl) (C.on (j := 3) (by kernel_rfl) rfl rfl) rfl (by simp [go_sem]) rfl)
  rintro wF hbF _ rfl _ rfl _ rfl _ rfl _ rfl
  simp only [Fin, setAt, Exit.then, List.setIfInBounds_toArray, List.set_cons_succ, List.set_cons_zero]
  have HS9 := RowAt.step HS.out hbF
  have HO9 := Lib.hid (own_leaves HO8.out (.below hbF _))
  have H19 := RowAt.step H1.out hbF
  have HB9 := Lib.hid (HB8.out.trans (hbF.mono hb8))
  have HRL9 := Lib.hid (HRL.out wF hbF)
  have C10 := Lib.hid (C9.out wF hbF)
  have hb9 := HB9.out.size
  have y0 : wF.cell? ⟨q, 0, none⟩ = some (.slice A7 (zs.length + 1) c7) := by rw [HS9.cell 0]; rfl
  have y1 : wF.cell? ⟨q, 1, none⟩ = some (.int .i64 (high : Int)) := by rw [HS9.cell 1]; rfl
  have y2 : wF.cell? ⟨q, 2, none⟩ = some (.bool false) := by rw [HS9.cell 2]; rfl
  have HQ := Lib.hid HS9
  have HP := Lib.hid H19
  clear HS HR8 HO8 H1 HB8 HRL C9 hbF HS9 H19
  have fin : ∀ (m : Nat) (wz : World), RowAt wz q1 32 #[.slice none 0 0, .int .i64 0, .bool false] → RowAt (((wz.setCell ⟨q1, 0, none⟩ (.slice A7 (zs.length + 1) c7)).setCell ⟨q1, 1, none⟩ (.int .i64 (m : Int))).setCell ⟨q1, 2, none⟩ (.bool false)) q1 32 (rcs A7 (zs.length + 1) c7 m false) := fun m wz h => ((h.setCell 0 _).setCell 1 _).setCell 2 _
  have finB : ∀ (m : Nat) (wz : World), Below w.heap.size w wz → Below w.heap.size w (((wz.setCell ⟨q1, 0, none⟩ (.slice A7 (zs.length + 1) c7)).setCell ⟨q1, 1, none⟩ (.int .i64 (m : Int))).setCell ⟨q1, 2, none⟩ (.bool false)) := fun m wz h => ((h.setCell (p := ⟨q1, 0, none⟩) HQW.out _).setCell (p := ⟨q1, 1, none⟩) HQW.out _).setCell (p := ⟨q1, 2, none⟩) HQW.out _
  have finR : ∀ (m : Nat) (wz : World), RowAt wz q1 32 #[.slice none 0 0, .int .i64 0, .bool false] → wz.ownsRow w.heap.size 3 1 (.slice A7 (zs.length + 1) c7) (zs.length + 1) (ints (zs ++ [k])) → (((wz.setCell ⟨q1, 0, none⟩ (.slice A7 (zs.length + 1) c7)).setCell ⟨q1, 1, none⟩ (.int .i64 (m : Int))).setCell ⟨q1, 2, none⟩ (.bool false)).ownsRow w.heap.size 3 1 (.slice A7 (zs.length + 1) c7) (zs.length + 1) (ints (zs ++ [k])) := fun m wz h ho =>
    own_kept' ho ((((Kept.refl (fun k => k = q1) wz).set (p := ⟨q1, 0, none⟩) (.inl rfl) _).set (p := ⟨q1, 1, none⟩) (.inl rfl) _).set (p := ⟨q1, 2, none⟩) (.inl rfl) _) fun k e1 e2 => by subst e2; exact own_unlike ho h (by rfl) e1
  have HF1 := Lib.hid fin
  have HF2 := Lib.hid finB
  have HF3 := Lib.hid finR
  clear fin finB finR
  by_cases hgt : high < s
  · have d9 : decide ((high : Int) < (s : Int)) = true := by simpa using hgt
    rw [d9]
    go_wp2_with fail
    refine C10.out.mono ?_
    rintro e w10 ⟨rfl, hb10⟩
    have HQ10 := HQ.out.below hb10 HQ.out.lt
    have HP10 := HP.out.below hb10 HP.out.lt
    have HO10 := own_leaves HO9.out (.below hb10 _)
    have HB10 := Lib.hid (HB9.out.trans (hb10.mono hb9))
    have f1 := HQ10.frozen 1
    have y1' : w10.cell? ⟨q, 1, none⟩ = some (.int .i64 (high : Int)) := by rw [HQ10.cell 1]; rfl
    have K10 : Kept (fun k => k = q) w10 (w10.setCell ⟨q, 1, none⟩ (.int .i64 (s : Int))) := (Kept.refl (fun k => k = q) w10).set (p := ⟨q, 1, none⟩) (.inl rfl) _
    have HX := Lib.hid (HQ10.setCell 1 (.int .i64 (s : Int)))
    have HP11 := Lib.hid (RowAt.kept HP10 K10 (fun e => HQ1.out e.symm))
    have HB11 := Lib.hid (HB10.out.trans (K10.under (N := w.heap.size) (fun k e => by rw [e]; exact hqw) HB10.out.size))
    have HO11 := Lib.hid (own_kept' HO10 K10 (fun k e1 e2 => by subst e2; exact own_unlike HO10 HQ10 (by rfl) e1))
    clear y0 y1 y2 C10 HO9 HB9 HRL9 HQ HP HQ10 HP10 hb10 HO10 HB10 K10
    go_upto_region 11 with fail
    generalize w10.setCell ⟨q, 1, none⟩ (.int .i64 (s : Int)) = w11 at *
    have y0 : w11.cell? ⟨q, 0, none⟩ = some (.slice A7 (zs.length + 1) c7) := by rw [HX.out.cell 0]; rfl
    have y1 : w11.cell? ⟨q, 1, none⟩ = some (.int .i64 (s : Int)) := by rw [HX.out.cell 1]; rfl
    have y2 : w11.cell? ⟨q, 2, none⟩ = some (.bool false) := by rw [HX.out.cell 2]; rfl
    have z0 : w11.cell? ⟨q1, 0, none⟩ = some (.slice none 0 0) := by rw [HP11.out.cell 0]; rfl
    have z1 : w11.cell? ⟨q1, 1, none⟩ = some (.int .i64 0) := by rw [HP11.out.cell 1]; rfl
    have z2 : w11.cell? ⟨q1, 2, none⟩ = some (.bool false) := by rw [HP11.out.cell 2]; rfl
    have g0 := HP11.out.frozen 0
    have g1 := HP11.out.frozen 1
    have g2 := HP11.out.frozen 2
    go_wp2
    refine bodyPost_ret (results_row_tmp (u := 7) rfl _ rfl (HF1.out s w11 HP11.out) Try.underlying32 rfl r_size) rfl ⟨A7, c7, ?_, by rw [HLEN.out]; exact HF3.out s w11 HP11.out HO11.out, HF2.out s w11 HB11.out⟩
    rw [HLEN.out, ← HSS.out, Nat.max_eq_right (Nat.le_of_lt hgt)]
    rfl
  · have d9 : decide ((high : Int) < (s : Int)) = false := by simpa using hgt
    rw [d9]
    have z0 : wF.cell? ⟨q1, 0, none⟩ = some (.slice none 0 0) := by rw [HP.out.cell 0]; rfl
    have z1 : wF.cell? ⟨q1, 1, none⟩ = some (.int .i64 0) := by rw [HP.out.cell 1]; rfl
    have z2 : wF.cell? ⟨q1, 2, none⟩ = some (.bool false) := by rw [HP.out.cell 2]; rfl
    have g0 := HP.out.frozen 0
    have g1 := HP.out.frozen 1
    have g2 := HP.out.frozen 2
    go_wp2
    refine bodyPost_ret (results_row_tmp (u := 7) rfl _ rfl (HF1.out high wF HP.out) Try.underlying32 rfl r_size) rfl ⟨A7, c7, ?_, by rw [HLEN.out]; exact HF3.out high wF HP.out HO9.out, HF2.out high wF HB9.out⟩
    rw [HLEN.out, ← HSS.out, Nat.max_eq_left (Nat.le_of_not_lt hgt)]
    rfl
end Go.Proofs.Ytcleekhdijiefaa

/- arrive and look of package lane, by their contracts. Conditions: those typed. -/
import Derived.Test.YtfoodaobiknihaaGreatDoorLnNew
namespace Go.Proofs.YtfoodaobiknihaaGreatDoor
set_option maxRecDepth 50000
open Go.RowKit Bb Bn
section
variable {P : Program} {o : Oper} {a : Act} {w : World} {f : FuncId} {x1 x2 x3 x4 x5 : Operand} {ts : Array TypeId} {v1 v2 v3 v4 v5 : Value}
theorem reg_call1 (ho : o.op = .call { callee := .value (.func f), args := #[x1], argTypes := ts }) (he : ∀ (args : Array Value) (w : World), (callFunc f args).run P w = .ok (.enter f args) w)
    (h1 : a.eval x1 = v1) : (execOp a.eval o).run P w = .ok (.enter f #[v1]) w := by
  subst h1
  simp [execOp, ho, resolve, invoke, he, go_sem]
theorem reg_call5 (ho : o.op = .call { callee := .value (.func f), args := #[x1, x2, x3, x4, x5], argTypes := ts }) (he : ∀ (args : Array Value) (w : World), (callFunc f args).run P w = .ok (.enter f args) w)
    (h1 : a.eval x1 = v1) (h2 : a.eval x2 = v2) (h3 : a.eval x3 = v3) (h4 : a.eval x4 = v4) (h5 : a.eval x5 = v5) : (execOp a.eval o).run P w = .ok (.enter f #[v1, v2, v3, v4, v5]) w := by
  subst h1; subst h2; subst h3; subst h4; subst h5
  simp [execOp, ho, resolve, invoke, he, go_sem]
end
theorem Src.unlike {w : World} {x a t l m b c g z p s k y : Nat} {ty : TypeId} {C : Array Value} (h : Src w x a t l m b c g z p s k) (hy : RowAt w y ty C) (ht : (ty == 140) = false) : y ≠ x := by
  obtain ⟨n, v, h1, _⟩ := h
  exact RowAt.unlike hy h1 ht
theorem LnRow.kept {M : Nat → Prop} {w w' : World} {b : Nat} {gv xv dv : Value} {k p s i : Int} {f : Bool} (h : LnRow w b gv k p s i xv dv f) (hk : Kept M w w') (hM : ¬ M b) : LnRow w' b gv k p s i xv dv f := RowAt.kept h hk hM
set_option maxHeartbeats 6400000 in
theorem arrive_any {w : World} {b : Nat} {gv xv dv : Value} {k p s i : Int} {f : Bool} (H : LnRow w b gv k p s i xv dv f) :
    Calls Tryz.prog 20 #[.pointer (some ⟨b, 0, none⟩)] w fun e w' => e = .returned (.tuple #[evv 3 k p s 0 0 0 0, .int .i64 0]) ∧ LnRow w' b gv k p s i xv dv true ∧ Kept (fun j => j = b) w w' := by
  have hbw : b < w.heap.size := RowAt.lt H
  obtain ⟨w1, e1⟩ : ∃ w1, w1 = w.alloc (.cells (evc 0 0 0 0 0 0 0 0) 32) := ⟨_, rfl⟩
  have b1 : Below w.heap.size w w1 := by rw [e1]; exact one_box _ _
  have hE : RowAt w1 w.heap.size 32 (evc 0 0 0 0 0 0 0 0) := by rw [e1]; exact RowAt.new _ _ _
  obtain ⟨w2, hs2, h2, hk2⟩ := (H.step b1).setWaits true
  have hE2 := RowAt.kept hE hk2 (by omega)
  have HK2 : Hid (Kept (fun j => j = b) w w2) := Lib.hid ((Kept.of_below (M := fun j => j = b) b1).trans hk2 fun _ _ h => h)
  have CE := Lib.hid (event_any h2 3 0 0 0 0 0 0)
  have H2 := Lib.hid h2
  have HS2 := Lib.hid hs2
  have HE2 := Lib.hid hE2
  have E1 := Lib.hid e1
  have HBW := Lib.hid hbw
  clear H b1 hE hs2 h2 hk2 hE2 e1 hbw
  go_enter Tryz.func20, Tryz.ntmps20
  go_upto_region 1 with fail
  rw [← E1.out]
  clear E1
  generalize hT0 : w.heap.size = T0 at *
  have HT0 := Lib.hid hT0
  clear hT0
  go_wp2_with (first
    | refine wpList_store_of rfl _ _ _ rfl ⟨b, 7, none⟩ _ rfl rfl HS2.out ?_
    | refine wpList_value_want rfl _ (step_none_run rfl) ?_)
  refine CE.out.mono ?_
  rintro e w3 ⟨rfl, hb3⟩
  have HE3 := Lib.hid (RowAt.step HE2.out hb3)
  have H3 := Lib.hid (H2.out.step hb3)
  have HK3 : Hid (Kept (fun j => j = b) w w3) := Lib.hid (HK2.out.trans (Kept.of_below (M := fun _ => False) hb3) fun _ _ h => h.elim)
  clear CE hb3 HE2 H2 HK2 HS2
  go_wp2_with (refine wpList_store_of rfl _ _ _ rfl ⟨T0, 0, none⟩ _ rfl rfl (evc_store HE3.out) ?_)
  refine bodyPost_ret (results_row_tmp rfl _ (p := 2) rfl (HE3.out.setRow (evc 3 k p s 0 0 0 0)) Tryz.underlying32 rfl ev_size) rfl ⟨rfl, ?_, ?_⟩
  · exact RowAt.setRowOther H3.out _ (by have := HBW.out; omega) _
  · exact HK3.out.trans (kept_row _ _ _) fun y hy e => by have := HT0.out; omega
set_option maxHeartbeats 12800000 in
theorem llook_any {w : World} {q pc h G a t l m bb c g z p s k i b x N0 : Nat} {f : Bool} {L : List (List Nat)} {dd : Option Addr} (S : Sh a t l bb c g) (R : Fl t l c g p s k i) (hG : GrAt w q pc h G a t l m bb c g z L) (hL : L.length = l * c) (hS : Src w x a t l m bb c g z p s k) (hT : TAt w) (hN : TabN N0) (hx : N0 ≤ x)
    (H : LnRow w b (.pointer (some ⟨q, 0, none⟩)) k p s i (.pointer (some ⟨x, 0, none⟩)) (.pointer dd) f) (W x0 y0 r0 c0 : Nat) (hW : numW a t bb c g L p s k i = W) (hx0 : s * g + i = x0) (hy0 : bfN c x0 = y0) (hr0 : ofL l p s k W = r0) (hc0 : ofC l c g p s k i W = c0) :
    Calls Tryz.prog 21 #[.pointer (some ⟨b, 0, none⟩)] w fun e w' => e = .returned (.tuple #[evv 1 k p s k x0 r0 c0, .int .i64 0]) ∧ (∃ d, LnRow w' b (.pointer (some ⟨q, 0, none⟩)) k p s i (.pointer (some ⟨x, 0, none⟩)) (.pointer (some ⟨d, 0, none⟩)) f ∧ RowAt w' d 98 (stpc k x0 k y0 r0 c0) ∧ w.heap.size ≤ d) ∧ Src w' x a t l m bb c g z p s k ∧ Kept (fun j => j = b ∨ j = x) w w' := by
  have hbw : b < w.heap.size := RowAt.lt H
  have hxw : x < w.heap.size := hS.lt
  have hbx : b ≠ x := hS.unlike H rfl
  obtain ⟨w1, e1⟩ : ∃ w1, w1 = w.alloc (.cells (evc 0 0 0 0 0 0 0 0) 32) := ⟨_, rfl⟩
  have b1 : Below w.heap.size w w1 := by rw [e1]; exact one_box _ _
  have hE : RowAt w1 w.heap.size 32 (evc 0 0 0 0 0 0 0 0) := by rw [e1]; exact RowAt.new _ _ _
  have hR1 := H.step b1
  have hG1 := hG.step b1
  have hS1 := hS.step b1
  have hT1 := hT.next b1
  have hz1 : w.heap.size + 1 ≤ w1.heap.size := RowAt.lt hE
  have HR : Hid (∀ u, Below w1.heap.size w1 u → LnRow u b (.pointer (some ⟨q, 0, none⟩)) k p s i (.pointer (some ⟨x, 0, none⟩)) (.pointer dd) f) := Lib.hid fun u hu => hR1.step hu
  have CLk : Hid (∀ u, Below w1.heap.size w1 u → Calls Tryz.prog 40 #[.pointer (some ⟨q, 0, none⟩), tuv p s, .int .i64 (k : Int), .int .i64 (i : Int), .pointer (some ⟨x, 0, none⟩)] u fun e w' => e = .returned (.tuple #[stpv k x0 k y0 r0 c0, .int .i64 0]) ∧ (Src w' x a t l m bb c g z p s k ∧ Kept (fun j => j = x) u w')) := Lib.hid fun u hu => by
    have h := look_any S R (hG1.step hu) hL (hS1.step hu) (hT1.next hu) hN hx W hW
    rwa [hr0, hc0, hx0, hy0] at h
  obtain ⟨F, hF⟩ : ∃ F : World → Prop, F = fun u => LnRow u b (.pointer (some ⟨q, 0, none⟩)) k p s i (.pointer (some ⟨x, 0, none⟩)) (.pointer dd) f ∧ Src u x a t l m bb c g z p s k ∧ RowAt u w.heap.size 32 (evc 0 0 0 0 0 0 0 0) ∧ Kept (fun j => j = x) w1 u := ⟨_, rfl⟩
  have HFS : Hid (∀ u u', F u → Below u.heap.size u u' → F u') := Lib.hid fun u u' hu hb => by
    subst hF
    exact ⟨hu.1.step hb, hu.2.1.step hb, RowAt.step hu.2.2.1 hb, hu.2.2.2.trans (Kept.of_below (M := fun _ => False) hb) fun _ _ h => h.elim⟩
  have HFE : Hid (∀ u, F u → LnRow u b (.pointer (some ⟨q, 0, none⟩)) k p s i (.pointer (some ⟨x, 0, none⟩)) (.pointer dd) f ∧ Src u x a t l m bb c g z p s k ∧ RowAt u w.heap.size 32 (evc 0 0 0 0 0 0 0 0) ∧ Kept (fun j => j = x) w1 u) := Lib.hid fun u hu => by subst hF; exact hu
  have HF1 : Hid (∀ u u', Below w1.heap.size w1 u → Src u' x a t l m bb c g z p s k → Kept (fun j => j = x) u u' → F u') := Lib.hid fun u u' hu hs hk => by
    subst hF
    exact ⟨(hR1.step hu).kept hk hbx, hs, RowAt.kept (RowAt.step hE hu) hk (by omega), (Kept.of_below (M := fun j => j = x) hu).trans hk fun _ _ h => h⟩
  have HFK : Hid (∀ u d (C : Array Value), w1.heap.size ≤ d → F u → F (u.setRow d C)) := Lib.hid fun u d C hd hu => by
    subst hF
    obtain ⟨h1, h2, h3, h4⟩ := hu
    exact ⟨h1.kept (kept_row _ _ _) (by omega), h2.kept (kept_row _ _ _) (by omega), h3.setRowOther _ (by omega) _, h4.trans (kept_row _ _ _) fun y hy e => by omega⟩
  have HN1 : Hid (N0 ≤ w1.heap.size) := Lib.hid (by omega)
  have HNS : Hid (∀ u, Below N0 w1 u → w1.heap.size ≤ u.heap.size) := Lib.hid fun u hu => hu.size
  have HXW : Hid (N0 ≤ x ∧ x < w1.heap.size ∧ w.heap.size + 1 ≤ w1.heap.size ∧ b < w.heap.size ∧ x < w.heap.size ∧ w1.heap.size = w.heap.size + 1) := Lib.hid ⟨hx, by omega, hz1, hbw, hxw, by rw [e1, World.size_alloc]⟩
  have HB := Lib.hid b1
  have HBX := Lib.hid hbx
  have E1 := Lib.hid e1
  clear H hG hS hT b1 hE e1 hR1 hG1 hS1 hT1 hz1 hbw hxw hbx hF hW hx0 hy0 hr0 hc0
  go_enter Tryz.func21, Tryz.ntmps21
  go_upto_region 1 with fail
  rw [← E1.out]
  clear E1
  generalize hT0 : w.heap.size = T0 at *
  have HT0 := Lib.hid hT0
  clear hT0
  refine wp_region_stage (N0) [20, 25] [24] [[0], [0], [0], [0], [0], [0], [0], [0], [0], [0], [0], [0], [0], [0], [0], [0], [0], [0], [0], [0], [], [1], [1], [1, 2], [0, 1], [], [2]] [[Is (.pointer (some ⟨b, 0, none⟩)), Is (.pointer (some ⟨b, 0, none⟩)), Is (.pointer (some ⟨b, 0, none⟩)), Is (.pointer (some ⟨q, 0, none⟩)), Is (.pointer (some ⟨b, 0, none⟩)), Is (.pointer (some ⟨b, 0, none⟩)), Is (.pointer (some ⟨b, 2, none⟩)), Is (tuv p s), Is (.pointer (some ⟨b, 0, none⟩)), Is (.pointer (some ⟨b, 0, none⟩)), Is (.pointer (some ⟨b, 1, none⟩)), Is (.int .i64 (k : Int)), Is (.pointer (some ⟨b, 0, none⟩)), Is (.pointer (some ⟨b, 0, none⟩)), Is (.pointer (some ⟨b, 4, none⟩)), Is (.int .i64 (i : Int)), Is (.pointer (some ⟨b, 0, none⟩)), Is (.pointer (some ⟨b, 0, none⟩)), Is (.pointer (some ⟨b, 5, none⟩)), Is (.pointer (some ⟨x, 0, none⟩)), Free, Is (.tuple #[stpv k x0 k y0 r0 c0, .int .i64 0]), Is (stpv k x0 k y0 r0 c0), Is (.int .i64 0), NewAt w1.heap.size 98 (stpc 0 0 0 0 0 0), Free, Is (.int .i64 0)], [Is (.pointer (some ⟨b, 0, none⟩)), Is (.pointer (some ⟨b, 0, none⟩)), Is (.pointer (some ⟨b, 0, none⟩)), Is (.pointer (some ⟨q, 0, none⟩)), Is (.pointer (some ⟨b, 0, none⟩)), Is (.pointer (some ⟨b, 0, none⟩)), Is (.pointer (some ⟨b, 2, none⟩)), Is (tuv p s), Is (.pointer (some ⟨b, 0, none⟩)), Is (.pointer (some ⟨b, 0, none⟩)), Is (.pointer (some ⟨b, 1, none⟩)), Is (.int .i64 (k : Int)), Is (.pointer (some ⟨b, 0, none⟩)), Is (.pointer (some ⟨b, 0, none⟩)), Is (.pointer (some ⟨b, 4, none⟩)), Is (.int .i64 (i : Int)), Is (.pointer (some ⟨b, 0, none⟩)), Is (.pointer (some ⟨b, 0, none⟩)), Is (.pointer (some ⟨b, 5, none⟩)), Is (.pointer (some ⟨x, 0, none⟩)), IsF (.tuple #[stpv k x0 k y0 r0 c0, .int .i64 0]) F, Is (.tuple #[stpv k x0 k y0 r0 c0, .int .i64 0]), Is (stpv k x0 k y0 r0 c0), Is (.int .i64 0), NewAt w1.heap.size 98 (stpc 0 0 0 0 0 0), Free, Is (.int .i64 0)], [Is (.pointer (some ⟨b, 0, none⟩)), Is (.pointer (some ⟨b, 0, none⟩)), Is (.pointer (some ⟨b, 0, none⟩)), Is (.pointer (some ⟨q, 0, none⟩)), Is (.pointer (some ⟨b, 0, none⟩)), Is (.pointer (some ⟨b, 0, none⟩)), Is (.pointer (some ⟨b, 2, none⟩)), Is (tuv p s), Is (.pointer (some ⟨b, 0, none⟩)), Is (.pointer (some ⟨b, 0, none⟩)), Is (.pointer (some ⟨b, 1, none⟩)), Is (.int .i64 (k : Int)), Is (.pointer (some ⟨b, 0, none⟩)), Is (.pointer (some ⟨b, 0, none⟩)), Is (.pointer (some ⟨b, 4, none⟩)), Is (.int .i64 (i : Int)), Is (.pointer (some ⟨b, 0, none⟩)), Is (.pointer (some ⟨b, 0, none⟩)), Is (.pointer (some ⟨b, 5, none⟩)), Is (.pointer (some ⟨x, 0, none⟩)), IsF (.tuple #[stpv k x0 k y0 r0 c0, .int .i64 0]) F, Is (.tuple #[stpv k x0 k y0 r0 c0, .int .i64 0]), Is (stpv k x0 k y0 r0 c0), Is (.int .i64 0), NewAt w1.heap.size 98 (stpc k x0 k y0 r0 c0), Free, Is (.int .i64 0)]] [Is (.pointer (some ⟨b, 0, none⟩)), Is (.pointer (some ⟨b, 0, none⟩)), Is (.pointer (some ⟨b, 0, none⟩)), Is (.pointer (some ⟨q, 0, none⟩)), Is (.pointer (some ⟨b, 0, none⟩)), Is (.pointer (some ⟨b, 0, none⟩)), Is (.pointer (some ⟨b, 2, none⟩)), Is (tuv p s), Is (.pointer (some ⟨b, 0, none⟩)), Is (.pointer (some ⟨b, 0, none⟩)), Is (.pointer (some ⟨b, 1, none⟩)), Is (.int .i64 (k : Int)), Is (.pointer (some ⟨b, 0, none⟩)), Is (.pointer (some ⟨b, 0, none⟩)), Is (.pointer (some ⟨b, 4, none⟩)), Is (.int .i64 (i : Int)), Is (.pointer (some ⟨b, 0, none⟩)), Is (.pointer (some ⟨b, 0, none⟩)), Is (.pointer (some ⟨b, 5, none⟩)), Is (.pointer (some ⟨x, 0, none⟩)), IsF (.tuple #[stpv k x0 k y0 r0 c0, .int .i64 0]) F, Is (.tuple #[stpv k x0 k y0 r0 c0, .int .i64 0]), Is (stpv k x0 k y0 r0 c0), Is (.int .i64 0), NewAt w1.heap.size 98 (stpc k x0 k y0 r0 c0), Free, Is (.int .i64 0)] HN1.out (by kernel_rfl) (by kernel_rfl) rfl rfl ⟨⟨stable_is _, stable_is _, stable_is _, stable_is _, stable_is _, stable_is _, stable_is _, stable_is _, stable_is _, stable_is _, stable_is _, stable_is _, stable_is _, stable_is _, stable_is _, stable_is _, stable_is _, stable_is _, stable_is _, stable_is _, stable_free, stable_is _, stable_is _, stable_is _, stable_newat _ _ _, stable_free, stable_is _, trivial⟩, ⟨stable_is _, stable_is _, stable_is _, stable_is _, stable_is _, stable_is _, stable_is _, stable_is _, stable_is _, stable_is _, stable_is _, stable_is _, stable_is _, stable_is _, stable_is _, stable_is _, stable_is _, stable_is _, stable_is _, stable_is _, stable_isf _ HFS.out, stable_is _, stable_is _, stable_is _, stable_newat _ _ _, stable_free, stable_is _, trivial⟩, ⟨stable_is _, stable_is _, stable_is _, stable_is _, stable_is _, stable_is _, stable_is _, stable_is _, stable_is _, stable_is _, stable_is _, stable_is _, stable_is _, stable_is _, stable_is _, stable_is _, stable_is _, stable_is _, stable_is _, stable_is _, stable_isf _ HFS.out, stable_is _, stable_is _, stable_is _, stable_newat _ _ _, stable_free, stable_is _, trivial⟩, trivial⟩ (by intro n hn o ho hd w; simp only [List.mem_cons, List.not_mem_nil, or_false] at hn; rcases hn with rfl | rfl <;> first | trivial | (cases ho; cases hd)) rfl ⟨?p0, ?p1, ?p2, ?p3, ?p4, ?p5, ?p6, ?p7, ?p8, ?p9, ?p10, ?p11, ?p12, ?p13, ?p14, ?p15, ?p16, ?p17, ?p18, ?p19, fun h => absurd (by simp) h, ?p21, ?p22, ?p23, ?p24, fun h => absurd (by simp) h, ?p26, trivial⟩ ⟨?t0, ?t1, trivial⟩ (by decide) ?fin
  case p0 =>
    intro _ k hk; obtain rfl := List.mem_singleton.1 hk; intro a w C Z
    exact partS_on (wanted_free rfl _) (op_move (.inl rfl) (C.was 0 (by kernel_rfl)))
  case p1 =>
    intro _ k hk; obtain rfl := List.mem_singleton.1 hk; intro a w C Z
    exact partS_on (wanted_free rfl _) (op_value (nil_run rfl (C.on (j := 0) (by kernel_rfl) rfl rfl)) rfl)
  case p2 =>
    intro _ k hk; obtain rfl := List.mem_singleton.1 hk; intro a w C Z
    exact partS_on (wanted_free rfl _) (op_value (lnf_run (k := 0) (j := 0) rfl (by decide) (C.on (j := 1) (by kernel_rfl) rfl rfl)) rfl)
  case p3 =>
    intro _ k hk; obtain rfl := List.mem_singleton.1 hk; intro a w C Z
    exact partS_on (wanted_free rfl _) (op_value (pgr_run rfl (C.on (j := 2) (by kernel_rfl) rfl rfl) (HR.out w C.below).grid) rfl)
  case p4 =>
    intro _ k hk; obtain rfl := List.mem_singleton.1 hk; intro a w C Z
    exact partS_on (wanted_free rfl _) (op_move (.inl rfl) (C.was 0 (by kernel_rfl)))
  case p5 =>
    intro _ k hk; obtain rfl := List.mem_singleton.1 hk; intro a w C Z
    exact partS_on (wanted_free rfl _) (op_value (nil_run rfl (C.on (j := 4) (by kernel_rfl) rfl rfl)) rfl)
  case p6 =>
    intro _ k hk; obtain rfl := List.mem_singleton.1 hk; intro a w C Z
    exact partS_on (wanted_free rfl _) (op_value (lnf_run (k := 2) (j := 2) rfl (by decide) (C.on (j := 5) (by kernel_rfl) rfl rfl)) rfl)
  case p7 =>
    intro _ k hk; obtain rfl := List.mem_singleton.1 hk; intro a w C Z
    exact partS_on (wanted_free rfl _) (op_value (load_run rfl (C.on (j := 6) (by kernel_rfl) rfl rfl) (HR.out w C.below).turn) rfl)
  case p8 =>
    intro _ k hk; obtain rfl := List.mem_singleton.1 hk; intro a w C Z
    exact partS_on (wanted_free rfl _) (op_move (.inl rfl) (C.was 0 (by kernel_rfl)))
  case p9 =>
    intro _ k hk; obtain rfl := List.mem_singleton.1 hk; intro a w C Z
    exact partS_on (wanted_free rfl _) (op_value (nil_run rfl (C.on (j := 8) (by kernel_rfl) rfl rfl)) rfl)
  case p10 =>
    intro _ k hk; obtain rfl := List.mem_singleton.1 hk; intro a w C Z
    exact partS_on (wanted_free rfl _) (op_value (lnf_run (k := 1) (j := 1) rfl (by decide) (C.on (j := 9) (by kernel_rfl) rfl rfl)) rfl)
  case p11 =>
    intro _ k hk; obtain rfl := List.mem_singleton.1 hk; intro a w C Z
    exact partS_on (wanted_free rfl _) (op_value (int_run rfl (C.on (j := 10) (by kernel_rfl) rfl rfl) (HR.out w C.below).number) rfl)
  case p12 =>
    intro _ k hk; obtain rfl := List.mem_singleton.1 hk; intro a w C Z
    exact partS_on (wanted_free rfl _) (op_move (.inl rfl) (C.was 0 (by kernel_rfl)))
  case p13 =>
    intro _ k hk; obtain rfl := List.mem_singleton.1 hk; intro a w C Z
    exact partS_on (wanted_free rfl _) (op_value (nil_run rfl (C.on (j := 12) (by kernel_rfl) rfl rfl)) rfl)
  case p14 =>
    intro _ k hk; obtain rfl := List.mem_singleton.1 hk; intro a w C Z
    exact partS_on (wanted_free rfl _) (op_value (lnf_run (k := 3) (j := 4) rfl (by decide) (C.on (j := 13) (by kernel_rfl) rfl rfl)) rfl)
  case p15 =>
    intro _ k hk; obtain rfl := List.mem_singleton.1 hk; intro a w C Z
    exact partS_on (wanted_free rfl _) (op_value (int_run rfl (C.on (j := 14) (by kernel_rfl) rfl rfl) (HR.out w C.below).index) rfl)
  case p16 =>
    intro _ k hk; obtain rfl := List.mem_singleton.1 hk; intro a w C Z
    exact partS_on (wanted_free rfl _) (op_move (.inl rfl) (C.was 0 (by kernel_rfl)))
  case p17 =>
    intro _ k hk; obtain rfl := List.mem_singleton.1 hk; intro a w C Z
    exact partS_on (wanted_free rfl _) (op_value (nil_run rfl (C.on (j := 16) (by kernel_rfl) rfl rfl)) rfl)
  case p18 =>
    intro _ k hk; obtain rfl := List.mem_singleton.1 hk; intro a w C Z
    exact partS_on (wanted_free rfl _) (op_value (lnf_run (k := 4) (j := 5) rfl (by decide) (C.on (j := 17) (by kernel_rfl) rfl rfl)) rfl)
  case p19 =>
    intro _ k hk; obtain rfl := List.mem_singleton.1 hk; intro a w C Z
    exact partS_on (wanted_free rfl _) (op_value (psr_run rfl (C.on (j := 18) (by kernel_rfl) rfl rfl) (HR.out w C.below).source) rfl)
  case p21 =>
    intro _ k hk; obtain rfl := List.mem_singleton.1 hk; intro a w C Z
    exact partS_on (wanted_free rfl _) (op_move (.inl rfl) ((C.on (j := 20) (by kernel_rfl) rfl rfl)).1)
  case p22 =>
    intro _ k hk; obtain rfl := List.mem_singleton.1 hk; intro a w C Z
    exact partS_on (wanted_free rfl _) (op_value (ext_run (v := stpv k x0 k y0 r0 c0) rfl (C.on (j := 21) (by kernel_rfl) rfl rfl) rfl) rfl)
  case p23 =>
    intro _ k hk; replace hk : k ∈ [1, 2] := hk; simp only [List.mem_cons, List.not_mem_nil, or_false] at hk
    rcases hk with rfl | rfl
    · intro a w C Z
      exact partS_on (wanted_free rfl _) (op_value (ext_run (v := .int .i64 0) rfl (C.on (j := 21) (by kernel_rfl) rfl rfl) rfl) rfl)
    · intro a w C Z
      exact partS_on (wanted_free rfl _) (op_value (ext_run (v := .int .i64 0) rfl (C.on (j := 21) (by kernel_rfl) rfl rfl) rfl) rfl)
  case p24 =>
    intro _ k hk; replace hk : k ∈ [0, 1] := hk; simp only [List.mem_cons, List.not_mem_nil, or_false] at hk
    rcases hk with rfl | rfl
    · intro a w C Z
      exact partS_new (wanted_free rfl _) (op_fresh (step_new rfl) ⟨_, rfl, HNS.out _ Z, RowAt.new _ _ _⟩)
    · intro a w C Z
      exact partS_new (wanted_free rfl _) (op_fresh (step_new rfl) ⟨_, rfl, HNS.out _ Z, RowAt.new _ _ _⟩)
  case p26 =>
    intro _ k hk; obtain rfl := List.mem_singleton.1 hk; intro a w C Z
    exact partS_on (wanted_free rfl _) (op_move (.inr rfl) (C.on (j := 23) (by kernel_rfl) rfl rfl))
  case t0 =>
    intro o ho a w C A
    cases ho
    have cb : Below w1.heap.size w1 w := C.below
    refine ⟨wanted_free rfl _, ?_⟩
    unfold TurnsS
    refine Oper.wp_mono ?_ (turn_enter (reg_call5 rfl (reg_enters Tryz.func40 (by kernel_rfl) (by kernel_rfl)) (C.on (j := 3) (by kernel_rfl) rfl rfl) (C.on (j := 7) (by kernel_rfl) rfl rfl) (C.on (j := 11) (by kernel_rfl) rfl rfl) (C.on (j := 15) (by kernel_rfl) rfl rfl) (C.on (j := 19) (by kernel_rfl) rfl rfl)) (CLk.out w cb))
    rintro a2 w2 ⟨rfl, hS2, hk2⟩
    have hxw := HXW.out
    refine ⟨_, rfl, ⟨rfl, HF1.out w w2 cb hS2 hk2⟩, (cb.mono HN1.out).trans (hk2.below (Nat.le_trans HN1.out cb.size) fun y hy => by omega), hk2.size, ?_⟩
    · intro i o2 d hi hd hne hnw h
      have hil := (List.getElem?_eq_some_iff.1 hi).1
      replace hil : i < 27 := hil
      obtain rfl | rfl | rfl | rfl | rfl | rfl | rfl | rfl | rfl | rfl | rfl | rfl | rfl | rfl | rfl | rfl | rfl | rfl | rfl | rfl | rfl | rfl | rfl | rfl | rfl | rfl | rfl : i = 0 ∨ i = 1 ∨ i = 2 ∨ i = 3 ∨ i = 4 ∨ i = 5 ∨ i = 6 ∨ i = 7 ∨ i = 8 ∨ i = 9 ∨ i = 10 ∨ i = 11 ∨ i = 12 ∨ i = 13 ∨ i = 14 ∨ i = 15 ∨ i = 16 ∨ i = 17 ∨ i = 18 ∨ i = 19 ∨ i = 20 ∨ i = 21 ∨ i = 22 ∨ i = 23 ∨ i = 24 ∨ i = 25 ∨ i = 26 := by omega
      · exact h
      · exact h
      · exact h
      · exact h
      · exact h
      · exact h
      · exact h
      · exact h
      · exact h
      · exact h
      · exact h
      · exact h
      · exact h
      · exact h
      · exact h
      · exact h
      · exact h
      · exact h
      · exact h
      · exact h
      · exact absurd rfl hne
      · exact absurd hnw (by rw [show waits _ 21 20 = true from by kernel_rfl]; decide)
      · exact absurd hnw (by rw [show waits _ 22 20 = true from by kernel_rfl]; decide)
      · exact absurd hnw (by rw [show waits _ 23 20 = true from by kernel_rfl]; decide)
      · obtain ⟨d, e1, h1, hR⟩ := h; exact ⟨d, e1, h1, hR.kept hk2 (by omega)⟩
      · cases hi; cases hd
      · exact absurd hnw (by rw [show waits _ 26 20 = true from by kernel_rfl]; decide)
  case t1 =>
    intro o ho a w C A
    cases ho
    obtain ⟨d, e1, h1, hR⟩ := (C.on (j := 24) (by kernel_rfl) rfl rfl)
    have hd0 := HN1.out
    refine ⟨wanted_free rfl _, stage_store rfl e1 (C.on (j := 22) (by kernel_rfl) rfl rfl) (stpc_store hR) trivial (below_setRow (Below.refl _ _) (by omega) _) (Nat.le_of_eq (setRow_size _ _ _).symm) ?_⟩
    · intro i o2 d hi hd hne hnw h
      have hil := (List.getElem?_eq_some_iff.1 hi).1
      replace hil : i < 27 := hil
      obtain rfl | rfl | rfl | rfl | rfl | rfl | rfl | rfl | rfl | rfl | rfl | rfl | rfl | rfl | rfl | rfl | rfl | rfl | rfl | rfl | rfl | rfl | rfl | rfl | rfl | rfl | rfl : i = 0 ∨ i = 1 ∨ i = 2 ∨ i = 3 ∨ i = 4 ∨ i = 5 ∨ i = 6 ∨ i = 7 ∨ i = 8 ∨ i = 9 ∨ i = 10 ∨ i = 11 ∨ i = 12 ∨ i = 13 ∨ i = 14 ∨ i = 15 ∨ i = 16 ∨ i = 17 ∨ i = 18 ∨ i = 19 ∨ i = 20 ∨ i = 21 ∨ i = 22 ∨ i = 23 ∨ i = 24 ∨ i = 25 ∨ i = 26 := by omega
      · exact h
      · exact h
      · exact h
      · exact h
      · exact h
      · exact h
      · exact h
      · exact h
      · exact h
      · exact h
      · exact h
      · exact h
      · exact h
      · exact h
      · exact h
      · exact h
      · exact h
      · exact h
      · exact h
      · exact h
      · exact ⟨h.1, HFK.out _ _ _ h1 h.2⟩
      · exact h
      · exact h
      · exact h
      · cases hi; cases hd; exact ⟨d, e1, h1, hR.setRow _⟩
      · exact absurd rfl hne
      · exact absurd hnw (by rw [show waits _ 26 25 = true from by kernel_rfl]; decide)
  case fin =>
    rintro wF hbF _ rfl _ rfl _ rfl _ rfl _ rfl _ rfl _ rfl _ rfl _ rfl _ rfl _ rfl _ rfl _ rfl _ rfl _ rfl _ rfl _ rfl _ rfl _ rfl _ rfl _ ⟨rfl, hFF⟩ _ rfl _ rfl _ rfl _ ⟨d, rfl, hdN, hdR⟩ _ _ _ rfl
    simp only [Fin, setAt, Exit.then, List.setIfInBounds_toArray, List.set_cons_succ, List.set_cons_zero]
    obtain ⟨h1, h2, h3, h4⟩ := HFE.out _ hFF
    have hx5 := HXW.out
    obtain ⟨w3, hs3, h13, hk3⟩ := h1.setHeld (some ⟨d, 0, none⟩) dd rfl
    have HS3 := Lib.hid hs3
    have HL3 := Lib.hid (stpc_load (RowAt.kept hdR hk3 (by omega)))
    have HD3 := Lib.hid (RowAt.kept hdR hk3 (by omega))
    have HE3 := Lib.hid (RowAt.kept h3 hk3 (by omega))
    have HSr3 := Lib.hid (h2.kept hk3 (Ne.symm HBX.out))
    have CE := Lib.hid (event_any h13 1 k x0 k y0 r0 c0)
    have H3 := Lib.hid h13
    have HK3 : Hid (Kept (fun j => j = b ∨ j = x) w w3) := Lib.hid (((Kept.of_below (M := fun j => j = b ∨ j = x) (HT0.out ▸ HB.out)).trans h4 fun _ _ h => .inr h).trans hk3 fun _ _ h => .inl h)
    have HDN := Lib.hid hdN
    clear hFF hbF h1 h2 h3 h4 hs3 h13 hk3 hdR hdN CLk HF1 HFS HFE HFK HR HB
    go_wp2_with (first
      | refine wpList_store_of rfl _ _ _ rfl ⟨b, 6, none⟩ _ rfl rfl HS3.out ?_
      | refine wpList_load_want rfl 98 _ rfl _ _ rfl HL3.out ?_)
    refine CE.out.mono ?_
    rintro e w4 ⟨rfl, hb4⟩
    have HE4 := Lib.hid (RowAt.step HE3.out hb4)
    have H4 := Lib.hid (H3.out.step hb4)
    have HD4 := Lib.hid (RowAt.step HD3.out hb4)
    have HSr4 := Lib.hid (HSr3.out.step hb4)
    have HK4 : Hid (Kept (fun j => j = b ∨ j = x) w w4) := Lib.hid (HK3.out.trans (Kept.of_below (M := fun _ => False) hb4) fun _ _ h => h.elim)
    clear CE hb4 HE3 H3 HK3 HS3 HL3 HD3 HSr3
    go_wp2_with (refine wpList_store_of rfl _ _ _ rfl ⟨T0, 0, none⟩ _ rfl rfl (evc_store HE4.out) ?_)
    refine bodyPost_ret (results_row_tmp rfl _ (p := 2) rfl (HE4.out.setRow (evc 1 k p s k x0 r0 c0)) Tryz.underlying32 rfl ev_size) rfl ⟨rfl, ⟨d, ?_, ?_, ?_⟩, ?_, ?_⟩
    · exact RowAt.setRowOther H4.out _ (by omega) _
    · exact RowAt.setRowOther HD4.out _ (by have := HDN.out; omega) _
    · have := HDN.out; have := HT0.out; omega
    · exact HSr4.out.kept (kept_row _ _ _) (by omega)
    · exact HK4.out.trans (kept_row _ _ _) fun y hy e => by have := HT0.out; omega
end Go.Proofs.YtfoodaobiknihaaGreatDoor

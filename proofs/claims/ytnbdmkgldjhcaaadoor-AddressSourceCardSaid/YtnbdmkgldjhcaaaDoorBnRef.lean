/- The document's Quarter of package blend by its contract. Conditions: those typed. -/
import Derived.Test.YtnbdmkgldjhcaaaDoorBnWords
namespace Go.Proofs.YtnbdmkgldjhcaaaDoor
set_option maxRecDepth 50000
open Go.RowKit Rot Bn

theorem wq4 (a b c d : Nat) : (wq [a, b, c, d]).size = 4 := rfl
/-- four words in a row -/
def Four (w : World) (B : Nat) (a b c d : Nat) : Prop := RowAt w B 80 (wq [a, b, c, d])
theorem Four.facts {w : World} {B a b c d : Nat} (h : Four w B a b c d) : (w.cell? ⟨B, 0, none⟩ = some (.int .u64 (a : Int)) ∧ w.cell? ⟨B, 1, none⟩ = some (.int .u64 (b : Int)) ∧ w.cell? ⟨B, 2, none⟩ = some (.int .u64 (c : Int)) ∧ w.cell? ⟨B, 3, none⟩ = some (.int .u64 (d : Int))) ∧
    w.frozen? ⟨B, 0, none⟩ = false ∧ w.frozen? ⟨B, 1, none⟩ = false ∧ w.frozen? ⟨B, 2, none⟩ = false ∧ w.frozen? ⟨B, 3, none⟩ = false :=
  ⟨⟨(RowAt.cell h 0).trans rfl, (RowAt.cell h 1).trans rfl, (RowAt.cell h 2).trans rfl, (RowAt.cell h 3).trans rfl⟩, RowAt.frozen h 0, RowAt.frozen h 1, RowAt.frozen h 2, RowAt.frozen h 3⟩
theorem Four.s0 {w : World} {B a b c d : Nat} (h : Four w B a b c d) (x : Nat) : Four (w.setCell ⟨B, 0, none⟩ (.int .u64 (x : Int))) B x b c d := RowAt.setCell h 0 _
theorem Four.s1 {w : World} {B a b c d : Nat} (h : Four w B a b c d) (x : Nat) : Four (w.setCell ⟨B, 1, none⟩ (.int .u64 (x : Int))) B a x c d := RowAt.setCell h 1 _
theorem Four.s2 {w : World} {B a b c d : Nat} (h : Four w B a b c d) (x : Nat) : Four (w.setCell ⟨B, 2, none⟩ (.int .u64 (x : Int))) B a b x d := RowAt.setCell h 2 _
theorem Four.s3 {w : World} {B a b c d : Nat} (h : Four w B a b c d) (x : Nat) : Four (w.setCell ⟨B, 3, none⟩ (.int .u64 (x : Int))) B a b c x := RowAt.setCell h 3 _
/-- four words, a row for the answer -/
structure F4 (w w' : World) (a b c d : Nat) : Prop where
  v : Four w' w.heap.size a b c d
  z : Four w' (w.heap.size + 1) 0 0 0 0
  b : Below w.heap.size w w'
section
variable {w w' w2 : World} {a b c d : Nat}
theorem F4.new (w : World) (a b c d : Nat) : F4 w ((w.alloc (.cells (wq [a, b, c, d]) 80)).alloc (.cells (wq [0, 0, 0, 0]) 80)) a b c d := by
  refine ⟨(RowAt.new w _ _).alloc _, ?_, ((Below.refl _ w).alloc (Nat.le_refl _) _).alloc (by simp) _⟩
  have h := RowAt.new (w.alloc (.cells (wq [a, b, c, d]) 80)) 80 (wq [0, 0, 0, 0])
  rw [World.size_alloc] at h; exact h
theorem F4.s0 (h : F4 w w' a b c d) (x : Nat) : F4 w (w'.setCell ⟨w.heap.size, 0, none⟩ (.int .u64 (x : Int))) x b c d := ⟨h.v.s0 x, RowAt.setOther h.z _ (by simp) _, h.b.setCell (by simp) _⟩
theorem F4.s1 (h : F4 w w' a b c d) (x : Nat) : F4 w (w'.setCell ⟨w.heap.size, 1, none⟩ (.int .u64 (x : Int))) a x c d := ⟨h.v.s1 x, RowAt.setOther h.z _ (by simp) _, h.b.setCell (by simp) _⟩
theorem F4.s2 (h : F4 w w' a b c d) (x : Nat) : F4 w (w'.setCell ⟨w.heap.size, 2, none⟩ (.int .u64 (x : Int))) a b x d := ⟨h.v.s2 x, RowAt.setOther h.z _ (by simp) _, h.b.setCell (by simp) _⟩
theorem F4.s3 (h : F4 w w' a b c d) (x : Nat) : F4 w (w'.setCell ⟨w.heap.size, 3, none⟩ (.int .u64 (x : Int))) a b c x := ⟨h.v.s3 x, RowAt.setOther h.z _ (by simp) _, h.b.setCell (by simp) _⟩
theorem F4.step (h : F4 w w' a b c d) (hb : Below w'.heap.size w' w2) : F4 w w2 a b c d :=
  ⟨RowAt.below h.v hb (RowAt.lt h.v), RowAt.below h.z hb (RowAt.lt h.z), h.b.trans (hb.mono h.b.size)⟩
end

set_option maxHeartbeats 1600000 in
theorem rquarter_any (q : Q) (hq : q.ok) (w : World) :
    Calls Tryd.prog 37 #[.agg (wq q.list)] w fun e w' => e = .returned (.agg (wq (quarter q).list)) ∧ Below w.heap.size w w' := by
  obtain ⟨a1, z1, d1, c1, z2, b1, a2, z3, d2, c2, z4, b2, E, ⟨p1, p2, p3, p4, p5, p6⟩, ⟨p7, p8, p9, pa, pb, pc⟩, ⟨l1, l2, l3, l4, l5, l6⟩, ⟨l7, l8, l9, la, lb, lc⟩⟩ := quarter_steps q hq
  rw [E]
  clear E
  obtain ⟨a, b, c, d⟩ := q
  obtain ⟨ha, hb, hc, hd⟩ := hq
  simp only [Q.list] at ha hb hc hd p1 p2 p4 p5 ⊢
  have A1 := Lib.hid fun w => rprod_any a b ha hb w
  have x1 := xor64 d a1 hd l1
  have R1 := Lib.hid fun w => round_a z1 l2 w
  have A2 := Lib.hid fun w => rprod_any c d1 hc l3 w
  have x2 := xor64 b c1 hb l4
  have R2 := Lib.hid fun w => round_b z2 l5 w
  have A3 := Lib.hid fun w => rprod_any a1 b1 l1 l6 w
  have x3 := xor64 d1 a2 l3 l7
  have R3 := Lib.hid fun w => round_c z3 l8 w
  have A4 := Lib.hid fun w => rprod_any c1 d2 l4 l9 w
  have x4 := xor64 b1 c2 l6 la
  have R4 := Lib.hid fun w => round_d z4 lb w
  rw [p2] at x1; rw [p5] at x2; rw [p8] at x3; rw [pb] at x4
  rw [← p1] at A1; rw [← p3] at R1; rw [← p4] at A2; rw [← p6] at R2; rw [← p7] at A3; rw [← p9] at R3; rw [← pa] at A4; rw [← pc] at R4
  clear p1 p2 p3 p4 p5 p6 p7 p8 p9 pa pb pc l1 l2 l3 l4 l5 l6 l7 l8 l9 la lb lc ha hb hc hd
  have H0 := Lib.hid (F4.new w a b c d)
  simp only [wq, u64s, List.map_cons, List.map_nil]
  go_enter Tryd.func37, Tryd.ntmps37
  go_wp2_with fail
  generalize hW0 : World.alloc _ _ = w0
  have H1 : Hid (F4 w w0 a b c d) := Lib.hid (by subst hW0; exact H0.out)
  clear hW0 H0
  refine (A1.out _).mono ?_; rintro e w' ⟨rfl, rfl⟩
  have H2 := Lib.hid (H1.out.s0 a1)
  obtain ⟨⟨c0, c1', c2', c3⟩, f0, f1', f2', f3'⟩ := H1.out.v.facts
  clear H1 A1
  go_wp2_with fail
  generalize hW : World.setCell _ _ _ = w1
  have H1 : Hid (F4 w w1 a1 b c d) := Lib.hid (by subst hW; exact H2.out)
  clear hW H2
  clear c0 c1' c2' c3 f0 f1' f2' f3'
  refine (R1.out _).mono ?_; rintro e v2 ⟨rfl, hb⟩
  have H2 := Lib.hid ((H1.out.step hb).s3 d1)
  obtain ⟨⟨c0, c1', c2', c3⟩, f0, f1', f2', f3'⟩ := (H1.out.step hb).v.facts
  clear hb
  clear H1 R1
  go_wp2_with fail
  generalize hW : World.setCell _ _ _ = w2
  have H1 : Hid (F4 w w2 a1 b c d1) := Lib.hid (by subst hW; exact H2.out)
  clear hW H2
  clear c0 c1' c2' c3 f0 f1' f2' f3'
  refine (A2.out _).mono ?_; rintro e w' ⟨rfl, rfl⟩
  have H2 := Lib.hid (H1.out.s2 c1)
  obtain ⟨⟨c0, c1', c2', c3⟩, f0, f1', f2', f3'⟩ := H1.out.v.facts
  clear H1 A2
  go_wp2_with fail
  generalize hW : World.setCell _ _ _ = w3
  have H1 : Hid (F4 w w3 a1 b c1 d1) := Lib.hid (by subst hW; exact H2.out)
  clear hW H2
  clear c0 c1' c2' c3 f0 f1' f2' f3'
  refine (R2.out _).mono ?_; rintro e v4 ⟨rfl, hb⟩
  have H2 := Lib.hid ((H1.out.step hb).s1 b1)
  obtain ⟨⟨c0, c1', c2', c3⟩, f0, f1', f2', f3'⟩ := (H1.out.step hb).v.facts
  clear hb
  clear H1 R2
  go_wp2_with fail
  generalize hW : World.setCell _ _ _ = w4
  have H1 : Hid (F4 w w4 a1 b1 c1 d1) := Lib.hid (by subst hW; exact H2.out)
  clear hW H2
  clear c0 c1' c2' c3 f0 f1' f2' f3'
  refine (A3.out _).mono ?_; rintro e w' ⟨rfl, rfl⟩
  have H2 := Lib.hid (H1.out.s0 a2)
  obtain ⟨⟨c0, c1', c2', c3⟩, f0, f1', f2', f3'⟩ := H1.out.v.facts
  clear H1 A3
  go_wp2_with fail
  generalize hW : World.setCell _ _ _ = w5
  have H1 : Hid (F4 w w5 a2 b1 c1 d1) := Lib.hid (by subst hW; exact H2.out)
  clear hW H2
  clear c0 c1' c2' c3 f0 f1' f2' f3'
  refine (R3.out _).mono ?_; rintro e v6 ⟨rfl, hb⟩
  have H2 := Lib.hid ((H1.out.step hb).s3 d2)
  obtain ⟨⟨c0, c1', c2', c3⟩, f0, f1', f2', f3'⟩ := (H1.out.step hb).v.facts
  clear hb
  clear H1 R3
  go_wp2_with fail
  generalize hW : World.setCell _ _ _ = w6
  have H1 : Hid (F4 w w6 a2 b1 c1 d2) := Lib.hid (by subst hW; exact H2.out)
  clear hW H2
  clear c0 c1' c2' c3 f0 f1' f2' f3'
  refine (A4.out _).mono ?_; rintro e w' ⟨rfl, rfl⟩
  have H2 := Lib.hid (H1.out.s2 c2)
  obtain ⟨⟨c0, c1', c2', c3⟩, f0, f1', f2', f3'⟩ := H1.out.v.facts
  clear H1 A4
  go_wp2_with fail
  generalize hW : World.setCell _ _ _ = w7
  have H1 : Hid (F4 w w7 a2 b1 c2 d2) := Lib.hid (by subst hW; exact H2.out)
  clear hW H2
  clear c0 c1' c2' c3 f0 f1' f2' f3'
  refine (R4.out _).mono ?_; rintro e v8 ⟨rfl, hb⟩
  have H2 := Lib.hid ((H1.out.step hb).s1 b2)
  obtain ⟨⟨c0, c1', c2', c3⟩, f0, f1', f2', f3'⟩ := (H1.out.step hb).v.facts
  clear hb
  clear H1 R4
  have RA := Lib.hid H2.out.v
  have RZ := Lib.hid H2.out.z
  have HB := Lib.hid H2.out.b
  clear H2
  go_wp2_with (first
    | refine wpList_load_row rfl 80 (.tmp 1) rfl w.heap.size rfl 80 (wq [a2, b2, c2, d2]) (0, 0) _ RA.out Tryd.underlying80 rfl (by rw [wq4]; exact q_size4) ?_
    | refine wpList_store_row rfl 80 (.tmp 2) (.tmp 55) rfl (w.heap.size + 1) (wq [a2, b2, c2, d2]) rfl rfl 80 _ RZ.out (by rw [wq4]; exact q_size4) (by rw [wq4, wq4]) (wq_one _) ?_)
  have hR := RowAt.setRow RZ.out (wq [a2, b2, c2, d2])
  refine bodyPost_ret (v := .agg (wq [a2, b2, c2, d2])) (results_cell_row rfl _ _ (w.heap.size + 1) 80 (wq [a2, b2, c2, d2]) (0, 0) _ rfl hR Tryd.underlying80 rfl (by rw [wq4]; exact q_size4)) rfl ⟨rfl, ?_⟩
  exact below_setRow HB.out (by omega) _
end Go.Proofs.YtnbdmkgldjhcaaaDoor

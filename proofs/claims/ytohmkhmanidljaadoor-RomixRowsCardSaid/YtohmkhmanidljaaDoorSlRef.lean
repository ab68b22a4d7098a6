/- The document's Quarter and Undone by their contracts. Conditions: those typed. -/
import Derived.Test.YtohmkhmanidljaaDoorSlWords
namespace Go.Proofs.YtohmkhmanidljaaDoor
set_option maxRecDepth 50000
open Go.RowKit Rot Sl

theorem wd4 (a b c d : Nat) : (wd [a, b, c, d]).size = 4 := rfl
/-- four words, and a row for the answer, while they are mixed -/
structure Fx (w w' : World) (a b c d : Nat) : Prop where
  a : RowAt w' w.heap.size 99 (wd [a, b, c, d]) ∧ RowAt w' (w.heap.size + 1) 99 (wd [0, 0, 0, 0])
  b : Below w.heap.size w w'
section
variable {w w' : World} {a b c d : Nat}
theorem Fx.new (w : World) (a b c d : Nat) : Fx w ((w.alloc (.cells (wd [a, b, c, d]) 99)).alloc (.cells (wd [0, 0, 0, 0]) 99)) a b c d := by
  refine ⟨⟨(RowAt.new w _ _).alloc _, ?_⟩, ((Below.refl _ w).alloc (Nat.le_refl _) _).alloc (by simp) _⟩
  have h := RowAt.new (w.alloc (.cells (wd [a, b, c, d]) 99)) 99 (wd [0, 0, 0, 0])
  rw [World.size_alloc] at h; exact h
theorem Fx.cells (h : Fx w w' a b c d) : (∀ tp d os out, (World.mk w'.heap tp d os out).cell? ⟨w.heap.size, 0, none⟩ = some (.int .u32 (a : Int))) ∧ (∀ tp d os out, (World.mk w'.heap tp d os out).cell? ⟨w.heap.size, 1, none⟩ = some (.int .u32 (b : Int))) ∧
    (∀ tp d os out, (World.mk w'.heap tp d os out).cell? ⟨w.heap.size, 2, none⟩ = some (.int .u32 (c : Int))) ∧ (∀ tp e os out, (World.mk w'.heap tp e os out).cell? ⟨w.heap.size, 3, none⟩ = some (.int .u32 (d : Int))) :=
  ⟨fun _ _ _ _ => (h.a.1.cell 0).trans rfl, fun _ _ _ _ => (h.a.1.cell 1).trans rfl, fun _ _ _ _ => (h.a.1.cell 2).trans rfl, fun _ _ _ _ => (h.a.1.cell 3).trans rfl⟩
theorem Fx.drew (h : Fx w w' a b c d) : Fx w w'.drew a b c d := ⟨⟨h.a.1.drew, h.a.2.drew⟩, h.b.drew⟩
theorem Fx.s0 (h : Fx w w' a b c d) (x : Nat) : Fx w (w'.setCell ⟨w.heap.size, 0, none⟩ (.int .u32 (x : Int))) x b c d := ⟨⟨h.a.1.setCell 0 _, h.a.2.setOther _ (by simp) _⟩, h.b.setCell (by simp) _⟩
theorem Fx.s1 (h : Fx w w' a b c d) (x : Nat) : Fx w (w'.setCell ⟨w.heap.size, 1, none⟩ (.int .u32 (x : Int))) a x c d := ⟨⟨h.a.1.setCell 1 _, h.a.2.setOther _ (by simp) _⟩, h.b.setCell (by simp) _⟩
theorem Fx.s2 (h : Fx w w' a b c d) (x : Nat) : Fx w (w'.setCell ⟨w.heap.size, 2, none⟩ (.int .u32 (x : Int))) a b x d := ⟨⟨h.a.1.setCell 2 _, h.a.2.setOther _ (by simp) _⟩, h.b.setCell (by simp) _⟩
theorem Fx.s3 (h : Fx w w' a b c d) (x : Nat) : Fx w (w'.setCell ⟨w.heap.size, 3, none⟩ (.int .u32 (x : Int))) a b c x := ⟨⟨h.a.1.setCell 3 _, h.a.2.setOther _ (by simp) _⟩, h.b.setCell (by simp) _⟩
end
theorem xor_back (x y z : Nat) (h : x = y ^^^ z) : x ^^^ z = y := by rw [h, Nat.xor_assoc, Nat.xor_self, Nat.xor_zero]
theorem hid_four (a b c d a' b' c' d' : Nat) (q : Q) (h : q = ⟨a', b', c', d'⟩) (e1 : a' = a) (e2 : b' = b) (e3 : c' = c) (e4 : d' = d) : q = ⟨a, b, c, d⟩ := by rw [h, e1, e2, e3, e4]

set_option maxHeartbeats 1600000 in
theorem rquarter_any (q : Q) (hq : q.ok) (w : World) :
    Calls Tryd.prog 53 #[.agg (wd q.list)] w fun e w' => e = .returned (.agg (wd (quarter q).list)) ∧ Below w.heap.size w w' := by
  have E : Hid (quarter q = ⟨aO q, bO q, cO q, dO q⟩) := Lib.hid rfl
  have ho := quarter_ok hq
  have eb : q.b ^^^ rotl 32 (add q.a q.d) 7 = bO q := rfl
  have ec : q.c ^^^ rotl 32 (add (bO q) q.a) 9 = cO q := rfl
  have ed : q.d ^^^ rotl 32 (add (cO q) (bO q)) 13 = dO q := rfl
  have ea : q.a ^^^ rotl 32 (add (dO q) (cO q)) 18 = aO q := rfl
  rw [E.out] at ho ⊢
  clear E
  obtain ⟨ha', hb', hc', hd'⟩ := ho
  simp only at ha' hb' hc' hd'
  generalize aO q = a' at *
  generalize bO q = b' at *
  generalize cO q = c' at *
  generalize dO q = d' at *
  obtain ⟨a, b, c, d⟩ := q
  obtain ⟨ha, hb, hc, hd⟩ := hq
  simp only at ha hb hc hd ea eb ec ed
  have X1 := eb
  have X2 := ec
  have X3 := ed
  have X4 := ea
  clear ea eb ec ed
  have e1 := wadd a d
  have R1 := Lib.hid fun w => rleft_n 7 (by decide) (add a d) (add_lt _ _) w
  have f1 := xor32 b _ hb (rot_lt a 7 (by decide) d)
  rw [show b ^^^ rotl 32 (add a d) 7 = b' from X1] at f1
  have e2 := wadd b' a
  have R2 := Lib.hid fun w => rleft_n 9 (by decide) (add b' a) (add_lt _ _) w
  have f2 := xor32 c _ hc (rot_lt b' 9 (by decide) a)
  rw [show c ^^^ rotl 32 (add b' a) 9 = c' from X2] at f2
  have e3 := wadd c' b'
  have R3 := Lib.hid fun w => rleft_n 13 (by decide) (add c' b') (add_lt _ _) w
  have f3 := xor32 d _ hd (rot_lt c' 13 (by decide) b')
  rw [show d ^^^ rotl 32 (add c' b') 13 = d' from X3] at f3
  have e4 := wadd d' c'
  have R4 := Lib.hid fun w => rleft_n 18 (by decide) (add d' c') (add_lt _ _) w
  have f4 := xor32 a _ ha (rot_lt d' 18 (by decide) c')
  rw [show a ^^^ rotl 32 (add d' c') 18 = a' from X4] at f4
  generalize rotl 32 (add a d) 7 = r1 at *
  generalize rotl 32 (add b' a) 9 = r2 at *
  generalize rotl 32 (add c' b') 13 = r3 at *
  generalize rotl 32 (add d' c') 18 = r4 at *
  generalize add a d = s1 at *
  generalize add b' a = s2 at *
  generalize add c' b' = s3 at *
  generalize add d' c' = s4 at *
  clear X1 X2 X3 X4 ha hb hc hd ha' hb' hc' hd'
  simp only [Q.list]
  have HS : Hid (Fx w ((w.alloc (.cells (wd [a, b, c, d]) 99)).alloc (.cells (wd [0, 0, 0, 0]) 99)) a b c d) := Lib.hid (Fx.new w a b c d)
  go_enter Tryd.func53, Tryd.ntmps53
  go_wp2
  generalize hW0 : World.alloc _ _ = w0
  have HS0 : Hid (Fx w w0 a b c d) := Lib.hid (by subst hW0; exact HS.out)
  clear hW0 HS
  obtain ⟨c0, c1, c2, c3⟩ := HS0.out.cells
  refine wp_region_still_tail 10 (by kernel_rfl) (by kernel_rfl) ?_
  simp only [List.take_succ_cons, List.take_zero, List.drop_succ_cons, List.drop_zero]
  repeat still_step
  still_call ((R1.out _).mono fun _ _ h => And.intro h.1 h.2.symm)
  repeat still_step
  refine wpStill_nil ?_
  clear c0 c1 c2 c3
  change wpList _ _ _ _ _ w0.drew
  have HD := Lib.hid HS0.out.drew
  clear HS0
  generalize w0.drew = v0 at *
  have ca := HD.out.cells.2.1
  have fa := HD.out.a.1.frozen 1
  have HE := Lib.hid (HD.out.s1 b')
  clear HD
  go_wp2
  generalize World.setCell _ _ _ = w1 at *
  have HS1 : Hid (Fx w w1 a b' c d) := HE
  clear HE ca fa
  obtain ⟨c0, c1, c2, c3⟩ := HS1.out.cells
  refine wp_region_still_tail 10 (by kernel_rfl) (by kernel_rfl) ?_
  simp only [List.take_succ_cons, List.take_zero, List.drop_succ_cons, List.drop_zero]
  repeat still_step
  still_call ((R2.out _).mono fun _ _ h => And.intro h.1 h.2.symm)
  repeat still_step
  refine wpStill_nil ?_
  clear c0 c1 c2 c3
  change wpList _ _ _ _ _ w1.drew
  have HD := Lib.hid HS1.out.drew
  clear HS1
  generalize w1.drew = v1 at *
  have ca := HD.out.cells.2.2.1
  have fa := HD.out.a.1.frozen 2
  have HE := Lib.hid (HD.out.s2 c')
  clear HD
  go_wp2
  generalize World.setCell _ _ _ = w2 at *
  have HS2 : Hid (Fx w w2 a b' c' d) := HE
  clear HE ca fa
  obtain ⟨c0, c1, c2, c3⟩ := HS2.out.cells
  refine wp_region_still_tail 10 (by kernel_rfl) (by kernel_rfl) ?_
  simp only [List.take_succ_cons, List.take_zero, List.drop_succ_cons, List.drop_zero]
  repeat still_step
  still_call ((R3.out _).mono fun _ _ h => And.intro h.1 h.2.symm)
  repeat still_step
  refine wpStill_nil ?_
  clear c0 c1 c2 c3
  change wpList _ _ _ _ _ w2.drew
  have HD := Lib.hid HS2.out.drew
  clear HS2
  generalize w2.drew = v2 at *
  have ca := HD.out.cells.2.2.2
  have fa := HD.out.a.1.frozen 3
  have HE := Lib.hid (HD.out.s3 d')
  clear HD
  go_wp2
  generalize World.setCell _ _ _ = w3 at *
  have HS3 : Hid (Fx w w3 a b' c' d') := HE
  clear HE ca fa
  obtain ⟨c0, c1, c2, c3⟩ := HS3.out.cells
  refine wp_region_still_tail 10 (by kernel_rfl) (by kernel_rfl) ?_
  simp only [List.take_succ_cons, List.take_zero, List.drop_succ_cons, List.drop_zero]
  repeat still_step
  still_call ((R4.out _).mono fun _ _ h => And.intro h.1 h.2.symm)
  repeat still_step
  refine wpStill_nil ?_
  clear c0 c1 c2 c3
  change wpList _ _ _ _ _ w3.drew
  have HD := Lib.hid HS3.out.drew
  clear HS3
  generalize w3.drew = v3 at *
  have ca := HD.out.cells.1
  have fa := HD.out.a.1.frozen 0
  have HE := Lib.hid (HD.out.s0 a')
  clear HD

  have RA := Lib.hid HE.out.a.1
  have RZ := Lib.hid HE.out.a.2
  have HB := Lib.hid HE.out.b
  clear HE
  go_wp2_with (first
    | refine wpList_load_row rfl 99 (.tmp 1) rfl w.heap.size rfl 99 (wd [a', b', c', d']) (0, 0) _ RA.out Tryd.underlying99 rfl (by rw [wd4]; exact size_4) ?_
    | refine wpList_store_row rfl 99 (.tmp 2) (.tmp 43) rfl (w.heap.size + 1) (wd [a', b', c', d']) rfl rfl 99 _ RZ.out (by rw [wd4]; exact size_4) (by rw [wd4, wd4]) (wd_one _) ?_)
  have hR := RowAt.setRow RZ.out (wd [a', b', c', d'])
  refine bodyPost_ret (v := .agg (wd [a', b', c', d'])) (results_cell_row rfl _ _ (w.heap.size + 1) 99 (wd [a', b', c', d']) (0, 0) _ rfl hR Tryd.underlying99 rfl (by rw [wd4]; exact size_4)) rfl ⟨rfl, ?_⟩
  exact below_setRow HB.out (by omega) _

end Go.Proofs.YtohmkhmanidljaaDoor

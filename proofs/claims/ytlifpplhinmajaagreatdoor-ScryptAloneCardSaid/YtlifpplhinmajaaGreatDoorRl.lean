/- The document's Quarter and Undone by their contracts. Conditions: those typed. The document's Half by its contract. Conditions: those typed. The document's Core by its contract. Conditions: those typed. -/
import Derived.Test.YtlifpplhinmajaaGreatDoorSl
namespace Go.Proofs.YtlifpplhinmajaaGreatDoor
set_option maxRecDepth 50000
open Go.RowKit Rot Sl

theorem wd4 (a b c d : Nat) : (wd [a, b, c, d]).size = 4 := rfl
/-- four words, and a row for the answer, while they are mixed -/
structure Fx (w w' : World) (a b c d : Nat) : Prop where
  a : RowAt w' w.heap.size 175 (wd [a, b, c, d]) ∧ RowAt w' (w.heap.size + 1) 175 (wd [0, 0, 0, 0])
  b : Below w.heap.size w w'
section
variable {w w' : World} {a b c d : Nat}
theorem Fx.new (w : World) (a b c d : Nat) : Fx w ((w.alloc (.cells (wd [a, b, c, d]) 175)).alloc (.cells (wd [0, 0, 0, 0]) 175)) a b c d := by
  refine ⟨⟨(RowAt.new w _ _).alloc _, ?_⟩, ((Below.refl _ w).alloc (Nat.le_refl _) _).alloc (by simp) _⟩
  have h := RowAt.new (w.alloc (.cells (wd [a, b, c, d]) 175)) 175 (wd [0, 0, 0, 0])
  rw [World.size_alloc] at h; exact h
theorem Fx.cells (h : Fx w w' a b c d) : (∀ tp d os out, (World.mk w'.heap tp d os out).cell? ⟨w.heap.size, 0, none⟩ = some (.int .u32 (a : Int))) ∧ (∀ tp d os out, (World.mk w'.heap tp d os out).cell? ⟨w.heap.size, 1, none⟩ = some (.int .u32 (b : Int))) ∧
    (∀ tp d os out, (World.mk w'.heap tp d os out).cell? ⟨w.heap.size, 2, none⟩ = some (.int .u32 (c : Int))) ∧ (∀ tp e os out, (World.mk w'.heap tp e os out).cell? ⟨w.heap.size, 3, none⟩ = some (.int .u32 (d : Int))) :=
  ⟨fun _ _ _ _ => (h.a.1.cell 0).trans rfl, fun _ _ _ _ => (h.a.1.cell 1).trans rfl, fun _ _ _ _ => (h.a.1.cell 2).trans rfl, fun _ _ _ _ => (h.a.1.cell 3).trans rfl⟩
theorem Fx.drew (h : Fx w w' a b c d) : Fx w w'.drew a b c d := ⟨⟨h.a.1.drew, h.a.2.drew⟩, h.b.drew⟩
theorem Fx.s0 (h : Fx w w' a b c d) (x : Nat) : Fx w (w'.setCell ⟨w.heap.size, 0, none⟩ (.int .u32 (x : Int))) x b c d := ⟨⟨h.a.1.setCell 0 _, h.a.2.setOther _ (by simp) _⟩, h.b.setCell (by simp) _⟩
theorem Fx.s1 (h : Fx w w' a b c d) (x : Nat) : Fx w (w'.setCell ⟨w.heap.size, 1, none⟩ (.int .u32 (x : Int))) a x c d := ⟨⟨h.a.1.setCell 1 _, h.a.2.setOther _ (by simp) _⟩, h.b.setCell (by simp) _⟩
theorem Fx.s2 (h : Fx w w' a b c d) (x : Nat) : Fx w (w'.setCell ⟨w.heap.size, 2, none⟩ (.int .u32 (x : Int))) a b x d := ⟨⟨h.a.1.setCell 2 _, h.a.2.setOther _ (by simp) _⟩, h.b.setCell (by simp) _⟩
theorem Fx.s3 (h : Fx w w' a b c d) (x : Nat) : Fx w (w'.setCell ⟨w.heap.size, 3, none⟩ (.int .u32 (x : Int))) a b c x := ⟨⟨h.a.1.setCell 3 _, h.a.2.setOther _ (by simp) _⟩, h.b.setCell (by simp) _⟩
end
theorem xor_back (x y z : Nat) (h : x = y ^^^ z) : x ^^^ z = y := by rw [h, Nat.xor_assoc, Nat.xor_self, Nat.xor_zero]
theorem hid_four (a b c d a' b' c' d' : Nat) (q : Q) (h : q = ⟨a', b', c', d'⟩) (e1 : a' = a) (e2 : b' = b) (e3 : c' = c) (e4 : d' = d) : q = ⟨a, b, c, d⟩ := by rw [h, e1, e2, e3, e4]

set_option maxHeartbeats 1600000 in
theorem rquarter_any (q : Q) (hq : q.ok) (w : World) :
    Calls Tryz.prog 116 #[.agg (wd q.list)] w fun e w' => e = .returned (.agg (wd (quarter q).list)) ∧ Below w.heap.size w w' := by
  have E : Hid (quarter q = ⟨aO q, bO q, cO q, dO q⟩) := Lib.hid rfl
  have ho := quarter_ok hq
  have eb : q.b ^^^ rotl 32 (add q.a q.d) 7 = bO q := rfl
  have ec : q.c ^^^ rotl 32 (add (bO q) q.a) 9 = cO q := rfl
  have ed : q.d ^^^ rotl 32 (add (cO q) (bO q)) 13 = dO q := rfl
  have ea : q.a ^^^ rotl 32 (add (dO q) (cO q)) 18 = aO q := rfl
  rw [E.out] at ho ⊢
  clear E
  obtain ⟨ha', hb', hc', hd'⟩ := ho
  simp only at ha' hb' hc' hd'
  generalize aO q = a' at *
  generalize bO q = b' at *
  generalize cO q = c' at *
  generalize dO q = d' at *
  obtain ⟨a, b, c, d⟩ := q
  obtain ⟨ha, hb, hc, hd⟩ := hq
  simp only at ha hb hc hd ea eb ec ed
  have X1 := eb
  have X2 := ec
  have X3 := ed
  have X4 := ea
  clear ea eb ec ed
  have e1 := wadd a d
  have R1 := Lib.hid fun w => rleft_n 7 (by decide) (add a d) (add_lt _ _) w
  have f1 := xor32 b _ hb (rot_lt a 7 (by decide) d)
  rw [show b ^^^ rotl 32 (add a d) 7 = b' from X1] at f1
  have e2 := wadd b' a
  have R2 := Lib.hid fun w => rleft_n 9 (by decide) (add b' a) (add_lt _ _) w
  have f2 := xor32 c _ hc (rot_lt b' 9 (by decide) a)
  rw [show c ^^^ rotl 32 (add b' a) 9 = c' from X2] at f2
  have e3 := wadd c' b'
  have R3 := Lib.hid fun w => rleft_n 13 (by decide) (add c' b') (add_lt _ _) w
  have f3 := xor32 d _ hd (rot_lt c' 13 (by decide) b')
  rw [show d ^^^ rotl 32 (add c' b') 13 = d' from X3] at f3
  have e4 := wadd d' c'
  have R4 := Lib.hid fun w => rleft_n 18 (by decide) (add d' c') (add_lt _ _) w
  have f4 := xor32 a _ ha (rot_lt d' 18 (by decide) c')
  rw [show a ^^^ rotl 32 (add d' c') 18 = a' from X4] at f4
  generalize rotl 32 (add a d) 7 = r1 at *
  generalize rotl 32 (add b' a) 9 = r2 at *
  generalize rotl 32 (add c' b') 13 = r3 at *
  generalize rotl 32 (add d' c') 18 = r4 at *
  generalize add a d = s1 at *
  generalize add b' a = s2 at *
  generalize add c' b' = s3 at *
  generalize add d' c' = s4 at *
  clear X1 X2 X3 X4 ha hb hc hd ha' hb' hc' hd'
  simp only [Q.list]
  have HS : Hid (Fx w ((w.alloc (.cells (wd [a, b, c, d]) 175)).alloc (.cells (wd [0, 0, 0, 0]) 175)) a b c d) := Lib.hid (Fx.new w a b c d)
  go_enter Tryz.func116, Tryz.ntmps116
  go_wp2
  generalize hW0 : World.alloc _ _ = w0
  have HS0 : Hid (Fx w w0 a b c d) := Lib.hid (by subst hW0; exact HS.out)
  clear hW0 HS
  obtain ⟨c0, c1, c2, c3⟩ := HS0.out.cells
  refine wp_region_still_tail 10 (by kernel_rfl) (by kernel_rfl) ?_
  simp only [List.take_succ_cons, List.take_zero, List.drop_succ_cons, List.drop_zero]
  repeat still_step
  still_call ((R1.out _).mono fun _ _ h => And.intro h.1 h.2.symm)
  repeat still_step
  refine wpStill_nil ?_
  clear c0 c1 c2 c3
  change wpList _ _ _ _ _ w0.drew
  have HD := Lib.hid HS0.out.drew
  clear HS0
  generalize w0.drew = v0 at *
  have ca := HD.out.cells.2.1
  have fa := HD.out.a.1.frozen 1
  have HE := Lib.hid (HD.out.s1 b')
  clear HD
  go_wp2
  generalize World.setCell _ _ _ = w1 at *
  have HS1 : Hid (Fx w w1 a b' c d) := HE
  clear HE ca fa
  obtain ⟨c0, c1, c2, c3⟩ := HS1.out.cells
  refine wp_region_still_tail 10 (by kernel_rfl) (by kernel_rfl) ?_
  simp only [List.take_succ_cons, List.take_zero, List.drop_succ_cons, List.drop_zero]
  repeat still_step
  still_call ((R2.out _).mono fun _ _ h => And.intro h.1 h.2.symm)
  repeat still_step
  refine wpStill_nil ?_
  clear c0 c1 c2 c3
  change wpList _ _ _ _ _ w1.drew
  have HD := Lib.hid HS1.out.drew
  clear HS1
  generalize w1.drew = v1 at *
  have ca := HD.out.cells.2.2.1
  have fa := HD.out.a.1.frozen 2
  have HE := Lib.hid (HD.out.s2 c')
  clear HD
  go_wp2
  generalize World.setCell _ _ _ = w2 at *
  have HS2 : Hid (Fx w w2 a b' c' d) := HE
  clear HE ca fa
  obtain ⟨c0, c1, c2, c3⟩ := HS2.out.cells
  refine wp_region_still_tail 10 (by kernel_rfl) (by kernel_rfl) ?_
  simp only [List.take_succ_cons, List.take_zero, List.drop_succ_cons, List.drop_zero]
  repeat still_step
  still_call ((R3.out _).mono fun _ _ h => And.intro h.1 h.2.symm)
  repeat still_step
  refine wpStill_nil ?_
  clear c0 c1 c2 c3
  change wpList _ _ _ _ _ w2.drew
  have HD := Lib.hid HS2.out.drew
  clear HS2
  generalize w2.drew = v2 at *
  have ca := HD.out.cells.2.2.2
  have fa := HD.out.a.1.frozen 3
  have HE := Lib.hid (HD.out.s3 d')
  clear HD
  go_wp2
  generalize World.setCell _ _ _ = w3 at *
  have HS3 : Hid (Fx w w3 a b' c' d') := HE
  clear HE ca fa
  obtain ⟨c0, c1, c2, c3⟩ := HS3.out.cells
  refine wp_region_still_tail 10 (by kernel_rfl) (by kernel_rfl) ?_
  simp only [List.take_succ_cons, List.take_zero, List.drop_succ_cons, List.drop_zero]
  repeat still_step
  still_call ((R4.out _).mono fun _ _ h => And.intro h.1 h.2.symm)
  repeat still_step
  refine wpStill_nil ?_
  clear c0 c1 c2 c3
  change wpList _ _ _ _ _ w3.drew
  have HD := Lib.hid HS3.out.drew
  clear HS3
  generalize w3.drew = v3 at *
  have ca := HD.out.cells.1
  have fa := HD.out.a.1.frozen 0
  have HE := Lib.hid (HD.out.s0 a')
  clear HD

  have RA := Lib.hid HE.out.a.1
  have RZ := Lib.hid HE.out.a.2
  have HB := Lib.hid HE.out.b
  clear HE
  go_wp2_with (first
    | refine wpList_load_row rfl 175 (.tmp 1) rfl w.heap.size rfl 175 (wd [a', b', c', d']) (0, 0) _ RA.out Tryz.underlying175 rfl (by rw [wd4]; exact size_4) ?_
    | refine wpList_store_row rfl 175 (.tmp 2) (.tmp 43) rfl (w.heap.size + 1) (wd [a', b', c', d']) rfl rfl 175 _ RZ.out (by rw [wd4]; exact size_4) (by rw [wd4, wd4]) (wd_one _) ?_)
  have hR := RowAt.setRow RZ.out (wd [a', b', c', d'])
  refine bodyPost_ret (v := .agg (wd [a', b', c', d'])) (results_cell_row rfl _ _ (w.heap.size + 1) 175 (wd [a', b', c', d']) (0, 0) _ rfl hR Tryz.underlying175 rfl (by rw [wd4]; exact size_4)) rfl ⟨rfl, ?_⟩
  exact below_setRow HB.out (by omega) _

end Go.Proofs.YtlifpplhinmajaaGreatDoor

namespace Go.Proofs.YtlifpplhinmajaaGreatDoor
set_option maxRecDepth 50000
open Go.RowKit Rot Sl

/-- the first k of four numbers, the others 0 -/
def four (f : Nat → Nat) (k : Nat) : List Nat := [if 0 < k then f 0 else 0, if 1 < k then f 1 else 0, if 2 < k then f 2 else 0, if 3 < k then f 3 else 0]
theorem four_length (f : Nat → Nat) (k : Nat) : (four f k).length = 4 := rfl
theorem four_next (f : Nat → Nat) (k : Nat) (hk : k < 4) : (four f k).set k (f k) = four f (k + 1) := by
  match k, hk with
  | 0, _ => rfl
  | 1, _ => rfl
  | 2, _ => rfl
  | 3, _ => rfl
theorem four_at (f : Nat → Nat) (k : Nat) (hk : k < 4) : (four f 4).getD k 0 = f k := by
  match k, hk with
  | 0, _ => rfl
  | 1, _ => rfl
  | 2, _ => rfl
  | 3, _ => rfl
/-- the first k words of four put back to their places -/
def backTo (x : List Nat) (p q : Nat → Nat) : Nat → List Nat
  | 0 => x
  | k + 1 => (backTo x p q k).set (p k) (q k)
theorem backTo_length (x : List Nat) (p q : Nat → Nat) : ∀ k, (backTo x p q k).length = x.length
  | 0 => rfl
  | k + 1 => by rw [backTo, List.length_set, backTo_length x p q k]
theorem backTo_all (x : List Nat) (i : Nat) (q : Q) : backTo x (pt i) (fun k => q.list.getD k 0) 4 = put4 x i q := rfl
def base (rows : Bool) : Nat := if rows then 4 else 0
theorem pt_half (rows : Bool) (i k : Nat) (hi : i < 4) (hk : k < 4) : (if rows then 4 * i + (i + k) % 4 else 4 * ((i + k) % 4) + i) = pt (base rows + i) k := by
  have h : ∀ rows : Bool, ∀ i, i < 4 → ∀ k, k < 4 → (if rows then 4 * i + (i + k) % 4 else 4 * ((i + k) % 4) + i) = pt (base rows + i) k := by decide
  exact h rows i hi k hk
theorem base_lt (rows : Bool) (i : Nat) (hi : i < 4) : base rows + i < 8 := by cases rows <;> simp [base] <;> omega

/-- what lies in memory while four words are taken, mixed and put back -/
structure Hx (w wr : World) (A V : Nat) (x a v : List Nat) : Prop where
  d : Dx w wr x
  ra : RowAt wr A 174 (iq a)
  rv : RowAt wr V 175 (wd v)
  lt : w.heap.size + 1 < A ∧ A < V
section
variable {w wr wr' : World} {A V : Nat} {x a v : List Nat}
theorem Hx.new (h : Dx w wr x) : Hx w ((wr.alloc (.cells (iq [0, 0, 0, 0]) 174)).alloc (.cells (wd [0, 0, 0, 0]) 175)) wr.heap.size (wr.heap.size + 1) x [0, 0, 0, 0] [0, 0, 0, 0] := by
  have hl := h.lt
  refine ⟨h.step (((Below.refl _ wr).alloc (Nat.le_refl _) _).alloc (by simp) _), (RowAt.new wr _ _).alloc _, ?_, by omega, by omega⟩
  have e := RowAt.new (wr.alloc (.cells (iq [0, 0, 0, 0]) 174)) 175 (wd [0, 0, 0, 0])
  rwa [World.size_alloc] at e
theorem Hx.step (h : Hx w wr A V x a v) (hb : Below wr.heap.size wr wr') : Hx w wr' A V x a v :=
  ⟨h.d.step hb, h.ra.below hb h.ra.lt, h.rv.below hb h.rv.lt, h.lt⟩
theorem Hx.setA (h : Hx w wr A V x a v) (i z : Nat) : Hx w (wr.setCell ⟨A, i, none⟩ (.int .i64 (z : Int))) A V x (a.set i z) v := by
  have hl := h.lt
  exact ⟨⟨h.d.rv.setOther _ (by simp; omega) _, h.d.rz.setOther _ (by simp; omega) _, h.d.below.setCell (by simp; omega) _⟩, by rw [← iq_set]; exact h.ra.setCell i _, h.rv.setOther _ (by simp; omega) _, hl⟩
theorem Hx.setV (h : Hx w wr A V x a v) (i z : Nat) : Hx w (wr.setCell ⟨V, i, none⟩ (.int .u32 (z : Int))) A V x a (v.set i z) := by
  have hl := h.lt
  exact ⟨⟨h.d.rv.setOther _ (by simp; omega) _, h.d.rz.setOther _ (by simp; omega) _, h.d.below.setCell (by simp; omega) _⟩, h.ra.setOther _ (by simp; omega) _, by rw [← wd_set]; exact h.rv.setCell i _, hl⟩
theorem Hx.setX (h : Hx w wr A V x a v) (i z : Nat) : Hx w (wr.setCell ⟨w.heap.size, i, none⟩ (.int .u32 (z : Int))) A V (x.set i z) a v := by
  have hl := h.lt
  exact ⟨h.d.set i z, h.ra.setOther _ (by simp; omega) _, h.rv.setOther _ (by simp; omega) _, hl⟩
theorem Hx.rowV (h : Hx w wr A V x a v) (v' : List Nat) : Hx w (wr.setRow V (wd v')) A V x a v' := by
  have hl := h.lt
  exact ⟨⟨h.d.rv.setRowOther _ (by omega) _, h.d.rz.setRowOther _ (by omega) _, below_setRow h.d.below (by omega) _⟩, h.ra.setRowOther _ (by omega) _, h.rv.setRow _, hl⟩
end

set_option maxHeartbeats 3200000 in
theorem half_any (x : List Nat) (hx : x.length = 16) (ho : okw x) (rows : Bool) (w : World) :
    Calls Tryz.prog 100 #[.agg (wd x), .bool rows] w fun e w' => e = .returned (.agg (wd (half x rows))) ∧ Below w.heap.size w w' := by
  have HL := Lib.hid hx
  have HO := Lib.hid ho
  have HD := Lib.hid (Dx.new w x)
  clear hx ho
  go_enter Tryz.func100, Tryz.ntmps100
  go_wp2
  generalize hW0 : World.alloc _ _ = w0
  have HX0 : Hid (Dx w w0 x) := Lib.hid (by subst hW0; exact HD.out)
  clear hW0 HD
  go_loopw [5] (fun v5 wr => ∃ i : Nat, i ≤ 4 ∧ v5 = .int .i64 (i : Int) ∧ Dx w wr (qTo x (base rows) i)) (fun v5 _ => 4 - (intOf v5).toNat)
  case atStart => exact ⟨0, by omega, rfl, HX0.out⟩
  case round =>
    clear HX0
    obtain ⟨i, hi, rfl, X⟩ := hrel
    have HX := Lib.hid X
    clear X
    by_cases h4 : i < 4
    · have hdt : decide ((i : Int) < 4) = true := by simp; omega
      have HN : Hid (qTo x (base rows) (i + 1) = put4 (qTo x (base rows) i) (base rows + i) (quarter (take4 (qTo x (base rows) i) (base rows + i)))) := Lib.hid rfl
      have HVL : Hid ((qTo x (base rows) i).length = 16) := Lib.hid (by rw [qTo_length]; exact HL.out)
      have HVO := Lib.hid (qTo_ok HO.out (base rows) i)
      have HPT := Lib.hid fun k hk => pt_half rows i k h4 hk
      have HPL := Lib.hid fun k hk => pt_lt (base rows + i) k (base_lt rows i h4) hk
      have HTK : Hid ((take4 (qTo x (base rows) i) (base rows + i)).list = four (fun k => (qTo x (base rows) i).getD (pt (base rows + i) k) 0) 4) := Lib.hid rfl
      have HHN := Lib.hid (Hx.new HX.out)
      generalize qTo x (base rows) i = vi at *
      generalize base rows + i = bi at *
      go_wp2
      obtain ⟨A, hA⟩ : ∃ A, A = wr.heap.size := ⟨_, rfl⟩
      obtain ⟨V, hV⟩ : ∃ V, V = A + 1 := ⟨_, rfl⟩
      rw [← hA] at HHN ⊢
      rw [← hV] at HHN ⊢
      generalize hW1 : World.alloc _ _ = w1
      have HX1 : Hid (Hx w w1 A V vi (four (pt bi) 0) (four (fun k => vi.getD (pt bi k) 0) 0)) := Lib.hid (by subst hW1; exact HHN.out)
      clear hW1 HHN hA hV HX
      go_loopw [8] (fun v8 wr => ∃ k : Nat, k ≤ 4 ∧ v8 = .int .i64 (k : Int) ∧ Hx w wr A V vi (four (pt bi) k) (four (fun k => vi.getD (pt bi k) 0) k)) (fun v8 _ => 4 - (intOf v8).toNat)
      case atStart => exact ⟨0, by omega, rfl, HX1.out⟩
      case round =>
        clear HX1
        obtain ⟨k, hk, rfl, X⟩ := hrel
        have HX := Lib.hid X
        clear X
        by_cases hk4 : k < 4
        · have hdk : decide ((k : Int) < 4) = true := by simp; omega
          have hp0 := HPT.out k hk4
          have hpl := HPL.out k hk4
          have HA1 : Hid ((four (pt bi) k).set k (pt bi k) = four (pt bi) (k + 1)) := Lib.hid (four_next _ k hk4)
          have HV1 : Hid ((four (fun k => vi.getD (pt bi k) 0) k).set k (vi.getD (pt bi k) 0) = four (fun k => vi.getD (pt bi k) 0) (k + 1)) := Lib.hid (four_next _ k hk4)
          have HG : Hid (vi.getD (pt bi k) 0 = vi.getD (pt bi k) 0) := Lib.hid rfl
          obtain ⟨q, hq⟩ : ∃ q, q = i + k := ⟨_, rfl⟩
          obtain ⟨m, hm⟩ : ∃ m, m = q % 4 := ⟨_, rfl⟩
          obtain ⟨f4, hf⟩ : ∃ f, f = 4 * m := ⟨_, rfl⟩
          obtain ⟨c, hc⟩ : ∃ c, c = f4 + i := ⟨_, rfl⟩
          obtain ⟨i4, hi4⟩ : ∃ f, f = 4 * i := ⟨_, rfl⟩
          obtain ⟨r, hr⟩ : ∃ c, c = i4 + m := ⟨_, rfl⟩
          have e1 : (i : Int) + (k : Int) = (q : Int) := by omega
          have e2 : (q : Int).tmod 4 = (m : Int) := by rw [Int.tmod_eq_emod_of_nonneg (by omega)]; omega
          have e2' : (q : Int) % 4 = (m : Int) := by omega
          have e3 : (4 : Int) * (m : Int) = (f4 : Int) := by omega
          have e4 : (f4 : Int) + (i : Int) = (c : Int) := by omega
          have e5 : (4 : Int) * (i : Int) = (i4 : Int) := by omega
          have e6 : (i4 : Int) + (m : Int) = (r : Int) := by omega
          have b1 : q < 8 := by omega
          have b2 : m < 4 := by omega
          have b3 : f4 < 16 := by omega
          have b4 : c < 20 := by omega
          have b5 : i4 < 16 := by omega
          have b6 : r < 20 := by omega
          rw [← hq, ← hm, ← hf, ← hc, ← hi4, ← hr] at hp0
          have hla := four_length (pt bi) k
          have hlv := four_length (fun k => vi.getD (pt bi k) 0) k
          have hxv := wd_at vi (pt bi k) (by rw [HVL.out]; exact hpl)
          generalize pt bi k = p at *
          generalize vi.getD p 0 = g at *
          generalize four (pt bi) k = la at *
          generalize four (fun k => vi.getD (pt bi k) 0) k = lv at *
          clear hq hm hf hc hi4 hr HG
          have ca := (HX.out.ra.cell k).trans (iq_at la k (by omega))
          have fa := HX.out.ra.frozen k
          generalize la.getD k 0 = a0 at *
          cases rows
          · rw [if_neg (by simp)] at hp0
            subst hp0
            have X1 := HX.out.setA k c
            have c1 := (X1.ra.cell k).trans (iq_at _ k (by rw [List.length_set]; omega))
            rw [List.getD_eq_getElem?_getD, List.getElem?_set_self (by omega), Option.getD_some] at c1
            have c2 := (X1.d.rv.cell c).trans hxv
            have c3 := (X1.rv.cell k).trans (wd_at lv k (by omega))
            have f3 := X1.rv.frozen k
            generalize lv.getD k 0 = v0 at *
            have HX2 := Lib.hid (X1.setV k g)
            clear X1 HX hla hlv hxv
            go_wp2
            go_roundw
            case rel => exact ⟨k + 1, by omega, by go_num, by rw [← HA1.out, ← HV1.out]; exact HX2.out⟩
            case measure => simp [intOf]; omega
          · rw [if_pos rfl] at hp0
            subst hp0
            have X0 := HX.out.setA k c
            have c0 := (X0.ra.cell k).trans (iq_at _ k (by rw [List.length_set]; omega))
            have f0 := X0.ra.frozen k
            rw [List.getD_eq_getElem?_getD, List.getElem?_set_self (by omega), Option.getD_some] at c0
            have X1 := X0.setA k r
            rw [List.set_set] at X1
            have c1 := (X1.ra.cell k).trans (iq_at _ k (by rw [List.length_set]; omega))
            rw [List.getD_eq_getElem?_getD, List.getElem?_set_self (by omega), Option.getD_some] at c1
            have c2 := (X1.d.rv.cell r).trans hxv
            have c3 := (X1.rv.cell k).trans (wd_at lv k (by omega))
            have f3 := X1.rv.frozen k
            generalize lv.getD k 0 = v0 at *
            have HX2 := Lib.hid (X1.setV k g)
            clear X0 X1 HX hla hlv hxv
            go_wp2
            go_roundw
            case rel => exact ⟨k + 1, by omega, by go_num, by rw [← HA1.out, ← HV1.out]; exact HX2.out⟩
            case measure => simp [intOf]; omega
        · obtain rfl : k = 4 := by omega
          have hdk : decide (((4 : Nat) : Int) < 4) = false := by simp
          have CQ := Lib.hid (rquarter_any (take4 vi bi) (take4_ok HVO.out bi) wr)
          rw [HTK.out] at CQ
          have hq4 : (quarter (take4 vi bi)).list.length = 4 := rfl
          have HB : Hid (backTo vi (pt bi) (fun k => (quarter (take4 vi bi)).list.getD k 0) 4 = put4 vi bi (quarter (take4 vi bi))) := Lib.hid (backTo_all _ _ _)
          rw [← HB.out] at HN
          have HFA : Hid (∀ j, j < 4 → (four (pt bi) 4).getD j 0 = pt bi j) := Lib.hid (four_at (pt bi))
          generalize (quarter (take4 vi bi)).list = ql at *
          have hl4 := four_length (fun k => vi.getD (pt bi k) 0) 4
          have hla := four_length (pt bi) 4
          have HLA := Lib.hid hla
          generalize four (fun k => vi.getD (pt bi k) 0) 4 = lv at *
          generalize four (pt bi) 4 = la at *
          have HLV := Lib.hid (show (wd lv).size = 4 by rw [wd_size]; exact hl4)
          have HQ4 := Lib.hid hq4
          have HLQ := Lib.hid (show (wd ql).size = 4 by rw [wd_size]; exact hq4)
          clear hq4 hl4 hla HTK HPT HVO HB
          go_wp2_with (refine wpList_load_row rfl 175 (.tmp 7) rfl V rfl 175 (wd lv) (0, 0) _ HX.out.rv Tryz.underlying175 rfl (by rw [HLV.out]; exact size_4) ?_)
          refine CQ.out.mono ?_
          rintro e w2 ⟨rfl, hb⟩
          have HX2 := Lib.hid (HX.out.step hb)
          clear hb HX CQ
          go_wp2_with (refine wpList_store_row rfl 175 (.tmp 7) (.tmp 45) rfl V (wd ql) rfl rfl 175 _ HX2.out.rv (by rw [HLQ.out]; exact size_4) (by rw [HLV.out, HLQ.out]) (wd_one _) ?_)
          generalize hW3 : World.setRow _ _ _ = w3
          have HX3 : Hid (Hx w w3 A V (backTo vi (pt bi) (fun k => ql.getD k 0) 0) la ql) := Lib.hid (by subst hW3; exact HX2.out.rowV ql)
          clear hW3 HX2 HLV
          go_loopw [9] (fun v9 wr => ∃ j : Nat, j ≤ 4 ∧ v9 = .int .i64 (j : Int) ∧ Hx w wr A V (backTo vi (pt bi) (fun k => ql.getD k 0) j) la ql) (fun v9 _ => 4 - (intOf v9).toNat)
          case atStart => exact ⟨0, by omega, rfl, HX3.out⟩
          case round =>
            clear HX3
            obtain ⟨j, hj, rfl, X⟩ := hrel
            have HX := Lib.hid X
            clear X
            by_cases hj4 : j < 4
            · have hdj : decide ((j : Int) < 4) = true := by simp; omega
              have cj := (HX.out.ra.cell j).trans (iq_at la j (by rw [HLA.out]; exact hj4))
              rw [HFA.out j hj4] at cj
              have hpl := HPL.out j hj4
              have HF : Hid (backTo vi (pt bi) (fun k => ql.getD k 0) (j + 1) = (backTo vi (pt bi) (fun k => ql.getD k 0) j).set (pt bi j) (ql.getD j 0)) := Lib.hid rfl
              have dj := (HX.out.rv.cell j).trans (wd_at ql j (by rw [HQ4.out]; exact hj4))
              have hbl := backTo_length vi (pt bi) (fun k => ql.getD k 0) j
              rw [HVL.out] at hbl
              generalize backTo vi (pt bi) (fun k => ql.getD k 0) j = bk at *
              generalize pt bi j = p at *
              have ej := (HX.out.d.rv.cell p).trans (wd_at bk p (by omega))
              generalize ql.getD j 0 = g at *
              generalize bk.getD p 0 = g0 at *
              have k1 : ∀ tp d os out, (World.mk wr.heap tp d os out).cell? ⟨A, j, none⟩ = some (.int .i64 (p : Int)) := fun _ _ _ _ => cj
              have k2 : ∀ tp d os out, (World.mk wr.heap tp d os out).cell? ⟨V, j, none⟩ = some (.int .u32 (g : Int)) := fun _ _ _ _ => dj
              have ck : wr.drew.cell? ⟨w.heap.size, p, none⟩ = some (.int .u32 (g0 : Int)) := ej
              have fk : wr.drew.frozen? ⟨w.heap.size, p, none⟩ = false := HX.out.d.rv.frozen p
              have hj0 : (0 : Int) ≤ (j : Int) := by omega
              have hj6 : (j : Int) < 4 := by omega
              have hp0 : (0 : Int) ≤ (p : Int) := by omega
              have hp6 : (p : Int) < 16 := by omega
              clear cj dj ej hbl
              go_wp2
              refine wp_region_still_tail 7 (by kernel_rfl) (by kernel_rfl) ?_
              simp only [List.take_succ_cons, List.take_zero, List.drop_succ_cons, List.drop_zero]
              repeat still_step
              refine wpStill_nil ?_
              change wpList _ _ _ _ _ wr.drew
              have HXD := Lib.hid (HX.out.step (Below.refl _ wr).drew)
              clear k1 k2 HX
              generalize wr.drew = w4 at *
              go_wp2
              go_roundw
              case rel => exact ⟨j + 1, by omega, by go_num, by rw [HF.out]; exact HXD.out.setX p g⟩
              case measure => simp [intOf]; omega
            · obtain rfl : j = 4 := by omega
              have hdj : decide (((4 : Nat) : Int) < 4) = false := by simp
              go_wp2
              go_roundw
              case rel => exact ⟨i + 1, by omega, by go_num, by rw [HN.out]; exact HX.out.d⟩
              case measure => simp [intOf]; omega
    · obtain rfl : i = 4 := by omega
      have hdt : decide (((4 : Nat) : Int) < 4) = false := by simp
      have hX8 : Dx w wr (half x rows) := HX.out
      have hl : (wd (half x rows)).size = 16 := by rw [wd_size, half_length]; exact HL.out
      have HLL := Lib.hid hl
      have RV := Lib.hid hX8.rv
      have RZ := Lib.hid hX8.rz
      have HB := Lib.hid hX8.below
      clear hl hX8 HX
      have hz : Hid (half x rows = half x rows) := Lib.hid rfl
      generalize hzz : half x rows = z at *
      have HZZ := Lib.hid hzz
      clear hz hzz
      go_wp2_with (first
        | refine wpList_load_row rfl 128 (.tmp 2) rfl w.heap.size rfl 128 (wd z) (0, 0) _ RV.out Tryz.underlying128 rfl (by rw [HLL.out]; exact size_16) ?_
        | refine wpList_store_row rfl 128 (.tmp 4) (.tmp 57) rfl (w.heap.size + 1) (wd z) rfl rfl 128 _ RZ.out (by rw [HLL.out]; exact size_16) (by rw [HLL.out]; rfl) (wd_one _) ?_)
      have hR := RowAt.setRow RZ.out (wd z)
      refine bodyPost_ret (v := .agg (wd z)) (results_cell_row rfl _ _ (w.heap.size + 1) 128 (wd z) (0, 0) _ rfl hR Tryz.underlying128 rfl (by rw [HLL.out]; exact size_16)) rfl ⟨by rw [HZZ.out], ?_⟩
      exact below_setRow HB.out (by omega) _
end Go.Proofs.YtlifpplhinmajaaGreatDoor

namespace Go.Proofs.YtlifpplhinmajaaGreatDoor
set_option maxRecDepth 50000
open Go.RowKit Rot Sl

set_option maxHeartbeats 3200000 in
theorem rcore_any (x : List Nat) (hx : x.length = 16) (ho : okw x) (n : Nat) (hn : n ≤ 100) (w : World) :
    Calls Tryz.prog 80 #[.agg (wd x), .int .i64 (n : Int)] w fun e w' => e = .returned (.agg (wd (core x n))) ∧ Below w.heap.size w w' := by
  have HL := Lib.hid hx
  have HO := Lib.hid ho
  have hsz : (wd x).size = 16 := by rw [wd_size]; exact hx
  have HSX := Lib.hid hsz
  have HD := Lib.hid (Dx.new w x)
  have HM := Lib.hid fun (v : List Nat) => (Dx.new w x).more (by simp) v
  clear hx ho hsz
  go_enter Tryz.func80, Tryz.ntmps80
  go_wp2_with (first
    | refine wpList_load_row rfl 128 (.tmp 2) rfl w.heap.size rfl 128 (wd x) (0, 0) _ HD.out.rv Tryz.underlying128 rfl (by rw [HSX.out]; exact size_16) ?_
    | refine wpList_store_row rfl 128 (.tmp 5) (.tmp 8) rfl (w.heap.size + 1 + 1) (wd x) rfl rfl 128 _ (HM.out (List.replicate 16 0)).ry (by rw [HSX.out]; exact size_16) (by rw [HSX.out]; rfl) (wd_one _) ?_)
  obtain ⟨Y, hY⟩ : ∃ Y, Y = w.heap.size + 1 + 1 := ⟨_, rfl⟩
  have HX := Lib.hid ((HM.out (List.replicate 16 0)).setRow x)
  rw [← hY] at HX ⊢
  generalize hW : World.setRow _ _ _ = w1
  have HX1 : Hid (Ex w w1 Y x x) := Lib.hid (by subst hW; exact HX.out)
  clear hW HX HD HM hY
  go_loopw [6] (fun v17 wr => ∃ k : Nat, k ≤ n ∧ v17 = .int .i64 (k : Int) ∧ Ex w wr Y x (dTo x k)) (fun v17 _ => n - (intOf v17).toNat)
  case atStart => exact ⟨0, by omega, rfl, HX1.out⟩
  case round =>
    clear HX1
    obtain ⟨k, hk, rfl, X⟩ := hrel
    have HX := Lib.hid X
    clear X
    by_cases h : k < n
    · have hdt : decide ((k : Int) < (n : Int)) = true := by simp; omega
      have hdl : (dTo x k).length = 16 := by rw [dTo_length]; exact HL.out
      have CA := Lib.hid (half_any (dTo x k) hdl (dTo_ok HO.out k) false wr)
      have CB := Lib.hid fun w => half_any (half (dTo x k) false) (by rw [half_length]; exact hdl) (half_ok (dTo_ok HO.out k) false) true w
      have HN : Hid (dTo x (k + 1) = half (half (dTo x k) false) true) := Lib.hid (by rw [half_half]; rfl)
      have hz1 : (wd (dTo x k)).size = 16 := by rw [wd_size]; exact hdl
      have hz2 : (wd (half (half (dTo x k) false) true)).size = 16 := by rw [wd_size, half_length, half_length]; exact hdl
      generalize dTo x k = y at *
      have HZ1 := Lib.hid hz1
      have HZ2 := Lib.hid hz2
      generalize half (half y false) true = y2 at *
      generalize half y false = y1 at *
      clear hz1 hz2 hdl
      go_wp2_with (refine wpList_load_row rfl 128 (.tmp 5) rfl Y rfl 128 (wd y) (0, 0) _ HX.out.ry Tryz.underlying128 rfl (by rw [HZ1.out]; exact size_16) ?_)
      refine CA.out.mono ?_
      rintro e w2 ⟨rfl, hb⟩
      have HX1 := Lib.hid (HX.out.step hb)
      clear hb HX CA
      go_wp2_with fail
      refine (CB.out _).mono ?_
      rintro e w3 ⟨rfl, hb⟩
      have HX2 := Lib.hid (HX1.out.step hb)
      clear hb HX1 CB
      go_wp2_with (refine wpList_store_row rfl 128 (.tmp 5) (.tmp 16) rfl Y (wd y2) rfl rfl 128 _ HX2.out.ry (by rw [HZ2.out]; exact size_16) (by rw [HZ1.out, HZ2.out]) (wd_one _) ?_)
      go_roundw
      case rel => exact ⟨k + 1, by omega, by go_num, by rw [HN.out]; exact HX2.out.setRow y2⟩
      case measure => simp [intOf]; omega
    · obtain rfl : k = n := by omega
      have hdt : decide ((k : Int) < (k : Int)) = false := by simp
      have hyl : (dTo x k).length = 16 := by rw [dTo_length]; exact HL.out
      have HE : Hid (core x k = plus (dTo x k) x 16) := Lib.hid rfl
      generalize dTo x k = y at *
      have HYL := Lib.hid hyl
      clear hyl
      go_wp2
      go_loopw [7] (fun v22 wr => ∃ j : Nat, j ≤ 16 ∧ v22 = .int .i64 (j : Int) ∧ Ex w wr Y x (plus y x j)) (fun v22 _ => 16 - (intOf v22).toNat)
      case atStart => exact ⟨0, by omega, rfl, HX.out⟩
      case round =>
        clear HX
        obtain ⟨j, hj, rfl, X⟩ := hrel
        have HX := Lib.hid X
        clear X
        by_cases h6 : j < 16
        · have hd : decide ((j : Int) < 16) = true := by simp; omega
          have cj := (HX.out.ry.cell j).trans (wd_at _ j (by rw [plus_length, HYL.out]; exact h6))
          rw [plus_at y x j j (Nat.le_refl _)] at cj
          have dj := (HX.out.rx.cell j).trans (wd_at _ j (by rw [HL.out]; exact h6))
          have HF : Hid (plus y x (j + 1) = (plus y x j).set j (add (y.getD j 0) (x.getD j 0))) := Lib.hid rfl
          have hv := wadd (y.getD j 0) (x.getD j 0)
          generalize y.getD j 0 = a at *
          generalize x.getD j 0 = b at *
          generalize add a b = s at *
          generalize plus y x j = z at *
          have hj0 : (0 : Int) ≤ (j : Int) := by omega
          have hj6 : (j : Int) < 16 := by omega
          have k1 : ∀ tp d os out, (World.mk wr.heap tp d os out).cell? ⟨Y, j, none⟩ = some (.int .u32 (a : Int)) := fun _ _ _ _ => cj
          have k2 : ∀ tp d os out, (World.mk wr.heap tp d os out).cell? ⟨w.heap.size, j, none⟩ = some (.int .u32 (b : Int)) := fun _ _ _ _ => dj
          clear cj dj
          go_wp2
          refine wp_region_still_tail 9 (by kernel_rfl) (by kernel_rfl) ?_
          simp only [List.take_succ_cons, List.take_zero, List.drop_succ_cons, List.drop_zero]
          repeat still_step
          refine wpStill_nil ?_
          change wpList _ _ _ _ _ wr.drew
          have HD := Lib.hid HX.out.drew
          have ck : wr.drew.cell? ⟨Y, j, none⟩ = some (.int .u32 (a : Int)) := k1 _ _ _ _
          have fk : wr.drew.frozen? ⟨Y, j, none⟩ = false := HX.out.drew.ry.frozen j
          clear k1 k2 HX
          generalize wr.drew = w2 at *
          go_wp2
          go_roundw
          case rel => exact ⟨j + 1, by omega, by go_num, by rw [HF.out]; exact HD.out.set j s⟩
          case measure => simp [intOf]; omega
        · obtain rfl : j = 16 := by omega
          have hd : decide (((16 : Nat) : Int) < 16) = false := by simp
          have hz : (wd (plus y x 16)).size = 16 := by rw [wd_size, plus_length]; exact HYL.out
          generalize plus y x 16 = z at *
          have HZ := Lib.hid hz
          clear hz
          go_wp2_with (first
            | refine wpList_load_row rfl 128 (.tmp 5) rfl Y rfl 128 (wd z) (0, 0) _ HX.out.ry Tryz.underlying128 rfl (by rw [HZ.out]; exact size_16) ?_
            | refine wpList_store_row rfl 128 (.tmp 4) (.tmp 30) rfl (w.heap.size + 1) (wd z) rfl rfl 128 _ HX.out.rz (by rw [HZ.out]; exact size_16) (by rw [HZ.out]; rfl) (wd_one _) ?_)
          have hR := HX.out.rz.setRow (wd z)
          refine bodyPost_ret (v := .agg (wd z)) (results_cell_row rfl _ _ (w.heap.size + 1) 128 (wd z) (0, 0) _ rfl hR Tryz.underlying128 rfl (by rw [HZ.out]; exact size_16)) rfl ⟨by rw [HE.out], ?_⟩
          exact below_setRow HX.out.below (by omega) _
end Go.Proofs.YtlifpplhinmajaaGreatDoor

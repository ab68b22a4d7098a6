/- The law LaneEnds by the calls' contracts. Conditions: blend's tables lie at their places. -/
import Derived.Test.YtfoodaobiknihaaDoorLnAwake
import Derived.Test.YtfoodaobiknihaaDoorLnFills
import Derived.Deep.LoopGhost
import Derived.WalkMore
namespace Go.Proofs.YtfoodaobiknihaaDoor
set_option maxRecDepth 50000
open Go.RowKit Bb Bn

/-- how often each kind came -/
abbrev mnc (a b c : Nat) : Array Value := #[.int .i64 0, .int .i64 (a : Int), .int .i64 (b : Int), .int .i64 (c : Int)]
section
variable {w : World} {b : Nat} {ev : Operand → Value} {x y : Operand} {o : Oper}
theorem mn_run {j : Nat} (hop : o.op = .indexAddr 36 x y) (hx : ev x = .pointer (some ⟨b, 0, none⟩)) (hy : ev y = .int .i64 (j : Int)) (hj : j = 1 ∨ j = 2 ∨ j = 3) : (execOp ev o).run Tryd.prog w = .ok (.value (.pointer (some ⟨b, j, none⟩))) w := by
  rcases hj with rfl | rfl | rfl
  all_goals
    simp [execOp, hop, hx, hy, go_sem]
theorem paf_run (hop : o.op = .fieldAddr 23 x 1) (hx : ev x = .pointer (some ⟨b, 0, none⟩)) : (execOp ev o).run Tryd.prog w = .ok (.value (.pointer (some ⟨b, 1, none⟩))) w := by
  simp [execOp, hop, hx, go_sem]
theorem mn_set {a c d : Nat} (h : RowAt w b 36 (mnc a c d)) (j : Nat) (n : Int) (hj : j = 1 ∨ j = 2 ∨ j = 3) : ∃ w2, (storeVar 3 ⟨b, j, none⟩ (.int .i64 n)).run Tryd.prog w = .ok () w2 ∧ RowAt w2 b 36 ((mnc a c d).setIfInBounds j (.int .i64 n)) ∧ Kept (fun y => y = b) w w2 := by
  have hf := RowAt.frozen h j
  have hr := RowAt.setCell h j (.int .i64 n)
  rcases hj with rfl | rfl | rfl
  · have hc : w.cell? ⟨b, 1, none⟩ = some (.int .i64 (a : Int)) := (h.cell 1).trans rfl
    exact ⟨_, by simp [hc, hf, go_sem], hr, (Kept.refl (fun y => y = b) w).set (.inl rfl) _⟩
  · have hc : w.cell? ⟨b, 2, none⟩ = some (.int .i64 (c : Int)) := (h.cell 2).trans rfl
    exact ⟨_, by simp [hc, hf, go_sem], hr, (Kept.refl (fun y => y = b) w).set (.inl rfl) _⟩
  · have hc : w.cell? ⟨b, 3, none⟩ = some (.int .i64 (d : Int)) := (h.cell 3).trans rfl
    exact ⟨_, by simp [hc, hf, go_sem], hr, (Kept.refl (fun y => y = b) w).set (.inl rfl) _⟩
end
theorem LnAt.far {w w' : World} {q a t l m bb c g z k b x T : Nat} {σ : Ln} {ty : TypeId} {C : Array Value} (H : LnAt w q a t l m bb c g z k b x σ) (hk : Kept (fun j => j = T) w w') (hT : RowAt w T ty C) (h1 : (62 == ty) = false) (h2 : (ty == 93) = false) (h3 : (82 == ty) = false) : LnAt w' q a t l m bb c g z k b x σ := by
  match σ, H with
  | .go p s i none, ⟨e1, e2⟩ => exact ⟨e1.kept hk (RowAt.unlike e1 hT h1), e2.kept hk (Ne.symm (e2.unlike hT h2))⟩
  | .go p s i (some W), ⟨⟨d, e1, e2⟩, e3⟩ => exact ⟨⟨d, e1.kept hk (RowAt.unlike e1 hT h1), RowAt.kept e2 hk (RowAt.unlike e2 hT h3)⟩, e3.kept hk (Ne.symm (e3.unlike hT h2))⟩
  | .gate p s, ⟨e1, e2⟩ => exact ⟨e1.kept hk (RowAt.unlike e1 hT h1), e2.kept hk (Ne.symm (e2.unlike hT h2))⟩
  | .done p s, e1 => exact LnRow.kept e1 hk (RowAt.unlike e1 hT h1)
/-- what does not change, and what stands -/
structure Lf (W : World) (G a t l b c g k bl T8 : Nat) : Prop where
  S : Sh a t l b c g
  kl : k < l
  wG : W.heap.size ≤ G
  wb : W.heap.size ≤ bl
  wT : W.heap.size ≤ T8
  tab : TAt W
theorem Lf.tabN {W : World} {G a t l b c g k bl T8 : Nat} (F : Lf W G a t l b c g k bl T8) : TabN W.heap.size := ⟨F.tab.1.1, F.tab.2.1⟩
structure Le (W wr : World) (q pc h G a t l m b c g z k bl x T2 T8 : Nat) (L : List (List Nat)) (σ : Ln) (n1 n2 n3 : Nat) : Prop where
  ln : LnAt wr q a t l m b c g z k bl x σ
  gr : GrAt wr q pc h G a t l m b c g z L
  par : RowAt wr T2 23 (pac a t m l z)
  many : RowAt wr T8 36 (mnc n1 n2 n3)
  below : Below W.heap.size W wr
  wx : W.heap.size ≤ x
  len : L.length = l * c
section
variable {W wr w' : World} {q pc h G a t l m b c g z k bl x T2 T8 n1 n2 n3 : Nat} {L : List (List Nat)} {σ : Ln}
theorem Le.on (H : Le W wr q pc h G a t l m b c g z k bl x T2 T8 L σ n1 n2 n3) (hb : Below wr.heap.size wr w') : Le W w' q pc h G a t l m b c g z k bl x T2 T8 L σ n1 n2 n3 :=
  ⟨H.ln.step hb, H.gr.step hb, RowAt.step H.par hb, RowAt.step H.many hb, below_step H.below hb, H.wx, H.len⟩
theorem Le.prog (F : Lf W G a t l b c g k bl T8) (H : Le W wr q pc h G a t l m b c g z k bl x T2 T8 L σ n1 n2 n3) {M : Nat → Prop} (hk : Kept M wr w') {gv xv dv : Value} {k' p' s' i' : Int} {f : Bool} {p s : Nat} (hb : LnRow wr bl gv k' p' s' i' xv dv f) (hM : ∀ j, M j → j = bl ∨ (j = x ∧ Src wr x a t l m b c g z p s k) ∨ j = G)
    {x' : Nat} {σ' : Ln} {L' : List (List Nat)} (hl : LnAt w' q a t l m b c g z k bl x' σ') (hg : GrAt w' q pc h G a t l m b c g z L') (hx : W.heap.size ≤ x') (hlen : L'.length = l * c) : Le W w' q pc h G a t l m b c g z k bl x' T2 T8 L' σ' n1 n2 n3 := by
  have hn : ∀ {j : Nat} {ty : TypeId} {C : Array Value}, RowAt wr j ty C → (ty == 62) = false → (ty == 93) = false → (ty == 91) = false → ¬ M j := fun hj h1 h2 h3 hm => by
    rcases hM _ hm with e | ⟨e, hs⟩ | e
    · exact RowAt.unlike hj hb h1 e
    · exact hs.unlike hj h2 e
    · exact RowAt.unlike hj H.gr.live.blk h3 e
  refine ⟨hl, hg, RowAt.kept H.par hk (hn H.par rfl rfl rfl), RowAt.kept H.many hk (hn H.many rfl rfl rfl), H.below.trans (hk.below H.below.size fun y hy => ?_), hx, hlen⟩
  rcases hM _ hy with e | ⟨e, hs⟩ | e
  · have := F.wb; omega
  · have := H.wx; omega
  · have := F.wG; omega
theorem Le.count (F : Lf W G a t l b c g k bl T8) (H : Le W wr q pc h G a t l m b c g z k bl x T2 T8 L σ n1 n2 n3) (hk : Kept (fun j => j = T8) wr w') {m1 m2 m3 : Nat} (hr : RowAt w' T8 36 (mnc m1 m2 m3)) : Le W w' q pc h G a t l m b c g z k bl x T2 T8 L σ m1 m2 m3 :=
  ⟨H.ln.far hk H.many rfl rfl rfl, H.gr.far hk H.many rfl rfl rfl, RowAt.kept H.par hk (RowAt.unlike H.par H.many (by rfl)), hr, H.below.trans (hk.below H.below.size fun y hy => by have := F.wT; omega), H.wx, H.len⟩
/-- a step, way by way -/
theorem en_arrive (F : Lf W G a t l b c g k bl T8) {p s : Nat} (H : Le W wr q pc h G a t l m b c g z k bl x T2 T8 L (.go p s g none) n1 n2 n3) : Calls Tryd.prog 11 #[.pointer (some ⟨bl, 0, none⟩)] wr fun e w' => e = .returned (.tuple #[evv 3 k p s 0 0 0 0, .int .i64 0]) ∧ ∃ L', Le W w' q pc h G a t l m b c g z k bl x T2 T8 L' (.gate p s) n1 n2 n3 :=
  (arrive_at H.gr H.ln).mono fun _ _ ⟨e, h1, h2, hk⟩ => ⟨e, L, H.prog F (p := p) (s := s) hk H.ln.1 (fun _ e => .inl e) h1 h2 H.wx H.len⟩
theorem en_look (F : Lf W G a t l b c g k bl T8) {p s i : Nat} (R : Fl t l c g p s k i) (H : Le W wr q pc h G a t l m b c g z k bl x T2 T8 L (.go p s i none) n1 n2 n3) : ∃ e4 e5 e6 e7 : Int, ∃ D : Nat, Calls Tryd.prog 11 #[.pointer (some ⟨bl, 0, none⟩)] wr fun e w' => e = .returned (.tuple #[evv 1 k p s e4 e5 e6 e7, .int .i64 0]) ∧ ∃ L', Le W w' q pc h G a t l m b c g z k bl x T2 T8 L' (.go p s i (some D)) n1 n2 n3 :=
  ⟨_, _, _, _, _, (look_at F.S R H.gr H.len (F.tab.next H.below) F.tabN H.wx H.ln _ rfl).mono fun _ _ ⟨e, h1, h2, hk⟩ => ⟨e, L, H.prog F hk H.ln.1 (fun _ e => e.elim .inl fun e => .inr (.inl ⟨e, H.ln.2⟩)) h1 h2 H.wx H.len⟩⟩
theorem en_fill (F : Lf W G a t l b c g k bl T8) {p s i D : Nat} (R : Fl t l c g p s k i) (H : Le W wr q pc h G a t l m b c g z k bl x T2 T8 L (.go p s i (some D)) n1 n2 n3) : ∃ e4 e5 e6 e7 : Int, Calls Tryd.prog 11 #[.pointer (some ⟨bl, 0, none⟩)] wr fun e w' => e = .returned (.tuple #[evv 2 k p s e4 e5 e6 e7, .int .i64 0]) ∧ ∃ L', Le W w' q pc h G a t l m b c g z k bl x T2 T8 L' (.go p s (i + 1) none) n1 n2 n3 :=
  ⟨_, _, _, _, (fill_at F.S R H.gr H.len (F.tab.next H.below) F.wG H.ln _ rfl).mono fun _ _ ⟨e, h1, h2, hk⟩ => by
    obtain ⟨⟨d, hr, _⟩, _⟩ := H.ln
    exact ⟨e, _, H.prog F (p := p) (s := s) hk hr (fun _ e => e.elim .inl fun e => .inr (.inr e)) h1 h2 H.wx (by rw [List.length_set]; exact H.len)⟩⟩
theorem en_open (F : Lf W G a t l b c g k bl T8) {p s : Nat} (hp : p < t) (hs : s ≤ 3) (H : Le W wr q pc h G a t l m b c g z k bl x T2 T8 L (.gate p s) n1 n2 n3) : Calls Tryd.prog 10 #[.pointer (some ⟨bl, 0, none⟩)] wr fun e w' => e = .returned (.bool true) ∧ ∃ x', Le W w' q pc h G a t l m b c g z k bl x' T2 T8 L (opL t p s) n1 n2 n3 :=
  (open_at H.gr F.S.tm hp hs F.wb H.ln).mono fun _ _ ⟨e, ⟨x', h1, hx⟩, h2, hk⟩ => ⟨e, x', H.prog F (p := p) (s := s) hk H.ln.1 (fun _ e => .inl e) h1 h2 (hx.elim (fun e => e ▸ H.wx) fun e => Nat.le_trans H.below.size e) H.len⟩
theorem en_late {p s : Nat} (H : Le W wr q pc h G a t l m b c g z k bl x T2 T8 L (.done p s) n1 n2 n3) : Calls Tryd.prog 11 #[.pointer (some ⟨bl, 0, none⟩)] wr fun e w' => e = .returned (.tuple #[evv 0 0 0 0 0 0 0 0, .int .i64 12]) ∧ Le W w' q pc h G a t l m b c g z k bl x T2 T8 L (.done p s) n1 n2 n3 :=
  (late_at H.ln).mono fun _ _ ⟨e, hb⟩ => ⟨e, H.on hb⟩
end

set_option maxHeartbeats 51200000 in
theorem ends34_any (pa pt pm pl pz : Int) (who : Int) (W : World) (hT : TAt W) :
    Calls Tryd.prog 3 #[pav pa pt pm pl pz, .int .i64 who] W fun e w' => e = .returned (.bool true) ∧ Below W.heap.size W w' := by
  have CM := made_shE pa pt pm pl pz
  have HP := Lib.hid (RowAt.new W 23 (pac pa pt pm pl pz))
  have HBW := Lib.hid (one_box W (.cells (pac pa pt pm pl pz) 23))
  have CA := Lib.hid (awake34_any _ (hT.next HBW.out))
  have HTW := Lib.hid hT
  clear hT
  go_enter Tryd.func3, Tryd.ntmps3
  go_wp2_with fail
  refine CA.out.mono ?_
  rintro e w1 ⟨rfl, hb⟩
  have HP1 := Lib.hid (RowAt.step HP.out hb)
  have HB1 := Lib.hid (below_step HBW.out hb)
  clear CA HP HBW hb
  go_wp2_with (refine wpList_load_want rfl 23 _ rfl _ _ rfl (pa_load HP1.out) ?_)
  rcases CM with CM | ⟨al, t, l, m, b, c, g, z, ⟨rfl, rfl, rfl, rfl, rfl⟩, HSh, ht3, hl4, hb80, CM⟩
  · refine (CM _).mono ?_
    rintro e w2 ⟨rfl, hb⟩
    have HB2 := Lib.hid (below_step HB1.out hb)
    clear HP1 HB1 hb CM
    go_wp2
    go_ret
    exact ⟨rfl, HB2.out⟩
  refine (CM _).mono ?_
  rintro e w2 ⟨q, pc, h, G, rfl, hG, hGe, hb⟩
  have HB2 := Lib.hid (below_step HB1.out hb)
  have HP2 := Lib.hid (RowAt.step HP1.out hb)
  have hGW : W.heap.size ≤ G := by have := HB1.out.size; omega
  have HG := Lib.hid hG
  clear HP1 HB1 hb CM hGe hG
  have kl := HG.out.row.lanes
  by_cases hw : who < 0 ∨ (l : Int) ≤ who
  · have CN := Lib.hid (lnew_bad HG.out who hw)
    go_wp2_with fail
    refine CN.out.mono ?_
    rintro e w3 ⟨rfl, rfl⟩
    by_cases hw0 : who < 0
    · have d5 : decide (who < 0) = true := by simp; omega
      clear hw
      go_wp2
      go_ret
      exact ⟨rfl, HB2.out⟩
    · have d5 : decide (who < 0) = false := by simp; omega
      have d6 : decide ((l : Int) ≤ who) = true := by simp; omega
      clear hw
      go_wp2
      go_ret
      exact ⟨rfl, HB2.out⟩
  obtain ⟨k, rfl⟩ : ∃ k : Nat, who = (k : Int) := ⟨who.toNat, by omega⟩
  have hkl : k < l := by omega
  have CN := Lib.hid (lnew_any HG.out k hkl)
  clear hw kl
  go_wp2_with fail
  refine CN.out.mono ?_
  rintro e w3 ⟨bl, x, rfl, hblw, hxw, hr3, hs3, hb3⟩
  have S := HSh
  have hl0 := S.l1
  have ht1 := S.t1
  have hg2 := S.g2
  have hz2 := HB2.out.size
  obtain ⟨w4, e4⟩ : ∃ w4, w4 = w3.alloc (.cells #[.int .i64 0, .int .i64 0, .int .i64 0, .int .i64 0] 36) := ⟨_, rfl⟩
  have b4 : Below w3.heap.size w3 w4 := by rw [e4]; exact one_box _ _
  have hM4 : RowAt w4 w3.heap.size 36 (mnc 0 0 0) := by rw [e4]; exact RowAt.new _ _ _
  have hG4 := (HG.out.step hb3).step b4
  obtain ⟨n1, hn1⟩ : ∃ n1, n1 + 2 = 4 * t * g := ⟨4 * t * g - 2, by have : 4 * t * g ≥ 4 * 1 * 2 := Nat.mul_le_mul (by omega) hg2; omega⟩
  obtain ⟨F0, hF0⟩ : ∃ F0, F0 = l * n1 := ⟨_, rfl⟩
  have htb : t * b = F0 + 2 * l := by
    have e1 : t * b = l * (4 * t * g) := by rw [S.bl, S.cg]; simp only [Nat.mul_comm, Nat.mul_left_comm]
    rw [e1, ← hn1, Nat.mul_add, ← hF0, Nat.mul_comm l 2]
  have htm : t * b ≤ 3 * 80 := Nat.mul_le_mul ht3 hb80
  have CFi := spfills_any al t l m b c g z S.tm (by omega) (by omega) (by omega)
  have hFi : ((t * b : Nat) : Int) - ((2 * l : Nat) : Int) = (F0 : Int) := by omega
  rw [hFi] at CFi
  have CFi := Lib.hid CFi
  have hFn : n1 ≤ F0 := by rw [hF0]; exact Nat.le_mul_of_pos_left n1 hl0
  have HQ : Hid (0 < l ∧ F0 / l = n1 ∧ F0 ≤ 4611686018427387904) := Lib.hid ⟨hl0, by rw [hF0]; exact Nat.mul_div_cancel_left n1 hl0, by omega⟩
  obtain ⟨X1, hX1⟩ : ∃ X1, 4 * F0 = X1 := ⟨_, rfl⟩
  obtain ⟨X2, hX2⟩ : ∃ X2, 20 * t = X2 := ⟨_, rfl⟩
  obtain ⟨X3, hX3⟩ : ∃ X3, X1 + X2 = X3 := ⟨_, rfl⟩
  obtain ⟨t4, ht4⟩ : ∃ t4, 4 * t = t4 := ⟨_, rfl⟩
  obtain ⟨R1, hR1⟩ : ∃ R1, 2 * (4 * t * g) + 2 * (4 * t) = R1 := ⟨_, rfl⟩
  have m1 : (4 : Int) * (F0 : Int) = (X1 : Int) := by omega
  have m2 : (20 : Int) * (t : Int) = (X2 : Int) := by omega
  have m3 : (X1 : Int) + (X2 : Int) = (X3 : Int) := by omega
  have v1 : IntKind.i64.wrap (X1 : Int) = (X1 : Int) := by rw [IntKind.wrap_i64]; omega
  have v2 : IntKind.i64.wrap (X2 : Int) = (X2 : Int) := by rw [IntKind.wrap_i64]; omega
  have v3 : IntKind.i64.wrap (X3 : Int) = (X3 : Int) := by rw [IntKind.wrap_i64]; omega
  have HQ4 : Hid ((4 : Int) * (t : Int) = (t4 : Int) ∧ -4611686018427387904 ≤ (t4 : Int) ∧ (t4 : Int) ≤ 4611686018427387904) := Lib.hid ⟨by omega, by omega, by omega⟩
  have HNN : Hid (n1 + 2 = 4 * t * g ∧ 4 * t = t4 ∧ 2 * (4 * t * g) + 2 * (4 * t) = R1 ∧ R1 ≤ X3 ∧ R1 ≤ 100000 ∧ t ≤ 3) := Lib.hid ⟨hn1, ht4, hR1, by omega, by omega, ht3⟩
  have HF : Hid (Lf W G al t l b c g k bl w3.heap.size) := Lib.hid ⟨S, hkl, hGW, by omega, by have := hb3.size; omega, HTW.out⟩
  have HL4 : Hid (Le W w4 q pc h G al t l m b c g z k bl x W.heap.size w3.heap.size (List.replicate b zb) (.go 0 0 2 none) 0 0 0) := Lib.hid ⟨⟨hr3.step b4, hs3.step b4⟩, hG4, RowAt.step (RowAt.step HP2.out hb3) b4, hM4, below_step (below_step HB2.out hb3) b4, by omega, by rw [List.length_replicate]; exact S.bl⟩
  have k0 := hG4.row.shape
  have E4 := Lib.hid e4
  clear S CN hr3 hs3 hb3 e4 b4 hM4 hG4 hn1 hF0 htb htm hFi hFn hX1 hX2 hX3 ht4 hR1 HG HB2 HP2 hblw hxw hz2 hb80 hl4 HSh
  go_upto_region 10 with fail
  rw [← E4.out]
  clear E4
  generalize w3.heap.size = T8 at *
  go_wp2_with (refine wpList_load_want rfl 33 _ rfl _ _ rfl k0 ?_)
  refine (CFi.out _).mono ?_
  rintro e w5 ⟨rfl, hb5⟩
  have HL5 := Lib.hid (HL4.out.on hb5)
  generalize hT2 : W.heap.size = T2 at HL5
  clear CFi HL4 hb5 k0 hT2
  go_wp2
  go_loopw [11] (fun v11 wr => ∃ r σ x L, v11 = .int .i64 ((r : Nat) : Int) ∧ Hid (r + 4 = Ln.rounds g σ) ∧ Hid (Ln.Ok t g σ) ∧ Hid (Le W wr q pc h G al t l m b c g z k bl x T2 T8 L σ (Ln.looks g σ - 2) (Ln.fills g σ - 2) (Ln.arrives σ))) (fun v11 _ => R1 - (intOf v11).toNat)
  case atStart => exact ⟨0, .go 0 0 2 none, x, _, rfl, Lib.hid (by simp [Ln.rounds, Ln.fills, Ln.looks, Ln.arrives, Ln.opens]), Lib.hid ⟨by omega, by omega, Nat.le_refl _, hg2, fun h => by cases h⟩, Lib.hid (by simpa [Ln.fills, Ln.looks, Ln.arrives] using HL5.out)⟩
  case round =>
    clear HL5
    obtain ⟨r, σ, x, L, rfl, HRr, HO, HL⟩ := hrel
    have hle := fills_le HO.out hg2
    have Hle := Lib.hid hle
    have hNN := HNN.out
    have hRr := HRr.out
    unfold Ln.rounds at hRr
    generalize 4 * t * g = P at hle hNN
    have hrR : r + 4 ≤ R1 := by omega
    have d1 : decide ((r : Int) < (X3 : Int)) = true := by simp; omega
    have d2 : decide (r < X3) = true := by simp; omega
    have hIr : IntKind.i64.wrap ((r : Int) + 1) = ((r + 1 : Nat) : Int) := by rw [IntKind.wrap_i64]; omega
    have CD := Lib.hid (done_at HL.out.ln)
    have CWt := Lib.hid (waits_at HL.out.ln)
    have kt : wr.cell? ⟨T2, 1, none⟩ = some (.int .i64 (t : Int)) := (pa_cells HL.out.par).2.1
    have HrR := Lib.hid hrR
    clear hle hNN hRr hrR
    cases σ with
    | go p s i h0 =>
      by_cases hig : i < g
      · cases h0 with
        | none =>
          obtain ⟨hp, hs, hlo, _, _⟩ := HO.out
          have R : Fl t l c g p s k i := ⟨hp, hs, hkl, hlo, hig⟩
          obtain ⟨e4, e5, e6, e7, D, CS⟩ := en_look HF.out R HL.out
          have CS := Lib.hid CS
          clear R
          go_wp2_with fail
          refine CD.out.mono ?_
          rintro e wq ⟨rfl, rfl⟩
          go_wp2_with fail
          refine CWt.out.mono ?_
          rintro e wq ⟨rfl, rfl⟩
          clear kt
          go_wp2_with fail
          refine CS.out.mono ?_
          rintro e w7 ⟨rfl, L', h7⟩
          obtain ⟨w8, e8⟩ : ∃ w8, w8 = w7.alloc (.cells (evc 1 k p s e4 e5 e6 e7) 44) := ⟨_, rfl⟩
          have b8 : Below w7.heap.size w7 w8 := by rw [e8]; exact one_box _ _
          have hE8 : RowAt w8 w7.heap.size 44 (evc 1 k p s e4 e5 e6 e7) := by rw [e8]; exact RowAt.new _ _ _
          have h8 := h7.on b8
          have hle2 := Hle.out
          have hNN2 := HNN.out
          generalize 4 * t * g = P at hle2 hNN2
          obtain ⟨n, hn⟩ : ∃ n, Ln.looks g (.go p s i none) - 2 = n := ⟨_, rfl⟩
          obtain ⟨n2, hn2⟩ : ∃ n2, n + 1 = n2 := ⟨_, rfl⟩
          have hnb : n ≤ 1000000 := by omega
          obtain ⟨w9, hs9, hm9, hk9⟩ := mn_set h8.many 1 ((n2 : Nat) : Int) (by decide)
          have kk := ev_kind hE8
          have km : w8.cell? ⟨T8, 1, none⟩ = some (.int .i64 (n : Int)) := by rw [← hn]; exact (h8.many.cell 1).trans rfl
          have hIn : IntKind.i64.wrap ((n : Int) + 1) = (n2 : Int) := by rw [IntKind.wrap_i64]; omega
          have H9 := Lib.hid (h8.count HF.out hk9 (m1 := Ln.looks g (.go p s i (some D)) - 2) (m2 := Ln.fills g (.go p s i (some D)) - 2) (m3 := Ln.arrives (.go p s i (some D))) (by
            have hcn : Ln.looks g (.go p s i (some D)) - 2 = n2 ∧ Ln.fills g (.go p s i (some D)) - 2 = Ln.fills g (.go p s i none) - 2 ∧ Ln.arrives (.go p s i (some D)) = Ln.arrives (.go p s i none) := ⟨by rw [← hn2, ← hn]; have e : Ln.looks g (.go p s i (some D)) = Ln.looks g (.go p s i none) + 1 := rfl; omega, rfl, rfl⟩
            obtain ⟨c1, c2, c3⟩ := hcn
            rw [c1, c2, c3]
            exact hm9))
          have HRn : Hid (r + 1 + 4 = Ln.rounds g (.go p s i (some D))) := Lib.hid (by
            have := HRr.out
            have e : Ln.rounds g (.go p s i (some D)) = Ln.rounds g (.go p s i none) + 1 := by simp [Ln.rounds, Ln.fills, Ln.looks, Ln.arrives, Ln.opens]; omega
            omega)
          have HS9 := Lib.hid hs9
          have E8 := Lib.hid e8
          clear CS h7 e8 b8 hE8 h8 hs9 hm9 hk9 hn hn2 CD CWt HL hle2 hNN2
          go_upto_region 17 with fail
          rw [← E8.out]
          clear E8
          generalize w7.heap.size = T12 at *
          go_upto_region 19 with fail
          go_wp2_with (refine wpList_store_of rfl _ _ _ rfl ⟨T8, 1, none⟩ _ rfl rfl HS9.out ?_)
          go_roundw
          case rel => exact ⟨r + 1, .go p s i (some D), x, L', by go_num, HRn, (Lib.hid ⟨hp, hs, hlo, Nat.le_of_lt hig, fun _ => hig⟩), H9⟩
          case measure =>
            have := HrR.out
            simp [intOf]; omega
        | some D =>
          obtain ⟨hp, hs, hlo, _, _⟩ := HO.out
          have R : Fl t l c g p s k i := ⟨hp, hs, hkl, hlo, hig⟩
          obtain ⟨e4, e5, e6, e7, CS⟩ := en_fill HF.out R HL.out
          have CS := Lib.hid CS
          clear R
          go_wp2_with fail
          refine CD.out.mono ?_
          rintro e wq ⟨rfl, rfl⟩
          go_wp2_with fail
          refine CWt.out.mono ?_
          rintro e wq ⟨rfl, rfl⟩
          clear kt
          go_wp2_with fail
          refine CS.out.mono ?_
          rintro e w7 ⟨rfl, L', h7⟩
          obtain ⟨w8, e8⟩ : ∃ w8, w8 = w7.alloc (.cells (evc 2 k p s e4 e5 e6 e7) 44) := ⟨_, rfl⟩
          have b8 : Below w7.heap.size w7 w8 := by rw [e8]; exact one_box _ _
          have hE8 : RowAt w8 w7.heap.size 44 (evc 2 k p s e4 e5 e6 e7) := by rw [e8]; exact RowAt.new _ _ _
          have h8 := h7.on b8
          have hle2 := Hle.out
          have hNN2 := HNN.out
          generalize 4 * t * g = P at hle2 hNN2
          obtain ⟨n, hn⟩ : ∃ n, Ln.fills g (.go p s i (some D)) - 2 = n := ⟨_, rfl⟩
          obtain ⟨n2, hn2⟩ : ∃ n2, n + 1 = n2 := ⟨_, rfl⟩
          have hnb : n ≤ 1000000 := by omega
          obtain ⟨w9, hs9, hm9, hk9⟩ := mn_set h8.many 2 ((n2 : Nat) : Int) (by decide)
          have kk := ev_kind hE8
          have km : w8.cell? ⟨T8, 2, none⟩ = some (.int .i64 (n : Int)) := by rw [← hn]; exact (h8.many.cell 2).trans rfl
          have hIn : IntKind.i64.wrap ((n : Int) + 1) = (n2 : Int) := by rw [IntKind.wrap_i64]; omega
          have H9 := Lib.hid (h8.count HF.out hk9 (m1 := Ln.looks g (.go p s (i + 1) none) - 2) (m2 := Ln.fills g (.go p s (i + 1) none) - 2) (m3 := Ln.arrives (.go p s (i + 1) none)) (by
            have hcn : Ln.looks g (.go p s (i + 1) none) - 2 = Ln.looks g (.go p s i (some D)) - 2 ∧ Ln.fills g (.go p s (i + 1) none) - 2 = n2 ∧ Ln.arrives (.go p s (i + 1) none) = Ln.arrives (.go p s i (some D)) := ⟨rfl, by rw [← hn2, ← hn]; have e : Ln.fills g (.go p s (i + 1) none) = Ln.fills g (.go p s i (some D)) + 1 := rfl; omega, rfl⟩
            obtain ⟨c1, c2, c3⟩ := hcn
            rw [c1, c2, c3]
            exact hm9))
          have HRn : Hid (r + 1 + 4 = Ln.rounds g (.go p s (i + 1) none)) := Lib.hid (by
            have := HRr.out
            have e : Ln.rounds g (.go p s (i + 1) none) = Ln.rounds g (.go p s i (some D)) + 1 := by simp [Ln.rounds, Ln.fills, Ln.looks, Ln.arrives, Ln.opens]; omega
            omega)
          have HS9 := Lib.hid hs9
          have E8 := Lib.hid e8
          clear CS h7 e8 b8 hE8 h8 hs9 hm9 hk9 hn hn2 CD CWt HL hle2 hNN2
          go_upto_region 17 with fail
          rw [← E8.out]
          clear E8
          generalize w7.heap.size = T12 at *
          go_upto_region 19 with fail
          go_wp2_with (refine wpList_store_of rfl _ _ _ rfl ⟨T8, 2, none⟩ _ rfl rfl HS9.out ?_)
          go_roundw
          case rel => exact ⟨r + 1, .go p s (i + 1) none, x, L', by go_num, HRn, (Lib.hid ⟨hp, hs, Nat.le_succ_of_le hlo, hig, fun h => by cases h⟩), H9⟩
          case measure =>
            have := HrR.out
            simp [intOf]; omega
      · obtain rfl : g = i := by have := HO.out.2.2.2.1; omega
        cases h0 with
        | some D => exact absurd (HO.out.2.2.2.2 rfl) hig
        | none =>
          obtain ⟨hp, hs, _, _, _⟩ := HO.out
          have CS := Lib.hid (en_arrive HF.out HL.out)
          go_wp2_with fail
          refine CD.out.mono ?_
          rintro e wq ⟨rfl, rfl⟩
          go_wp2_with fail
          refine CWt.out.mono ?_
          rintro e wq ⟨rfl, rfl⟩
          clear kt
          go_wp2_with fail
          refine CS.out.mono ?_
          rintro e w7 ⟨rfl, L', h7⟩
          obtain ⟨w8, e8⟩ : ∃ w8, w8 = w7.alloc (.cells (evc 3 k p s 0 0 0 0) 44) := ⟨_, rfl⟩
          have b8 : Below w7.heap.size w7 w8 := by rw [e8]; exact one_box _ _
          have hE8 : RowAt w8 w7.heap.size 44 (evc 3 k p s 0 0 0 0) := by rw [e8]; exact RowAt.new _ _ _
          have h8 := h7.on b8
          have hle2 := Hle.out
          have hNN2 := HNN.out
          generalize 4 * t * g = P at hle2 hNN2
          obtain ⟨n, hn⟩ : ∃ n, Ln.arrives (.go p s g none) = n := ⟨_, rfl⟩
          obtain ⟨n2, hn2⟩ : ∃ n2, n + 1 = n2 := ⟨_, rfl⟩
          have hnb : n ≤ 1000000 := by omega
          obtain ⟨w9, hs9, hm9, hk9⟩ := mn_set h8.many 3 ((n2 : Nat) : Int) (by decide)
          have kk := ev_kind hE8
          have km : w8.cell? ⟨T8, 3, none⟩ = some (.int .i64 (n : Int)) := by rw [← hn]; exact (h8.many.cell 3).trans rfl
          have hIn : IntKind.i64.wrap ((n : Int) + 1) = (n2 : Int) := by rw [IntKind.wrap_i64]; omega
          have H9 := Lib.hid (h8.count HF.out hk9 (m1 := Ln.looks g (.gate p s) - 2) (m2 := Ln.fills g (.gate p s) - 2) (m3 := Ln.arrives (.gate p s)) (by
            have hcn : Ln.looks g (.gate p s) - 2 = Ln.looks g (.go p s g none) - 2 ∧ Ln.fills g (.gate p s) - 2 = Ln.fills g (.go p s g none) - 2 ∧ Ln.arrives (.gate p s) = n2 := ⟨rfl, rfl, by rw [← hn2, ← hn]; rfl⟩
            obtain ⟨c1, c2, c3⟩ := hcn
            rw [c1, c2, c3]
            exact hm9))
          have HRn : Hid (r + 1 + 4 = Ln.rounds g (.gate p s)) := Lib.hid (by
            have := HRr.out
            have e : Ln.rounds g (.gate p s) = Ln.rounds g (.go p s g none) + 1 := by simp [Ln.rounds, Ln.fills, Ln.looks, Ln.arrives, Ln.opens]; omega
            omega)
          have HS9 := Lib.hid hs9
          have E8 := Lib.hid e8
          clear CS h7 e8 b8 hE8 h8 hs9 hm9 hk9 hn hn2 CD CWt HL hle2 hNN2
          go_upto_region 17 with fail
          rw [← E8.out]
          clear E8
          generalize w7.heap.size = T12 at *
          go_upto_region 19 with fail
          go_wp2_with (refine wpList_store_of rfl _ _ _ rfl ⟨T8, 3, none⟩ _ rfl rfl HS9.out ?_)
          go_roundw
          case rel => exact ⟨r + 1, .gate p s, x, L', by go_num, HRn, (Lib.hid ⟨hp, hs⟩), H9⟩
          case measure =>
            have := HrR.out
            simp [intOf]; omega
    | gate p s =>
      obtain ⟨hp, hs⟩ := HO.out
      have CS := Lib.hid (en_open HF.out hp hs HL.out)
      have HCt := Lib.hid (op_counts (g := g) hp hs)
      go_wp2_with fail
      refine CD.out.mono ?_
      rintro e wq ⟨rfl, rfl⟩
      go_wp2_with fail
      refine CWt.out.mono ?_
      rintro e wq ⟨rfl, rfl⟩
      clear kt
      go_wp2_with fail
      refine CS.out.mono ?_
      rintro e w7 ⟨rfl, x', h7⟩
      have H7 := Lib.hid h7
      clear h7 CS CD CWt HL
      go_wp2
      go_roundw
      case rel => exact ⟨r + 1, opL t p s, x', L, by go_num, Lib.hid (by
        obtain ⟨c1, c2, c3, c4⟩ := HCt.out
        have := HRr.out
        unfold Ln.rounds at this ⊢
        rw [c1, c2, c3, c4]
        simp only [Ln.fills, Ln.looks, Ln.arrives, Ln.opens] at this
        omega), Lib.hid (op_ok hg2 hp hs), Lib.hid (by
        obtain ⟨c1, c2, c3, c4⟩ := HCt.out
        rw [c1, c2, c3]
        exact H7.out)⟩
      case measure =>
        have := HrR.out
        simp [intOf]; omega
    | done p s =>
      obtain ⟨hp, hs⟩ := HO.out
      have CS := Lib.hid (en_late HL.out)
      have e1 : Ln.looks g (.done p s) - 2 = n1 ∧ Ln.fills g (.done p s) - 2 = n1 ∧ Ln.arrives (.done p s) = t4 := by
        have hNN2 := HNN.out
        have e2 : (4 * p + s) * g + g = 4 * t * g := by rw [← Nat.succ_mul]; congr 1; omega
        have e3 : 4 * p + s + 1 = 4 * t := by omega
        refine ⟨?_, ?_, ?_⟩
        · show (4 * p + s) * g + g - 2 = n1
          omega
        · show (4 * p + s) * g + g - 2 = n1
          omega
        · show 4 * p + s + 1 = t4
          omega
      go_wp2_with fail
      refine CD.out.mono ?_
      rintro e wq ⟨rfl, rfl⟩
      clear kt
      go_wp2_with fail
      refine CS.out.mono ?_
      rintro e w7 ⟨rfl, h7⟩
      have hb8 := one_box w7 (.cells (evc 0 0 0 0 0 0 0 0) 44)
      have h8 := h7.on hb8
      rw [e1.1, e1.2.1, e1.2.2] at h8
      have HL8 := Lib.hid h8
      clear CS h7 hb8 h8 CD CWt HL e1
      go_upto_region 21 with fail
      generalize World.alloc w7 _ = w8 at *
      have HX : Hid (∀ u, Below w8.heap.size w8 u → LnAt u q al t l m b c g z k bl x (.done p s) ∧ GrAt u q pc h G al t l m b c g z L ∧ RowAt u T8 36 (mnc n1 n1 t4) ∧ u.cell? ⟨T2, 1, none⟩ = some (.int .i64 (t : Int))) := Lib.hid fun u hu => ⟨HL8.out.ln.step hu, HL8.out.gr.step hu, RowAt.step HL8.out.many hu, (pa_cells (RowAt.step HL8.out.par hu)).2.1⟩
      refine wp_region_text [Is (.pointer (some ⟨bl, 0, none⟩)), Is (.bool true), Is (.bool true), Is (.int .i64 12), Is (.bool true), Is (.bool true), Is (.bool true), Is (.pointer (some ⟨T8, 1, none⟩)), Is (.int .i64 (n1 : Int)), Is (.int .i64 (F0 : Int)), Is (.pointer (some ⟨q, 0, none⟩)), Is (.pointer (some ⟨q, 0, none⟩)), Is (.pointer (some ⟨q, 0 + 1, none⟩)), Is (.pointer (some ⟨q, 0 + 1 + 2, none⟩)), Is (.int .i64 (l : Int)), Is (.int .i64 (n1 : Int)), Is (.bool true), Is (.bool true), Is (.bool true), Is (.pointer (some ⟨T8, 2, none⟩)), Is (.int .i64 (n1 : Int)), Is (.int .i64 (F0 : Int)), Is (.pointer (some ⟨q, 0, none⟩)), Is (.pointer (some ⟨q, 0, none⟩)), Is (.pointer (some ⟨q, 0 + 1, none⟩)), Is (.pointer (some ⟨q, 0 + 1 + 2, none⟩)), Is (.int .i64 (l : Int)), Is (.int .i64 (n1 : Int)), Is (.bool true), Is (.bool true), Is (.bool true), Is (.pointer (some ⟨T8, 3, none⟩)), Is (.int .i64 (t4 : Int)), Is (.pointer (some ⟨T2, 1, none⟩)), Is (.int .i64 (t : Int)), Is (.int .i64 (t4 : Int)), Is (.bool true), Is (.bool true), Is (.bool true)] (by kernel_rfl) (by kernel_rfl) rfl ⟨stable_is _, stable_is _, stable_is _, stable_is _, stable_is _, stable_is _, stable_is _, stable_is _, stable_is _, stable_is _, stable_is _, stable_is _, stable_is _, stable_is _, stable_is _, stable_is _, stable_is _, stable_is _, stable_is _, stable_is _, stable_is _, stable_is _, stable_is _, stable_is _, stable_is _, stable_is _, stable_is _, stable_is _, stable_is _, stable_is _, stable_is _, stable_is _, stable_is _, stable_is _, stable_is _, stable_is _, stable_is _, stable_is _, stable_is _, trivial⟩ ⟨?_, ?_, ?_, ?_, ?_, ?_, ?_, ?_, ?_, ?_, ?_, ?_, ?_, ?_, ?_, ?_, ?_, ?_, ?_, ?_, ?_, ?_, ?_, ?_, ?_, ?_, ?_, ?_, ?_, ?_, ?_, ?_, ?_, ?_, ?_, ?_, ?_, ?_, ?_, trivial⟩ ?_
      · intro a w C
        exact part_on (wanted_free rfl _) (op_move (.inl rfl) (C.was 6 (by kernel_rfl)))
      · intro a w C
        exact part_on (wanted_free rfl _) (op_call1 rfl (reg_enters Tryd.func8 (by kernel_rfl) (by kernel_rfl)) (C.on (j := 0) (by kernel_rfl) rfl rfl) (calls_same (done_at (HX.out w C.below).1)))
      · intro a w C
        exact part_on (wanted_free rfl _) (op_move (.inl rfl) (C.on (j := 1) (by kernel_rfl) rfl rfl))
      · intro a w C
        exact part_on (wanted_on (j := 2) rfl rfl rfl (C.on (j := 2) (by kernel_rfl) rfl rfl)) (op_move (.inl rfl) (C.was 15 (by kernel_rfl)))
      · intro a w C
        exact part_on (wanted_on (j := 2) rfl rfl rfl (C.on (j := 2) (by kernel_rfl) rfl rfl)) (op_bin rfl (C.on (j := 3) (by kernel_rfl) rfl rfl) rfl rfl (by simp [go_sem]) rfl)
      · intro a w C
        exact part_on (wanted_free rfl _) (op_pick (k := true) rfl (C.on (j := 2) (by kernel_rfl) rfl rfl) (C.on (j := 4) (by kernel_rfl) rfl rfl))
      · intro a w C
        exact part_on (wanted_free rfl _) (op_move (.inl rfl) (C.on (j := 5) (by kernel_rfl) rfl rfl))
      · intro a w C
        exact part_on (wanted_on (j := 6) rfl rfl rfl (C.on (j := 6) (by kernel_rfl) rfl rfl)) (op_value (mn_run (j := 1) rfl (C.was 8 (by kernel_rfl)) rfl (by decide)) rfl)
      · intro a w C
        exact part_on (wanted_on (j := 6) rfl rfl rfl (C.on (j := 6) (by kernel_rfl) rfl rfl)) (op_value (int_run rfl (C.on (j := 7) (by kernel_rfl) rfl rfl) ((RowAt.cell (HX.out w C.below).2.2.1 1).trans rfl)) rfl)
      · intro a w C
        exact part_on (wanted_on (j := 6) rfl rfl rfl (C.on (j := 6) (by kernel_rfl) rfl rfl)) (op_move (.inl rfl) (C.was 9 (by kernel_rfl)))
      · intro a w C
        exact part_on (wanted_on (j := 6) rfl rfl rfl (C.on (j := 6) (by kernel_rfl) rfl rfl)) (op_move (.inl rfl) (C.was 5 (by kernel_rfl)))
      · intro a w C
        exact part_on (wanted_on (j := 6) rfl rfl rfl (C.on (j := 6) (by kernel_rfl) rfl rfl)) (op_value (nil_run rfl (C.on (j := 10) (by kernel_rfl) rfl rfl)) rfl)
      · intro a w C
        exact part_on (wanted_on (j := 6) rfl rfl rfl (C.on (j := 6) (by kernel_rfl) rfl rfl)) (op_value (grf_run (k := 1) rfl (by decide) (C.on (j := 11) (by kernel_rfl) rfl rfl)) rfl)
      · intro a w C
        exact part_on (wanted_on (j := 6) rfl rfl rfl (C.on (j := 6) (by kernel_rfl) rfl rfl)) (op_value (spf_all (k := 2) rfl (by decide) (C.on (j := 12) (by kernel_rfl) rfl rfl)) rfl)
      · intro a w C
        exact part_on (wanted_on (j := 6) rfl rfl rfl (C.on (j := 6) (by kernel_rfl) rfl rfl)) (op_value (int_run rfl (C.on (j := 13) (by kernel_rfl) rfl rfl) (HX.out w C.below).2.1.row.lanes) rfl)
      · intro a w C
        exact part_on (wanted_on (j := 6) rfl rfl rfl (C.on (j := 6) (by kernel_rfl) rfl rfl)) (op_bin rfl (C.on (j := 9) (by kernel_rfl) rfl rfl) (C.on (j := 14) (by kernel_rfl) rfl rfl) rfl (quo_run _ _ _ _ HQ.out.1 HQ.out.2.1 HQ.out.2.2) rfl)
      · intro a w C
        exact part_on (wanted_on (j := 6) rfl rfl rfl (C.on (j := 6) (by kernel_rfl) rfl rfl)) (op_bin rfl (C.on (j := 8) (by kernel_rfl) rfl rfl) (C.on (j := 15) (by kernel_rfl) rfl rfl) rfl (by simp [go_sem]) rfl)
      · intro a w C
        exact part_on (wanted_free rfl _) (op_pick (k := true) rfl (C.on (j := 6) (by kernel_rfl) rfl rfl) (C.on (j := 16) (by kernel_rfl) rfl rfl))
      · intro a w C
        exact part_on (wanted_free rfl _) (op_move (.inl rfl) (C.on (j := 17) (by kernel_rfl) rfl rfl))
      · intro a w C
        exact part_on (wanted_on (j := 18) rfl rfl rfl (C.on (j := 18) (by kernel_rfl) rfl rfl)) (op_value (mn_run (j := 2) rfl (C.was 8 (by kernel_rfl)) rfl (by decide)) rfl)
      · intro a w C
        exact part_on (wanted_on (j := 18) rfl rfl rfl (C.on (j := 18) (by kernel_rfl) rfl rfl)) (op_value (int_run rfl (C.on (j := 19) (by kernel_rfl) rfl rfl) ((RowAt.cell (HX.out w C.below).2.2.1 2).trans rfl)) rfl)
      · intro a w C
        exact part_on (wanted_on (j := 18) rfl rfl rfl (C.on (j := 18) (by kernel_rfl) rfl rfl)) (op_move (.inl rfl) (C.was 9 (by kernel_rfl)))
      · intro a w C
        exact part_on (wanted_on (j := 18) rfl rfl rfl (C.on (j := 18) (by kernel_rfl) rfl rfl)) (op_move (.inl rfl) (C.was 5 (by kernel_rfl)))
      · intro a w C
        exact part_on (wanted_on (j := 18) rfl rfl rfl (C.on (j := 18) (by kernel_rfl) rfl rfl)) (op_value (nil_run rfl (C.on (j := 22) (by kernel_rfl) rfl rfl)) rfl)
      · intro a w C
        exact part_on (wanted_on (j := 18) rfl rfl rfl (C.on (j := 18) (by kernel_rfl) rfl rfl)) (op_value (grf_run (k := 1) rfl (by decide) (C.on (j := 23) (by kernel_rfl) rfl rfl)) rfl)
      · intro a w C
        exact part_on (wanted_on (j := 18) rfl rfl rfl (C.on (j := 18) (by kernel_rfl) rfl rfl)) (op_value (spf_all (k := 2) rfl (by decide) (C.on (j := 24) (by kernel_rfl) rfl rfl)) rfl)
      · intro a w C
        exact part_on (wanted_on (j := 18) rfl rfl rfl (C.on (j := 18) (by kernel_rfl) rfl rfl)) (op_value (int_run rfl (C.on (j := 25) (by kernel_rfl) rfl rfl) (HX.out w C.below).2.1.row.lanes) rfl)
      · intro a w C
        exact part_on (wanted_on (j := 18) rfl rfl rfl (C.on (j := 18) (by kernel_rfl) rfl rfl)) (op_bin rfl (C.on (j := 21) (by kernel_rfl) rfl rfl) (C.on (j := 26) (by kernel_rfl) rfl rfl) rfl (quo_run _ _ _ _ HQ.out.1 HQ.out.2.1 HQ.out.2.2) rfl)
      · intro a w C
        exact part_on (wanted_on (j := 18) rfl rfl rfl (C.on (j := 18) (by kernel_rfl) rfl rfl)) (op_bin rfl (C.on (j := 20) (by kernel_rfl) rfl rfl) (C.on (j := 27) (by kernel_rfl) rfl rfl) rfl (by simp [go_sem]) rfl)
      · intro a w C
        exact part_on (wanted_free rfl _) (op_pick (k := true) rfl (C.on (j := 18) (by kernel_rfl) rfl rfl) (C.on (j := 28) (by kernel_rfl) rfl rfl))
      · intro a w C
        exact part_on (wanted_free rfl _) (op_move (.inl rfl) (C.on (j := 29) (by kernel_rfl) rfl rfl))
      · intro a w C
        exact part_on (wanted_on (j := 30) rfl rfl rfl (C.on (j := 30) (by kernel_rfl) rfl rfl)) (op_value (mn_run (j := 3) rfl (C.was 8 (by kernel_rfl)) rfl (by decide)) rfl)
      · intro a w C
        exact part_on (wanted_on (j := 30) rfl rfl rfl (C.on (j := 30) (by kernel_rfl) rfl rfl)) (op_value (int_run rfl (C.on (j := 31) (by kernel_rfl) rfl rfl) ((RowAt.cell (HX.out w C.below).2.2.1 3).trans rfl)) rfl)
      · intro a w C
        exact part_on (wanted_on (j := 30) rfl rfl rfl (C.on (j := 30) (by kernel_rfl) rfl rfl)) (op_value (paf_run rfl (C.was 2 (by kernel_rfl))) rfl)
      · intro a w C
        exact part_on (wanted_on (j := 30) rfl rfl rfl (C.on (j := 30) (by kernel_rfl) rfl rfl)) (op_value (int_run rfl (C.on (j := 33) (by kernel_rfl) rfl rfl) (HX.out w C.below).2.2.2) rfl)
      · intro a w C
        exact part_on (wanted_on (j := 30) rfl rfl rfl (C.on (j := 30) (by kernel_rfl) rfl rfl)) (op_bin rfl rfl (C.on (j := 34) (by kernel_rfl) rfl rfl) rfl (mul_run _ _ _ _ HQ4.out.1 HQ4.out.2.1 HQ4.out.2.2) rfl)
      · intro a w C
        exact part_on (wanted_on (j := 30) rfl rfl rfl (C.on (j := 30) (by kernel_rfl) rfl rfl)) (op_bin rfl (C.on (j := 32) (by kernel_rfl) rfl rfl) (C.on (j := 35) (by kernel_rfl) rfl rfl) rfl (by simp [go_sem]) rfl)
      · intro a w C
        exact part_on (wanted_free rfl _) (op_pick (k := true) rfl (C.on (j := 30) (by kernel_rfl) rfl rfl) (C.on (j := 36) (by kernel_rfl) rfl rfl))
      · intro a w C
        exact part_on (wanted_free rfl _) (op_move (.inr rfl) (C.on (j := 37) (by kernel_rfl) rfl rfl))
      rintro wF hbF _ rfl _ rfl _ rfl _ rfl _ rfl _ rfl _ rfl _ rfl _ rfl _ rfl _ rfl _ rfl _ rfl _ rfl _ rfl _ rfl _ rfl _ rfl _ rfl _ rfl _ rfl _ rfl _ rfl _ rfl _ rfl _ rfl _ rfl _ rfl _ rfl _ rfl _ rfl _ rfl _ rfl _ rfl _ rfl _ rfl _ rfl _ rfl _ rfl
      simp only [Fin, setAt, Exit.then, List.setIfInBounds_toArray, List.set_cons_succ, List.set_cons_zero]
      have HB9 := Lib.hid (below_step HL8.out.below hbF)
      clear hbF HX HL8
      go_wp2
      go_ret
      exact ⟨rfl, HB9.out⟩
end Go.Proofs.YtfoodaobiknihaaDoor

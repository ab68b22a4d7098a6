/- What stands while a law goes on: a lane, its grid, the document's grid and lane; what each call leaves of it. Conditions: those typed. -/
import Derived.Test.YtfoodaobiknihaaGreatDoorLnAwake
import Derived.Test.YtfoodaobiknihaaGreatDoorLnRefF
import Derived.Test.YtfoodaobiknihaaGreatDoorLnRopen
namespace Go.Proofs.YtfoodaobiknihaaGreatDoor
set_option maxRecDepth 50000
open Go.RowKit Bb Bn
theorem LnAt.far {w w' : World} {q a t l m bb c g z k b x T : Nat} {σ : Ln} {ty : TypeId} {C : Array Value} (H : LnAt w q a t l m bb c g z k b x σ) (hk : Kept (fun j => j = T) w w') (hT : RowAt w T ty C) (h1 : (67 == ty) = false) (h2 : (ty == 140) = false) (h3 : (98 == ty) = false) : LnAt w' q a t l m bb c g z k b x σ := by
  match σ, H with
  | .go p s i none, ⟨e1, e2⟩ => exact ⟨e1.kept hk (RowAt.unlike e1 hT h1), e2.kept hk (Ne.symm (e2.unlike hT h2))⟩
  | .go p s i (some W), ⟨⟨d, e1, e2⟩, e3⟩ => exact ⟨⟨d, e1.kept hk (RowAt.unlike e1 hT h1), RowAt.kept e2 hk (RowAt.unlike e2 hT h3)⟩, e3.kept hk (Ne.symm (e3.unlike hT h2))⟩
  | .gate p s, ⟨e1, e2⟩ => exact ⟨e1.kept hk (RowAt.unlike e1 hT h1), e2.kept hk (Ne.symm (e2.unlike hT h2))⟩
  | .done p s, e1 => exact LnRow.kept e1 hk (RowAt.unlike e1 hT h1)
structure Lf (W : World) (G a t l b c g k bl N T17 : Nat) (gs : List Nat) : Prop where
  S : Sh a t l b c g
  gl : gs.length = l
  kl : k < l
  gN : G < N
  wG : W.heap.size ≤ G
  wb : W.heap.size ≤ bl
  wN : W.heap.size ≤ N
  wT : W.heap.size ≤ T17
  tab : TAt W
structure Lw (W wr : World) (q pc h G a t l m b c g z k bl x N T15 T17 : Nat) (V : Value) (gs : List Nat) (Lp Ld : List (List Nat)) (σ : Ln) (RC : Array Value) : Prop where
  ln : LnAt wr q a t l m b c g z k bl x σ
  gr : GrAt wr q pc h G a t l m b c g z Lp
  doc : DocAt wr N V c gs Ld
  sh : RowAt wr T15 48 (spc a t l m b c g z)
  rl : RowAt wr T17 57 RC
  below : Below W.heap.size W wr
  nw : N ≤ wr.heap.size
  wx : W.heap.size ≤ x
  len : Lp.length = l * c
section
variable {W wr w' : World} {q pc h G a t l m b c g z k bl x N T15 T17 : Nat} {V : Value} {gs : List Nat} {Lp Ld : List (List Nat)} {σ : Ln} {RC : Array Value}
theorem Lw.on (H : Lw W wr q pc h G a t l m b c g z k bl x N T15 T17 V gs Lp Ld σ RC) (hb : Below wr.heap.size wr w') : Lw W w' q pc h G a t l m b c g z k bl x N T15 T17 V gs Lp Ld σ RC :=
  ⟨H.ln.step hb, H.gr.step hb, H.doc.step hb, RowAt.step H.sh hb, RowAt.step H.rl hb, below_step H.below hb, Nat.le_trans H.nw hb.size, H.wx, H.len⟩
theorem Lw.set (F : Lf W G a t l b c g k bl N T17 gs) (H : Lw W wr q pc h G a t l m b c g z k bl x N T15 T17 V gs Lp Ld σ RC) (hk : Kept (fun j => j = T17) wr w') {RC' : Array Value} (hr : RowAt w' T17 57 RC') : Lw W w' q pc h G a t l m b c g z k bl x N T15 T17 V gs Lp Ld σ RC' :=
  ⟨H.ln.far hk H.rl rfl rfl rfl, H.gr.far hk H.rl rfl rfl rfl, H.doc.other hk H.rl, RowAt.kept H.sh hk (RowAt.unlike H.sh H.rl (by rfl)), hr, H.below.trans (hk.below H.below.size fun y hy => by have := F.wT; omega), Nat.le_trans H.nw hk.size, H.wx, H.len⟩
theorem Lw.prog (F : Lf W G a t l b c g k bl N T17 gs) (H : Lw W wr q pc h G a t l m b c g z k bl x N T15 T17 V gs Lp Ld σ RC) {M : Nat → Prop} (hk : Kept M wr w') {gv xv dv : Value} {k' p' s' i' : Int} {f : Bool} {p s : Nat} (hb : LnRow wr bl gv k' p' s' i' xv dv f) (hM : ∀ j, M j → j = bl ∨ (j = x ∧ Src wr x a t l m b c g z p s k) ∨ j = G)
    {x' : Nat} {σ' : Ln} {Lp' : List (List Nat)} (hl : LnAt w' q a t l m b c g z k bl x' σ') (hg : GrAt w' q pc h G a t l m b c g z Lp') (hx : W.heap.size ≤ x') (hlen : Lp'.length = l * c) : Lw W w' q pc h G a t l m b c g z k bl x' N T15 T17 V gs Lp' Ld σ' RC := by
  have hn : ∀ {j : Nat} {ty : TypeId} {C : Array Value}, RowAt wr j ty C → (ty == 67) = false → (ty == 140) = false → (ty == 83) = false → ¬ M j := fun hj h1 h2 h3 hm => by
    rcases hM _ hm with e | ⟨e, hs⟩ | e
    · exact RowAt.unlike hj hb h1 e
    · exact hs.unlike hj h2 e
    · exact RowAt.unlike hj H.gr.live.blk h3 e
  refine ⟨hl, hg, ⟨own_kept H.doc.own hk fun y hv hm => ?_, H.doc.ge, H.doc.nd, fun y hy => RowAt.kept (H.doc.blk y hy) hk fun hm => ?_, H.doc.ok, H.doc.len⟩, RowAt.kept H.sh hk (hn H.sh rfl rfl rfl), RowAt.kept H.rl hk (hn H.rl rfl rfl rfl), H.below.trans (hk.below H.below.size fun y hy => ?_), Nat.le_trans H.nw hk.size, hx, hlen⟩
  · rcases hM _ hm with e | ⟨e, hs⟩ | e
    · subst e; exact own_unlike H.doc.own hb (by rfl) hv
    · subst e
      obtain ⟨_, _, h1, _⟩ := hs
      exact own_unlike H.doc.own h1 (by rfl) hv
    · have := H.doc.own_ge y hv; have := F.gN; omega
  · rcases hM _ hm with e | ⟨e, hs⟩ | e
    · exact RowAt.unlike (H.doc.blk y hy) hb (by rfl) e
    · exact hs.unlike (H.doc.blk y hy) (by rfl) e
    · have := H.doc.ge _ (getD_mem hy); have := F.gN; omega
  · rcases hM _ hy with e | ⟨e, hs⟩ | e
    · have := F.wb; omega
    · have := H.wx; omega
    · have := F.wG; omega
theorem Lw.docs (F : Lf W G a t l b c g k bl N T17 gs) (H : Lw W wr q pc h G a t l m b c g z k bl x N T15 T17 V gs Lp Ld σ RC) (hk : Kept (fun j => j = gs.getD k 0) wr w') {Ld' : List (List Nat)} (hd : DocAt w' N V c gs Ld') : Lw W w' q pc h G a t l m b c g z k bl x N T15 T17 V gs Lp Ld' σ RC := by
  have hkl : k < gs.length := by rw [F.gl]; exact F.kl
  have hB := H.doc.blk k hkl
  have hge : N ≤ gs.getD k 0 := H.doc.ge _ (getD_mem hkl)
  refine ⟨H.ln.far hk hB rfl rfl rfl, H.gr.keep hk (RowAt.unlike H.gr.row hB (by rfl)) (RowAt.unlike H.gr.live.row hB (by rfl)) (by have := F.gN; omega), hd, RowAt.kept H.sh hk (RowAt.unlike H.sh hB (by rfl)), RowAt.kept H.rl hk (RowAt.unlike H.rl hB (by rfl)), H.below.trans (hk.below H.below.size fun y hy => ?_), Nat.le_trans H.nw hk.size, H.wx, H.len⟩
  have := F.wN; omega
theorem Lf.tabN (F : Lf W G a t l b c g k bl N T17 gs) : TabN W.heap.size := ⟨F.tab.1.1, F.tab.2.1⟩
theorem pr_late {p s : Nat} (H : Lw W wr q pc h G a t l m b c g z k bl x N T15 T17 V gs Lp Ld (.done p s) RC) : Calls Tryz.prog 5 #[.pointer (some ⟨bl, 0, none⟩)] wr fun e w' => e = .returned (.tuple #[evv 0 0 0 0 0 0 0 0, .int .i64 12]) ∧ Lw W w' q pc h G a t l m b c g z k bl x N T15 T17 V gs Lp Ld (.done p s) RC :=
  (late_at H.ln).mono fun _ _ ⟨e, hb⟩ => ⟨e, H.on hb⟩
theorem pr_wait {p s : Nat} (H : Lw W wr q pc h G a t l m b c g z k bl x N T15 T17 V gs Lp Ld (.gate p s) RC) : Calls Tryz.prog 5 #[.pointer (some ⟨bl, 0, none⟩)] wr fun e w' => e = .returned (.tuple #[evv 0 0 0 0 0 0 0 0, .int .i64 16]) ∧ Lw W w' q pc h G a t l m b c g z k bl x N T15 T17 V gs Lp Ld (.gate p s) RC :=
  (gate_at H.ln).mono fun _ _ ⟨e, hb⟩ => ⟨e, H.on hb⟩
theorem pr_arrive (F : Lf W G a t l b c g k bl N T17 gs) {p s : Nat} (H : Lw W wr q pc h G a t l m b c g z k bl x N T15 T17 V gs Lp Ld (.go p s g none) RC) : Calls Tryz.prog 5 #[.pointer (some ⟨bl, 0, none⟩)] wr fun e w' => e = .returned (.tuple #[evv 3 k p s 0 0 0 0, .int .i64 0]) ∧ Lw W w' q pc h G a t l m b c g z k bl x N T15 T17 V gs Lp Ld (.gate p s) RC :=
  (arrive_at H.gr H.ln).mono fun _ _ ⟨e, h1, h2, hk⟩ => ⟨e, H.prog F (p := p) (s := s) hk H.ln.1 (fun _ e => .inl e) h1 h2 H.wx H.len⟩
theorem pr_look (F : Lf W G a t l b c g k bl N T17 gs) {p s i : Nat} (R : Fl t l c g p s k i) (H : Lw W wr q pc h G a t l m b c g z k bl x N T15 T17 V gs Lp Ld (.go p s i none) RC) (D : Nat) (hD : numW a t b c g Lp p s k i = D) : Calls Tryz.prog 5 #[.pointer (some ⟨bl, 0, none⟩)] wr fun e w' => e = .returned (.tuple #[evv 1 k p s k (s * g + i : Nat) (ofL l p s k D) (ofC l c g p s k i D), .int .i64 0]) ∧ Lw W w' q pc h G a t l m b c g z k bl x N T15 T17 V gs Lp Ld (.go p s i (some D)) RC :=
  (look_at F.S R H.gr H.len (F.tab.next H.below) F.tabN H.wx H.ln D hD).mono fun _ _ ⟨e, h1, h2, hk⟩ => ⟨e, H.prog F hk H.ln.1 (fun _ e => e.elim .inl fun e => .inr (.inl ⟨e, H.ln.2⟩)) h1 h2 H.wx H.len⟩
theorem pr_fill (F : Lf W G a t l b c g k bl N T17 gs) {p s i D : Nat} (R : Fl t l c g p s k i) (H : Lw W wr q pc h G a t l m b c g z k bl x N T15 T17 V gs Lp Ld (.go p s i (some D)) RC) (hD : numW a t b c g Lp p s k i = D) : Calls Tryz.prog 5 #[.pointer (some ⟨bl, 0, none⟩)] wr fun e w' => e = .returned (.tuple #[evv 2 k p s k (s * g + i : Nat) (ofL l p s k D) (ofC l c g p s k i D), .int .i64 0]) ∧ Lw W w' q pc h G a t l m b c g z k bl x N T15 T17 V gs (stepL a t l b c g Lp p s k i) Ld (.go p s (i + 1) none) RC :=
  (fill_at F.S R H.gr H.len (F.tab.next H.below) F.wG H.ln (newB a t l b c g Lp p s k i) (by unfold newB; rw [hD])).mono fun _ _ ⟨e, h1, h2, hk⟩ => by
    obtain ⟨⟨d, hr, _⟩, _⟩ := H.ln
    exact ⟨e, H.prog F (p := p) (s := s) hk hr (fun _ e => e.elim .inl fun e => .inr (.inr e)) h1 h2 H.wx (by rw [stepL_len]; exact H.len)⟩
theorem pr_open (F : Lf W G a t l b c g k bl N T17 gs) {p s : Nat} (hp : p < t) (hs : s ≤ 3) (H : Lw W wr q pc h G a t l m b c g z k bl x N T15 T17 V gs Lp Ld (.gate p s) RC) : Calls Tryz.prog 6 #[.pointer (some ⟨bl, 0, none⟩)] wr fun e w' => e = .returned (.bool true) ∧ (∃ x', Lw W w' q pc h G a t l m b c g z k bl x' N T15 T17 V gs Lp Ld (opL t p s) RC) ∧ Kept (fun j => j = bl) wr w' :=
  (open_at H.gr F.S.tm hp hs F.wb H.ln).mono fun _ _ ⟨e, ⟨x', h1, hx⟩, h2, hk⟩ => ⟨e, ⟨x', H.prog F (p := p) (s := s) hk H.ln.1 (fun _ e => .inl e) h1 h2 (hx.elim (fun e => e ▸ H.wx) fun e => Nat.le_trans H.below.size e) H.len⟩, hk⟩
theorem rf_on {args : Array Value} {F : FuncId} {v : Value} (H : Lw W wr q pc h G a t l m b c g z k bl x N T15 T17 V gs Lp Ld σ RC) (C : Calls Tryz.prog F args wr fun e w' => e = .returned v ∧ Below wr.heap.size wr w') : Calls Tryz.prog F args wr fun e w' => e = .returned v ∧ Lw W w' q pc h G a t l m b c g z k bl x N T15 T17 V gs Lp Ld σ RC :=
  C.mono fun _ _ ⟨e, hb⟩ => ⟨e, H.on hb⟩
theorem rf_open {p s : Nat} (ht : t ≤ 4294967295) (hp : p < t) (hs : s ≤ 3) : ∃ p' s' i' : Int, ∃ f1 f2 f3 : Bool, (∀ w, Calls Tryz.prog 15 #[spv a t l m b c g z, rlv p s g false true false] w fun e w' => e = .returned (rlv p' s' i' f1 f2 f3) ∧ Below w.heap.size w w') ∧
    ((p + 1 = t ∧ s = 3 ∧ p' = p ∧ s' = s ∧ i' = g ∧ f1 = false ∧ f2 = true ∧ f3 = true) ∨ (¬ (p + 1 = t ∧ s = 3) ∧ p' = (nxP p s : Nat) ∧ s' = (nxS s : Nat) ∧ i' = (fiN (nxP p s) (nxS s) : Nat) ∧ f1 = false ∧ f2 = false ∧ f3 = false)) := by
  by_cases hl : p + 1 = t ∧ s = 3
  · obtain ⟨h1, rfl⟩ := hl
    exact ⟨p, 3, g, false, true, true, fun w => ropen_last ht h1, .inl ⟨h1, rfl, rfl, rfl, rfl, rfl, rfl, rfl⟩⟩
  · refine ⟨(nxP p s : Nat), (nxS s : Nat), (fiN (nxP p s) (nxS s) : Nat), false, false, false, fun w => ?_, .inr ⟨hl, rfl, rfl, rfl, rfl, rfl, rfl⟩⟩
    obtain ⟨_, _, _, h4⟩ := nx_turn hp hs hl
    rw [h4]
    by_cases h3 : s = 3
    · subst h3
      exact ropen_wrap (p' := p + 1) ht (by omega) rfl
    · rw [show nxP p s = p from if_neg h3, show nxS s = s + 1 from if_neg h3]
      exact ropen_next ht hp (by omega) rfl
end
def rlS (g : Nat) : Ln → Array Value
  | .go p s i h => rlc p s i h.isSome false false
  | .gate p s => rlc p s g false true false
  | .done p s => rlc p s g false true true
theorem rlS_open {t g p s : Nat} {p' s' i' : Int} {f1 f2 f3 : Bool} (h : (p + 1 = t ∧ s = 3 ∧ p' = p ∧ s' = s ∧ i' = g ∧ f1 = false ∧ f2 = true ∧ f3 = true) ∨ (¬ (p + 1 = t ∧ s = 3) ∧ p' = (nxP p s : Nat) ∧ s' = (nxS s : Nat) ∧ i' = (fiN (nxP p s) (nxS s) : Nat) ∧ f1 = false ∧ f2 = false ∧ f3 = false)) : rlc p' s' i' f1 f2 f3 = rlS g (opL t p s) := by
  unfold opL
  rcases h with ⟨h1, h2, rfl, rfl, rfl, rfl, rfl, rfl⟩ | ⟨h1, rfl, rfl, rfl, rfl, rfl, rfl⟩
  · rw [if_pos ⟨h1, h2⟩]; rfl
  · rw [if_neg h1]; rfl
end Go.Proofs.YtfoodaobiknihaaGreatDoor

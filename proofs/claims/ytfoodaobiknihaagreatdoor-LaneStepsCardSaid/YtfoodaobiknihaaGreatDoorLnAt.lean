/- A lane in memory as a machine: each step, and a gate opened, by what it goes on with. Conditions: those typed. -/
import Derived.Test.YtfoodaobiknihaaGreatDoorLnStep
namespace Go.Proofs.YtfoodaobiknihaaGreatDoor
set_option maxRecDepth 50000
open Go.RowKit Bb Bn
def LnAt (w : World) (q a t l m bb c g z k b x : Nat) : Ln → Prop
  | .go p s i none => LnRow w b (.pointer (some ⟨q, 0, none⟩)) k p s i (.pointer (some ⟨x, 0, none⟩)) (.pointer none) false ∧ Src w x a t l m bb c g z p s k
  | .go p s i (some W) => (∃ d, LnRow w b (.pointer (some ⟨q, 0, none⟩)) k p s i (.pointer (some ⟨x, 0, none⟩)) (.pointer (some ⟨d, 0, none⟩)) false ∧ RowAt w d 98 (stpc k (s * g + i : Nat) k (bfN c (s * g + i)) (ofL l p s k W) (ofC l c g p s k i W))) ∧ Src w x a t l m bb c g z p s k
  | .gate p s => LnRow w b (.pointer (some ⟨q, 0, none⟩)) k p s g (.pointer (some ⟨x, 0, none⟩)) (.pointer none) true ∧ Src w x a t l m bb c g z p s k
  | .done p s => LnRow w b (.pointer none) k p s 0 (.pointer none) (.pointer none) false
def Ln.waits : Ln → Bool
  | .gate _ _ => true
  | _ => false
def Ln.isDone : Ln → Bool
  | .done _ _ => true
  | _ => false
section
variable {w w' : World} {q pc h G a t l m bb c g z k b x : Nat} {L : List (List Nat)} {σ : Ln}
theorem LnAt.step (H : LnAt w q a t l m bb c g z k b x σ) (hb : Below w.heap.size w w') : LnAt w' q a t l m bb c g z k b x σ := by
  match σ, H with
  | .go p s i none, ⟨h1, h2⟩ => exact ⟨h1.step hb, h2.step hb⟩
  | .go p s i (some W), ⟨⟨d, h1, h2⟩, h3⟩ => exact ⟨⟨d, h1.step hb, RowAt.step h2 hb⟩, h3.step hb⟩
  | .gate p s, ⟨h1, h2⟩ => exact ⟨h1.step hb, h2.step hb⟩
  | .done p s, h1 => exact LnRow.step h1 hb
theorem LnAt.row (H : LnAt w q a t l m bb c g z k b x σ) : ∃ gv p s i xv dv, LnRow w b (.pointer gv) k p s i xv (.pointer dv) σ.waits ∧ gv.isNone = σ.isDone := by
  match σ, H with
  | .go p s i none, ⟨h1, h2⟩ => exact ⟨_, _, _, _, _, _, h1, rfl⟩
  | .go p s i (some W), ⟨⟨d, h1, h2⟩, h3⟩ => exact ⟨_, _, _, _, _, _, h1, rfl⟩
  | .gate p s, ⟨h1, h2⟩ => exact ⟨_, _, _, _, _, _, h1, rfl⟩
  | .done p s, h1 => exact ⟨_, _, _, _, _, _, h1, rfl⟩
theorem LnAt.lt (H : LnAt w q a t l m bb c g z k b x σ) : b < w.heap.size := by
  obtain ⟨_, _, _, _, _, _, h, _⟩ := H.row
  exact RowAt.lt h
theorem waits_at (H : LnAt w q a t l m bb c g z k b x σ) : Calls Tryz.prog 7 #[.pointer (some ⟨b, 0, none⟩)] w fun e w' => e = .returned (.bool σ.waits) ∧ w = w' := by
  obtain ⟨_, _, _, _, _, _, h, _⟩ := H.row
  exact waits_ln h
theorem done_at (H : LnAt w q a t l m bb c g z k b x σ) : Calls Tryz.prog 17 #[.pointer (some ⟨b, 0, none⟩)] w fun e w' => e = .returned (.bool σ.isDone) ∧ w = w' := by
  obtain ⟨_, _, _, _, _, _, h, h2⟩ := H.row
  exact done_ln h h2
theorem number_at (H : LnAt w q a t l m bb c g z k b x σ) : Calls Tryz.prog 8 #[.pointer (some ⟨b, 0, none⟩)] w fun e w' => e = .returned (.int .i64 (k : Int)) ∧ w = w' := by
  obtain ⟨_, _, _, _, _, _, h, _⟩ := H.row
  exact number_ln h
theorem GrAt.by_lane {M : Nat → Prop} {gv xv dv : Value} {k p s i : Int} {f : Bool} (hG : GrAt w q pc h G a t l m bb c g z L) (hk : Kept M w w') (hr : LnRow w b gv k p s i xv dv f) (hM : ∀ j, M j → j = b) : GrAt w' q pc h G a t l m bb c g z L :=
  hG.keep hk (fun e => RowAt.unlike hG.row hr (by rfl) (hM _ e)) (fun e => RowAt.unlike hG.live.row hr (by rfl) (hM _ e)) (fun e => RowAt.unlike hG.live.blk hr (by rfl) (hM _ e))
theorem GrAt.by_both {M : Nat → Prop} {gv xv dv : Value} {k p s i : Int} {p' s' k' : Nat} {f : Bool} (hG : GrAt w q pc h G a t l m bb c g z L) (hk : Kept M w w') (hr : LnRow w b gv k p s i xv dv f) (hs : Src w x a t l m bb c g z p' s' k') (hM : ∀ j, M j → j = b ∨ j = x) : GrAt w' q pc h G a t l m bb c g z L :=
  hG.keep hk (fun e => (hM _ e).elim (RowAt.unlike hG.row hr (by rfl)) (hs.unlike hG.row (by rfl))) (fun e => (hM _ e).elim (RowAt.unlike hG.live.row hr (by rfl)) (hs.unlike hG.live.row (by rfl))) (fun e => (hM _ e).elim (RowAt.unlike hG.live.blk hr (by rfl)) (hs.unlike hG.live.blk (by rfl)))
theorem GrAt.by_event {T : Nat} {C C' : Array Value} (hG : GrAt w q pc h G a t l m bb c g z L) (hE : RowAt w T 32 C) : GrAt (w.setRow T C') q pc h G a t l m bb c g z L :=
  hG.keep (kept_row _ _ _) (RowAt.unlike hG.row hE (by rfl)) (RowAt.unlike hG.live.row hE (by rfl)) (RowAt.unlike hG.live.blk hE (by rfl))
theorem arrive_at {p s : Nat} (hG : GrAt w q pc h G a t l m bb c g z L) (H : LnAt w q a t l m bb c g z k b x (.go p s g none)) :
    Calls Tryz.prog 5 #[.pointer (some ⟨b, 0, none⟩)] w fun e w' => e = .returned (.tuple #[evv 3 k p s 0 0 0 0, .int .i64 0]) ∧ (LnAt w' q a t l m bb c g z k b x (.gate p s) ∧ GrAt w' q pc h G a t l m bb c g z L ∧ Kept (fun j => j = b) w w') := by
  obtain ⟨hr, hs⟩ := H
  have hbw : b < w.heap.size := RowAt.lt hr
  have hxb := hs.unlike hr (by rfl)
  refine step_by hr hG 3 k p s 0 0 0 0 (fun u => LnAt u q a t l m bb c g z k b x (.gate p s) ∧ GrAt u q pc h G a t l m bb c g z L ∧ Kept (fun j => j = b) w u) _ (.inl ⟨rfl, Nat.le_refl _⟩) fun u hu hE => ?_
  refine (arrive_any (hr.step hu)).mono ?_
  rintro e w' ⟨rfl, h1, hk⟩
  have hE' := RowAt.kept hE hk (by omega)
  have hx := hs.lt
  refine ⟨rfl, hE', ⟨⟨h1.kept (kept_row _ _ _) (by omega), ((hs.step hu).kept hk (Ne.symm hxb)).kept (kept_row _ _ _) (by omega)⟩, ((hG.step hu).by_lane hk (hr.step hu) fun _ e => e).by_event hE', ?_⟩⟩
  exact ((Kept.of_below (M := fun j => j = b) hu).trans hk fun _ _ h => h).trans (kept_row _ _ _) fun y hy e => by omega
theorem look_at {p s i N0 : Nat} (S : Sh a t l bb c g) (R : Fl t l c g p s k i) (hG : GrAt w q pc h G a t l m bb c g z L) (hL : L.length = l * c) (hT : TAt w) (hN : TabN N0) (hx : N0 ≤ x) (H : LnAt w q a t l m bb c g z k b x (.go p s i none)) (W : Nat) (hW : numW a t bb c g L p s k i = W) :
    Calls Tryz.prog 5 #[.pointer (some ⟨b, 0, none⟩)] w fun e w' => e = .returned (.tuple #[evv 1 k p s k (s * g + i : Nat) (ofL l p s k W) (ofC l c g p s k i W), .int .i64 0]) ∧ (LnAt w' q a t l m bb c g z k b x (.go p s i (some W)) ∧ GrAt w' q pc h G a t l m bb c g z L ∧ Kept (fun j => j = b ∨ j = x) w w') := by
  obtain ⟨hr, hs⟩ := H
  have hbw : b < w.heap.size := RowAt.lt hr
  have hxw := hs.lt
  refine step_by hr hG 1 k p s k (s * g + i : Nat) (ofL l p s k W) (ofC l c g p s k i W) (fun u => LnAt u q a t l m bb c g z k b x (.go p s i (some W)) ∧ GrAt u q pc h G a t l m bb c g z L ∧ Kept (fun j => j = b ∨ j = x) w u) _ (.inr (.inl ⟨rfl, R.hi, rfl⟩)) fun u hu hE => ?_
  refine (llook_any S R (hG.step hu) hL (hs.step hu) (hT.next hu) hN hx (hr.step hu) W _ _ _ _ hW rfl rfl rfl rfl).mono ?_
  rintro e w' ⟨rfl, ⟨d, h1, h2, h3⟩, h4, hk⟩
  have hE' := RowAt.kept hE hk (by omega)
  have hut : w.heap.size < u.heap.size := RowAt.lt hE
  refine ⟨rfl, hE', ⟨⟨⟨d, h1.kept (kept_row _ _ _) (by omega), h2.setRowOther _ (by omega) _⟩, h4.kept (kept_row _ _ _) (by omega)⟩, ((hG.step hu).by_both hk (hr.step hu) (hs.step hu) fun _ e => e).by_event hE', ?_⟩⟩
  exact ((Kept.of_below (M := fun j => j = b ∨ j = x) hu).trans hk fun _ _ h => h).trans (kept_row _ _ _) fun y hy e => by omega
theorem fill_at {p s i N0 W : Nat} (S : Sh a t l bb c g) (R : Fl t l c g p s k i) (hG : GrAt w q pc h G a t l m bb c g z L) (hL : L.length = l * c) (hT : TAt w) (hN0 : N0 ≤ G) (H : LnAt w q a t l m bb c g z k b x (.go p s i (some W))) (nb : List Nat) (hnb : newW l c g L p s k i W = nb) :
    Calls Tryz.prog 5 #[.pointer (some ⟨b, 0, none⟩)] w fun e w' => e = .returned (.tuple #[evv 2 k p s k (s * g + i : Nat) (ofL l p s k W) (ofC l c g p s k i W), .int .i64 0]) ∧ (LnAt w' q a t l m bb c g z k b x (.go p s (i + 1) none) ∧ GrAt w' q pc h G a t l m bb c g z (L.set (k * c + (s * g + i)) nb) ∧ Kept (fun j => j = b ∨ j = G) w w') := by
  obtain ⟨⟨d, hr, hd⟩, hs⟩ := H
  have hbw : b < w.heap.size := RowAt.lt hr
  have hxw := hs.lt
  have hGw : G < w.heap.size := hG.live.blk.lt
  have hch := chosen_of S R W
  have hcol := R.col S
  have hxb := hs.unlike hr (by rfl)
  have hxG := hs.unlike hG.live.blk (by rfl)
  refine step_by hr hG 2 k p s k (s * g + i : Nat) (ofL l p s k W) (ofC l c g p s k i W) (fun u => LnAt u q a t l m bb c g z k b x (.go p s (i + 1) none) ∧ GrAt u q pc h G a t l m bb c g z (L.set (k * c + (s * g + i)) nb) ∧ Kept (fun j => j = b ∨ j = G) w u) _ (.inr (.inr ⟨rfl, R.hi, d, rfl⟩)) fun u hu hE => ?_
  refine (lfill_any (hG.step hu) S.lm (by have := S.cm; omega) (by have := S.cm; have := S.cg; have := R.hi; omega) hL (hT.next hu) hN0 (hr.step hu) (RowAt.step hd hu) R.kl hcol (bfN_lt hcol) hch.lane hch.col nb hnb).mono ?_
  rintro e w' ⟨rfl, h1, h2, hk⟩
  have hE' := RowAt.kept hE hk (by omega)
  refine ⟨rfl, hE', ⟨⟨h1.kept (kept_row _ _ _) (by omega), ((hs.step hu).kept hk (by omega)).kept (kept_row _ _ _) (by omega)⟩, h2.by_event hE', ?_⟩⟩
  exact ((Kept.of_below (M := fun j => j = b ∨ j = G) hu).trans hk fun _ _ h => h).trans (kept_row _ _ _) fun y hy e => by omega
theorem open_at {p s N0 : Nat} (hG : GrAt w q pc h G a t l m bb c g z L) (ht : t ≤ 4294967295) (hp : p < t) (hs : s ≤ 3) (hN0 : N0 ≤ b) (H : LnAt w q a t l m bb c g z k b x (.gate p s)) :
    Calls Tryz.prog 6 #[.pointer (some ⟨b, 0, none⟩)] w fun e w' => e = .returned (.bool true) ∧ (∃ x', LnAt w' q a t l m bb c g z k b x' (opL t p s) ∧ (x' = x ∨ w.heap.size ≤ x')) ∧ GrAt w' q pc h G a t l m bb c g z L ∧ Kept (fun j => j = b) w w' := by
  obtain ⟨hr, hsr⟩ := H
  unfold opL
  by_cases hl : p + 1 = t ∧ s = 3
  · rw [if_pos hl]
    refine (open_last hG ht hl.1 hl.2 hN0 hr).mono ?_
    rintro e w' ⟨rfl, h1, hk⟩
    exact ⟨rfl, ⟨x, h1, .inl rfl⟩, hG.by_lane hk hr fun _ e => e, hk⟩
  · rw [if_neg hl]
    refine (open_more hG ht hp hs hl hN0 hr).mono ?_
    rintro e w' ⟨rfl, ⟨x', h1, h2, h3⟩, hk⟩
    exact ⟨rfl, ⟨x', ⟨h1, h2⟩, .inr h3⟩, hG.by_lane hk hr fun _ e => e, hk⟩
theorem open_other (H : LnAt w q a t l m bb c g z k b x σ) (hσ : σ.waits = false) : Calls Tryz.prog 6 #[.pointer (some ⟨b, 0, none⟩)] w fun e w' => e = .returned (.bool false) ∧ w = w' := by
  obtain ⟨_, _, _, _, _, _, h, _⟩ := H.row
  rw [hσ] at h
  exact open_not h
theorem gate_at {p s : Nat} (H : LnAt w q a t l m bb c g z k b x (.gate p s)) : Calls Tryz.prog 5 #[.pointer (some ⟨b, 0, none⟩)] w fun e w' => e = .returned (.tuple #[evv 0 0 0 0 0 0 0 0, .int .i64 16]) ∧ Below w.heap.size w w' := step_wait H.1
theorem late_at {p s : Nat} (H : LnAt w q a t l m bb c g z k b x (.done p s)) : Calls Tryz.prog 5 #[.pointer (some ⟨b, 0, none⟩)] w fun e w' => e = .returned (.tuple #[evv 0 0 0 0 0 0 0 0, .int .i64 12]) ∧ Below w.heap.size w w' := step_late H
end
end Go.Proofs.YtfoodaobiknihaaGreatDoor

/- What Expand does to each part, by its contract. Conditions: those typed. -/
import Derived.Test.YtccpcjbffibkkaaCia
namespace Go.Proofs.Ytccpcjbffibkkaa
set_option maxRecDepth 50000
open Go.RowKit Ci

theorem RowAt.apart {w : World} {a b : Nat} {t u : TypeId} {C D : Array Value} (h : RowAt w a t C) (k : RowAt w b u D) (hn : (t == u) = false) : a ≠ b := fun e => by
  subst e
  have := h.symm.trans k
  simp at this
  simp at hn
  exact hn this.2
theorem RowAt.kept {w w' : World} {b : Nat} {t : TypeId} {C : Array Value} {M : Nat → Prop} (h : RowAt w b t C) (hk : Kept M w w') (hb : ¬ M b) : RowAt w' b t C := (hk.block b h.lt hb).trans h

/-- the variables that Expand's closure writes: l, next, r, c in their blocks; the text that next reads, and its place; the words -/
structure ExIs (L N R C T P b : Nat) (w : World) (s : ByteArray) (g : Nat → Nat) (l r i : Nat) : Prop where
  hl : RowAt w L 52 #[.int .u32 (l : Int)]
  hn : RowAt w N 94 #[.func (.func 54) #[] #[.pointer (some ⟨T, 0, none⟩), .pointer (some ⟨P, 0, none⟩)]]
  hr : RowAt w R 52 #[.int .u32 (r : Int)]
  hc : RowAt w C 43 #[.pointer (some ⟨b, 0, none⟩)]
  nx : NextIs w T P s i
  tb : Tab w b 91 g
  ne : L ≠ R
def exM (L R P b : Nat) : Nat → Prop := fun x => x = b ∨ x = L ∨ x = R ∨ x = P

section
variable {L N R C T P b : Nat} {w w' : World} {s : ByteArray} {g : Nat → Nat} {l r i : Nat}
theorem ExIs.drewN (h : ExIs L N R C T P b w s g l r i) (q : Nat) : ExIs L N R C T P b (w.drewN q) s g l r i := by
  obtain ⟨p, h1, h2⟩ := h.nx.place
  exact ⟨h.hl, h.hn, h.hr, h.hc, ⟨h.nx.text, p, h1, h2⟩, h.tb, h.ne⟩
theorem ExIs.below (h : ExIs L N R C T P b w s g l r i) (hb : Below w.heap.size w w') : ExIs L N R C T P b w' s g l r i := by
  have hk : Kept (fun _ => False) w w' := Kept.of_below hb
  exact ⟨h.hl.kept hk id, h.hn.kept hk id, h.hr.kept hk id, h.hc.kept hk id, h.nx.kept hk id id, RowAt.kept h.tb hk id, h.ne⟩
theorem ExIs.next (h : ExIs L N R C T P b w s g l r i) (hn : NextIs w' T P s (i + 1)) (hk : Kept (fun x => x = P) w w') : ExIs L N R C T P b w' s g l r (i + 1) := by
  obtain ⟨p, h1, h2⟩ := h.nx.place
  exact ⟨h.hl.kept hk (RowAt.apart h.hl h1 rfl), h.hn.kept hk (RowAt.apart h.hn h1 rfl), h.hr.kept hk (RowAt.apart h.hr h1 rfl), h.hc.kept hk (RowAt.apart h.hc h1 rfl), hn, RowAt.kept h.tb hk (RowAt.apart h.tb h1 rfl), h.ne⟩
theorem ExIs.setL (h : ExIs L N R C T P b w s g l r i) (v : Nat) : ExIs L N R C T P b (w.setCell ⟨L, 0, none⟩ (.int .u32 (v : Int))) s g v r i := by
  have hk : Kept (fun x => x = L) w (w.setCell ⟨L, 0, none⟩ (.int .u32 (v : Int))) := Kept.set (M := fun x => x = L) (Kept.refl _ w) (p := ⟨L, 0, none⟩) (.inl rfl) _
  obtain ⟨p, h1, h2⟩ := h.nx.place
  exact ⟨row_set h.hl, h.hn.kept hk (RowAt.apart h.hn h.hl rfl), h.hr.kept hk (Ne.symm h.ne), h.hc.kept hk (RowAt.apart h.hc h.hl rfl), h.nx.kept hk (RowAt.apart h.nx.text h.hl rfl) (RowAt.apart h1 h.hl rfl), RowAt.kept h.tb hk (RowAt.apart h.tb h.hl rfl), h.ne⟩
theorem ExIs.setR (h : ExIs L N R C T P b w s g l r i) (v : Nat) : ExIs L N R C T P b (w.setCell ⟨R, 0, none⟩ (.int .u32 (v : Int))) s g l v i := by
  have hk : Kept (fun x => x = R) w (w.setCell ⟨R, 0, none⟩ (.int .u32 (v : Int))) := Kept.set (M := fun x => x = R) (Kept.refl _ w) (p := ⟨R, 0, none⟩) (.inl rfl) _
  obtain ⟨p, h1, h2⟩ := h.nx.place
  exact ⟨h.hl.kept hk h.ne, h.hn.kept hk (RowAt.apart h.hn h.hr rfl), row_set h.hr, h.hc.kept hk (RowAt.apart h.hc h.hr rfl), h.nx.kept hk (RowAt.apart h.nx.text h.hr rfl) (RowAt.apart h1 h.hr rfl), RowAt.kept h.tb hk (RowAt.apart h.tb h.hr rfl), h.ne⟩
theorem ExIs.setT (h : ExIs L N R C T P b w s g l r i) (j v : Nat) (hj : j < 1042) : ExIs L N R C T P b (w.setCell ⟨b, j, none⟩ (.int .u32 (v : Int))) s (upd g j v) l r i := by
  have hk : Kept (fun x => x = b) w (w.setCell ⟨b, j, none⟩ (.int .u32 (v : Int))) := Kept.set (M := fun x => x = b) (Kept.refl _ w) (p := ⟨b, j, none⟩) (.inl rfl) _
  obtain ⟨p, h1, h2⟩ := h.nx.place
  exact ⟨h.hl.kept hk (RowAt.apart h.hl h.tb rfl), h.hn.kept hk (RowAt.apart h.hn h.tb rfl), h.hr.kept hk (RowAt.apart h.hr h.tb rfl), h.hc.kept hk (RowAt.apart h.hc h.tb rfl), h.nx.kept hk (RowAt.apart h.nx.text h.tb rfl) (RowAt.apart h1 h.tb rfl), h.tb.set j v hj, h.ne⟩
end

/-- how the worlds stand in one round -/
def ExW (L N R C T P b : Nat) (w0 : World) (s : ByteArray) (S : Nat → (Nat → Nat) × Nat × Nat × Nat) (k : Nat) (w : World) : Prop :=
  ExIs L N R C T P b w s (S k).1 (S k).2.1 (S k).2.2.1 (S k).2.2.2 ∧ Kept (exM L R P b) w0 w
theorem ExW.stable {L N R C T P b : Nat} {w0 w w' : World} {s : ByteArray} {S : Nat → (Nat → Nat) × Nat × Nat × Nat} {k : Nat} (h : ExW L N R C T P b w0 s S k w) (hb : Below w.heap.size w w') : ExW L N R C T P b w0 s S k w' :=
  ⟨h.1.below hb, h.2.trans (Kept.of_below (M := fun _ => False) hb) fun _ _ x => x.elim⟩
theorem around_enters (args : Array Value) (w : World) : (callFunc 54 args).run Try.prog w = .ok (.enter 54 args) w :=
  reg_enters Try.func54 (by kernel_rfl) (by kernel_rfl) args w

set_option maxHeartbeats 4000000 in
theorem ex1_any (L N R C T P b : Nat) (w : World) (s : ByteArray) (hs : s.size ≤ 140737488351232) (g0 : Nat → Nat) (hg0 : Ok g0) (m h : Nat) (hm : 2 * m + 2 * h ≤ 1042)
    (hE : ExIs L N R C T P b w s (chTo s g0 m).g (chTo s g0 m).l (chTo s g0 m).r (2 * m)) :
    Calls Try.prog 47 #[.slice (some ⟨b, 2 * m, none⟩) (2 * h) (2 * h), .pointer (some ⟨L, 0, none⟩), .pointer (some ⟨N, 0, none⟩), .pointer (some ⟨R, 0, none⟩), .pointer (some ⟨C, 0, none⟩)] w fun e w' => e = .returned (.tuple #[]) ∧ ExIs L N R C T P b w' s (chTo s g0 (m + h)).g (chTo s g0 (m + h)).l (chTo s g0 (m + h)).r (2 * (m + h)) ∧ Kept (exM L R P b) w w' := by
  have HE := Lib.hid hE
  clear hE
  obtain ⟨n2, hn2⟩ : ∃ n2, n2 = 2 * h := ⟨_, rfl⟩
  have hn2b : n2 ≤ 1042 := by omega
  rw [← hn2]
  have HN2 := Lib.hid hn2
  clear hn2
  go_enter Try.func47, Try.ntmps47
  go_wp2
  go_loopw [6] (fun v6 wr => ∃ k i : Nat, k ≤ h ∧ Hid (i = 2 * k) ∧ v6 = .int .i64 (i : Int) ∧ Hid (ExIs L N R C T P b wr s (chTo s g0 (m + k)).g (chTo s g0 (m + k)).l (chTo s g0 (m + k)).r (2 * (m + k)) ∧ Kept (exM L R P b) w wr)) (fun v _ => n2 - (intOf v).toNat)
  case atStart => exact ⟨0, 0, by omega, Lib.hid rfl, rfl, Lib.hid ⟨HE.out, Kept.refl _ _⟩⟩
  case round =>
    obtain ⟨k, i, hk, HI, rfl, HS⟩ := hrel
    by_cases hkh : k < h
    · have hin : i + 1 < n2 := by have := HI.out; have := HN2.out; omega
      obtain ⟨g, hg⟩ : ∃ g, g = (chTo s g0 (m + k)).g := ⟨_, rfl⟩
      obtain ⟨l, hl⟩ : ∃ l, l = (chTo s g0 (m + k)).l := ⟨_, rfl⟩
      obtain ⟨r, hr⟩ : ∃ r, r = (chTo s g0 (m + k)).r := ⟨_, rfl⟩
      obtain ⟨hok1, hok2, hok3⟩ := chTo_ok s g0 hg0 (m + k)
      rw [← hg] at hok1
      rw [← hl] at hok2
      rw [← hr] at hok3
      obtain ⟨x, hx⟩ : ∃ x, x = wd s (2 * (m + k)) := ⟨_, rfl⟩
      obtain ⟨y, hy⟩ : ∃ y, y = wd s (2 * (m + k) + 1) := ⟨_, rfl⟩
      have hxb : x < 4294967296 := by rw [hx]; exact wd_lt _ _
      have hyb : y < 4294967296 := by rw [hy]; exact wd_lt _ _
      have hlx := u32_xor_nat l x hok2 hxb
      have hry := u32_xor_nat r y hok3 hyb
      obtain ⟨l1, hl1⟩ : ∃ l1, l1 = l ^^^ x := ⟨_, rfl⟩
      obtain ⟨r1, hr1⟩ : ∃ r1, r1 = r ^^^ y := ⟨_, rfl⟩
      have hl1b : l1 < 4294967296 := by rw [hl1]; exact xor_lt _ _ hok2 hxb
      have hr1b : r1 < 4294967296 := by rw [hr1]; exact xor_lt _ _ hok3 hyb
      rw [← hl1] at hlx
      rw [← hr1] at hry
      obtain ⟨q, hq⟩ : ∃ q, q = 2 * (m + k) := ⟨_, rfl⟩
      have hqi : q = 2 * m + i := by have := HI.out; omega
      obtain ⟨a, ha⟩ : ∃ a, a = enL g l1 r1 := ⟨_, rfl⟩
      obtain ⟨a2, ha2⟩ : ∃ a2, a2 = enR g l1 r1 := ⟨_, rfl⟩
      have HST : Hid ((chTo s g0 (m + (k + 1))) = ⟨upd (upd g q a) (q + 1) a2, a, a2⟩) := Lib.hid (by
        show stp s (chTo s g0 (m + k)) (m + k) = _
        unfold stp
        rw [← hg, ← hl, ← hr, ← hx, ← hy, ← hl1, ← hr1, ← ha, ← ha2, ← hq])
      have hab := en_lt g hok1 l1 r1 hl1b hr1b
      rw [← ha, ← ha2] at hab
      have HC := Lib.hid (fun (w1 : World) (hT : Tab w1 b 91 g) => by
        have h := enc_any w1 b g hT hok1 l1 r1 hl1b hr1b
        rw [show crL (fB g) g l1 r1 = a from ha.symm, show crR (fB g) g l1 r1 = a2 from ha2.symm] at h
        exact h)
      have HNX := Lib.hid (fun (w1 : World) (j : Nat) (hj : NextIs w1 T P s j) => next_any w1 T P s j hs hj)
      have hS := HS.out
      rw [← hg, ← hl, ← hr, ← hq] at hS
      have HX := Lib.hid hx
      have HY := Lib.hid hy
      have HQ := Lib.hid hq
      have HQI := Lib.hid hqi
      have HS2 := Lib.hid hS
      have HA := Lib.hid (And.intro ha ha2)
      clear hS HS hg hl hr hx hy hl1 hr1 hq hqi ha ha2
      have h1 : (i : Int) < (n2 : Int) := by omega
      go_wp2
      refine wp_region_seq [2, 4] [.int .u32 (l : Int), .func (.func 54) #[] #[.pointer (some ⟨T, 0, none⟩), .pointer (some ⟨P, 0, none⟩)], .int .u32 (x : Int), .int .u32 (l1 : Int), undef] (ExW L N R C T P b w s fun k => if k = 0 then (g, l, r, q) else if k = 1 then (g, l, r, q + 1) else (g, l1, r, q + 1)) (by kernel_rfl) (by kernel_rfl) rfl ?_ ⟨?_, ?_, ?_, ?_, ?_, trivial⟩ ?_
      · exact ⟨HS2.out.1.drewN 1, HS2.out.2.drew⟩
      · exact seq_early 1 (by kernel_rfl) (by kernel_rfl) (by kernel_rfl) (fun _ _ _ _ h hb => h.stable hb) fun a w k hk C hW => op_value (ldu_run rfl (C.was 1 (by kernel_rfl)) (by
          rcases (show k = 0 ∨ k = 1 by omega) with rfl | rfl
          · exact (hW.1.hl.cell 0).trans rfl
          · exact (hW.1.hl.cell 0).trans rfl)) rfl
      · exact seq_head (by kernel_rfl) (fun _ _ h hb => h.stable hb) fun a w C hW => op_value (ldf_run rfl (C.was 2 (by kernel_rfl)) ((hW.1.hn.cell 0).trans rfl)) rfl
      · exact seq_turn 0 (by kernel_rfl) fun a w C hW => turn_enter (callv_run rfl around_enters (C.on (j := 1) (by kernel_rfl) rfl rfl)) ((HNX.out w q hW.1.nx).mono fun e w' ⟨e1, e2, e3⟩ => ⟨by rw [e1, HX.out, HQ.out]; rfl, hW.1.next e2 e3, hW.2.trans e3 fun _ _ x => .inr (.inr (.inr x))⟩)
      · exact seq_early 1 (by kernel_rfl) (by kernel_rfl) (by kernel_rfl) (fun _ _ _ _ h hb => h.stable hb) fun a w k hk C hW => op_bin rfl (C.on (j := 0) (by kernel_rfl) rfl rfl) (C.on (j := 2) (by kernel_rfl) rfl rfl) rfl (by simp [go_sem, hlx]) rfl
      · exact seq_turn 1 (by kernel_rfl) fun a w C hW => st_does rfl (C.was 1 (by kernel_rfl)) (C.on (j := 3) (by kernel_rfl) rfl rfl) ((hW.1.hl.cell 0).trans rfl) (hW.1.hl.frozen 0) ⟨hW.1.setL l1, hW.2.set (.inl (.inr (.inl rfl))) _⟩
      intro wz hz
      have HZ : Hid (ExIs L N R C T P b wz s g l1 r (q + 1) ∧ Kept (exM L R P b) w wz) := Lib.hid hz
      clear hz HS2
      simp only [setAll, setAt, List.setIfInBounds_toArray, List.set_cons_succ, List.set_cons_zero]
      go_wp2
      refine wp_region_seq [2, 4] [.int .u32 (r : Int), .func (.func 54) #[] #[.pointer (some ⟨T, 0, none⟩), .pointer (some ⟨P, 0, none⟩)], .int .u32 (y : Int), .int .u32 (r1 : Int), undef] (ExW L N R C T P b w s fun k => if k = 0 then (g, l1, r, q + 1) else if k = 1 then (g, l1, r, q + 1 + 1) else (g, l1, r1, q + 1 + 1)) (by kernel_rfl) (by kernel_rfl) rfl ?_ ⟨?_, ?_, ?_, ?_, ?_, trivial⟩ ?_
      · exact ⟨HZ.out.1.drewN 1, HZ.out.2.drew⟩
      · exact seq_early 1 (by kernel_rfl) (by kernel_rfl) (by kernel_rfl) (fun _ _ _ _ h hb => h.stable hb) fun a w k hk C hW => op_value (ldu_run rfl (C.was 3 (by kernel_rfl)) (by
          rcases (show k = 0 ∨ k = 1 by omega) with rfl | rfl
          · exact (hW.1.hr.cell 0).trans rfl
          · exact (hW.1.hr.cell 0).trans rfl)) rfl
      · exact seq_head (by kernel_rfl) (fun _ _ h hb => h.stable hb) fun a w C hW => op_value (ldf_run rfl (C.was 2 (by kernel_rfl)) ((hW.1.hn.cell 0).trans rfl)) rfl
      · exact seq_turn 0 (by kernel_rfl) fun a w C hW => turn_enter (callv_run rfl around_enters (C.on (j := 1) (by kernel_rfl) rfl rfl)) ((HNX.out w (q + 1) hW.1.nx).mono fun e w' ⟨e1, e2, e3⟩ => ⟨by rw [e1, HY.out, HQ.out]; rfl, hW.1.next e2 e3, hW.2.trans e3 fun _ _ x => .inr (.inr (.inr x))⟩)
      · exact seq_early 1 (by kernel_rfl) (by kernel_rfl) (by kernel_rfl) (fun _ _ _ _ h hb => h.stable hb) fun a w k hk C hW => op_bin rfl (C.on (j := 0) (by kernel_rfl) rfl rfl) (C.on (j := 2) (by kernel_rfl) rfl rfl) rfl (by simp [go_sem, hry]) rfl
      · exact seq_turn 1 (by kernel_rfl) fun a w C hW => st_does rfl (C.was 3 (by kernel_rfl)) (C.on (j := 3) (by kernel_rfl) rfl rfl) ((hW.1.hr.cell 0).trans rfl) (hW.1.hr.frozen 0) ⟨hW.1.setR r1, hW.2.set (.inl (.inr (.inr (.inl rfl)))) _⟩
      intro wy hz
      have HZ2 : Hid (ExIs L N R C T P b wy s g l1 r1 (q + 1 + 1) ∧ Kept (exM L R P b) w wy) := Lib.hid hz
      clear hz HZ
      simp only [setAll, setAt, List.setIfInBounds_toArray, List.set_cons_succ, List.set_cons_zero]
      have cC : wy.cell? ⟨C, 0, none⟩ = some (.pointer (some ⟨b, 0, none⟩)) := (HZ2.out.1.hc.cell 0).trans rfl
      have cL : wy.cell? ⟨L, 0, none⟩ = some (.int .u32 (l1 : Int)) := (HZ2.out.1.hl.cell 0).trans rfl
      have cR : wy.cell? ⟨R, 0, none⟩ = some (.int .u32 (r1 : Int)) := (HZ2.out.1.hr.cell 0).trans rfl
      have fL := HZ2.out.1.hl.frozen 0
      have fR := HZ2.out.1.hr.frozen 0
      have hLR := HZ2.out.1.ne
      have CE := Lib.hid (HC.out wy HZ2.out.1.tb)
      go_wp2_with fail
      refine CE.out.mono ?_
      rintro e wx ⟨rfl, qd, rfl⟩
      go_wp2
      have HZ3 : Hid (ExIs L N R C T P b (((wy.drewN qd).setCell ⟨L, 0, none⟩ (.int .u32 (a : Int))).setCell ⟨R, 0, none⟩ (.int .u32 (a2 : Int))) s g a a2 (q + 1 + 1) ∧ Kept (exM L R P b) w (((wy.drewN qd).setCell ⟨L, 0, none⟩ (.int .u32 (a : Int))).setCell ⟨R, 0, none⟩ (.int .u32 (a2 : Int)))) :=
        Lib.hid ⟨((HZ2.out.1.drewN qd).setL a).setR a2, ((HZ2.out.2.trans (Kept.of_below (M := fun _ => False) (below_drewN (Below.refl _ _) qd)) fun _ _ x => x.elim).set (.inl (.inr (.inl rfl))) _).set (.inl (.inr (.inr (.inl rfl)))) _⟩
      generalize (((wy.drewN qd).setCell ⟨L, 0, none⟩ (.int .u32 (a : Int))).setCell ⟨R, 0, none⟩ (.int .u32 (a2 : Int))) = wv at *
      obtain ⟨i1, hi1⟩ : ∃ i1, i1 = i + 1 := ⟨_, rfl⟩
      have hi1I : (i : Int) + 1 = (i1 : Int) := by omega
      have hi1b : i1 < n2 := by omega
      have hqb : q + 1 < 1042 := by have := HQI.out; have := HN2.out; omega
      have HI1 := Lib.hid hi1
      clear HZ2 cC cL cR fL fR CE hi1
      refine wp_region_seq [8, 10] [.slice (some ⟨b, 2 * m, none⟩) n2 n2, .int .i64 (i : Int), .slice (some ⟨b, 2 * m, none⟩) n2 n2, .int .i64 (i : Int), .int .i64 (i1 : Int), .int .u32 (a : Int), .int .u32 (a2 : Int), .pointer (some ⟨b, q, none⟩), undef, .pointer (some ⟨b, q + 1, none⟩), undef] (ExW L N R C T P b w s fun k => if k = 0 then (g, a, a2, q + 1 + 1) else if k = 1 then (upd g q a, a, a2, q + 1 + 1) else (upd (upd g q a) (q + 1) a2, a, a2, q + 1 + 1)) (by kernel_rfl) (by kernel_rfl) rfl ?_ ⟨?_, ?_, ?_, ?_, ?_, ?_, ?_, ?_, ?_, ?_, ?_, trivial⟩ ?_
      · exact ⟨HZ3.out.1.drewN 1, HZ3.out.2.drew⟩
      · exact seq_early 1 (by kernel_rfl) (by kernel_rfl) (by kernel_rfl) (fun _ _ _ _ h hb => h.stable hb) fun a w k hk C hW => op_move (.inl rfl) (C.was 0 (by kernel_rfl))
      · exact seq_early 1 (by kernel_rfl) (by kernel_rfl) (by kernel_rfl) (fun _ _ _ _ h hb => h.stable hb) fun a w k hk C hW => op_move (.inl rfl) (C.was 6 (by kernel_rfl))
      · exact seq_early 1 (by kernel_rfl) (by kernel_rfl) (by kernel_rfl) (fun _ _ _ _ h hb => h.stable hb) fun a w k hk C hW => op_move (.inl rfl) (C.was 0 (by kernel_rfl))
      · exact seq_early 1 (by kernel_rfl) (by kernel_rfl) (by kernel_rfl) (fun _ _ _ _ h hb => h.stable hb) fun a w k hk C hW => op_move (.inl rfl) (C.was 6 (by kernel_rfl))
      · exact seq_early 1 (by kernel_rfl) (by kernel_rfl) (by kernel_rfl) (fun _ _ _ _ h hb => h.stable hb) fun a w k hk C hW => op_bin rfl (C.on (j := 3) (by kernel_rfl) rfl rfl) rfl rfl (by simp [go_sem, hi1I]; exact IntWalk.i64_in _ (by omega)) rfl
      · exact seq_early 1 (by kernel_rfl) (by kernel_rfl) (by kernel_rfl) (fun _ _ _ _ h hb => h.stable hb) fun a w k hk C hW => op_value (ldu_run rfl (C.was 1 (by kernel_rfl)) (by
          rcases (show k = 0 ∨ k = 1 by omega) with rfl | rfl
          · exact (hW.1.hl.cell 0).trans rfl
          · exact (hW.1.hl.cell 0).trans rfl)) rfl
      · exact seq_early 1 (by kernel_rfl) (by kernel_rfl) (by kernel_rfl) (fun _ _ _ _ h hb => h.stable hb) fun a w k hk C hW => op_value (ldu_run rfl (C.was 3 (by kernel_rfl)) (by
          rcases (show k = 0 ∨ k = 1 by omega) with rfl | rfl
          · exact (hW.1.hr.cell 0).trans rfl
          · exact (hW.1.hr.cell 0).trans rfl)) rfl
      · exact seq_early 1 (by kernel_rfl) (by kernel_rfl) (by kernel_rfl) (fun _ _ _ _ h hb => h.stable hb) fun a w k hk C hW => op_value (v := .pointer (some ⟨b, q, none⟩)) (by rw [HQI.out]; exact ixs_run rfl (C.on (j := 0) (by kernel_rfl) rfl rfl) (C.on (j := 1) (by kernel_rfl) rfl rfl) (by omega)) rfl
      · exact seq_turn 0 (by kernel_rfl) fun a w C hW => st_does rfl (C.on (j := 7) (by kernel_rfl) rfl rfl) (C.on (j := 5) (by kernel_rfl) rfl rfl) (hW.1.tb.cell q (by omega)) (hW.1.tb.free q) ⟨hW.1.setT q _ (by omega), hW.2.set (.inl (.inl rfl)) _⟩
      · exact seq_early 1 (by kernel_rfl) (by kernel_rfl) (by kernel_rfl) (fun _ _ _ _ h hb => h.stable hb) fun a w k hk C hW => op_value (v := .pointer (some ⟨b, q + 1, none⟩)) (by rw [HQI.out, Nat.add_assoc, ← HI1.out]; exact ixs_run rfl (C.on (j := 2) (by kernel_rfl) rfl rfl) (C.on (j := 4) (by kernel_rfl) rfl rfl) (by omega)) rfl
      · exact seq_turn 1 (by kernel_rfl) fun a w C hW => st_does rfl (C.on (j := 9) (by kernel_rfl) rfl rfl) (C.on (j := 6) (by kernel_rfl) rfl rfl) (hW.1.tb.cell (q + 1) (by omega)) (hW.1.tb.free (q + 1)) ⟨hW.1.setT (q + 1) _ (by omega), hW.2.set (.inl (.inl rfl)) _⟩
      intro wu hz
      have HZ4 : Hid (ExIs L N R C T P b wu s (upd (upd g q a) (q + 1) a2) a a2 (q + 1 + 1) ∧ Kept (exM L R P b) w wu) := Lib.hid hz
      clear hz HZ3
      simp only [setAll, setAt, List.setIfInBounds_toArray, List.set_cons_succ, List.set_cons_zero]
      go_wp2
      go_roundw
      case rel => exact ⟨k + 1, i + 2, by omega, Lib.hid (by have := HI.out; omega), by go_num, Lib.hid (by rw [HST.out, show 2 * (m + (k + 1)) = q + 1 + 1 from by have := HQ.out; omega]; exact HZ4.out)⟩
      case measure => simp [intOf]; omega
    · obtain rfl : k = h := by omega
      have hin : i = n2 := by have := HI.out; have := HN2.out; omega
      subst hin
      go_wp2
      go_end0
      exact ⟨rfl, HS.out.1, HS.out.2⟩
end Go.Proofs.Ytccpcjbffibkkaa

/- Sum of package cipher by its contract. Conditions: those typed. -/
import Derived.Test.YtglmfagmlfjceaaCiEx1
namespace Go.Proofs.Ytglmfagmlfjceaa
set_option maxRecDepth 50000
open Go.RowKit Ci Rot

/-- the first n words, each turned by its place, added up -/
def smTo (g : Nat → Nat) : Nat → Nat
  | 0 => 0
  | n + 1 => (smTo g n + rotl 32 (g n) (n % 32)) % 4294967296
theorem smTo_lt (g : Nat → Nat) : ∀ n, smTo g n < 4294967296
  | 0 => Nat.zero_lt_of_ne_zero (by decide)
  | n + 1 => Nat.mod_lt _ (by decide)
theorem left_at (x k : Nat) (hx : x < 4294967296) (w : World) : Calls Try.prog 27 #[.int .u32 (x : Int), .int .i64 (k : Int)] w fun e w' => e = .returned (.int .u32 (rotl 32 x (k % 32) : Nat)) ∧ w = w' := by
  have h := left32_any x k hx w
  rwa [show (((k : Int)) % 32).toNat = k % 32 by omega] at h

structure SmIs (S I b : Nat) (w : World) (g : Nat → Nat) (a n : Nat) : Prop where
  hs : RowAt w S 22 #[.int .u32 (n : Int)]
  hi : RowAt w I 3 #[.int .i64 (a : Int)]
  tb : Tab w b 55 g
section
variable {S I b : Nat} {w w' : World} {g : Nat → Nat} {a n : Nat}
theorem SmIs.below (h : SmIs S I b w g a n) (hb : Below w.heap.size w w') : SmIs S I b w' g a n := by
  have hk : Kept (fun _ => False) w w' := Kept.of_below hb
  exact ⟨h.hs.kept hk id, h.hi.kept hk id, RowAt.kept h.tb hk id⟩
theorem SmIs.setS (h : SmIs S I b w g a n) (v : Nat) : SmIs S I b (w.setCell ⟨S, 0, none⟩ (.int .u32 (v : Int))) g a v := by
  have hk : Kept (fun x => x = S) w (w.setCell ⟨S, 0, none⟩ (.int .u32 (v : Int))) := Kept.set (M := fun x => x = S) (Kept.refl _ w) (p := ⟨S, 0, none⟩) (.inl rfl) _
  exact ⟨row_set h.hs, h.hi.kept hk (RowAt.apart h.hi h.hs rfl), RowAt.kept h.tb hk (RowAt.apart h.tb h.hs rfl)⟩
theorem SmIs.setI (h : SmIs S I b w g a n) (v : Nat) : SmIs S I b (w.setCell ⟨I, 0, none⟩ (.int .i64 (v : Int))) g v n := by
  have hk : Kept (fun x => x = I) w (w.setCell ⟨I, 0, none⟩ (.int .i64 (v : Int))) := Kept.set (M := fun x => x = I) (Kept.refl _ w) (p := ⟨I, 0, none⟩) (.inl rfl) _
  exact ⟨h.hs.kept hk (RowAt.apart h.hs h.hi rfl), row_set h.hi, RowAt.kept h.tb hk (RowAt.apart h.tb h.hi rfl)⟩
end
def smM (S I : Nat) : Nat → Prop := fun x => x = S ∨ x = I
def SmW (S I b : Nat) (w0 : World) (g : Nat → Nat) (a : Nat) (N : Nat → Nat) (k : Nat) (w : World) : Prop := SmIs S I b w g a (N k) ∧ Kept (smM S I) w0 w
theorem SmW.stable {S I b : Nat} {w0 w w' : World} {g : Nat → Nat} {a : Nat} {N : Nat → Nat} {k : Nat} (h : SmW S I b w0 g a N k w) (hb : Below w.heap.size w w') : SmW S I b w0 g a N k w' :=
  ⟨h.1.below hb, h.2.trans (Kept.of_below (M := fun _ => False) hb) fun _ _ x => x.elim⟩

set_option maxHeartbeats 1600000 in
theorem sum1_any (S I b : Nat) (w : World) (g : Nat → Nat) (hg : Ok g) (a n : Nat) (han : a + n ≤ 1042) (hE : SmIs S I b w g a (smTo g a)) :
    Calls Try.prog 26 #[.slice (some ⟨b, a, none⟩) n n, .pointer (some ⟨S, 0, none⟩), .pointer (some ⟨I, 0, none⟩)] w fun e w' => e = .returned (.tuple #[]) ∧ SmIs S I b w' g (a + n) (smTo g (a + n)) ∧ Kept (smM S I) w w' := by
  have HE := Lib.hid hE
  clear hE
  go_enter Try.func26, Try.ntmps26
  go_wp2
  go_loopw [8] (fun v8 wr => ∃ k : Nat, k ≤ n ∧ v8 = .int .i64 (k : Int) ∧ Hid (SmIs S I b wr g (a + k) (smTo g (a + k)) ∧ Kept (smM S I) w wr)) (fun v _ => n - (intOf v).toNat)
  case atStart => exact ⟨0, by omega, rfl, Lib.hid ⟨HE.out, Kept.refl _ _⟩⟩
  case round =>
    obtain ⟨k, hk, rfl, HS⟩ := hrel
    by_cases h : k < n
    · have hkI : (k : Int) < (n : Int) := by omega
      obtain ⟨j, hj⟩ : ∃ j, j = a + k := ⟨_, rfl⟩
      obtain ⟨x, hx⟩ : ∃ x, x = g j := ⟨_, rfl⟩
      have hxb : x < 4294967296 := by rw [hx]; exact hg j (by omega)
      obtain ⟨m, hm⟩ : ∃ m, m = smTo g j := ⟨_, rfl⟩
      have hmb : m < 4294967296 := by rw [hm]; exact smTo_lt _ _
      obtain ⟨y, hy⟩ : ∃ y, y = rotl 32 x (j % 32) := ⟨_, rfl⟩
      have hyb : y < 4294967296 := by rw [hy]; exact rotl_lt 32 x (j % 32) (by omega) hxb
      obtain ⟨m2, hm2⟩ : ∃ m2, m2 = (m + y) % 4294967296 := ⟨_, rfl⟩
      have hadd : ((m : Int) + (y : Int)) % 4294967296 = (m2 : Int) := by omega
      have hwr : IntKind.u32.wrap ((m : Int) + (y : Int)) = (m2 : Int) := by simp [IntKind.wrap, IntKind.bits, IntKind.signed]; omega
      have HN : Hid (smTo g (a + (k + 1)) = m2) := Lib.hid (by rw [← Nat.add_assoc, ← hj, smTo, ← hm, ← hx, ← hy, hm2])
      have HL := Lib.hid (fun w1 : World => left_at x j hxb w1)
      rw [← hy] at HL
      have hS := HS.out
      rw [← hj, ← hm] at hS
      have cT : wr.cell? ⟨b, a + k, none⟩ = some (.int .u32 (x : Int)) := by rw [← hj, hx]; exact hS.1.tb.cell j (by omega)
      have HS2 := Lib.hid hS
      have HJ := Lib.hid hj
      have hjb : j < 1042 := by omega
      clear hS HS hx hm hm2 hy hj
      go_wp2
      refine wp_region_seq [5] [.int .u32 (m : Int), .int .u32 (x : Int), .int .i64 (j : Int), .int .u32 (y : Int), .int .u32 (m2 : Int), undef] (SmW S I b w g j fun t => if t = 0 then m else m2) (by kernel_rfl) (by kernel_rfl) rfl ?_ ⟨?_, ?_, ?_, ?_, ?_, ?_, trivial⟩ ?_
      · exact ⟨HS2.out.1.below (below_drewN (Below.refl _ _) 1), HS2.out.2.drew⟩
      · exact seq_head (by kernel_rfl) (fun _ _ h hb => h.stable hb) fun a w C hW => op_value (ldu_run rfl (C.was 1 (by kernel_rfl)) ((hW.1.hs.cell 0).trans rfl)) rfl
      · exact seq_head (by kernel_rfl) (fun _ _ h hb => h.stable hb) fun a w C hW => op_move (.inl rfl) (C.was 5 (by kernel_rfl))
      · exact seq_head (by kernel_rfl) (fun _ _ h hb => h.stable hb) fun a w C hW => op_value (ldi_run rfl (C.was 2 (by kernel_rfl)) ((hW.1.hi.cell 0).trans rfl)) rfl
      · exact seq_head (by kernel_rfl) (fun _ _ h hb => h.stable hb) fun a w C hW => op_call2 rfl (reg_enters Try.func27 (by kernel_rfl) (by kernel_rfl)) (C.on (j := 1) (by kernel_rfl) rfl rfl) (C.on (j := 2) (by kernel_rfl) rfl rfl) ((HL.out w).mono fun e w' ⟨e1, e2⟩ => ⟨_, e1, rfl, e2 ▸ Below.refl _ _⟩)
      · exact seq_head (by kernel_rfl) (fun _ _ h hb => h.stable hb) fun a w C hW => op_bin rfl (C.on (j := 0) (by kernel_rfl) rfl rfl) (C.on (j := 3) (by kernel_rfl) rfl rfl) rfl (by simp [go_sem, hwr]) rfl
      · exact seq_turn 0 (by kernel_rfl) fun a w C hW => st_does rfl (C.was 1 (by kernel_rfl)) (C.on (j := 4) (by kernel_rfl) rfl rfl) ((hW.1.hs.cell 0).trans rfl) (hW.1.hs.frozen 0) ⟨hW.1.setS _, hW.2.set (.inl (.inl rfl)) _⟩
      intro wu hz
      have HZ : Hid (SmIs S I b wu g j m2 ∧ Kept (smM S I) w wu) := Lib.hid hz
      clear hz HS2 cT
      simp only [setAll, setAt, List.setIfInBounds_toArray, List.set_cons_succ, List.set_cons_zero]
      have cI : wu.cell? ⟨I, 0, none⟩ = some (.int .i64 (j : Int)) := (HZ.out.1.hi.cell 0).trans rfl
      have fI := HZ.out.1.hi.frozen 0
      go_wp2
      go_roundw
      case rel => exact ⟨k + 1, by omega, by go_num, Lib.hid ⟨by rw [HN.out, show a + (k + 1) = j + 1 by have := HJ.out; omega]; exact HZ.out.1.setI (j + 1), HZ.out.2.set (.inl (.inr rfl)) _⟩⟩
      case measure => simp [intOf]; omega
    · obtain rfl : k = n := by omega
      go_wp2
      go_end0
      exact ⟨rfl, HS.out.1, HS.out.2⟩

theorem sum_any (w : World) (b : Nat) (g : Nat → Nat) (hT : Tab w b 55 g) (hg : Ok g) :
    Calls Try.prog 12 #[.pointer (some ⟨b, 0, none⟩)] w fun e w' => e = .returned (.int .u32 (smTo g 1042 : Int)) ∧ Below w.heap.size w w' := by
  have HT := Lib.hid hT
  have hbl := hT.lt
  clear hT
  go_enter Try.func12, Try.ntmps12
  go_wp2_with fail
  obtain ⟨wc, hwc⟩ : ∃ wc, wc = (w.alloc (.cells #[.int .u32 0] 22)).alloc (.cells #[.int .i64 0] 3) := ⟨_, rfl⟩
  have hkc : Below w.heap.size w wc := by rw [hwc]; exact ((Below.refl _ w).alloc (Nat.le_refl _) _).alloc (by rw [alloc_size]; omega) _
  have HI : Hid (SmIs w.heap.size (w.heap.size + 1) b wc g 0 0) := by
    refine Lib.hid ⟨?_, ?_, HT.out.below hkc hbl⟩
    · rw [hwc]; exact (RowAt.new _ _ _).alloc _
    · have h := RowAt.new (w.alloc (.cells #[.int .u32 0] 22)) 3 #[.int .i64 0]
      rw [alloc_size, ← hwc] at h; exact h
  rw [← hwc]
  have hp : ∀ k, k < 5 → pOff (k + 1) = pOff k + pLen k ∧ pOff k + pLen k ≤ 1042 := fun k hk => by
    match k, hk with
    | 0, _ => decide
    | 1, _ => decide
    | 2, _ => decide
    | 3, _ => decide
    | 4, _ => decide
  have HG := Lib.hid hg
  clear hwc hg
  refine (each_any wc b 26 #[.pointer (some ⟨w.heap.size, 0, none⟩), .pointer (some ⟨w.heap.size + 1, 0, none⟩)] (reg_enters Try.func26 (by kernel_rfl) (by kernel_rfl))
    (fun k wk => SmIs w.heap.size (w.heap.size + 1) b wk g (pOff k) (smTo g (pOff k)) ∧ Kept (smM w.heap.size (w.heap.size + 1)) wc wk) ⟨HI.out, Kept.refl _ _⟩ ?_).mono ?_
  · intro k wk hk5 hI
    obtain ⟨e1, e2⟩ := hp k hk5
    rw [e1]
    exact (sum1_any _ _ b wk g HG.out (pOff k) (pLen k) e2 hI.1).mono fun e w' ⟨a1, a2, a3⟩ => ⟨a1, a2, hI.2.trans a3 fun _ _ x => x⟩
  · rintro e we ⟨rfl, h1, h2⟩
    have cS : we.cell? ⟨w.heap.size, 0, none⟩ = some (.int .u32 (smTo g 1042 : Int)) := (h1.hs.cell 0).trans rfl
    have HF : Hid (Below w.heap.size w we) := Lib.hid (hkc.trans (h2.below hkc.size fun x hx => by rcases hx with hx | hx <;> omega))
    clear h1 h2 HI hkc
    go_wp2
    go_ret
    exact ⟨rfl, HF.out⟩
end Go.Proofs.Ytglmfagmlfjceaa

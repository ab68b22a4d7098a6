/- The law ShapeTurns by the calls' contracts. Condition: the arguments are ints. -/
import Derived.Test.YtioeialpldafmaaSpTurnSt
namespace Go.Proofs.Ytioeialpldafmaa
set_option maxRecDepth 50000
open Go.RowKit

section
variable {P : Program} {ops : List Oper} {ms : List Nat} {vs : List Value} {W : Nat → World → Prop} {a0 : Act} {Q : Exit → Act → World → Prop}
/-- an operation that turns nothing, in a statement whose memory is told by what stays -/
theorem seq_grow {i : Nat} {o : Oper} (hk : decide (kindOf ops ms i < 2) = true) (hst : ∀ k w w', W k w → Below w.heap.size w w' → W k w') (H : ∀ a w k, SCtx ops vs a0 i o a → W k w → Does P (Is (vs.getD i undef)) o a w Q) : SPart P ops ms vs W a0 Q i o := by
  intro a w k C hW _ _ _
  rw [if_pos (by simpa using hk)]
  refine Oper.wp_mono ?_ (H a w k C hW)
  rintro a' w' ⟨v, rfl, rfl, hb⟩
  exact ⟨rfl, hst _ _ _ hW hb⟩
end
theorem first_at (a t l m b c g z p s f : Nat) (hf : firN p s = (f : Int)) (w : World) : Calls Try.prog 9 #[spv a t l m b c g z, .int .i64 (p : Int), .int .i64 (s : Int)] w fun e w' => ∃ v, e = .returned v ∧ Is (.int .i64 (f : Int)) v w' ∧ Below w.heap.size w w' := by
  have C := spfirst_any a t l m b c g z p s w
  rw [hf] at C
  refine C.mono ?_
  rintro e w' ⟨rfl, hb⟩
  exact ⟨_, rfl, rfl, hb⟩

set_option maxHeartbeats 1600000 in
theorem turns_none (pa pt pm pl pz : Int) (h : mayB pa pt pm pl pz = false) (w : World) : Calls Try.prog 3 #[pav pa pt pm pl pz] w fun e w' => e = .returned (.bool true) ∧ Below w.heap.size w w' := by
  have CA := Lib.hid (awake27_any)
  have CO := Lib.hid (of_bad pa pt pm pl pz h)
  have HB := Lib.hid (one_box w (.cells (pac pa pt pm pl pz) 23))
  have HR := Lib.hid (RowAt.new w 23 (pac pa pt pm pl pz))
  clear h
  go_enter Try.func3, Try.ntmps3
  go_wp2_with fail
  refine (CA.out _).mono ?_
  rintro e w1 ⟨rfl, hb⟩
  have HB1 := Lib.hid (HB.out.trans (hb.mono (Nat.le_of_lt (by rw [World.size_alloc]; omega))))
  have HR1 := Lib.hid (HR.out.below hb (by rw [World.size_alloc]; omega))
  clear hb CA HB HR
  go_wp2_with (refine wpList_load_want rfl 23 _ rfl _ _ rfl (pa_load HR1.out) ?_)
  refine (CO.out _).mono ?_
  rintro e w2 ⟨rfl, hb⟩
  have HB2 := Lib.hid ((HB1.out.trans (hb.mono HB1.out.size)).alloc (Nat.le_trans HB1.out.size hb.size) (.cells spzc 26))
  clear hb CO HB1 HR1
  go_wp2
  go_ret
  exact ⟨rfl, HB2.out⟩

set_option maxHeartbeats 1600000 in
theorem turns_many (a t l m b c g z : Nat) (CO : ∀ w : World, Calls Try.prog 6 #[pav a t m l z] w fun e w' => e = .returned (.tuple #[spv a t l m b c g z, .int .i64 0]) ∧ Below w.heap.size w w')
    (h : 50 < t) (w : World) : Calls Try.prog 3 #[pav a t m l z] w fun e w' => e = .returned (.bool true) ∧ Below w.heap.size w w' := by
  have CA := Lib.hid (awake27_any)
  have CO := Lib.hid CO
  have HB := Lib.hid (one_box w (.cells (pac a t m l z) 23))
  have HR := Lib.hid (RowAt.new w 23 (pac a t m l z))
  have hI : (50 : Int) < (t : Int) := by omega
  go_enter Try.func3, Try.ntmps3
  go_wp2_with fail
  refine (CA.out _).mono ?_
  rintro e w1 ⟨rfl, hb⟩
  have HB1 := Lib.hid (HB.out.trans (hb.mono (Nat.le_of_lt (by rw [World.size_alloc]; omega))))
  have HR1 := Lib.hid (HR.out.below hb (by rw [World.size_alloc]; omega))
  clear hb CA HB HR
  go_wp2_with (refine wpList_load_want rfl 23 _ rfl _ _ rfl (pa_load HR1.out) ?_)
  refine (CO.out _).mono ?_
  rintro e w2 ⟨rfl, hb⟩
  have HB2 := Lib.hid ((HB1.out.trans (hb.mono HB1.out.size)).alloc (Nat.le_trans HB1.out.size hb.size) (.cells (spc a t l m b c g z) 26))
  have hlt : w.heap.size < w2.heap.size := (HR1.out.step hb).lt
  have hne : ¬ w.heap.size = w2.heap.size := by omega
  obtain ⟨-, k1, -⟩ := pa_cells (HR1.out.step hb)
  clear hb CO HB1 HR1
  go_wp2
  go_ret
  exact ⟨rfl, HB2.out⟩

/-- how many blocks are filled in the first n turns -/
def blN (u l n : Nat) : Nat := if n = 0 then 0 else n * u - 2 * l
theorem blN_next (u l g n p s f : Nat) (hu : u = g * l) (hg : 2 ≤ g) (hp : n / 4 = p) (hs : n % 4 = s) (hf : firN p s = (f : Int)) : blN u l n + (g - f) * l = blN u l (n + 1) ∧ f ≤ 2 := by
  unfold blN
  have hgl : 2 * l ≤ u := by rw [hu]; exact Nat.mul_le_mul_right _ hg
  by_cases h0 : n = 0
  · have e : f = 2 := by
      have : firN p s = 2 := if_pos ⟨by omega, by omega⟩
      omega
    rw [if_pos h0, if_neg (by omega), e, h0, Nat.zero_add, Nat.zero_add, Nat.one_mul, Nat.sub_mul, ← hu]
    exact ⟨rfl, by omega⟩
  · have e : f = 0 := by
      have : firN p s = 0 := if_neg (by omega)
      omega
    have e1 : (n + 1) * u = n * u + u := Nat.succ_mul n u
    have : u ≤ n * u := Nat.le_mul_of_pos_left _ (by omega)
    rw [if_neg h0, if_neg (by omega), e, Nat.sub_zero, ← hu, e1]
    generalize n * u = k at *
    exact ⟨by omega, by omega⟩

set_option maxHeartbeats 6400000 in
theorem turns_good (a t l m b c g z T u : Nat) (CO : ∀ w : World, Calls Try.prog 6 #[pav a t m l z] w fun e w' => e = .returned (.tuple #[spv a t l m b c g z, .int .i64 0]) ∧ Below w.heap.size w w')
    (ht1 : 1 ≤ t) (ht : t ≤ 50) (hT : 4 * t = T) (hl1 : 1 ≤ l) (hl : l ≤ 16777215) (hbb : b ≤ 4294967295) (hg : 2 ≤ g) (hu : u = g * l) (hub : b = 4 * u) (w : World) :
    Calls Try.prog 3 #[pav a t m l z] w fun e w' => e = .returned (.bool true) ∧ Below w.heap.size w w' := by
  have CA := Lib.hid (awake27_any)
  have CO := Lib.hid CO
  have HB := Lib.hid (one_box w (.cells (pac a t m l z) 23))
  have HR := Lib.hid (RowAt.new w 23 (pac a t m l z))
  have hI : (t : Int) ≤ 50 := by omega
  have HTT := Lib.hid hT
  have HU := Lib.hid hu
  have HUB := Lib.hid hub
  have hTb : T ≤ 200 := by omega
  clear hT hu hub
  go_enter Try.func3, Try.ntmps3
  go_wp2_with fail
  refine (CA.out _).mono ?_
  rintro e w1 ⟨rfl, hb⟩
  have HB1 := Lib.hid (HB.out.trans (hb.mono (Nat.le_of_lt (by rw [World.size_alloc]; omega))))
  have HR1 := Lib.hid (HR.out.below hb (by rw [World.size_alloc]; omega))
  clear hb CA HB HR
  go_wp2_with (refine wpList_load_want rfl 23 _ rfl _ _ rfl (pa_load HR1.out) ?_)
  refine (CO.out _).mono ?_
  rintro e w2 ⟨rfl, hb⟩
  have HB2 := Lib.hid ((HB1.out.trans (hb.mono HB1.out.size)).alloc (Nat.le_trans HB1.out.size hb.size) (.cells (spc a t l m b c g z) 26))
  have HP2 := Lib.hid ((HR1.out.step hb).alloc (.cells (spc a t l m b c g z) 26))
  have HS2 := Lib.hid (RowAt.new w2 26 (spc a t l m b c g z))
  have hlt : w.heap.size < w2.heap.size := (HR1.out.step hb).lt
  have hne : ¬ w.heap.size = w2.heap.size := by omega
  obtain ⟨-, k1, -⟩ := pa_cells (HR1.out.step hb)
  clear hb CO HB1 HR1
  go_wp2
  have HT0 : Hid (TuSt w _ w2.heap.size (w2.heap.size + 1) a t l m b c g z 0 0) := Lib.hid ⟨HP2.out.alloc (.cells (tuc 0 0) 31), HS2.out.alloc _, by
      have := RowAt.new (w2.alloc (.cells (spc a t l m b c g z) 26)) 31 (tuc 0 0)
      rwa [World.size_alloc] at this, by omega, HB2.out.alloc (by rw [World.size_alloc]; omega) _⟩
  clear HP2 HS2 HB2 k1 hlt hne
  obtain ⟨q, hq⟩ : ∃ q, w2.heap.size = q := ⟨_, rfl⟩
  obtain ⟨r0, hr0⟩ : ∃ r0, w2.heap.size + 1 = r0 := ⟨_, rfl⟩
  rw [hr0, hq] at HT0
  rw [hr0, hq]
  clear hr0 hq
  generalize (w2.alloc (.cells (spc a t l m b c g z) 26)).alloc (.cells (tuc 0 0) 31) = w3 at *
  go_loopw [5, 6, 7, 8] (fun v5 v6 v7 v8 wr => ∃ n r : Nat, n ≤ T ∧ v5 = .int .i64 (n : Int) ∧ v6 = .int .i64 (blN u l n : Nat) ∧ v7 = .pointer (some ⟨r, 0, none⟩) ∧ v8 = .bool (decide (n < T)) ∧ TuSt w wr q r a t l m b c g z (tuA t n) (tuB t n)) (fun v5 _ _ _ _ => T - (intOf v5).toNat)
  case atStart =>
    refine ⟨0, r0, Nat.zero_le _, rfl, rfl, rfl, ?_, ?_⟩
    · rw [decide_eq_true (by have := HTT.out; omega)]
    · have e1 : tuA t 0 = 0 := by unfold tuA; split <;> rfl
      have e2 : tuB t 0 = 0 := by unfold tuB; split <;> rfl
      rw [e1, e2]
      exact HT0.out
  case round =>
    obtain ⟨n, r, hn, rfl, rfl, rfl, rfl, hT⟩ := hrel
    by_cases hlt : n < T
    · obtain ⟨p, hp⟩ : ∃ p, n / 4 = p := ⟨_, rfl⟩
      obtain ⟨s, hs⟩ : ∃ s, n % 4 = s := ⟨_, rfl⟩
      have hnt : n < 4 * t := by have := HTT.out; omega
      rw [show tuA t n = n / 4 from if_pos hnt, show tuB t n = n % 4 from if_pos hnt, hp, hs] at hT
      have hpt : p < t := by omega
      have hs3 : s ≤ 3 := by omega
      have CH := Lib.hid (has_at a t l m b c g z (by omega) (hasB_yes hpt hs3))
      have NE := Lib.hid (tu_neq p s (by omega) (by omega))
      have CN := next_at a t l m b c g z n (by omega) hnt
      rw [hp, hs, show decide (n + 1 < 4 * t) = decide (n + 1 < T) by rw [HTT.out]] at CN
      have HCN := Lib.hid CN
      obtain ⟨f, hf⟩ : ∃ f : Nat, firN p s = (f : Int) := by
        unfold firN; split
        · exact ⟨2, rfl⟩
        · exact ⟨0, rfl⟩
      have HN := blN_next u l g n p s f HU.out hg hp hs hf
      have CF := Lib.hid (first_at a t l m b c g z p s f hf)
      have hd : decide (n < T) = true := decide_eq_true hlt
      have e1 : (n : Int) / 4 = (p : Int) := by omega
      have e2 : (n : Int) % 4 = (s : Int) := by omega
      have e3 : Int.tdiv (n : Int) 4 = (p : Int) := by rw [Int.tdiv_eq_ediv_of_nonneg (by omega)]; exact e1
      have e4 : Int.tmod (n : Int) 4 = (s : Int) := by rw [Int.tmod_eq_emod_of_nonneg (by omega)]; exact e2
      have hTn : ¬ (T : Int) < (n : Int) := by omega
      have HT := Lib.hid hT
      have HNH := Lib.hid HN
      have hbl : blN u l n ≤ 200 * 1073741824 := by
        have := HUB.out
        unfold blN
        split
        · omega
        · have h2 : n * u ≤ 200 * 1073741824 := Nat.mul_le_mul (by omega) (by omega)
          omega
      have e5 : 4 * (t : Int) = (T : Int) := by have := HTT.out; omega
      clear CN hT HN hp hs hnt hf
      go_wp2_with (first
        | refine wpList_load_want rfl 31 _ rfl _ _ rfl (tu_load HT.out.tu) ?_
        | refine wpList_load_want rfl 26 _ rfl _ _ rfl (sp_load HT.out.sh) ?_
        | refine wpList_value_want rfl (.bool false) (cmp_run _ _ _ _ rfl rfl rfl g_tu (NE.out _)) ?_)
      refine (CH.out _).mono ?_
      rintro e w4 ⟨rfl, hb⟩
      have HT4 := Lib.hid (HT.out.on hb)
      have kt := HT4.out.time
      clear hb CH HT NE
      go_wp2_with fail
      obtain ⟨s1, hs1⟩ : ∃ s1, blN u l n = s1 := ⟨_, rfl⟩
      obtain ⟨s2, hs2⟩ : ∃ s2, blN u l (n + 1) = s2 := ⟨_, rfl⟩
      obtain ⟨gf, hgf⟩ : ∃ gf, g - f = gf := ⟨_, rfl⟩
      obtain ⟨gl, hgl⟩ : ∃ gl, gf * l = gl := ⟨_, rfl⟩
      rw [hs1] at hbl
      have hN2 := HNH.out
      rw [hs1, hgf, hgl, hs2] at hN2
      obtain ⟨hN2, hf2⟩ := hN2
      have HGF := Lib.hid (show (g : Int) - (f : Int) = (gf : Int) by omega)
      have HGL := Lib.hid (show (gf : Int) * (l : Int) = (gl : Int) by rw [← hgl]; exact (Int.natCast_mul _ _).symm)
      have HS2 := Lib.hid (show (s1 : Int) + (gl : Int) = (s2 : Int) by omega)
      have hu2 : u ≤ 1073741824 := by have := HUB.out; omega
      have hgu : g ≤ 1073741824 := by
        have h1 : g ≤ g * l := Nat.le_mul_of_pos_right _ (by omega)
        have := HU.out
        omega
      have hgfu : gf ≤ 1073741824 := by omega
      have hglu : gl ≤ 1073741824 := by
        have h1 : gf * l ≤ g * l := Nat.mul_le_mul_right _ (by omega)
        have := HU.out
        omega
      have hs2u : s2 ≤ 300 * 1073741824 := by omega
      have HSS := Lib.hid hs2
      rw [hs1]
      clear hs1 hs2 hgf hgl HNH hN2
      have HT := HT4
      clear HT4
      refine wp_region_seq [] [.int .i64 (s1 : Int), .pointer (some ⟨q, 0 + 6, none⟩), .int .i64 (g : Int), spv a t l m b c g z, .pointer (some ⟨r, 0 + 0, none⟩), .int .i64 (p : Int), .pointer (some ⟨r, 0 + 1, none⟩), .int .i64 (s : Int), .int .i64 (f : Int), .int .i64 (gf : Int), .pointer (some ⟨q, 0 + 2, none⟩), .int .i64 (l : Int), .int .i64 (gl : Int), .int .i64 (s2 : Int), .int .i64 (s2 : Int)] (fun _ w3 => TuSt w w3 q r a t l m b c g z p s) (by kernel_rfl) (by kernel_rfl) rfl (HT.out.on (Below.refl _ _).drew) ⟨?_, ?_, ?_, ?_, ?_, ?_, ?_, ?_, ?_, ?_, ?_, ?_, ?_, ?_, ?_, trivial⟩ ?_
      · exact seq_grow (by kernel_rfl) (fun _ _ _ h hb => h.on hb) fun a w k C hW => op_move (.inl rfl) (C.yet 6 (by kernel_rfl))
      · exact seq_grow (by kernel_rfl) (fun _ _ _ h hb => h.on hb) fun a w k C hW => op_value (spf_run (k := 6) rfl (by decide) (C.was 3 (by kernel_rfl))) rfl
      · exact seq_grow (by kernel_rfl) (fun _ _ _ h hb => h.on hb) fun a w k C hW => op_value (int_run rfl (C.on (j := 1) (by kernel_rfl) rfl rfl) hW.facts.1) rfl
      · exact seq_grow (by kernel_rfl) (fun _ _ _ h hb => h.on hb) fun a w k C hW => op_value (load_run rfl (C.was 3 (by kernel_rfl)) hW.facts.2.2.2.2) rfl
      · exact seq_grow (by kernel_rfl) (fun _ _ _ h hb => h.on hb) fun a w k C hW => op_value (tuf_run (k := 0) rfl (by decide) (C.was 7 (by kernel_rfl))) rfl
      · exact seq_grow (by kernel_rfl) (fun _ _ _ h hb => h.on hb) fun a w k C hW => op_value (int_run rfl (C.on (j := 4) (by kernel_rfl) rfl rfl) hW.facts.2.2.1) rfl
      · exact seq_grow (by kernel_rfl) (fun _ _ _ h hb => h.on hb) fun a w k C hW => op_value (tuf_run (k := 1) rfl (by decide) (C.was 7 (by kernel_rfl))) rfl
      · exact seq_grow (by kernel_rfl) (fun _ _ _ h hb => h.on hb) fun a w k C hW => op_value (int_run rfl (C.on (j := 6) (by kernel_rfl) rfl rfl) hW.facts.2.2.2.1) rfl
      · exact seq_grow (by kernel_rfl) (fun _ _ _ h hb => h.on hb) fun a w k C hW => op_call3 rfl (reg_enters Try.func9 (by kernel_rfl) (by kernel_rfl)) (C.on (j := 3) (by kernel_rfl) rfl rfl) (C.on (j := 5) (by kernel_rfl) rfl rfl) (C.on (j := 7) (by kernel_rfl) rfl rfl) (CF.out w)
      · exact seq_grow (by kernel_rfl) (fun _ _ _ h hb => h.on hb) fun a w k C hW => op_bin rfl (C.on (j := 2) (by kernel_rfl) rfl rfl) (C.on (j := 8) (by kernel_rfl) rfl rfl) rfl (sub_run w _ _ _ HGF.out (by omega) (by omega)) rfl
      · exact seq_grow (by kernel_rfl) (fun _ _ _ h hb => h.on hb) fun a w k C hW => op_value (spf_run (k := 2) rfl (by decide) (C.was 3 (by kernel_rfl))) rfl
      · exact seq_grow (by kernel_rfl) (fun _ _ _ h hb => h.on hb) fun a w k C hW => op_value (int_run rfl (C.on (j := 10) (by kernel_rfl) rfl rfl) hW.facts.2.1) rfl
      · exact seq_grow (by kernel_rfl) (fun _ _ _ h hb => h.on hb) fun a w k C hW => op_bin rfl (C.on (j := 9) (by kernel_rfl) rfl rfl) (C.on (j := 11) (by kernel_rfl) rfl rfl) rfl (mul_run w _ _ _ HGL.out (by omega) (by omega)) rfl
      · exact seq_grow (by kernel_rfl) (fun _ _ _ h hb => h.on hb) fun a w k C hW => op_bin rfl (C.on (j := 0) (by kernel_rfl) rfl rfl) (C.on (j := 12) (by kernel_rfl) rfl rfl) rfl (add_run w _ _ _ HS2.out (by omega) (by omega)) rfl
      · exact seq_grow (by kernel_rfl) (fun _ _ _ h hb => h.on hb) fun a w k C hW => op_move (.inr rfl) (C.on (j := 13) (by kernel_rfl) rfl rfl)
      intro w5 hT5
      simp only [setAll, setAt, List.setIfInBounds_toArray, List.set_cons_succ, List.set_cons_zero]
      have HT5 := Lib.hid hT5
      have HT6 := Lib.hid hT5.copy
      clear hT5 HT HGF HGL HS2 CF
      go_wp2_with (first
        | refine wpList_load_want rfl 31 _ rfl _ _ rfl (tu_load HT5.out.tu) ?_
        | refine wpList_load_want rfl 31 _ rfl _ _ rfl (tu_load HT6.out.tu) ?_
        | refine wpList_load_want rfl 26 _ rfl _ _ rfl (sp_load HT6.out.sh) ?_)
      refine (HCN.out _).mono ?_
      rintro e w6 ⟨rfl, hb⟩
      have HT7 := Lib.hid (HT6.out.on hb)
      obtain ⟨r2, hr2⟩ : ∃ r2, w5.heap.size = r2 := ⟨_, rfl⟩
      rw [hr2] at HT7
      rw [hr2]
      clear hb HCN HT5 HT6 hr2
      have HT8 := Lib.hid (HT7.out.set (tuA t (n + 1)) (tuB t (n + 1)))
      go_wp2_with (refine wpList_store_of rfl _ _ _ rfl ⟨r2, 0, none⟩ _ rfl rfl (tu_store rfl HT7.out.tu) ?_)
      go_roundw
      case rel => exact ⟨n + 1, r2, by omega, by go_num, by rw [HSS.out], rfl, rfl, HT8.out⟩
      case measure => simp [intOf]; omega
    · obtain rfl : n = T := by omega
      have hd : decide (n < n) = false := by simp
      have e1 : tuA t n = 0 := if_neg (by have := HTT.out; omega)
      have e2 : tuB t n = 0 := if_neg (by have := HTT.out; omega)
      rw [e1, e2] at hT
      have HT := Lib.hid hT
      have kt := hT.time
      clear hT e1 e2 hn
      have hbt : t * b ≤ 4611686018427387904 := by
        have : t * b ≤ 50 * 4294967295 := Nat.mul_le_mul (by omega) (by omega)
        omega
      have CFI := Lib.hid (spfills_any a t l m b c g z (by omega) hbb hl hbt)
      have hblE : ((blN u l n : Nat) : Int) = ((t * b : Nat) : Int) - ((2 * l : Nat) : Int) := by
        have h1 : t * b = n * u := by rw [HUB.out, ← HTT.out, Nat.mul_comm 4 t, Nat.mul_assoc]
        have h2 : u ≤ n * u := Nat.le_mul_of_pos_left _ (by have := HTT.out; omega)
        have h3 : 2 * l ≤ u := by rw [HU.out]; exact Nat.mul_le_mul_right _ hg
        unfold blN
        rw [if_neg (by have := HTT.out; omega), h1]
        omega
      obtain ⟨fi, hfi⟩ : ∃ fi : Int, ((t * b : Nat) : Int) - ((2 * l : Nat) : Int) = fi := ⟨_, rfl⟩
      rw [hfi] at hblE CFI
      rw [hblE]
      clear hfi hblE hbt
      go_wp2_with (refine wpList_load_want rfl 26 _ rfl _ _ rfl (sp_load HT.out.sh) ?_)
      refine (CFI.out _).mono ?_
      rintro e w4 ⟨rfl, hb⟩
      have HT4 := Lib.hid (HT.out.on hb)
      have kt4 := HT4.out.time
      clear hb CFI HT kt
      have CN := next_at a t l m b c g z (4 * t - 1) (by omega) (by omega)
      rw [show (4 * t - 1) / 4 = t - 1 by omega, show (4 * t - 1) % 4 = 3 by omega, show 4 * t - 1 + 1 = 4 * t by omega, show tuA t (4 * t) = 0 from if_neg (by omega), show tuB t (4 * t) = 0 from if_neg (by omega), decide_eq_false (by omega), show ((t - 1 : Nat) : Int) = (t : Int) - 1 by omega, show ((3 : Nat) : Int) = 3 from rfl, Int.natCast_zero] at CN
      have HCN := Lib.hid CN
      clear CN
      go_wp2_with (refine wpList_load_want rfl 26 _ rfl _ _ rfl (sp_load HT4.out.sh) ?_)
      refine (HCN.out _).mono ?_
      rintro e w5 ⟨rfl, hb⟩
      have HT5 := Lib.hid (HT4.out.on hb)
      have HT6 := Lib.hid (HT5.out.on (one_box w5 (.cells (tuc 0 0) 31)))
      have kt5 := HT5.out.time
      have hlt5 : w.heap.size < w5.heap.size := HT5.out.pa.lt
      have hne5 : ¬ w.heap.size = w5.heap.size := by omega
      have e5 : 4 * (t : Int) = (n : Int) := by have := HTT.out; omega
      have NE := Lib.hid (tu_eql 0 0 (by decide) (by decide))
      have C1 := Lib.hid (has_at a t l m b c g z (by omega) (show hasB t (t : Int) 0 = false from hasB_late 0 (Nat.le_refl _)))
      have C2 := Lib.hid (has_at a t l m b c g z (by omega) (show hasB t 0 4 = false by simp [hasB, inB]))
      have C3 := Lib.hid (has_at a t l m b c g z (by omega) (show hasB t (-1) 0 = false by simp [hasB, inB]))
      clear hb HCN HT4 kt4
      go_wp2_with (first
        | refine wpList_load_want rfl 26 _ rfl _ _ rfl (sp_load HT6.out.sh) ?_
        | refine wpList_value_want rfl (.bool true) (cmp_run _ _ _ _ rfl rfl rfl g_tu (NE.out _)) ?_)
      refine (C1.out _).mono ?_
      rintro e w7 ⟨rfl, hb⟩
      have HT7 := Lib.hid (HT6.out.on hb)
      clear hb C1 HT6 HT5 kt5 NE hlt5 hne5
      go_wp2_with (refine wpList_load_want rfl 26 _ rfl _ _ rfl (sp_load HT7.out.sh) ?_)
      refine (C2.out _).mono ?_
      rintro e w8 ⟨rfl, hb⟩
      have HT8 := Lib.hid (HT7.out.on hb)
      clear hb C2 HT7
      go_wp2_with (refine wpList_load_want rfl 26 _ rfl _ _ rfl (sp_load HT8.out.sh) ?_)
      refine (C3.out _).mono ?_
      rintro e w9 ⟨rfl, hb⟩
      have HT9 := Lib.hid (HT8.out.on hb)
      clear hb C3 HT8
      go_wp2
      go_ret
      exact ⟨rfl, HT9.out.below⟩

theorem turns27_any (pa pt pm pl pz : Int) (w : World) : Calls Try.prog 3 #[pav pa pt pm pl pz] w fun e w' => e = .returned (.bool true) ∧ Below w.heap.size w w' := by
  cases h : mayB pa pt pm pl pz
  · exact turns_none pa pt pm pl pz h w
  · obtain ⟨a, t, m, l, z, rfl, rfl, rfl, rfl, rfl, hM⟩ := may_nats h
    obtain ⟨b, c, g, hg, hc, hb, hbm, -, CO⟩ := of_good hM
    by_cases ht : 50 < t
    · exact turns_many a t l m b c g z CO ht w
    · have ht1 : 1 ≤ t := hM.2.1
      have hl1 : 1 ≤ l := hM.2.2.2.1
      have hl : l ≤ 16777215 := hM.2.2.2.2.1
      have hm : m ≤ 4294967295 := hM.2.2.2.2.2.2.1
      refine turns_good a t l m b c g z (4 * t) (g * l) CO ht1 (by omega) rfl hl1 hl (by omega) hg rfl ?_ w
      rw [hb, hc, Nat.mul_comm g l, Nat.mul_left_comm]
end Go.Proofs.Ytioeialpldafmaa

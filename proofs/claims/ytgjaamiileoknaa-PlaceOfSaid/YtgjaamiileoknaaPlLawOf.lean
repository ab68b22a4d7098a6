/- The law PlaceOf by the calls' contracts. Conditions: those typed. -/
import Derived.Test.YtgjaamiileoknaaPlLawSt
import Derived.Test.YtgjaamiileoknaaPlRef
namespace Go.Proofs.Ytgjaamiileoknaa
set_option maxRecDepth 50000
open Go.RowKit

/-- a list of ints that begins with one; the place of an int -/
def ClAt (n F : Nat) : Value → World → Prop := fun v w => ∃ b off cp, v = .slice (some ⟨b, off, none⟩) n cp ∧ b < w.heap.size ∧ w.cell? ⟨b, off + 0, none⟩ = some (.int .i64 (F : Int))
def PtAt (F : Nat) : Value → World → Prop := fun v w => ∃ b off, v = .pointer (some ⟨b, off + 0, none⟩) ∧ b < w.heap.size ∧ w.cell? ⟨b, off + 0, none⟩ = some (.int .i64 (F : Int))
theorem stable_cl (n F : Nat) : Stable (ClAt n F) := fun _ _ _ ⟨b, off, cp, h, hb, hc⟩ k => ⟨b, off, cp, h, Nat.lt_of_lt_of_le hb k.size, (k.cell (p := ⟨b, off + 0, none⟩) hb).trans hc⟩
theorem stable_pt (F : Nat) : Stable (PtAt F) := fun _ _ _ ⟨b, off, h, hb, hc⟩ k => ⟨b, off, h, Nat.lt_of_lt_of_le hb k.size, (k.cell (p := ⟨b, off + 0, none⟩) hb).trans hc⟩
theorem rsp_later {w : World} {d a t l m b c g z : Nat} (h : RowAt w d 33 (spc a t l m b c g z)) : Hid (∀ w', Below w.heap.size w w' → (loadVar 33 ⟨d, 0, none⟩).run Try.prog w' = .ok (spv a t l m b c g z) w') := Lib.hid fun _ hb => rsp_load (h.step hb)
/-- and the document's shape, and a spot -/
structure Lz (w wr : World) (q d u : Nat) (a t l m b c g z : Nat) (p s : Int) (x y : Nat) : Prop where
  lw : Lw w wr q a t l m b c g z p s
  rs : RowAt wr d 33 (spc a t l m b c g z)
  so : RowAt wr u 35 (soc x y)
theorem Lz.on {w wr w' : World} {q d u a t l m b c g z x y : Nat} {p s : Int} (H : Lz w wr q d u a t l m b c g z p s x y) (hb : Below wr.heap.size wr w') : Lz w w' q d u a t l m b c g z p s x y := ⟨H.lw.on hb, H.rs.step hb, H.so.step hb⟩

theorem lz_new {w wA w3 : World} {q d a t l m b c g z : Nat} {p s : Int} (h : Lw w wA q a t l m b c g z p s) (hr : RowAt wA d 33 (spc a t l m b c g z)) (hb : Below wA.heap.size wA w3) (x y : Nat) : Lz w (w3.alloc (.cells (soc x y) 35)) q d w3.heap.size a t l m b c g z p s x y :=
  ⟨(h.on hb).alloc _, (hr.step hb).alloc _, RowAt.new _ _ _⟩

set_option maxHeartbeats 3200000 in
theorem placeof29_many (pa pt pm pl pz p s k i e0 : Int) (a t l m b c g z J K : Nat) (hc : 400 < c)
    (CO : ∀ w : World, Calls Try.prog 7 #[pav pa pt pm pl pz] w fun e w' => e = .returned (.tuple #[spv a t l m b c g z, .int .i64 e0]) ∧ Below w.heap.size w w') (w : World) :
    Calls Try.prog 3 #[pav pa pt pm pl pz, tuv p s, .int .i64 k, .int .i64 i, .int .u32 (J : Int), .int .u32 (K : Int)] w fun e w' => e = .returned (.bool true) ∧ Below w.heap.size w w' := by
  have hcI : (400 : Int) < (c : Int) := by omega
  have CA := Lib.hid awake29_any
  have CO := Lib.hid CO
  have HP := Lib.hid (law_new pa pt pm pl pz p s w)
  go_enter Try.func3, Try.ntmps3
  go_wp2_with fail
  refine (CA.out _).mono ?_
  rintro e w1 ⟨rfl, rfl⟩
  clear CA
  go_wp2_with (refine wpList_load_want rfl 23 _ rfl _ _ rfl (pa_load HP.out.1) ?_)
  refine (CO.out _).mono ?_
  rintro e w2 ⟨rfl, hb⟩
  have HL := Lib.hid (lw_new (HP.out.2.1.step hb) (HP.out.2.2.trans (hb.mono HP.out.2.2.size)) a t l m b c g z)
  clear hb CO HP
  obtain ⟨q, hq⟩ : ∃ q, w2.heap.size = q := ⟨_, rfl⟩
  rw [hq] at HL
  have HB := Lib.hid HL.out.below
  clear HL
  go_wp2
  go_ret
  exact ⟨rfl, HB.out⟩

set_option maxHeartbeats 3200000 in
theorem placeof29_bad (pa pt pm pl pz p s k i e0 : Int) (a t l m b c g z J K : Nat) (hc : c ≤ 400) (ht : t ≤ 4294967295) (hl : l ≤ 4294967295) (hg : g ≤ 4294967295) (hx : reB t l g p s k i = false)
    (CO : ∀ w : World, Calls Try.prog 7 #[pav pa pt pm pl pz] w fun e w' => e = .returned (.tuple #[spv a t l m b c g z, .int .i64 e0]) ∧ Below w.heap.size w w') (w : World) :
    Calls Try.prog 3 #[pav pa pt pm pl pz, tuv p s, .int .i64 k, .int .i64 i, .int .u32 (J : Int), .int .u32 (K : Int)] w fun e w' => e = .returned (.bool true) ∧ Below w.heap.size w w' := by
  have hcI : ¬ (400 : Int) < (c : Int) := by omega
  have CP : ∀ w, Calls Try.prog 8 #[spv a t l m b c g z, tuv p s, .int .i64 k, .int .i64 i, .int .u32 (J : Int), .int .u32 (K : Int)] w fun e w' => e = .returned (.tuple #[.agg #[.int .i64 0, .int .i64 0], .int .i64 11]) ∧ Below w.heap.size w w' := plof_bad a t l m b c g z p s k i J K ht hl hg hx
  have CP := Lib.hid CP
  have CR := Lib.hid (right_any a t l m b c g z p s k i _ hx)
  have NE : ∀ w, (binOp .eql 35 (.agg #[.int .i64 0, .int .i64 0]) (.agg #[.int .i64 0, .int .i64 0])).run Try.prog w = .ok (.bool true) w := so_eql 0 0 0 0 (by omega) (by omega) (by omega) (by omega)
  have NE := Lib.hid NE
  clear hx hc
  have CA := Lib.hid awake29_any
  have CO := Lib.hid CO
  have HP := Lib.hid (law_new pa pt pm pl pz p s w)
  go_enter Try.func3, Try.ntmps3
  go_wp2_with fail
  refine (CA.out _).mono ?_
  rintro e w1 ⟨rfl, rfl⟩
  clear CA
  go_wp2_with (refine wpList_load_want rfl 23 _ rfl _ _ rfl (pa_load HP.out.1) ?_)
  refine (CO.out _).mono ?_
  rintro e w2 ⟨rfl, hb⟩
  have HL := Lib.hid (lw_new (HP.out.2.1.step hb) (HP.out.2.2.trans (hb.mono HP.out.2.2.size)) a t l m b c g z)
  clear hb CO HP
  obtain ⟨q, hq⟩ : ∃ q, w2.heap.size = q := ⟨_, rfl⟩
  rw [hq] at HL
  have HLA := Lib.hid (HL.out.alloc (.cells (spc a t l m b c g z) 33))
  have HRA := Lib.hid (RowAt.new (w2.alloc (.cells (spc a t l m b c g z) 29)) 33 (spc a t l m b c g z))
  rw [World.size_alloc, hq] at HRA
  have f0 := sp_load HL.out.tw.sh
  obtain ⟨-, -, -, -, -, f5, -, -⟩ := sp_cells HL.out.tw.sh
  have hlt : w.heap.size + 1 < (w2.alloc (.cells (spc a t l m b c g z) 29)).heap.size := HL.out.tw.tu.lt
  have hlt3 : ∀ w3, Below ((w2.alloc (.cells (spc a t l m b c g z) 29)).alloc (.cells (spc a t l m b c g z) 33)).heap.size ((w2.alloc (.cells (spc a t l m b c g z) 29)).alloc (.cells (spc a t l m b c g z) 33)) w3 → w.heap.size + 1 < w3.heap.size := fun w3 hb => by
    have h1 := hb.size
    rw [World.size_alloc] at h1
    omega
  have hlt4 : ∀ w3, Below ((w2.alloc (.cells (spc a t l m b c g z) 29)).alloc (.cells (spc a t l m b c g z) 33)).heap.size ((w2.alloc (.cells (spc a t l m b c g z) 29)).alloc (.cells (spc a t l m b c g z) 33)) w3 → q + 1 < w3.heap.size := fun w3 hb => by
    have h1 := hb.size
    rw [World.size_alloc, World.size_alloc] at h1
    omega
  clear HL hlt
  go_wp2_with (first
    | refine wpList_load_want rfl 25 _ rfl _ _ rfl (tu_load HLA.out.tw.tu) ?_
    | refine wpList_load_want rfl 29 _ rfl _ _ rfl (sp_load HLA.out.tw.sh) ?_
    | refine wpList_load_want rfl 29 _ rfl _ _ rfl f0 ?_)
  clear f0 f5
  refine (CP.out _).mono ?_
  rintro e w3 ⟨rfl, hb⟩
  have HZ := Lib.hid (lz_new HLA.out HRA.out hb 0 0)
  have e3 := (HLA.out.on hb).tw
  have e4 := HRA.out.step hb
  have f2 := rsp_load e4
  obtain ⟨f6, f7⟩ := tu_cells e3.tu
  have n1 := hlt3 _ hb
  have n2 := hlt4 _ hb
  have n3 : ¬ w.heap.size + 1 = w3.heap.size := by omega
  have n4 : ¬ q + 1 = w3.heap.size := by omega
  clear hb HLA HRA CP e3 e4 hlt3 hlt4
  go_wp2_with (first
    | refine wpList_load_want rfl 33 _ rfl _ _ rfl (rsp_load HZ.out.rs) ?_
    | refine wpList_load_want rfl 33 _ rfl _ _ rfl f2 ?_)
  refine (CR.out _).mono ?_
  rintro e w4 ⟨rfl, hb⟩
  have HZ4 := Lib.hid (HZ.out.on hb)
  have g1 := so_load HZ4.out.so
  clear hb CR HZ f2 f6 f7 n1 n2 n3 n4
  generalize w3.heap.size = u at *
  go_wp2_with (first
    | refine wpList_load_want rfl 35 _ rfl _ _ rfl g1 ?_
    | refine wpList_value_want rfl (.bool true) (cmp_run (t := 35) _ _ _ _ rfl rfl rfl g_so (NE.out _)) ?_)
  go_ret
  exact ⟨rfl, HZ4.out.lw.below⟩

set_option maxHeartbeats 12800000 in
theorem placeof29_good (pa pt pm pl pz : Int) (a t l m b c g z p s k i J K L C A1 A0 F : Nat) (hc : c ≤ 400) (hA1 : 0 < A1) (hLb : L ≤ 4294967295) (hCb : C ≤ 400)
    (CO : ∀ w : World, Calls Try.prog 7 #[pav pa pt pm pl pz] w fun e w' => e = .returned (.tuple #[spv a t l m b c g z, .int .i64 0]) ∧ Below w.heap.size w w')
    (CP : ∀ w, Calls Try.prog 8 #[spv a t l m b c g z, tuv p s, .int .i64 (k : Int), .int .i64 (i : Int), .int .u32 (J : Int), .int .u32 (K : Int)] w fun e w' => e = .returned (.tuple #[sov L C, .int .i64 0]) ∧ Below w.heap.size w w')
    (CR : ∀ w, Calls Try.prog 9 #[spv a t l m b c g z, .int .i64 (p : Int), .int .i64 (s : Int), .int .i64 (k : Int), .int .i64 (i : Int)] w fun e w' => e = .returned (.bool true) ∧ Below w.heap.size w w')
    (CD : ∀ w, Calls Try.prog 10 #[spv a t l m b c g z, .int .i64 (p : Int), .int .i64 (s : Int), .int .i64 (k : Int), .int .i64 (i : Int), .int .u32 (J : Int), .int .u32 (K : Int)] w fun e w' => e = .returned (.tuple #[.int .i64 (L : Int), .int .i64 (C : Int)]) ∧ Below w.heap.size w w')
    (C1 : ∀ w, Calls Try.prog 11 #[spv a t l m b c g z, .int .i64 (p : Int), .int .i64 (s : Int), .int .i64 (i : Int), .bool true] w fun e w' => ∃ v, e = .returned v ∧ ClAt A1 F v w' ∧ Below w.heap.size w w')
    (C0 : ∀ w, Calls Try.prog 11 #[spv a t l m b c g z, .int .i64 (p : Int), .int .i64 (s : Int), .int .i64 (i : Int), .bool false] w fun e w' => ∃ B cp, e = .returned (.slice B A0 cp) ∧ Below w.heap.size w w')
    (CT : ∀ w, Calls Try.prog 12 #[spv a t l m b c g z, tuv p s, .int .i64 (i : Int), .bool true] w fun e w' => e = .returned (.int .i64 (A1 : Int)) ∧ Below w.heap.size w w')
    (CU : ¬ (p = 0 ∧ s = 0) → ∀ w, Calls Try.prog 12 #[spv a t l m b c g z, tuv p s, .int .i64 (i : Int), .bool false] w fun e w' => e = .returned (.int .i64 (A0 : Int)) ∧ Below w.heap.size w w')
    (CL : ∀ w, Calls Try.prog 13 #[spv a t l m b c g z, tuv p s, .int .i64 (k : Int), .int .u32 (K : Int)] w fun e w' => e = .returned (.int .i64 (L : Int)) ∧ Below w.heap.size w w')
    (CF : ∀ w, Calls Try.prog 14 #[spv a t l m b c g z, tuv p s] w fun e w' => e = .returned (.int .i64 (F : Int)) ∧ Below w.heap.size w w') (w : World) :
    Calls Try.prog 3 #[pav pa pt pm pl pz, tuv p s, .int .i64 (k : Int), .int .i64 (i : Int), .int .u32 (J : Int), .int .u32 (K : Int)] w fun e w' => e = .returned (.bool true) ∧ Below w.heap.size w w' := by
  have hcI : ¬ (400 : Int) < (c : Int) := by omega
  have CP := Lib.hid CP
  have CR := Lib.hid CR
  have CD := Lib.hid CD
  have C1 := Lib.hid C1
  have C0 := Lib.hid C0
  have CT := Lib.hid CT
  have CU := Lib.hid CU
  have CL := Lib.hid CL
  have CF := Lib.hid CF
  have NE : ∀ w, (binOp .eql 35 (sov L C) (sov L C)).run Try.prog w = .ok (.bool true) w := fun w => by
    rw [so_eql L C L C (by omega) (by omega) (by omega) (by omega), decide_eq_true ⟨rfl, rfl⟩]
  have NE := Lib.hid NE
  have hnA : ∀ w : World, (binOp .neq 3 (.int .i64 (A1 : Int)) (.int .i64 (A1 : Int))).run Try.prog w = .ok (.bool false) w := fun w => by rw [int_neq, decide_eq_true rfl]; rfl
  have hnL : ∀ w : World, (binOp .neq 3 (.int .i64 (L : Int)) (.int .i64 (L : Int))).run Try.prog w = .ok (.bool false) w := fun w => by rw [int_neq, decide_eq_true rfl]; rfl
  have hnF : ∀ w : World, (binOp .neq 3 (.int .i64 (F : Int)) (.int .i64 (F : Int))).run Try.prog w = .ok (.bool false) w := fun w => by rw [int_neq, decide_eq_true rfl]; rfl
  clear hc
  have CA := Lib.hid awake29_any
  have CO := Lib.hid CO
  have HP := Lib.hid (law_new pa pt pm pl pz (p : Int) (s : Int) w)
  go_enter Try.func3, Try.ntmps3
  go_wp2_with fail
  refine (CA.out _).mono ?_
  rintro e w1 ⟨rfl, rfl⟩
  clear CA
  go_wp2_with (refine wpList_load_want rfl 23 _ rfl _ _ rfl (pa_load HP.out.1) ?_)
  refine (CO.out _).mono ?_
  rintro e w2 ⟨rfl, hb⟩
  have HL := Lib.hid (lw_new (HP.out.2.1.step hb) (HP.out.2.2.trans (hb.mono HP.out.2.2.size)) a t l m b c g z)
  clear hb CO HP
  obtain ⟨q, hq⟩ : ∃ q, w2.heap.size = q := ⟨_, rfl⟩
  rw [hq] at HL
  have HLA := Lib.hid (HL.out.alloc (.cells (spc a t l m b c g z) 33))
  have HRA := Lib.hid (RowAt.new (w2.alloc (.cells (spc a t l m b c g z) 29)) 33 (spc a t l m b c g z))
  rw [World.size_alloc, hq] at HRA
  have f0 := sp_load HL.out.tw.sh
  obtain ⟨-, -, -, -, -, f5, -, -⟩ := sp_cells HL.out.tw.sh
  have hlt : w.heap.size + 1 < (w2.alloc (.cells (spc a t l m b c g z) 29)).heap.size := HL.out.tw.tu.lt
  have hlt3 : ∀ w3, Below ((w2.alloc (.cells (spc a t l m b c g z) 29)).alloc (.cells (spc a t l m b c g z) 33)).heap.size ((w2.alloc (.cells (spc a t l m b c g z) 29)).alloc (.cells (spc a t l m b c g z) 33)) w3 → w.heap.size + 1 < w3.heap.size := fun w3 hb => by
    have h1 := hb.size
    rw [World.size_alloc] at h1
    omega
  have hlt4 : ∀ w3, Below ((w2.alloc (.cells (spc a t l m b c g z) 29)).alloc (.cells (spc a t l m b c g z) 33)).heap.size ((w2.alloc (.cells (spc a t l m b c g z) 29)).alloc (.cells (spc a t l m b c g z) 33)) w3 → q + 1 < w3.heap.size := fun w3 hb => by
    have h1 := hb.size
    rw [World.size_alloc, World.size_alloc] at h1
    omega
  clear HL hlt
  go_wp2_with (first
    | refine wpList_load_want rfl 25 _ rfl _ _ rfl (tu_load HLA.out.tw.tu) ?_
    | refine wpList_load_want rfl 29 _ rfl _ _ rfl (sp_load HLA.out.tw.sh) ?_
    | refine wpList_load_want rfl 29 _ rfl _ _ rfl f0 ?_)
  clear f0 f5
  refine (CP.out _).mono ?_
  rintro e w3 ⟨rfl, hb⟩
  have HZ := Lib.hid (lz_new HLA.out HRA.out hb L C)
  have e3 := (HLA.out.on hb).tw
  have e4 := HRA.out.step hb
  have f2 := rsp_load e4
  obtain ⟨f6, f7⟩ := tu_cells e3.tu
  have n1 := hlt3 _ hb
  have n2 := hlt4 _ hb
  have n3 : ¬ w.heap.size + 1 = w3.heap.size := by omega
  have n4 : ¬ q + 1 = w3.heap.size := by omega
  clear hb HLA HRA CP e3 e4 hlt3 hlt4
  go_wp2_with (first
    | refine wpList_load_want rfl 33 _ rfl _ _ rfl (rsp_load HZ.out.rs) ?_
    | refine wpList_load_want rfl 33 _ rfl _ _ rfl f2 ?_)
  refine (CR.out _).mono ?_
  rintro e w4 ⟨rfl, hb⟩
  have HZ4 := Lib.hid (HZ.out.on hb)
  clear hb CR HZ f2 f6 f7 n1 n2 n3 n4
  generalize w3.heap.size = u at *
  generalize q + 1 = d at *
  have g2 := rsp_load HZ4.out.rs
  obtain ⟨f6, f7⟩ := tu_cells HZ4.out.lw.tw.tu
  go_wp2_with (refine wpList_load_want rfl 33 _ rfl _ _ rfl g2 ?_)
  refine (CD.out _).mono ?_
  rintro e w5 ⟨rfl, hb⟩
  have HZ5 := Lib.hid (HZ4.out.on hb)
  clear hb CD HZ4 f6 f7 g2
  have g2 := rsp_load HZ5.out.rs
  obtain ⟨f6, f7⟩ := tu_cells HZ5.out.lw.tw.tu
  go_wp2_with (refine wpList_load_want rfl 33 _ rfl _ _ rfl g2 ?_)
  refine (C1.out _).mono ?_
  rintro e w6 ⟨_, rfl, ⟨bb, off, cp, rfl, -, -⟩, hb⟩
  have HZ6 := Lib.hid (HZ5.out.on hb)
  clear hb HZ5 f6 f7 g2
  have g2 := rsp_load HZ6.out.rs
  obtain ⟨f6, f7⟩ := tu_cells HZ6.out.lw.tw.tu
  go_wp2_with (refine wpList_load_want rfl 33 _ rfl _ _ rfl g2 ?_)
  refine (C0.out _).mono ?_
  rintro e w7 ⟨B0, cp0, rfl, hb⟩
  have HZ7 := Lib.hid (HZ6.out.on hb)
  clear hb HZ6 f6 f7 g2 C0
  go_wp2_with fail
  have HC := HZ7.out.lw.tw.later
  have HE := rsp_later HZ7.out.rs
  generalize hr : w.heap.size + 1 = r at *
  refine wp_region_text [Is (spv a t l m b c g z), Is (tuv (p : Int) (s : Int)), Is (.int .i64 (i : Int)), Is (.int .i64 (A1 : Int)), Is (.int .i64 (A1 : Int)), Is (.bool false), Is (.bool false), Is (spv a t l m b c g z), Is (tuv (p : Int) (s : Int)), Is (.int .i64 (k : Int)), Is (.int .u32 (K : Int)), Is (.int .i64 (L : Int)), Is (.int .i64 (L : Int)), Is (.bool false), Is (.bool false), Is (.bool false), Is (spv a t l m b c g z), Is (tuv (p : Int) (s : Int)), Is (.int .i64 (F : Int)), Is (spv a t l m b c g z), Is (.pointer (some ⟨r, 0 + 0, none⟩)), Is (.int .i64 (p : Int)), Is (.pointer (some ⟨r, 0 + 1, none⟩)), Is (.int .i64 (s : Int)), Is (.int .i64 (i : Int)), ClAt A1 F, PtAt F, Is (.int .i64 (F : Int)), Is (.bool false), Is (.bool false)] (by kernel_rfl) (by kernel_rfl) rfl ⟨stable_is _, stable_is _, stable_is _, stable_is _, stable_is _, stable_is _, stable_is _, stable_is _, stable_is _, stable_is _, stable_is _, stable_is _, stable_is _, stable_is _, stable_is _, stable_is _, stable_is _, stable_is _, stable_is _, stable_is _, stable_is _, stable_is _, stable_is _, stable_is _, stable_is _, stable_cl _ _, stable_pt _, stable_is _, stable_is _, stable_is _, trivial⟩ ⟨?_, ?_, ?_, ?_, ?_, ?_, ?_, ?_, ?_, ?_, ?_, ?_, ?_, ?_, ?_, ?_, ?_, ?_, ?_, ?_, ?_, ?_, ?_, ?_, ?_, ?_, ?_, ?_, ?_, ?_, trivial⟩ ?_
  · intro a w C
    exact part_on (wanted_free rfl _) (op_value (load_run rfl (C.was 13 (by kernel_rfl)) (HC.out w C.below).sh) rfl)
  · intro a w C
    exact part_on (wanted_free rfl _) (op_value (load_run rfl (C.was 7 (by kernel_rfl)) (HC.out w C.below).tu) rfl)
  · intro a w C
    exact part_on (wanted_free rfl _) (op_move (.inl rfl) (C.was 3 (by kernel_rfl)))
  · intro a w C
    exact part_on (wanted_free rfl _) (op_call4 rfl (reg_enters Try.func12 (by kernel_rfl) (by kernel_rfl)) (C.on (j := 0) (by kernel_rfl) rfl rfl) (C.on (j := 1) (by kernel_rfl) rfl rfl) (C.on (j := 2) (by kernel_rfl) rfl rfl) rfl (calls_is (CT.out w)))
  · intro a w C
    exact part_on (wanted_free rfl _) (op_move (.inl rfl) (C.was 20 (by kernel_rfl)))
  · intro a w C
    exact part_on (wanted_free rfl _) (op_bin rfl (C.on (j := 3) (by kernel_rfl) rfl rfl) (C.on (j := 4) (by kernel_rfl) rfl rfl) rfl (hnA w) rfl)
  · intro a w C
    exact part_on (wanted_free rfl _) (op_move (.inl rfl) (C.on (j := 5) (by kernel_rfl) rfl rfl))
  · intro a w C
    exact part_on (wanted_on (j := 6) rfl rfl rfl (C.on (j := 6) (by kernel_rfl) rfl rfl)) (op_value (load_run rfl (C.was 13 (by kernel_rfl)) (HC.out w C.below).sh) rfl)
  · intro a w C
    exact part_on (wanted_on (j := 6) rfl rfl rfl (C.on (j := 6) (by kernel_rfl) rfl rfl)) (op_value (load_run rfl (C.was 7 (by kernel_rfl)) (HC.out w C.below).tu) rfl)
  · intro a w C
    exact part_on (wanted_on (j := 6) rfl rfl rfl (C.on (j := 6) (by kernel_rfl) rfl rfl)) (op_move (.inl rfl) (C.was 2 (by kernel_rfl)))
  · intro a w C
    exact part_on (wanted_on (j := 6) rfl rfl rfl (C.on (j := 6) (by kernel_rfl) rfl rfl)) (op_move (.inl rfl) (C.was 5 (by kernel_rfl)))
  · intro a w C
    exact part_on (wanted_on (j := 6) rfl rfl rfl (C.on (j := 6) (by kernel_rfl) rfl rfl)) (op_call4 rfl (reg_enters Try.func13 (by kernel_rfl) (by kernel_rfl)) (C.on (j := 7) (by kernel_rfl) rfl rfl) (C.on (j := 8) (by kernel_rfl) rfl rfl) (C.on (j := 9) (by kernel_rfl) rfl rfl) (C.on (j := 10) (by kernel_rfl) rfl rfl) (calls_is (CL.out w)))
  · intro a w C
    exact part_on (wanted_on (j := 6) rfl rfl rfl (C.on (j := 6) (by kernel_rfl) rfl rfl)) (op_move (.inl rfl) (C.was 18 (by kernel_rfl)))
  · intro a w C
    exact part_on (wanted_on (j := 6) rfl rfl rfl (C.on (j := 6) (by kernel_rfl) rfl rfl)) (op_bin rfl (C.on (j := 11) (by kernel_rfl) rfl rfl) (C.on (j := 12) (by kernel_rfl) rfl rfl) rfl (hnL w) rfl)
  · intro a w C
    exact part_on (wanted_free rfl _) (op_pick (k := false) rfl (C.on (j := 6) (by kernel_rfl) rfl rfl) (C.on (j := 13) (by kernel_rfl) rfl rfl))
  · intro a w C
    exact part_on (wanted_free rfl _) (op_move (.inl rfl) (C.on (j := 14) (by kernel_rfl) rfl rfl))
  · intro a w C
    exact part_on (wanted_on (j := 15) rfl rfl rfl (C.on (j := 15) (by kernel_rfl) rfl rfl)) (op_value (load_run rfl (C.was 13 (by kernel_rfl)) (HC.out w C.below).sh) rfl)
  · intro a w C
    exact part_on (wanted_on (j := 15) rfl rfl rfl (C.on (j := 15) (by kernel_rfl) rfl rfl)) (op_value (load_run rfl (C.was 7 (by kernel_rfl)) (HC.out w C.below).tu) rfl)
  · intro a w C
    exact part_on (wanted_on (j := 15) rfl rfl rfl (C.on (j := 15) (by kernel_rfl) rfl rfl)) (op_call2 rfl (reg_enters Try.func14 (by kernel_rfl) (by kernel_rfl)) (C.on (j := 16) (by kernel_rfl) rfl rfl) (C.on (j := 17) (by kernel_rfl) rfl rfl) (calls_is (CF.out w)))
  · intro a w C
    exact part_on (wanted_on (j := 15) rfl rfl rfl (C.on (j := 15) (by kernel_rfl) rfl rfl)) (op_value (load_run rfl (C.was 15 (by kernel_rfl)) (HE.out w C.below)) rfl)
  · intro a w C
    exact part_on (wanted_on (j := 15) rfl rfl rfl (C.on (j := 15) (by kernel_rfl) rfl rfl)) (op_value (tuf_run (k := 0) rfl (by decide) (C.was 7 (by kernel_rfl))) rfl)
  · intro a w C
    exact part_on (wanted_on (j := 15) rfl rfl rfl (C.on (j := 15) (by kernel_rfl) rfl rfl)) (op_value (int_run rfl (C.on (j := 20) (by kernel_rfl) rfl rfl) (HC.out w C.below).p) rfl)
  · intro a w C
    exact part_on (wanted_on (j := 15) rfl rfl rfl (C.on (j := 15) (by kernel_rfl) rfl rfl)) (op_value (tuf_run (k := 1) rfl (by decide) (C.was 7 (by kernel_rfl))) rfl)
  · intro a w C
    exact part_on (wanted_on (j := 15) rfl rfl rfl (C.on (j := 15) (by kernel_rfl) rfl rfl)) (op_value (int_run rfl (C.on (j := 22) (by kernel_rfl) rfl rfl) (HC.out w C.below).s) rfl)
  · intro a w C
    exact part_on (wanted_on (j := 15) rfl rfl rfl (C.on (j := 15) (by kernel_rfl) rfl rfl)) (op_move (.inl rfl) (C.was 3 (by kernel_rfl)))
  · intro a w C
    exact part_on (wanted_on (j := 15) rfl rfl rfl (C.on (j := 15) (by kernel_rfl) rfl rfl)) (op_call5 rfl (reg_enters Try.func11 (by kernel_rfl) (by kernel_rfl)) (C.on (j := 19) (by kernel_rfl) rfl rfl) (C.on (j := 21) (by kernel_rfl) rfl rfl) (C.on (j := 23) (by kernel_rfl) rfl rfl) (C.on (j := 24) (by kernel_rfl) rfl rfl) rfl (C1.out w))
  · intro a w C
    obtain ⟨bb, off, cp, hv, hbb, hc⟩ : ClAt _ _ _ _ := (C.on (j := 25) (by kernel_rfl) rfl rfl)
    exact part_on (wanted_on (j := 15) rfl rfl rfl (C.on (j := 15) (by kernel_rfl) rfl rfl)) (op_value (ixi_run (i := 0) rfl hv rfl hA1) ⟨bb, off, rfl, hbb, hc⟩)
  · intro a w C
    obtain ⟨bb, off, hv, hbb, hc⟩ : PtAt _ _ _ := (C.on (j := 26) (by kernel_rfl) rfl rfl)
    exact part_on (wanted_on (j := 15) rfl rfl rfl (C.on (j := 15) (by kernel_rfl) rfl rfl)) (op_value (int_run rfl hv hc) rfl)
  · intro a w C
    exact part_on (wanted_on (j := 15) rfl rfl rfl (C.on (j := 15) (by kernel_rfl) rfl rfl)) (op_bin rfl (C.on (j := 18) (by kernel_rfl) rfl rfl) (C.on (j := 27) (by kernel_rfl) rfl rfl) rfl (hnF w) rfl)
  · intro a w C
    exact part_on (wanted_free rfl _) (op_pick (k := false) rfl (C.on (j := 15) (by kernel_rfl) rfl rfl) (C.on (j := 28) (by kernel_rfl) rfl rfl))
  rintro wF hbF _ rfl _ rfl _ rfl _ rfl _ rfl _ rfl _ rfl _ rfl _ rfl _ rfl _ rfl _ rfl _ rfl _ rfl _ rfl _ rfl _ rfl _ rfl _ rfl _ rfl _ rfl _ rfl _ rfl _ rfl _ rfl x114 hx114 x115 hx115 _ rfl _ rfl _ rfl
  simp only [Fin, setAt, Exit.then, List.setIfInBounds_toArray, List.set_cons_succ, List.set_cons_zero]
  subst hr
  have HZ8 := Lib.hid (HZ7.out.on hbF)
  clear hbF HC HE HZ7 hnA hnL hnF C1 CT CL CF
  obtain ⟨f6, f7⟩ := tu_cells HZ8.out.lw.tw.tu
  have g1 := so_load HZ8.out.so
  have g3 := sp_load HZ8.out.lw.tw.sh
  have g4 := tu_load HZ8.out.lw.tw.tu
  by_cases h0 : p = 0 ∧ s = 0
  · obtain ⟨rfl, rfl⟩ := h0
    clear CU g1 g3 g4
    obtain ⟨k0, k1⟩ := so_cells HZ8.out.so
    go_wp2
    go_ret
    exact ⟨rfl, HZ8.out.lw.below⟩
  · have CV := Lib.hid (CU.out h0)
    clear CU
    by_cases hp : p = 0
    · have hs : ¬ s = 0 := fun hs => h0 ⟨hp, hs⟩
      have hs2 : ((s : Int) == 0) = false := by simp; omega
      subst hp
      clear h0
      go_wp2_with (first
        | (refine wpList_load_want ?_ 35 _ rfl _ _ rfl g1 ?_; rfl)
        | (refine wpList_load_want ?_ 29 _ rfl _ _ rfl g3 ?_; rfl)
        | (refine wpList_load_want ?_ 25 _ rfl _ _ rfl g4 ?_; rfl)
        | (refine wpList_value_want ?_ (.bool true) (cmp_run (t := 35) _ _ _ _ rfl rfl rfl g_so (NE.out _)) ?_; rfl))
      refine (CV.out _).mono ?_
      rintro e w9 ⟨rfl, hb⟩
      have HB9 := Lib.hid (HZ8.out.on hb).lw.below
      clear hb HZ8 CV g1 g3 g4 f6 f7 NE
      go_wp2
      go_ret
      exact ⟨rfl, HB9.out⟩
    · have hp2 : ((p : Int) == 0) = false := by simp; omega
      clear h0
      go_wp2_with (first
        | (refine wpList_load_want ?_ 35 _ rfl _ _ rfl g1 ?_; rfl)
        | (refine wpList_load_want ?_ 29 _ rfl _ _ rfl g3 ?_; rfl)
        | (refine wpList_load_want ?_ 25 _ rfl _ _ rfl g4 ?_; rfl)
        | (refine wpList_value_want ?_ (.bool true) (cmp_run (t := 35) _ _ _ _ rfl rfl rfl g_so (NE.out _)) ?_; rfl))
      refine (CV.out _).mono ?_
      rintro e w9 ⟨rfl, hb⟩
      have HB9 := Lib.hid (HZ8.out.on hb).lw.below
      clear hb HZ8 CV g1 g3 g4 f6 f7 NE
      go_wp2
      go_ret
      exact ⟨rfl, HB9.out⟩
theorem placeof29_any (pa pt pm pl pz p s k i : Int) (J K : Nat) (hJ : J < 4294967296) (hK : K < 4294967296) (w : World) :
    Calls Try.prog 3 #[pav pa pt pm pl pz, tuv p s, .int .i64 k, .int .i64 i, .int .u32 (J : Int), .int .u32 (K : Int)] w fun e w' => e = .returned (.bool true) ∧ Below w.heap.size w w' := by
  cases h : mayB pa pt pm pl pz
  · exact placeof29_bad pa pt pm pl pz p s k i 2 0 0 0 0 0 0 0 0 J K (by omega) (by omega) (by omega) (by omega) (re_zero _ _ _ _) (of_bad pa pt pm pl pz h) w
  · obtain ⟨a, t, m, l, z, rfl, rfl, rfl, rfl, rfl, hM⟩ := may_nats h
    obtain ⟨b, c, g, hg, hc, hb, hbm, -, CO⟩ := of_good hM
    obtain ⟨ht, hl, hgb, hcb⟩ := mok_small hM hc hb hbm
    by_cases hcc : 400 < c
    · exact placeof29_many a t m l z p s k i 0 a t l m b c g z J K hcc CO w
    cases hx : reB t l g p s k i
    · exact placeof29_bad a t m l z p s k i 0 a t l m b c g z J K (by omega) ht hl hgb hx CO w
    · obtain ⟨p, s, k, i, rfl, rfl, rfl, rfl, R⟩ := ref_of hx hg hc
      have hkl := R.kl
      have hil := R.ig
      have hs3 := R.s3
      have h2i := R.two
      obtain ⟨t1, t2, t3, t4, t5, t6⟩ := R.times
      obtain ⟨A, h1, h2, h3, h4, CP⟩ := plof_good a b m z J K hJ hK R hx ht hl hcb
      obtain ⟨A1, v1, v2, v3, v4⟩ := R.area true (fun _ _ => rfl)
      have hF := R.from_le
      have hLO : p = 0 → s = 0 → decide (lnN l p s k K = k) = true := fun hp hs => by rw [lnN, if_pos ⟨hp, hs⟩]; simp
      have hcol := R.column (decide (lnN l p s k K = k)) A (piN A J) h4 (pi_lt h2)
      have hspot := R.spot _ A (piN A J) (pi_lt h2) h4
      have hLl : lnN l p s k K < l := ln_lt hkl
      have hcol0 : (coL c g p s i true)[0]? = some (frN g p s) := by
        rw [R.column true A1 0 v4 (by omega), colN, if_neg (by omega)]; rfl
      obtain ⟨A0, w4, w5⟩ : ∃ A0 : Nat, A0 + (if i = 0 then 1 else 0) = bsN c g p s ∧ (¬ (p = 0 ∧ s = 0) → arI (bsN c g p s) i false = (A0 : Int)) := by
        by_cases h0 : p = 0 ∧ s = 0
        · have hi0 := h2i h0.1 h0.2
          exact ⟨bsN c g p s, by rw [if_neg (by omega)]; rfl, fun h => absurd h0 h⟩
        · obtain ⟨A0, y1, y2, y3, y4⟩ := R.area false (fun hp hs => absurd ⟨hp, hs⟩ h0)
          exact ⟨A0, by simpa using y4, fun _ => y1⟩
      have hbs : bsN c g p s ≤ 400 := by unfold bsN; split <;> omega
      refine placeof29_good a t m l z a t l m b c g z p s k i J K _ _ A1 A0 (frN g p s) (by omega) v2 (by omega) (by omega) CO CP (right_any a t l m b c g z p s k i _ hx) ?_ ?_ ?_ ?_ ?_ ?_ ?_ w
      · exact rof_walk a t l m b c g z p s k i J K _ A _ _ _ (by omega) hK hJ h2 (by omega) rfl rfl rfl _ (co_count _ A h4) hcol (fun w => R.cols (by omega) _ A h4 (fun hp hs => .inl (hLO hp hs)) a b m z w)
      · intro w
        refine (R.cols (by omega) true A1 v4 (fun _ _ => .inl rfl) a b m z w).mono ?_
        rintro e w' ⟨B, cp, rfl, hr, hb⟩
        obtain ⟨h5, h6⟩ := List.getElem?_eq_some_iff.1 hcol0
        obtain ⟨bb, off, rfl, hbb, hv⟩ := hr 0 (by rw [nts_length]; exact h5)
        exact ⟨_, rfl, ⟨bb, off, cp, rfl, hbb, by rw [hv, nts_at, h6]⟩, hb⟩
      · intro w
        refine (R.cols (by omega) false A0 (by simpa using w4) (fun hp hs => .inr (by have := h2i hp hs; omega)) a b m z w).mono ?_
        rintro e w' ⟨B, cp, rfl, -, hb⟩
        exact ⟨B, cp, rfl, hb⟩
      · intro w
        have H := area_any a t l m b c g z p s i _ true rfl (by omega) (by omega) (by omega) (by omega) w
        rwa [v1] at H
      · intro h0 w
        have H := area_any a t l m b c g z p s i _ false rfl (by omega) (by omega) (by omega) (by omega) w
        rwa [w5 h0] at H
      · exact lane_any a t l m b c g z p s k K _ rfl (by omega) hK
      · exact from_any a t l m b c g z p s _ rfl (by omega) hs3
end Go.Proofs.Ytgjaamiileoknaa

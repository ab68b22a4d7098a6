/- A shape's Fills and Next by their contracts. Conditions: those typed. -/
import Derived.Test.YtioeialpldafmaaSpSmall
namespace Go.Proofs.Ytioeialpldafmaa
set_option maxRecDepth 50000
open Go.RowKit

theorem two_fit (x y : Nat) (hx : x ≤ 4611686018427387904) (hy : y ≤ 4611686018427387904) : allIn [(x : Int), (y : Int)] = true ∧ natsOf [(x : Int), (y : Int)] = [x, y] ∧ prodOf [x, y] = x * y := by
  refine ⟨?_, by simp [natsOf], by simp [prodOf]⟩
  simp [allIn, inB]; omega
theorem mul_two (x y : Nat) (hx : x ≤ 4611686018427387904) (hy : y ≤ 4611686018427387904) (w : World) : Calls Try.prog 15 #[.slice (some ⟨w.heap.size, 0, none⟩) 2 2] (w.alloc (.cells #[.int .i64 (x : Int), .int .i64 (y : Int)] 3)) fun e w' => e = .returned (.tuple #[.int .i64 (fitN (x * y)), .int .i64 (fitE (x * y))]) ∧ Below w.heap.size w w' := by
  obtain ⟨ha, hn, hp⟩ := two_fit x y hx hy
  have C := mul_any _ 2 _ _ (two_read (x : Int) (y : Int) w) (by simp)
  rw [proN_yes ha hn, proE_yes ha hn, hp] at C
  refine C.mono ?_
  rintro e w' ⟨rfl, rfl⟩
  exact ⟨rfl, (Below.refl _ _).alloc (Nat.le_refl _) _⟩

set_option maxHeartbeats 800000 in
theorem spfills_over (a t l m b c g z : Nat) (ht : t ≤ 4294967295) (hb : b ≤ 4294967295) (ho : 4611686018427387904 < t * b) (w : World) : Calls Try.prog 10 #[spv a t l m b c g z] w fun e w' => e = .returned (.tuple #[.int .i64 0, .int .i64 10]) ∧ Below w.heap.size w w' := by
  have HB := Lib.hid (one_box w (.cells (spc a t l m b c g z) 26))
  have C := mul_two t b (by omega) (by omega) (w.alloc (.cells (spc a t l m b c g z) 26))
  simp only [World.size_alloc] at C
  rw [fitN_no ho, fitE_no ho] at C
  have H := Lib.hid C
  clear C
  go_enter Try.func10, Try.ntmps10
  go_wp2_with fail
  refine H.out.mono ?_
  rintro e w' ⟨rfl, hb⟩
  have HB2 := Lib.hid (HB.out.trans (hb.mono (Nat.le_succ _)))
  clear hb
  go_wp2
  go_ret2
  exact ⟨rfl, HB2.out⟩

set_option maxHeartbeats 800000 in
theorem spfills_any (a t l m b c g z : Nat) (ht : t ≤ 4294967295) (hb : b ≤ 4294967295) (hl : l ≤ 16777215) (ho : t * b ≤ 4611686018427387904) (w : World) : Calls Try.prog 10 #[spv a t l m b c g z] w fun e w' => e = .returned (.tuple #[.int .i64 (((t * b : Nat) : Int) - ((2 * l : Nat) : Int)), .int .i64 0]) ∧ Below w.heap.size w w' := by
  have HB := Lib.hid (one_box w (.cells (spc a t l m b c g z) 26))
  have C := mul_two t b (by omega) (by omega) (w.alloc (.cells (spc a t l m b c g z) 26))
  simp only [World.size_alloc] at C
  rw [fitN_yes ho, fitE_yes ho] at C
  have H := Lib.hid C
  clear C
  have HR := RowAt.new w 26 (spc a t l m b c g z)
  generalize t * b = q at *
  have HR1 := Lib.hid HR
  clear HR
  go_enter Try.func10, Try.ntmps10
  go_wp2_with fail
  refine H.out.mono ?_
  rintro e w2 ⟨rfl, hb⟩
  have HB2 := Lib.hid (HB.out.trans (hb.mono (Nat.le_succ _)))
  obtain ⟨-, -, k2, -⟩ := sp_cells (HR1.out.below hb (Nat.lt_succ_self _))
  clear hb
  go_wp2
  go_ret2
  exact ⟨by go_num, HB2.out⟩

/-- the turn behind one -/
def nexP (t : Nat) (p s : Nat) : Bool := hasB t p s && (if s + 1 = 4 then hasB t ((p : Int) + 1) 0 else hasB t p ((s : Int) + 1))
def nexV (t p s : Nat) : Value := if nexP t p s = true then (if s + 1 = 4 then tuv ((p : Int) + 1) 0 else tuv p ((s : Int) + 1)) else tuv 0 0
theorem has_at (a t l m b c g z : Nat) (ht : t ≤ 4294967295) {p s : Int} {r : Bool} (h : hasB t p s = r) (w : World) : Calls Try.prog 8 #[spv a t l m b c g z, tuv p s] w fun e w' => e = .returned (.bool r) ∧ Below w.heap.size w w' := h ▸ sphas_any a t l m b c g z ht p s w

/-- four rows that a call of Next makes -/
abbrev nexW (w : World) (a t l m b c g z : Nat) (p s : Int) (p' s' : Int) : World := (((w.alloc (.cells (spc a t l m b c g z) 26)).alloc (.cells (tuc p s) 31)).alloc (.cells (tuc 0 0) 31)).alloc (.cells (tuc p' s') 31)
theorem nexW_rows (w : World) (a t l m b c g z : Nat) (p s p' s' : Int) (w1 : World) (hb : Below (w.heap.size + 1 + 1 + 1 + 1) (nexW w a t l m b c g z p s p' s') w1) :
    RowAt w1 w.heap.size 26 (spc a t l m b c g z) ∧ RowAt w1 (w.heap.size + 1 + 1) 31 (tuc 0 0) ∧ RowAt w1 (w.heap.size + 1 + 1 + 1) 31 (tuc p' s') ∧ Below w.heap.size w w1 ∧ w.heap.size + 1 + 1 + 1 + 1 ≤ w1.heap.size := by
  have b1 := one_box w (.cells (spc a t l m b c g z) 26)
  have r1 := RowAt.new w 26 (spc a t l m b c g z)
  have s1 : (w.alloc (.cells (spc a t l m b c g z) 26)).heap.size = w.heap.size + 1 := World.size_alloc _ _
  unfold nexW at hb
  generalize w.alloc (.cells (spc a t l m b c g z) 26) = x1 at *
  have b2 := b1.alloc (by omega) (.cells (tuc p s) 31)
  have r12 := r1.alloc (.cells (tuc p s) 31)
  have s2 : (x1.alloc (.cells (tuc p s) 31)).heap.size = w.heap.size + 1 + 1 := by rw [World.size_alloc, s1]
  generalize x1.alloc (.cells (tuc p s) 31) = x2 at *
  have b3 := b2.alloc (by omega) (.cells (tuc 0 0) 31)
  have r13 := r12.alloc (.cells (tuc 0 0) 31)
  have r3 := RowAt.new x2 31 (tuc 0 0)
  have s3 : (x2.alloc (.cells (tuc 0 0) 31)).heap.size = w.heap.size + 1 + 1 + 1 := by rw [World.size_alloc, s2]
  rw [s2] at r3
  generalize x2.alloc (.cells (tuc 0 0) 31) = x3 at *
  have b4 := b3.alloc (by omega) (.cells (tuc p' s') 31)
  have r14 := r13.alloc (.cells (tuc p' s') 31)
  have r34 := r3.alloc (.cells (tuc p' s') 31)
  have r4 := RowAt.new x3 31 (tuc p' s')
  have s4 : (x3.alloc (.cells (tuc p' s') 31)).heap.size = w.heap.size + 1 + 1 + 1 + 1 := by rw [World.size_alloc, s3]
  rw [s3] at r4
  generalize x3.alloc (.cells (tuc p' s') 31) = x4 at *
  have hs := hb.size
  exact ⟨r14.below hb (by omega), r34.below hb (by omega), r4.below hb (by omega), b4.trans (hb.mono (by omega)), by omega⟩
theorem has_nexW (w : World) (a t l m b c g z : Nat) (p s p' s' : Int) (ht : t ≤ 4294967295) {r : Bool} (h : hasB t p s = r) : Calls Try.prog 8 #[spv a t l m b c g z, tuv p s] (nexW w a t l m b c g z p s p' s') fun e w' => e = .returned (.bool r) ∧ Below (w.heap.size + 1 + 1 + 1 + 1) (nexW w a t l m b c g z p s p' s') w' := by
  have C := has_at a t l m b c g z ht h (nexW w a t l m b c g z p s p' s')
  have e : (nexW w a t l m b c g z p s p' s').heap.size = w.heap.size + 1 + 1 + 1 + 1 := by simp only [nexW, World.size_alloc]
  rw [e] at C
  exact C

set_option maxHeartbeats 1600000 in
theorem spnext_four0 (a t l m b c g z : Nat) (ht : t ≤ 4294967295) (p : Nat) (hp : p ≤ 4611686018427387904) (h1 : hasB t p 3 = false) (w : World) :
    Calls Try.prog 7 #[spv a t l m b c g z, tuv p 3] w fun e w' => e = .returned (.tuple #[tuv 0 0, .bool false]) ∧ Below w.heap.size w w' := by
  have C1 := Lib.hid (has_nexW w a t l m b c g z p 3 ((p : Int) + 1) 0 ht h1)
  have HW := Lib.hid (@nexW_rows w a t l m b c g z p 3 ((p : Int) + 1) 0)
  clear h1
  go_enter Try.func7, Try.ntmps7
  go_wp2_with fail
  refine C1.out.mono ?_
  rintro e w1 ⟨rfl, hb⟩
  obtain ⟨R1, R2, R3, B, s1⟩ := HW.out w1 hb
  have H1 := Lib.hid R1
  have H2 := Lib.hid R2
  have H3 := Lib.hid R3
  have HB := Lib.hid B
  clear hb R1 R2 R3 B C1 HW
  go_wp2_with (refine wpList_store_of rfl _ _ _ rfl ⟨w.heap.size + 1 + 1, 0, none⟩ _ rfl rfl (tu_store (p := 0) (s := 0) rfl H2.out) ?_)
  refine bodyPost_ret (results_row_tmp (fn := Try.f7) (p := 4) (u := 5) (b := w.heap.size + 1 + 1) (t := 31) (C := tuc 0 0) rfl _ rfl (H2.out.setRow _) Try.underlying31 rfl tu_size) rfl ⟨rfl, ?_⟩
  exact below_setRow HB.out (by omega) _

set_option maxHeartbeats 1600000 in
theorem spnext_four1 (a t l m b c g z : Nat) (ht : t ≤ 4294967295) (p : Nat) (hp : p ≤ 4611686018427387904) (h1 : hasB t p 3 = true) (h2 : hasB t ((p : Int) + 1) 0 = false) (w : World) :
    Calls Try.prog 7 #[spv a t l m b c g z, tuv p 3] w fun e w' => e = .returned (.tuple #[tuv 0 0, .bool false]) ∧ Below w.heap.size w w' := by
  have C1 := Lib.hid (has_nexW w a t l m b c g z p 3 ((p : Int) + 1) 0 ht h1)
  have C2 := Lib.hid (has_at a t l m b c g z ht h2)
  have HW := Lib.hid (@nexW_rows w a t l m b c g z p 3 ((p : Int) + 1) 0)
  clear h1 h2
  go_enter Try.func7, Try.ntmps7
  go_wp2_with fail
  refine C1.out.mono ?_
  rintro e w1 ⟨rfl, hb⟩
  obtain ⟨R1, R2, R3, B, s1⟩ := HW.out w1 hb
  have H1 := Lib.hid R1
  have H2 := Lib.hid R2
  have H3 := Lib.hid R3
  have HB := Lib.hid B
  clear hb R1 R2 R3 B C1 HW
  go_wp2_with (first | (refine wpList_load_want rfl 26 _ rfl _ _ rfl (sp_load H1.out) ?_) | (refine wpList_load_want rfl 31 _ rfl _ _ rfl (tu_load H3.out) ?_))
  refine (C2.out _).mono ?_
  rintro e w2 ⟨rfl, hb⟩
  have s2 := hb.size
  have H4 := Lib.hid (H2.out.step hb)
  have H5 := Lib.hid (H3.out.step hb)
  have HB2 := Lib.hid (HB.out.trans (hb.mono HB.out.size))
  clear hb C2 H1 H2 H3 HB
  go_wp2_with (refine wpList_store_of rfl _ _ _ rfl ⟨w.heap.size + 1 + 1, 0, none⟩ _ rfl rfl (tu_store (p := 0) (s := 0) rfl H4.out) ?_)
  refine bodyPost_ret (results_row_tmp (fn := Try.f7) (p := 4) (u := 5) (b := w.heap.size + 1 + 1) (t := 31) (C := tuc 0 0) rfl _ rfl (H4.out.setRow _) Try.underlying31 rfl tu_size) rfl ⟨rfl, ?_⟩
  exact below_setRow HB2.out (by omega) _

set_option maxHeartbeats 1600000 in
theorem spnext_four2 (a t l m b c g z : Nat) (ht : t ≤ 4294967295) (p : Nat) (hp : p ≤ 4611686018427387904) (h1 : hasB t p 3 = true) (h2 : hasB t ((p : Int) + 1) 0 = true) (w : World) :
    Calls Try.prog 7 #[spv a t l m b c g z, tuv p 3] w fun e w' => e = .returned (.tuple #[tuv ((p : Int) + 1) 0, .bool true]) ∧ Below w.heap.size w w' := by
  have C1 := Lib.hid (has_nexW w a t l m b c g z p 3 ((p : Int) + 1) 0 ht h1)
  have C2 := Lib.hid (has_at a t l m b c g z ht h2)
  have HW := Lib.hid (@nexW_rows w a t l m b c g z p 3 ((p : Int) + 1) 0)
  clear h1 h2
  go_enter Try.func7, Try.ntmps7
  go_wp2_with fail
  refine C1.out.mono ?_
  rintro e w1 ⟨rfl, hb⟩
  obtain ⟨R1, R2, R3, B, s1⟩ := HW.out w1 hb
  have H1 := Lib.hid R1
  have H2 := Lib.hid R2
  have H3 := Lib.hid R3
  have HB := Lib.hid B
  clear hb R1 R2 R3 B C1 HW
  go_wp2_with (first | (refine wpList_load_want rfl 26 _ rfl _ _ rfl (sp_load H1.out) ?_) | (refine wpList_load_want rfl 31 _ rfl _ _ rfl (tu_load H3.out) ?_))
  refine (C2.out _).mono ?_
  rintro e w2 ⟨rfl, hb⟩
  have s2 := hb.size
  have H4 := Lib.hid (H2.out.step hb)
  have H5 := Lib.hid (H3.out.step hb)
  have HB2 := Lib.hid (HB.out.trans (hb.mono HB.out.size))
  clear hb C2 H1 H2 H3 HB
  go_wp2_with (first | (refine wpList_load_want rfl _ _ rfl _ _ rfl (tu_load H5.out) ?_) | (refine wpList_store_of rfl _ _ _ rfl ⟨w.heap.size + 1 + 1, 0, none⟩ _ rfl rfl (tu_store rfl H4.out) ?_))
  refine bodyPost_ret (results_row_tmp (fn := Try.f7) (p := 4) (u := 5) (b := w.heap.size + 1 + 1) (t := 31) (C := tuc ((p : Int) + 1) 0) rfl _ rfl (H4.out.setRow _) Try.underlying31 rfl tu_size) rfl ⟨rfl, ?_⟩
  exact below_setRow HB2.out (by omega) _

set_option maxHeartbeats 1600000 in
theorem spnext_more0 (a t l m b c g z : Nat) (ht : t ≤ 4294967295) (p s : Nat) (hs : s ≤ 4611686018427387904) (h4 : ¬ s = 3) (h1 : hasB t p (s : Int) = false) (w : World) :
    Calls Try.prog 7 #[spv a t l m b c g z, tuv p (s : Int)] w fun e w' => e = .returned (.tuple #[tuv 0 0, .bool false]) ∧ Below w.heap.size w w' := by
  have C1 := Lib.hid (has_nexW w a t l m b c g z p (s : Int) (p : Int) ((s : Int) + 1) ht h1)
  have HW := Lib.hid (@nexW_rows w a t l m b c g z p (s : Int) (p : Int) ((s : Int) + 1))
  clear h1
  have h5 : ¬ (s : Int) + 1 = 4 := by omega
  go_enter Try.func7, Try.ntmps7
  go_wp2_with fail
  refine C1.out.mono ?_
  rintro e w1 ⟨rfl, hb⟩
  obtain ⟨R1, R2, R3, B, s1⟩ := HW.out w1 hb
  have H1 := Lib.hid R1
  have H2 := Lib.hid R2
  have H3 := Lib.hid R3
  have HB := Lib.hid B
  clear hb R1 R2 R3 B C1 HW
  go_wp2_with (refine wpList_store_of rfl _ _ _ rfl ⟨w.heap.size + 1 + 1, 0, none⟩ _ rfl rfl (tu_store (p := 0) (s := 0) rfl H2.out) ?_)
  refine bodyPost_ret (results_row_tmp (fn := Try.f7) (p := 4) (u := 5) (b := w.heap.size + 1 + 1) (t := 31) (C := tuc 0 0) rfl _ rfl (H2.out.setRow _) Try.underlying31 rfl tu_size) rfl ⟨rfl, ?_⟩
  exact below_setRow HB.out (by omega) _

set_option maxHeartbeats 1600000 in
theorem spnext_more1 (a t l m b c g z : Nat) (ht : t ≤ 4294967295) (p s : Nat) (hs : s ≤ 4611686018427387904) (h4 : ¬ s = 3) (h1 : hasB t p (s : Int) = true) (h2 : hasB t (p : Int) ((s : Int) + 1) = false) (w : World) :
    Calls Try.prog 7 #[spv a t l m b c g z, tuv p (s : Int)] w fun e w' => e = .returned (.tuple #[tuv 0 0, .bool false]) ∧ Below w.heap.size w w' := by
  have C1 := Lib.hid (has_nexW w a t l m b c g z p (s : Int) (p : Int) ((s : Int) + 1) ht h1)
  have C2 := Lib.hid (has_at a t l m b c g z ht h2)
  have HW := Lib.hid (@nexW_rows w a t l m b c g z p (s : Int) (p : Int) ((s : Int) + 1))
  clear h1 h2
  have h5 : ¬ (s : Int) + 1 = 4 := by omega
  go_enter Try.func7, Try.ntmps7
  go_wp2_with fail
  refine C1.out.mono ?_
  rintro e w1 ⟨rfl, hb⟩
  obtain ⟨R1, R2, R3, B, s1⟩ := HW.out w1 hb
  have H1 := Lib.hid R1
  have H2 := Lib.hid R2
  have H3 := Lib.hid R3
  have HB := Lib.hid B
  clear hb R1 R2 R3 B C1 HW
  go_wp2_with (first | (refine wpList_load_want rfl 26 _ rfl _ _ rfl (sp_load H1.out) ?_) | (refine wpList_load_want rfl 31 _ rfl _ _ rfl (tu_load H3.out) ?_))
  refine (C2.out _).mono ?_
  rintro e w2 ⟨rfl, hb⟩
  have s2 := hb.size
  have H4 := Lib.hid (H2.out.step hb)
  have H5 := Lib.hid (H3.out.step hb)
  have HB2 := Lib.hid (HB.out.trans (hb.mono HB.out.size))
  clear hb C2 H1 H2 H3 HB
  go_wp2_with (refine wpList_store_of rfl _ _ _ rfl ⟨w.heap.size + 1 + 1, 0, none⟩ _ rfl rfl (tu_store (p := 0) (s := 0) rfl H4.out) ?_)
  refine bodyPost_ret (results_row_tmp (fn := Try.f7) (p := 4) (u := 5) (b := w.heap.size + 1 + 1) (t := 31) (C := tuc 0 0) rfl _ rfl (H4.out.setRow _) Try.underlying31 rfl tu_size) rfl ⟨rfl, ?_⟩
  exact below_setRow HB2.out (by omega) _

set_option maxHeartbeats 1600000 in
theorem spnext_more2 (a t l m b c g z : Nat) (ht : t ≤ 4294967295) (p s : Nat) (hs : s ≤ 4611686018427387904) (h4 : ¬ s = 3) (h1 : hasB t p (s : Int) = true) (h2 : hasB t (p : Int) ((s : Int) + 1) = true) (w : World) :
    Calls Try.prog 7 #[spv a t l m b c g z, tuv p (s : Int)] w fun e w' => e = .returned (.tuple #[tuv (p : Int) ((s : Int) + 1), .bool true]) ∧ Below w.heap.size w w' := by
  have C1 := Lib.hid (has_nexW w a t l m b c g z p (s : Int) (p : Int) ((s : Int) + 1) ht h1)
  have C2 := Lib.hid (has_at a t l m b c g z ht h2)
  have HW := Lib.hid (@nexW_rows w a t l m b c g z p (s : Int) (p : Int) ((s : Int) + 1))
  clear h1 h2
  have h5 : ¬ (s : Int) + 1 = 4 := by omega
  go_enter Try.func7, Try.ntmps7
  go_wp2_with fail
  refine C1.out.mono ?_
  rintro e w1 ⟨rfl, hb⟩
  obtain ⟨R1, R2, R3, B, s1⟩ := HW.out w1 hb
  have H1 := Lib.hid R1
  have H2 := Lib.hid R2
  have H3 := Lib.hid R3
  have HB := Lib.hid B
  clear hb R1 R2 R3 B C1 HW
  go_wp2_with (first | (refine wpList_load_want rfl 26 _ rfl _ _ rfl (sp_load H1.out) ?_) | (refine wpList_load_want rfl 31 _ rfl _ _ rfl (tu_load H3.out) ?_))
  refine (C2.out _).mono ?_
  rintro e w2 ⟨rfl, hb⟩
  have s2 := hb.size
  have H4 := Lib.hid (H2.out.step hb)
  have H5 := Lib.hid (H3.out.step hb)
  have HB2 := Lib.hid (HB.out.trans (hb.mono HB.out.size))
  clear hb C2 H1 H2 H3 HB
  go_wp2_with (first | (refine wpList_load_want rfl _ _ rfl _ _ rfl (tu_load H5.out) ?_) | (refine wpList_store_of rfl _ _ _ rfl ⟨w.heap.size + 1 + 1, 0, none⟩ _ rfl rfl (tu_store rfl H4.out) ?_))
  refine bodyPost_ret (results_row_tmp (fn := Try.f7) (p := 4) (u := 5) (b := w.heap.size + 1 + 1) (t := 31) (C := tuc (p : Int) ((s : Int) + 1)) rfl _ rfl (H4.out.setRow _) Try.underlying31 rfl tu_size) rfl ⟨rfl, ?_⟩
  exact below_setRow HB2.out (by omega) _

end Go.Proofs.Ytioeialpldafmaa

/- Block of package address, and the document's, and whether a turn's addresses hang on no block, by their contracts. Condition: the package's tables read as they were laid. -/
import Derived.Test.YtnbdmkgldjhcaaaDoorAdSeed
namespace Go.Proofs.YtnbdmkgldjhcaaaDoor
set_option maxRecDepth 50000
open Go.RowKit Bb Bn

/-- what stands in memory while a block of addresses is made -/
structure Bk (w wr : World) (a t l m b c g z : Nat) (p s : Int) : Prop where
  sh : RowAt wr w.heap.size 28 (spc a t l m b c g z)
  tu : RowAt wr (w.heap.size + 1) 25 (tuc p s)
  rz : RowAt wr (w.heap.size + 1 + 1) 36 (wq zb)
  below : Below w.heap.size w wr
section
variable {w wr w' : World} {a t l m b c g z : Nat} {p s : Int}
theorem Bk.new (w : World) (a t l m b c g z : Nat) (p s : Int) : Bk w (((w.alloc (.cells (spc a t l m b c g z) 28)).alloc (.cells (tuc p s) 25)).alloc (.cells (wq zb) 36)) a t l m b c g z p s := by
  have H := tw_new a t l m b c g z p s w
  have B := two_box w (.cells (spc a t l m b c g z) 28) (.cells (tuc p s) 25)
  have hs : ((w.alloc (.cells (spc a t l m b c g z) 28)).alloc (.cells (tuc p s) 25)).heap.size = w.heap.size + 1 + 1 := by simp
  generalize (w.alloc (.cells (spc a t l m b c g z) 28)).alloc (.cells (tuc p s) 25) = w2 at *
  have r1 := RowAt.new w2 36 (wq zb)
  rw [hs] at r1
  exact ⟨H.sh.alloc _, H.tu.alloc _, r1, B.alloc (by omega) _⟩
theorem Bk.on (H : Bk w wr a t l m b c g z p s) (hb : Below wr.heap.size wr w') : Bk w w' a t l m b c g z p s := ⟨H.sh.step hb, H.tu.step hb, H.rz.step hb, H.below.trans (hb.mono H.below.size)⟩
end
theorem mix_at {x y : List Nat} (hx : okb x) (hy : okb y) {w : World} (ht : TAt w) {w' : World} (hb : Below w.heap.size w w') : Calls Tryd.prog 23 #[.agg (wq x), .agg (wq y)] w' fun e w2 => e = .returned (.agg (wq (mix x y))) ∧ Below w'.heap.size w' w2 := mix_any hx hy w' (ht.next hb)

set_option maxHeartbeats 3200000 in
theorem block_any {a : Nat} (ha : a = 1 ∨ a = 2 ∨ a = 3) (t l m b c g z : Nat) (p s k n : Int) (w : World) (ht : TAt w) : Calls Tryd.prog 9 #[spv a t l m b c g z, tuv p s, .int .i64 k, .int .i64 n] w fun e w' => e = .returned (.agg (wq (addL p k s b t ((a : Int) - 1) n))) ∧ Below w.heap.size w w' := by
  have CS := Lib.hid fun w => seed_any ha t l m b c g z p s k n w
  have HQ : Hid (addL p k s b t ((a : Int) - 1) n = mix zb (mix zb (seedL p k s b t ((a : Int) - 1) n))) := Lib.hid rfl
  have HO := Lib.hid (seed_ok p k s b t ((a : Int) - 1) n)
  have HB0 := Lib.hid (Bk.new w a t l m b c g z p s)
  have hz := zero_b
  have HT := Lib.hid ht
  generalize seedL p k s b t ((a : Int) - 1) n = q at *
  clear ha ht
  go_enter Tryd.func9, Tryd.ntmps9
  go_wp2_with (first
    | refine wpList_load_want rfl 28 _ rfl _ _ rfl (sp_load HB0.out.sh) ?_
    | refine wpList_load_want rfl 25 _ rfl _ _ rfl (tu_load HB0.out.tu) ?_
    | refine wpList_value_want rfl _ (bbuild_run _ _ rfl) ?_)
  generalize hW0 : World.alloc (World.alloc (World.alloc w _) _) _ = w0
  have HB : Hid (Bk w w0 a t l m b c g z p s) := Lib.hid (by subst hW0; exact HB0.out)
  clear hW0 HB0
  refine (CS.out _).mono ?_
  rintro e w1 ⟨rfl, hb⟩
  have HB1 := Lib.hid (HB.out.on hb)
  clear hb HB CS
  go_wp2_with fail
  refine (mix_at zb_ok HO.out HT.out HB1.out.below).mono ?_
  rintro e w2 ⟨rfl, hb⟩
  have HB2 := Lib.hid (HB1.out.on hb)
  have HO2 := Lib.hid (mix_ok zb_ok HO.out)
  generalize mix zb q = r at *
  clear hb HB1
  go_wp2_with fail
  refine (mix_at zb_ok HO2.out HT.out HB2.out.below).mono ?_
  rintro e w3 ⟨rfl, hb⟩
  have RZ := Lib.hid (HB2.out.on hb).rz
  have HB3 := Lib.hid (HB2.out.on hb).below
  have HLL : Hid ((wq (mix zb r)).size = 128) := Lib.hid (by rw [wq_size]; exact (mix_ok zb_ok HO2.out).1)
  generalize mix zb r = y at *
  clear hb HB2 HT
  go_wp2_with (refine wpList_store_row rfl 36 (.tmp 8) (.tmp 17) rfl (w.heap.size + 1 + 1) (wq y) rfl rfl 36 _ RZ.out (by rw [HLL.out]; exact b_size) (by rw [HLL.out]; rfl) (wq_one _) ?_)
  have hR := RowAt.setRow RZ.out (wq y)
  refine bodyPost_ret (v := .agg (wq y)) (results_cell_row rfl _ _ (w.heap.size + 1 + 1) 36 (wq y) (0, 0) _ rfl hR Tryd.underlying36 rfl (by rw [HLL.out]; exact b_size)) rfl ⟨by rw [HQ.out], ?_⟩
  exact below_setRow HB3.out (by omega) _

/-- whether a turn's addresses hang on no block -/
theorem free_any {a : Nat} (ha : a = 1 ∨ a = 2 ∨ a = 3) (t l m b c g z : Nat) (p s : Int) (hs : 0 ≤ s) (w : World) : Calls Tryd.prog 11 #[spv a t l m b c g z, tuv p s] w fun e w' => e = .returned (.bool (freeB a p s)) ∧ Below w.heap.size w w' := by
  have HB := Lib.hid (two_box w (.cells (spc a t l m b c g z) 28) (.cells (tuc p s) 25))
  unfold freeB
  rcases ha with rfl | rfl | rfl
  · go_enter Tryd.func11, Tryd.ntmps11
    go_wp2
    go_ret
    exact ⟨rfl, HB.out⟩
  · go_enter Tryd.func11, Tryd.ntmps11
    go_wp2
    go_ret
    exact ⟨rfl, HB.out⟩
  · rcases (show (p ≠ 0) ∨ (p = 0 ∧ s = 0) ∨ (p = 0 ∧ s = 1) ∨ (p = 0 ∧ 2 ≤ s) by omega) with h | ⟨rfl, rfl⟩ | ⟨rfl, rfl⟩ | ⟨rfl, h⟩
    · have e1 : (p == 0) = false := by simpa using h
      go_enter Tryd.func11, Tryd.ntmps11
      go_wp2
      go_ret
      exact ⟨by simp, HB.out⟩
    · go_enter Tryd.func11, Tryd.ntmps11
      go_wp2
      go_ret
      exact ⟨rfl, HB.out⟩
    · go_enter Tryd.func11, Tryd.ntmps11
      go_wp2
      go_ret
      exact ⟨rfl, HB.out⟩
    · have e1 : (s == 0) = false := by simp; omega
      have e2 : (s == 1) = false := by simp; omega
      go_enter Tryd.func11, Tryd.ntmps11
      go_wp2
      go_ret
      exact ⟨by simp; omega, HB.out⟩
/-- the document's -/
theorem rfree_any {a : Nat} (ha : a = 1 ∨ a = 2 ∨ a = 3) (t l m b c g z : Nat) (p s : Int) (w : World) : Calls Tryd.prog 12 #[spv a t l m b c g z, .int .i64 p, .int .i64 s] w fun e w' => e = .returned (.bool (freeB a p s)) ∧ Below w.heap.size w w' := by
  have HB := Lib.hid (one_box w (.cells (spc a t l m b c g z) 33))
  unfold freeB
  rcases ha with rfl | rfl | rfl
  · go_enter Tryd.func12, Tryd.ntmps12
    go_wp2
    go_ret
    exact ⟨rfl, HB.out⟩
  · go_enter Tryd.func12, Tryd.ntmps12
    go_wp2
    go_ret
    exact ⟨rfl, HB.out⟩
  · by_cases h : p = 0
    · subst h
      go_enter Tryd.func12, Tryd.ntmps12
      go_wp2
      go_ret
      exact ⟨by simp, HB.out⟩
    · have e1 : (p == 0) = false := by simpa using h
      go_enter Tryd.func12, Tryd.ntmps12
      go_wp2
      go_ret
      exact ⟨by simp, HB.out⟩
end Go.Proofs.YtnbdmkgldjhcaaaDoor

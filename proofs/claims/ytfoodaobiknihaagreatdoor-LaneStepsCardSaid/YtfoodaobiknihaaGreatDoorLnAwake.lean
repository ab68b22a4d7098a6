/- Chapter 34's example, and a lane's first steps, by their contract. Condition: blend's tables lie at their places. -/
import Derived.Test.YtfoodaobiknihaaGreatDoorLnAt
import Derived.Test.YtfoodaobiknihaaGreatDoorFlS
namespace Go.Proofs.YtfoodaobiknihaaGreatDoor
set_option maxRecDepth 50000
open Go.RowKit Bb Bn
section
variable {w : World} {b : Nat} {e k p s x y r c : Int}
theorem ev_at (H : RowAt w b 32 (evc e k p s x y r c)) : (loadVar 30 ⟨b, 4, none⟩).run Tryz.prog w = .ok (sov x y) w :=
  sub_load H so_agg spot_size 4 [.int .i64 x, .int .i64 y] rfl fun j u hj => by
    have hj2 : j < 2 := by
      have := (List.getElem?_eq_some_iff.1 hj).1
      simpa using this
    rcases (show j = 0 ∨ j = 1 by omega) with rfl | rfl
    all_goals exact hj
theorem ev_kind (H : RowAt w b 32 (evc e k p s x y r c)) : w.cell? ⟨b, 0, none⟩ = some (.int .i64 e) := (H.cell 0).trans rfl
theorem ev_lane (H : RowAt w b 32 (evc e k p s x y r c)) : w.cell? ⟨b, 1, none⟩ = some (.int .i64 k) := (H.cell 1).trans rfl
end
set_option maxHeartbeats 12800000 in
theorem awake34_any (w : World) (hT : TAt w) : Calls Tryz.prog 4 #[] w fun e w' => e = .returned (.bool true) ∧ Below w.heap.size w w' := by
  have HT := Lib.hid hT
  have HN : Hid (TabN w.heap.size) := Lib.hid ⟨hT.1.1, hT.2.1⟩
  have S : Sh 1 1 1 16 16 4 := ⟨.inl rfl, by decide, by decide, by decide, by decide, by decide, by decide, by decide, by decide⟩
  have R : Fl 1 1 16 4 0 0 0 2 := ⟨by decide, by decide, by decide, by decide, by decide⟩
  clear hT
  go_enter Tryz.func4, Tryz.ntmps4
  go_wp2_with fail
  refine (made_ex _).mono ?_
  rintro e w1 ⟨q, pc, h, G, rfl, hG, hGe, hb⟩
  have HG := Lib.hid hG
  have HGe := Lib.hid hGe
  have HB := Lib.hid hb
  clear hG hb hGe
  go_wp2_with fail
  refine (lnew_nil 0 _).mono ?_
  rintro e w2 ⟨rfl, rfl⟩
  have CN := Lib.hid (lnew_any HG.out 0 (by decide))
  go_wp2_with fail
  refine CN.out.mono ?_
  rintro e w3 ⟨b, x, rfl, hbw, hxw, hr, hs, hb3⟩
  have hG3 := HG.out.step hb3
  have hB3 := HB.out.trans (hb3.mono HB.out.size)
  have hz1 := HB.out.size
  have HLk := look_at S R hG3 (by simp) (HT.out.next hB3) HN.out (show w.heap.size ≤ x by omega) (show LnAt w3 q 1 1 1 16 16 16 4 32 0 b x (.go 0 0 2 none) from ⟨hr, hs⟩) 0 ex_word
  rw [ex_lane, ex_col] at HLk
  have CL := Lib.hid HLk
  have HB3 := Lib.hid hB3
  have HW : Hid (w.heap.size ≤ b ∧ w.heap.size ≤ x) := Lib.hid ⟨by omega, by omega⟩
  clear CN HG HB hb3 hG3 hB3 HLk hr hs hbw hxw hz1
  go_wp2_with fail
  refine CL.out.mono ?_
  rintro e w4 ⟨rfl, hA4, hG4, hk4⟩
  have hB4 : Below w.heap.size w w4 := HB3.out.trans (hk4.below HB3.out.size fun y hy => by have := HW.out; omega)
  obtain ⟨w5, e5⟩ : ∃ w5, w5 = w4.alloc (.cells (evc 1 0 0 0 0 2 0 0) 32) := ⟨_, rfl⟩
  have b5 : Below w4.heap.size w4 w5 := by rw [e5]; exact one_box _ _
  have HE5 : Hid (RowAt w5 w4.heap.size 32 (evc 1 0 0 0 0 2 0 0)) := Lib.hid (by rw [e5]; exact RowAt.new _ _ _)
  have hB5 := below_step hB4 b5
  have HFl := fill_at S R (hG4.step b5) (by simp) (HT.out.next hB5) HGe.out (hA4.step b5) _ rfl
  rw [ex_lane, ex_col] at HFl
  have CF := Lib.hid HFl
  have HB5 := Lib.hid hB5
  have E5 := Lib.hid e5
  have HT7 : Hid (b < w4.heap.size ∧ G < w4.heap.size) := Lib.hid ⟨hA4.lt, hG4.live.blk.lt⟩
  clear CL hA4 hG4 hk4 hB4 e5 b5 hB5 HFl HB3
  go_upto_region 6 with fail
  rw [← E5.out]
  clear E5
  generalize w4.heap.size = T7 at *
  go_wp2_with fail
  refine CF.out.mono ?_
  rintro e w6 ⟨rfl, hA6, hG6, hk6⟩
  have hB6 : Below w.heap.size w w6 := HB5.out.trans (hk6.below HB5.out.size fun y hy => by have := HW.out; have := HGe.out; omega)
  have hE6 := RowAt.kept HE5.out hk6 (by have := HT7.out; omega)
  obtain ⟨w7, e7⟩ : ∃ w7, w7 = w6.alloc (.cells (evc 2 0 0 0 0 2 0 0) 32) := ⟨_, rfl⟩
  have b7 : Below w6.heap.size w6 w7 := by rw [e7]; exact one_box _ _
  have HE7 : Hid (RowAt w7 w6.heap.size 32 (evc 2 0 0 0 0 2 0 0)) := Lib.hid (by rw [e7]; exact RowAt.new _ _ _)
  have hE67 := RowAt.step hE6 b7
  have HB7 := Lib.hid (below_step hB6 b7)
  have k1 := ev_kind hE67
  have k2 := ev_kind HE7.out
  have E7 := Lib.hid e7
  have H1 := Lib.hid (spot_same 0 2 (by decide) (by decide))
  have CD := Lib.hid done_none
  clear CF hA6 hG6 hk6 hB6 hE6 hE67 e7 b7 HB5
  go_upto_region 7 with fail
  rw [← E7.out]
  clear E7
  generalize w6.heap.size = T9 at *
  go_wp2_with fail
  refine (CD.out _).mono ?_
  rintro e w8 ⟨rfl, rfl⟩
  go_wp2_with (first
    | refine wpList_load_want rfl 30 _ rfl _ _ rfl (ev_at HE7.out) ?_
    | refine wpList_value_want rfl _ (col_run (y := 2) rfl rfl) ?_
    | refine wpList_value_want rfl _ (cmp_run _ _ _ _ rfl rfl rfl g_so (H1.out _)) ?_)
  go_ret
  exact ⟨rfl, HB7.out⟩
end Go.Proofs.YtfoodaobiknihaaGreatDoor

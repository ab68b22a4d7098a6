/- A first block of package grid by its contract. Condition: blake's table lies at its place. -/
import Derived.Test.YtpampgkhjcfeaaaDoorGdTag
namespace Go.Proofs.YtpampgkhjcfeaaaDoor
set_option maxRecDepth 50000
open Go.RowKit Bb Bl

/-- what a first block is made of, and the block -/
def fS (s : ByteArray) (i k : Nat) : List UInt8 := longL 1024 (tl s ++ (lead k ++ lead i))
def fB (s : ByteArray) (i k : Nat) : List Nat := frB (nb (tx (fS s i k)))
theorem fB_ok (s : ByteArray) (i k : Nat) : okb (fB s i k) := frB_ok _ (nb_lt _)

set_option maxHeartbeats 6400000 in
theorem gfirst_any (s : ByteArray) (hs : s.size ≤ 1000) (i k : Nat) (hi : i ≤ 1000) (hk : k ≤ 1000) (w : World) (hK : QAt w) : Calls Tryd.prog 29 #[.string s, .int .i64 (i : Int), .int .i64 (k : Int)] w fun e w' => e = .returned (.agg (wq (fB s i k))) ∧ Below w.heap.size w w' := by
  have hz := zero_b
  obtain ⟨B, hB⟩ : ∃ B, B = fB s i k := ⟨_, rfl⟩
  have HBO : Hid (okb B) := Lib.hid (by rw [hB]; exact fB_ok s i k)
  rw [← hB]
  obtain ⟨T, hT⟩ : ∃ T, T = tx (fS s i k) := ⟨_, rfl⟩
  have htl : tl s = s.data.toList := rfl
  have hsl : (tl s).length ≤ 1000 := by rw [htl, Array.length_toList]; exact hs
  have hl8 : (tl s ++ (lead k ++ lead i)).length ≤ 100000 := by rw [List.length_append, List.length_append, lead_length, lead_length]; omega
  have hTs : T.size = 1024 := by rw [hT]; exact longL_tx 1024 (by decide) _ hl8
  have CF := Lib.hid (from_any T hTs)
  have hBT : B = frB (nb T) := by rw [hB, hT]; rfl
  rw [← hBT] at CF
  have h1 : IntKind.u32.wrap (k : Int) = (k : Int) := by rw [IntKind.wrap_u32]; omega
  have h2 : IntKind.u32.wrap (i : Int) = (i : Int) := by rw [IntKind.wrap_u32]; omega
  obtain ⟨w1, e1⟩ : ∃ w1, w1 = w.alloc (.cells (wq zb) 29) := ⟨_, rfl⟩
  have b1 : Below w.heap.size w w1 := by rw [e1]; exact one_box _ _
  have r1 : RowAt w1 w.heap.size 29 (wq zb) := by rw [e1]; exact RowAt.new _ _ _
  have b2 : Below w1.heap.size w1 (w1.alloc (.cells #[.int .u32 (k : Int), .int .u32 (i : Int)] 82)) := one_box _ _
  have CL := Lib.hid (little32_any (some ⟨w1.heap.size, 0, none⟩) 2 [k, i] (w1.alloc (.cells #[.int .u32 (k : Int), .int .u32 (i : Int)] 82)) (fun j hj => by
    have hj2 : j < 2 := by simpa [u32s] using hj
    refine ⟨w1.heap.size, 0, rfl, by simp, ?_⟩
    rw [Nat.zero_add, (RowAt.new w1 82 #[.int .u32 (k : Int), .int .u32 (i : Int)]).cell j]
    rcases (show j = 0 ∨ j = 1 by omega) with rfl | rfl <;> rfl) (by simp) (fun x hx => by simp at hx; omega))
  have HK := Lib.hid hK
  have HB1 := Lib.hid b1
  have HR1 := Lib.hid r1
  have HB2 := Lib.hid (below_step b1 b2)
  have E1 := Lib.hid e1
  have HS1 : Hid (w.heap.size + 1 = w1.heap.size) := Lib.hid (by rw [e1, World.size_alloc])
  have HT := Lib.hid hT
  have HL8 := Lib.hid hl8
  clear hK hB hT b1 b2 r1 e1 hBT htl hsl hl8 hTs hs
  go_enter Tryd.func29, Tryd.ntmps29
  go_wp2_with fail
  rw [← E1.out, HS1.out]
  refine CL.out.mono ?_
  rintro e w2 ⟨v, rfl, hown, hb⟩
  have e4 : u8s ([k, i].flatMap (bytesOf ups 4)) = cs (lead k ++ lead i) := by
    rw [show cs (lead k ++ lead i) = cs (lead k) ++ cs (lead i) by simp [cs], ← lead_cs, ← lead_cs]
    simp [u8s]
  rw [e4] at hown
  obtain ⟨A', c', rfl, -, _, _⟩ := own_form hown
  have hcv : (convert 80 9 (.slice A' 8 c')).run Tryd.prog w2 = .ok (.string (tx (lead k ++ lead i))) w2 := conv_text _ hown
  have HB3 := Lib.hid (below_step HB2.out hb)
  have HR3 := Lib.hid (RowAt.step HR1.out (below_step (one_box _ _) hb))
  clear CL hown hb HB2 HR1 E1 e4
  obtain ⟨U, hU⟩ : ∃ U, U = tx (lead k ++ lead i) := ⟨_, rfl⟩
  rw [← hU] at hcv
  have CB := Lib.hid (block_any (w2.alloc (.cells #[.string s, .string U] 9)) (HK.out.next (below_step HB3.out (one_box _ _))) (some ⟨w2.heap.size, 0, none⟩) 2 [s, U] (fun j hj => by
    have hj2 : j < 2 := by simpa [stv] using hj
    refine ⟨w2.heap.size, 0, rfl, by simp, ?_⟩
    rw [Nat.zero_add, (RowAt.new w2 9 #[.string s, .string U]).cell j]
    rcases (show j = 0 ∨ j = 1 by omega) with rfl | rfl <;> rfl) (by rw [jn_two, hU, tl_tx]; exact HL8.out) (by simp))
  rw [jn_two, hU, tl_tx, show tx (longL 1024 (tl s ++ (lead k ++ lead i))) = T from HT.out.symm, ← hU] at CB
  have HB4 := Lib.hid (below_step HB3.out (one_box w2 (.cells #[.string s, .string U] 9)))
  have HR4 := Lib.hid (RowAt.step HR3.out (one_box w2 (.cells #[.string s, .string U] 9)))
  clear hU HB3 HR3 HT HL8 HK
  go_wp2_with fail
  refine CB.out.mono ?_
  rintro e w3 ⟨rfl, hb⟩
  have HB5 := Lib.hid (below_step HB4.out hb)
  have HR5 := Lib.hid (RowAt.step HR4.out hb)
  clear CB hb HB4 HR4 hcv
  go_wp2_with fail
  refine (CF.out _).mono ?_
  rintro e w4 ⟨rfl, hb⟩
  have hb2 := below_step hb (set_below w4 B)
  have HST := Lib.hid (set_new w4 HBO.out.1)
  have HB6 := Lib.hid (below_step HB5.out hb2)
  have HR6 := Lib.hid (RowAt.step HR5.out hb2)
  have HX6 := Lib.hid (RowAt.setRow (RowAt.new w4 29 (wq zb)) (wq B))
  clear CF hb hb2 HB5 HR5
  go_upto_region 2 with (refine wpList_store_of rfl _ _ _ rfl ⟨w4.heap.size, 0, none⟩ _ rfl rfl HST.out ?_)
  clear HST
  generalize World.setRow _ _ _ = w5 at *
  generalize w4.heap.size = X at *
  have kX := RowAt.load HX6.out Tryd.underlying29 (by rw [wq_size, HBO.out.1]; exact b_size)
  have HST := Lib.hid (HR6.out.store (C' := wq B) (by rw [wq_size, HBO.out.1]; exact b_size) (by rw [wq_size, wq_size, HBO.out.1]; exact zb_ok.1) (wq_one _))
  go_wp2_with (first
    | refine wpList_load_want rfl 29 _ rfl _ _ rfl kX ?_
    | refine wpList_store_of rfl _ _ _ rfl ⟨w.heap.size, 0, none⟩ _ rfl rfl HST.out ?_)
  have hR := RowAt.setRow HR6.out (wq B)
  refine bodyPost_ret (v := .agg (wq B)) (results_cell_row rfl _ _ w.heap.size 29 _ (0, 0) _ rfl hR Tryd.underlying29 rfl (by rw [wq_size, HBO.out.1]; exact b_size)) rfl ⟨rfl, ?_⟩
  exact below_setRow HB6.out (Nat.le_refl _) _
end Go.Proofs.YtpampgkhjcfeaaaDoor

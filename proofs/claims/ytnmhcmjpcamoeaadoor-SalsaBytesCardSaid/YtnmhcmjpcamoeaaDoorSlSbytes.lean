/- The law SalsaBytes by the calls' contracts. Condition: the package's table reads as it was laid. -/
import Derived.Test.YtnmhcmjpcamoeaaDoorSlBytes
import Derived.Test.YtnmhcmjpcamoeaaDoorSlRcore
import Derived.Test.YtnmhcmjpcamoeaaDoorLink
import Derived.Test.YtnmhcmjpcamoeaaDoorShTwo
import Derived.Deep.LoopGhost
import Derived.WalkMore
namespace Go.Proofs.YtnmhcmjpcamoeaaDoor
set_option maxRecDepth 50000
open Go.RowKit Rot Sl

/-- numbers as bytes -/
def bytesL (l : List Nat) : List UInt8 := l.map UInt8.ofNat
theorem cs_bytesL (l : List Nat) (h : ∀ x ∈ l, x < 256) : cs (bytesL l) = u8s l := by
  unfold cs bytesL u8s
  rw [List.map_map]
  refine List.map_congr_left fun x hx => ?_
  have := h x hx
  simp; omega
theorem mixL_lt (bs : List Nat) : ∀ x ∈ mixL bs, x < 256 := flat_lt ups 4 _
/-- the first k words put to their places -/
def setTo (ws : List Nat) : Nat → List Nat
  | 0 => List.replicate 16 0
  | k + 1 => (setTo ws k).set k (ws.getD k 0)
theorem setTo_length (ws : List Nat) : ∀ k, (setTo ws k).length = 16
  | 0 => by simp [setTo]
  | k + 1 => by rw [setTo, List.length_set, setTo_length ws k]
theorem setTo_all (ws : List Nat) (h : ws.length = 16) : setTo ws 16 = ws := by
  match ws, h with
  | [_, _, _, _, _, _, _, _, _, _, _, _, _, _, _, _], _ => rfl

set_option maxHeartbeats 800000 in
theorem sbytes_bad (A : Option Addr) (n c : Nat) (hn : n ≠ 64) (w : World) (hk : QAt w) :
    Calls Tryd.prog 5 #[.slice A n c] w fun e w' => e = .returned (.bool true) ∧ Below w.heap.size w w' := by
  have h1 : ((n : Int) == 64) = false := by simp; omega
  have h2 : ¬ (n : Int) = 64 := by omega
  have HC := Lib.hid fun w => bytes_bad A n c hn w
  have HK := Lib.hid hk
  clear hk
  go_enter Tryd.func5, Tryd.ntmps5
  go_wp2_with fail
  refine (awake_any _ HK.out).mono ?_
  rintro e w1 ⟨rfl, b1⟩
  have B1 := Lib.hid b1
  clear b1
  go_wp2_with fail
  refine (HC.out w1).mono ?_
  rintro e w2 ⟨rfl, rfl⟩
  go_wp2
  go_ret
  exact ⟨rfl, B1.out⟩

set_option maxHeartbeats 3200000 in
theorem sbytes_good (A : Option Addr) (c : Nat) (bs : List Nat) (hbs : bs.length = 64) (hx : ∀ x ∈ bs, x < 256) (w : World) (hk : QAt w) (hr : Reads w w.heap.size A (u8s bs)) :
    Calls Tryd.prog 5 #[.slice A 64 c] w fun e w' => e = .returned (.bool true) ∧ Below w.heap.size w w' := by
  have HB := Lib.hid fun (w1 : World) (hb : Below w.heap.size w w1) => bytes_any A c bs hbs hx w1 (hk.next hb) ((hr.below hb).more hb.size)
  have HWD := Lib.hid fun (w1 : World) (hb : Below w.heap.size w w1) => by
    have h := words4_any A c bs 16 hbs w1 ((hr.below hb).more hb.size) (by omega) hx
    rw [hbs, ← link4 16 bs hx] at h
    exact h
  have HBW : Hid (wordsAt ups 4 16 bs (4 * 16) = words16 bs) := Lib.hid rfl
  have HWL := Lib.hid (words16_length bs)
  have HWO := Lib.hid (words16_ok bs hx)
  have HM : Hid (mixL bs = (core (words16 bs) 4).flatMap (bytesOf ups 4)) := Lib.hid rfl
  have HCV := Lib.hid (cs_bytesL (mixL bs) (mixL_lt bs))
  have HK := Lib.hid hk
  obtain ⟨i0, hi, hz0, hz1, hz2⟩ := info_parts Tryd.info5
  clear hbs hx hk hr
  go_enter Tryd.func5, Tryd.ntmps5
  go_wp2_with fail
  refine (awake_any _ HK.out).mono ?_
  rintro e w1 ⟨rfl, b1⟩
  have B1 := Lib.hid b1
  clear b1
  go_wp2_with fail
  refine (HB.out w1 B1.out).mono ?_
  rintro e w2 ⟨v, rfl, hown, b2⟩
  obtain ⟨A1, c1, rfl, hl1, hl2, hl3⟩ := own_form hown
  have HO2 := Lib.hid hown
  have B2 := Lib.hid (below_step B1.out b2)
  clear hown b2 hl1 hl2 hl3 HB B1
  go_wp2_with fail
  refine (HWD.out w2 B2.out).mono ?_
  rintro e w3 ⟨v, rfl, hown, b3⟩
  rw [HBW.out] at hown
  obtain ⟨A2, c2, rfl, hl1, hl2, hl3⟩ := own_form hown
  obtain ⟨g, rfl, hg⟩ := hl2 (by omega)
  have hrd := Reads.of_own hown
  generalize words16 bs = ws at *
  have HRM : Hid (g < w3.heap.size ∧ ∀ k, k < 16 → w3.cell? ⟨g, k, none⟩ = some (.int .u64 (ws.getD k 0 : Nat))) := Lib.hid ⟨by
    obtain ⟨b', off', e', h', _⟩ := hrd 0 (by rw [u64s_length, HWL.out]; decide)
    cases e'; exact h', fun k hk => by
    obtain ⟨b', off', e', _, hc'⟩ := hrd k (by rw [u64s_length, HWL.out]; exact hk)
    cases e'
    rw [Nat.zero_add] at hc'
    rw [hc', u64_at, List.getD_eq_getElem?_getD, List.getElem?_eq_getElem (by rw [HWL.out]; exact hk)]
    rfl⟩
  have HO3 := Lib.hid (own_kept (M := fun _ => False) HO2.out (Kept.of_below b3) (fun _ _ h => h))
  have B3 := Lib.hid (below_step B2.out b3)
  clear hown b3 hl1 hl2 hl3 hg hrd HO2 B2 HWD HBW
  have HO4 := Lib.hid (own_kept (M := fun _ => False) HO3.out (Kept.of_below ((Below.refl _ w3).alloc (Nat.le_refl _) (.cells (wd (List.replicate 16 0)) 23))) (fun _ _ h => h))
  have HR4 := Lib.hid (RowAt.new w3 23 (wd (List.replicate 16 0)))
  have B4 := Lib.hid ((Below.refl _ w3).alloc (Nat.le_refl _) (.cells (wd (List.replicate 16 0)) 23))
  go_wp2
  obtain ⟨B, hB⟩ : ∃ B, B = w3.heap.size := ⟨_, rfl⟩
  rw [← hB]
  generalize hW : World.alloc _ _ = w4
  have HX : Hid (RowAt w4 B 23 (wd (setTo ws 0)) ∧ Below w3.heap.size w3 w4) := Lib.hid (by subst hW; subst hB; exact ⟨HR4.out, B4.out⟩)
  have HBe := Lib.hid hB
  clear hW HR4 B4 HO4 hB
  go_loopw [34] (fun v34 wr => ∃ j : Nat, j ≤ 16 ∧ v34 = .int .i64 (j : Int) ∧ RowAt wr B 23 (wd (setTo ws j)) ∧ Below w3.heap.size w3 wr) (fun v34 _ => 16 - (intOf v34).toNat)
  case atStart => exact ⟨0, by omega, rfl, HX.out.1, HX.out.2⟩
  case round =>
    clear HX
    obtain ⟨j, hj, rfl, R, hb⟩ := hrel
    have HR := Lib.hid R
    have HBr := Lib.hid hb
    by_cases h6 : j < 16
    · have hd : decide ((j : Int) < 16) = true := by simp; omega
      have cj := (hb.cell (p := ⟨g, j, none⟩) HRM.out.1).trans (HRM.out.2 j h6)
      have hlt := HWO.out.at_ j
      have hsl := setTo_length ws j
      have dj := (R.cell j).trans (wd_at _ j (by omega))
      have fj := R.frozen j
      have HF : Hid (setTo ws (j + 1) = (setTo ws j).set j (ws.getD j 0)) := Lib.hid rfl
      generalize setTo ws j = z at *
      generalize ws.getD j 0 = x at *
      generalize z.getD j 0 = y at *
      have hwr : IntKind.u32.wrap (x : Int) = (x : Int) := by rw [IntKind.wrap_u32]; omega
      have hj6 : (j : Int) < 16 := by omega
      clear R hb hsl
      go_wp2
      go_roundw
      case rel =>
        refine ⟨j + 1, by omega, by go_num, ?_, HBr.out.setCell (by have := HBe.out; simp; omega) _⟩
        rw [HF.out, ← wd_set]
        exact HR.out.setCell j _
      case measure => simp [intOf]; omega
    · obtain rfl : j = 16 := by omega
      have hd : decide (((16 : Nat) : Int) < 16) = false := by simp
      rw [setTo_all ws HWL.out] at R
      have HR5 := Lib.hid R
      have CR := Lib.hid (rcore_any ws HWL.out HWO.out 4 (by decide) wr)
      have HS := Lib.hid (show (wd ws).size = 16 by rw [wd_size]; exact HWL.out)
      have HO5 := Lib.hid (own_kept (M := fun _ => False) HO3.out (Kept.of_below hb) (fun _ _ h => h))
      have B5 := Lib.hid (below_step B3.out hb)
      clear R hb HR HBr HO3 B3 HRM
      go_wp2_with (refine wpList_load_row rfl 23 (.tmp 7) rfl B rfl 23 (wd ws) (0, 0) _ HR5.out Tryd.underlying23 rfl (by rw [HS.out]; exact size_16) ?_)
      refine CR.out.mono ?_
      rintro e w5 ⟨rfl, b5⟩
      have HO6 := Lib.hid (own_kept (M := fun _ => False) HO5.out (Kept.of_below b5) (fun _ _ h => h))
      have B6 := Lib.hid (below_step B5.out b5)
      have hzl : (core ws 4).length = 16 := by rw [core_length]; exact HWL.out
      have hzo := core_ok HWO.out 4
      generalize core ws 4 = z at *
      have HZL := Lib.hid hzl
      have HZO := Lib.hid hzo
      clear b5 CR HR5 HO5 B5 HS hzl hzo
      go_wp2
      obtain ⟨N, hN⟩ : ∃ N, N = w5.heap.size := ⟨_, rfl⟩
      have hNs : N ≤ w5.heap.size := by omega
      have HN0 := Lib.hid hN
      clear hN
      go_loopg [9, 47] 16 (fun g v9 v47 wq => ∃ (j n c : Nat) (A : Option Addr), j + g = 16 ∧ n = 4 * j ∧ v47 = .int .i64 (j : Int) ∧ v9 = .slice A n c ∧ wq.ownsRow N 5 1 (.slice A n c) n (u8s ((z.take j).flatMap (bytesOf ups 4))) ∧ Below N w5 wq)
      case atStart => exact ⟨0, 0, 0, none, rfl, rfl, rfl, rfl, World.ownsRow_nil _ _ _ _, Below.refl _ _⟩
      case round =>
        obtain ⟨j, n, c, A, hj, hn, rfl, rfl, hown, hbq⟩ := hrel
        have HOW := Lib.hid hown
        have HBq := Lib.hid hbq
        have hszq : N ≤ wr.heap.size := by have := hbq.size; omega
        by_cases h : j < 16
        · obtain ⟨g2, rfl⟩ : ∃ g2, gk = g2 + 1 := ⟨gk - 1, by omega⟩
          have cj := wd_at z j (by rw [HZL.out]; exact h)
          have hx := HZO.out.at_ j
          have hsn := flat_snoc (bytesOf ups 4) z j (by rw [HZL.out]; exact h)
          have hg : z[j]'(by rw [HZL.out]; exact h) = z.getD j 0 := by
            rw [List.getD_eq_getElem?_getD, List.getElem?_eq_getElem (by rw [HZL.out]; exact h)]; rfl
          rw [hg] at hsn
          have HSN := Lib.hid hsn
          have HJ := Lib.hid (And.intro hj (And.intro hn h))
          have hdj : decide ((j : Int) < 16) = true := by simp; omega
          have hnb : n ≤ 64 := by omega
          generalize z.getD j 0 = x at *
          have hix := run_index_arr (P := Tryd.prog) wr Tryd.underlying23 size_u32 Tryd.underlying22 j h cj
          clear hg hsn hown hbq hj hn
          go_wp2_with fail
          refine (of32_own x wr hx).mono ?_
          rintro e w6 ⟨g3, c3, rfl, hown3, hb6⟩
          have HA := Lib.hid (cells_own hown3)
          have HO7 := Lib.hid (own_kept (M := fun _ => False) HOW.out (Kept.of_below hb6) (fun _ _ h => h))
          have HB7 := Lib.hid (HBq.out.trans (hb6.mono hszq))
          have hsz6 : N ≤ w6.heap.size := by have := hb6.size; omega
          clear hown3 hb6
          go_wp2_with (at_builtin; refine wpList_append_own _ rfl (.tmp 50) (.tmp 52) 37 rfl N 5 i0 (.int .u8 0) 1 1 Tryd.underlying37 hi hz0 hz1 hz2 rfl (by decide) _ _ _ rfl HO7.out ⟨g3, 0, none⟩ 4 c3 (u8s (bytesOf ups 4 x)) rfl (by rw [u8s_length, bytesOf_length]) ?d1 ?d2 ?d3 ?d4 ?d5 ?_)
          case d1 => exact HA.out
          case d2 => exact u8s_one _
          case d3 => unfold maxLen; omega
          case d4 => omega
          case d5 => omega
          intro v' w7 hown7 hg7 _
          rw [← u8s_append, ← HSN.out] at hown7
          obtain ⟨A', c', rfl, _, _, _⟩ := own_form hown7
          have HB8 := Lib.hid (HB7.out.grown hg7 hsz6 (fun k hk => (HO7.out.lt k hk).1))
          have HO8 := Lib.hid hown7
          clear hown7 hg7 hix
          go_wp2
          go_roundg g2
          case measure => omega
          case rel =>
            obtain ⟨j1, j2, j3⟩ := HJ.out
            exact ⟨j + 1, n + 4, c', A', by omega, by omega, by go_num, rfl, HO8.out, HB8.out⟩
        · obtain rfl : j = 16 := by omega
          have hdj : decide (((16 : Nat) : Int) < 16) = false := by simp
          obtain rfl : n = 64 := hn
          rw [List.take_of_length_le (by rw [HZL.out]; exact Nat.le_refl 16), ← HM.out, ← HCV.out] at hown
          have hc2 := conv_text wr hown
          have hown1 := own_kept (M := fun _ => False) HO6.out (Kept.of_below (hbq.mono (by have := HN0.out; omega) : Below w5.heap.size w5 wr)) (fun _ _ h => h)
          rw [← HCV.out] at hown1
          have hc1 := conv_text wr hown1
          have BF := Lib.hid (below_step B6.out (hbq.mono (by have := HN0.out; omega)))
          clear hown hown1 hbq HBq HOW hj
          go_wp2
          go_ret
          exact ⟨rfl, BF.out⟩

theorem sbytes_any (A : Option Addr) (n c : Nat) (bs : List Nat) (hn : bs.length = n) (hx : ∀ x ∈ bs, x < 256) (w : World) (hk : QAt w) (hr : Reads w w.heap.size A (u8s bs)) :
    Calls Tryd.prog 5 #[.slice A n c] w fun e w' => e = .returned (.bool true) ∧ Below w.heap.size w w' := by
  by_cases h : n = 64
  · subst h; exact sbytes_good A c bs hn hx w hk hr
  · exact sbytes_bad A n c h w hk
end Go.Proofs.YtnmhcmjpcamoeaaDoor

/- Bytes of package salsa by its contract. Condition: the package's table reads as it was laid. -/
import Derived.Test.YtnmhcmjpcamoeaaDoorSlAwake
import Derived.Test.YtnmhcmjpcamoeaaDoorBack
import Derived.Test.YtnmhcmjpcamoeaaDoorLow32
import Derived.Test.YtnmhcmjpcamoeaaDoorFdHeld
import Derived.Deep.Onto
namespace Go.Proofs.YtnmhcmjpcamoeaaDoor
set_option maxRecDepth 50000
open Go.RowKit Rot Sl

/-- 64 bytes as words, the lowest byte first -/
def words16 (bs : List Nat) : List Nat := wordsAt ups 4 16 bs (4 * 16)
theorem words16_length (bs : List Nat) : (words16 bs).length = 16 := by simp [words16, wordsAt]
theorem words16_ok (bs : List Nat) (hx : ∀ x ∈ bs, x < 256) : okw (words16 bs) := by
  intro x h
  simp only [words16, wordsAt, List.mem_map, List.mem_range] at h
  obtain ⟨j, _, rfl⟩ := h
  exact wordAt_lt ups 4 (fun i h => h) bs hx _ _
/-- what 64 bytes are mixed to -/
def mixL (bs : List Nat) : List Nat := (core (words16 bs) 4).flatMap (bytesOf ups 4)
theorem mixL_length (bs : List Nat) : (mixL bs).length = 64 := by
  unfold mixL
  rw [flat_length, core_length, words16_length]

set_option maxHeartbeats 800000 in
theorem bytes_bad (A : Option Addr) (n c : Nat) (hn : n ≠ 64) (w : World) :
    Calls Tryd.prog 15 #[.slice A n c] w fun e w' => e = .returned (.tuple #[.slice none 0 0, .int .i64 9]) ∧ w = w' := by
  have h1 : ((n : Int) == 64) = false := by simp; omega
  have h2 : ¬ (n : Int) = 64 := by omega
  go_enter Tryd.func15, Tryd.ntmps15
  go_wp2
  go_ret2
  exact ⟨rfl, rfl⟩

/-- an array loaded out of a made row -/
theorem load_made {w : World} {g : Nat} {L : List Nat} (hL : L.length = 16) (h : ∀ k, k < 16 → w.cell? ⟨g, k, none⟩ = some (.int .u32 (L.getD k 0 : Nat))) : (loadVar 23 ⟨g, 0, none⟩).run Tryd.prog w = .ok (.agg (wd L)) w := by
  have hl : (loadCells ⟨g, 0, none⟩ (u32s L).length).run Tryd.prog w = .ok (u32s L).toArray w :=
    run_loadCells_list (P := Tryd.prog) w ⟨g, 0, none⟩ _ (fun j v hv => by
      have hadd : (⟨g, 0, none⟩ : Addr).add j = ⟨g, j, none⟩ := by unfold Addr.add; split <;> simp_all
      have hj : j < 16 := by
        have := (List.getElem?_eq_some_iff.1 hv).1
        rwa [u32s_length, hL] at this
      rw [hadd, h j hj, ← hv]
      unfold u32s
      rw [List.getElem?_map, List.getElem?_eq_getElem (by omega), List.getD_eq_getElem?_getD, List.getElem?_eq_getElem (by omega)]
      rfl)
  rw [u32s_length, hL] at hl
  have hz := size_16
  cases hq : Tryd.prog.info? 23 with
  | none => rw [hq] at hz; simp at hz
  | some i =>
    have hsz : i.size = 16 := by rw [hq] at hz; simpa using hz
    simp [loadVar, Sem.run_bind, sizeOf, typeInfo, hq, hsz, hl, wd]

theorem array_at (g c : Nat) (w : World) : (Instr.arrayAt 23 (.slice (some ⟨g, 0, none⟩) 16 c)).run Tryd.prog w = .ok (.pointer (some ⟨g, 0, none⟩)) w := by
  simp [Instr.arrayAt, go_sem]

set_option maxHeartbeats 1600000 in
theorem bytes_any (A : Option Addr) (c : Nat) (bs : List Nat) (hbs : bs.length = 64) (hx : ∀ x ∈ bs, x < 256) (w : World) (hk : QAt w) (hr : Reads w w.heap.size A (u8s bs)) :
    Calls Tryd.prog 15 #[.slice A 64 c] w fun e w' => ∃ v, e = .returned (.tuple #[v, .int .i64 0]) ∧ w'.ownsRow w.heap.size 5 1 v 64 (u8s (mixL bs)) ∧ Below w.heap.size w w' := by
  have C := take32_any A c bs 16 hbs w hr (by omega) hx
  rw [hbs] at C
  have HC := Lib.hid C
  have HBW : Hid (wordsAt ups 4 16 bs (4 * 16) = words16 bs) := Lib.hid rfl
  have HWL := Lib.hid (words16_length bs)
  have HWO := Lib.hid (words16_ok bs hx)
  have HM : Hid (mixL bs = (core (words16 bs) 4).flatMap (bytesOf ups 4)) := Lib.hid rfl
  have HQ := Lib.hid hk
  clear C hbs hx hk hr
  go_enter Tryd.func15, Tryd.ntmps15
  go_wp2_with fail
  refine HC.out.mono ?_
  rintro e w1 ⟨v, rfl, hown, hb⟩
  rw [HBW.out] at hown
  generalize words16 bs = ws at *
  obtain ⟨A', c', rfl, hl1, hl2, hl3⟩ := own_form hown
  obtain ⟨g, rfl, hg⟩ := hl2 (by omega)
  have hrd := Reads.of_own hown
  have HRM : Hid (∀ k, k < 16 → w1.cell? ⟨g, k, none⟩ = some (.int .u32 (ws.getD k 0 : Nat))) := Lib.hid fun k hk => by
    obtain ⟨b', off', e', _, hc'⟩ := hrd k (by rw [u32s_length, HWL.out]; exact hk)
    cases e'
    rw [Nat.zero_add] at hc'
    rw [hc', u32_at, List.getD_eq_getElem?_getD, List.getElem?_eq_getElem (by rw [HWL.out]; exact hk)]
    rfl
  have HB1 := Lib.hid hb
  have CE := Lib.hid (eight_any ws HWL.out HWO.out w1 (HQ.out.next hb))
  clear hl1 hl2 hl3 hown hrd hb hg HC HBW
  have hA := array_at g c' w1
  go_wp2_with (refine wpList_load_of rfl 23 (.tmp 16) rfl ⟨g, 0, none⟩ _ rfl (load_made HWL.out HRM.out) ?_)
  refine CE.out.mono ?_
  rintro e w2 ⟨rfl, hb⟩
  have HB2 := Lib.hid (below_step HB1.out hb)
  clear hb HB1 CE HRM
  have hzl : (core ws 4).length = 16 := by rw [core_length]; exact HWL.out
  have hzo := core_ok HWO.out 4
  generalize core ws 4 = z at *
  have hzs : (wd z).size = 16 := by rw [wd_size]; exact hzl
  have RN := RowAt.new w2 23 (wd (List.replicate 16 0))
  have RN2 := RN.setRow (wd z)
  have HB3 := Lib.hid (below_step HB2.out (below_setRow ((Below.refl _ w2).alloc (Nat.le_refl _) (.cells (wd (List.replicate 16 0)) 23)) (Nat.le_refl _) (wd z)))
  have CL := little32_any (some ⟨w2.heap.size, 0, none⟩) 16 z ((w2.alloc (.cells (wd (List.replicate 16 0)) 23)).setRow w2.heap.size (wd z)) (fun k hk => by
    refine ⟨_, _, rfl, RN2.lt, ?_⟩
    rw [Nat.zero_add, RN2.cell]
    simp [wd]) (by omega) hzo
  rw [hzl] at CL
  have HCL := Lib.hid CL
  have HZS := Lib.hid hzs
  have HRN := Lib.hid RN
  clear hzl hzo hzs RN RN2 CL HB2
  go_wp2_with (refine wpList_store_row rfl 23 (.tmp 6) (.tmp 18) rfl w2.heap.size (wd z) rfl rfl 23 _ HRN.out (by rw [HZS.out]; exact size_16) (by rw [HZS.out]; rfl) (wd_one _) ?_)
  refine HCL.out.mono ?_
  rintro e w4 ⟨v, rfl, hown, hb⟩
  rw [← HM.out] at hown
  have hown2 : w4.ownsRow w.heap.size 5 1 v 64 (u8s (mixL bs)) := World.ownsRow.mono hown HB3.out.size
  have HF := Lib.hid (And.intro hown2 (below_step HB3.out hb))
  clear hown hown2 hb HCL HRN HB3
  go_wp2
  go_ret2
  exact ⟨_, rfl, HF.out.1, HF.out.2⟩
end Go.Proofs.YtnmhcmjpcamoeaaDoor

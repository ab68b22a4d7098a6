/- Plain of package cipher by its contract. Conditions: those typed. -/
import Derived.Test.YtglmfagmlfjceaaCiEach
import Derived.Test.YtglmfagmlfjceaaCiNext
import Derived.Test.YtglmfagmlfjceaaPiVal
import Derived.Test.YtglmfagmlfjceaaReg
import Derived.Laws.CopyRow
import Derived.Test.YtglmfagmlfjceaaCiEx1
namespace Go.Proofs.Ytglmfagmlfjceaa
set_option maxRecDepth 50000
open Go.RowKit Ci

theorem zero_cipher : (Try.prog.info? 55).map (·.zero) = some (some (.agg (ta fun _ => 0))) := by kernel_rfl
theorem zero_run (w : World) : (zeroValue 55).run Try.prog w = .ok (.agg (ta fun _ => 0)) w := by
  have hz := zero_cipher
  cases hq : Try.prog.info? 55 with
  | none => rw [hq] at hz; simp at hz
  | some i =>
    rw [hq] at hz
    have hz2 : i.zero = some (.agg (ta fun _ => 0)) := by simpa using hz
    simp [zeroValue, typeInfo, Sem.run_bind, hq, hz2]
/-- the first words of pi, and 0 behind them -/
def plTo (a : Nat) : Nat → Nat := fun i => if i < a then wordN i else 0
theorem ta_list (g : Nat → Nat) : (ta g).toList = (List.range 1042).map fun i => Value.int .u32 (g i : Int) := by simp [ta]
theorem plTo_next (o n : Nat) (h : o + n ≤ 1042) : ((ta (plTo o)).toList.take o ++ u32s (wordsL o n) ++ (ta (plTo o)).toList.drop (o + n)).toArray = ta (plTo (o + n)) := by
  apply Array.toList_inj.1
  rw [ta_list, ta_list]
  have hl : (u32s (wordsL o n)).length = n := by rw [u32s_length, wordsL_length]
  apply List.ext_getElem
  · simp [hl]; omega
  · intro i h1 h2
    have hi : i < 1042 := by simpa using h2
    rw [List.getElem_map, List.getElem_range]
    by_cases c1 : i < o
    · rw [List.getElem_append_left (by simp [hl]; omega), List.getElem_append_left (by simp; omega), List.getElem_take, List.getElem_map, List.getElem_range]
      unfold plTo
      rw [if_pos c1, if_pos (by omega)]
    · by_cases c2 : i < o + n
      · rw [List.getElem_append_left (by simp [hl]; omega), List.getElem_append_right (by simp; omega)]
        rw [u32_at, wordsL_at o _ n (by simp; omega)]
        unfold plTo
        rw [if_pos c2]
        congr 3
        simp; omega
      · rw [List.getElem_append_right (by simp [hl]; omega), List.getElem_drop, List.getElem_map, List.getElem_range]
        unfold plTo
        rw [if_neg c2, if_neg]
        simp [hl]; omega
theorem plTo_all : ta (plTo 1042) = ta wordN := ta_congr _ _ fun i hi => by unfold plTo; rw [if_pos hi]
theorem plTo_none : ta (plTo 0) = ta fun _ => 0 := ta_congr _ _ fun i hi => by unfold plTo; rw [if_neg (by omega)]
theorem size_u32 : (Try.prog.info? 22).map (·.size) = some 1 := by kernel_rfl

set_option maxHeartbeats 1600000 in
theorem plain1_any (w : World) (b F a n : Nat) (hF : RowAt w F 3 #[.int .i64 (a : Int)]) (hT : Tab w b 55 (plTo a)) (han : a + n ≤ 1042) (hn : 0 < n) :
    Calls Try.prog 31 #[.slice (some ⟨b, a, none⟩) n n, .pointer (some ⟨F, 0, none⟩)] w fun e w' => e = .returned (.tuple #[]) ∧ RowAt w' F 3 #[.int .i64 ((a + n : Nat) : Int)] ∧ Tab w' b 55 (plTo (a + n)) ∧ Kept (fun x => x = b ∨ x = F) w w' := by
  have cF : w.cell? ⟨F, 0, none⟩ = some (.int .i64 (a : Int)) := by rw [hF.cell 0]; rfl
  have hbl := hT.lt
  have hFl := hF.lt
  have HF := Lib.hid hF
  have HT := Lib.hid hT
  clear hF hT
  obtain ⟨z, hz⟩ : ∃ z, z = a + n := ⟨_, rfl⟩
  rw [← hz]
  go_enter Try.func31, Try.ntmps31
  go_wp2_with fail
  refine (wordsOk a n han w).mono ?_
  rintro e w1 ⟨v, rfl, hown, hb1⟩
  obtain ⟨A, c, rfl, hnl, hpos, _⟩ := own_form hown
  clear hnl
  obtain ⟨gb, rfl, hgb⟩ := hpos hn
  have hrd := Reads.of_own hown
  have hT1 : Tab w1 b 55 (plTo a) := HT.out.below hb1 hbl
  have hF1 : RowAt w1 F 3 #[.int .i64 (a : Int)] := HF.out.below hb1 hFl
  have hl : (u32s (wordsL a n)).length = n := by rw [u32s_length, wordsL_length]
  have hcp := fun (ty : TypeId) => run_copy_row (P := Try.prog) w1 31 31 ty 22 b a n n ⟨gb, 0, none⟩ n c (ta (plTo a)) 55 (u32s (wordsL a n)) Try.underlying31 size_u32 hT1 (by rw [hl]; exact (Nat.min_self n).symm)
    (fun j u hj => by
      obtain ⟨hj', rfl⟩ := List.getElem?_eq_some_iff.1 hj
      obtain ⟨b', off', e, _, hc⟩ := hrd j hj'
      cases e
      have hadd : (⟨gb, 0, none⟩ : Addr).add j = ⟨gb, 0 + j, none⟩ := by unfold Addr.add; split <;> simp_all
      rw [hadd]; exact hc) (by rw [hl, ta_size]; exact han) (fun u hu => by simp only [u32s, List.mem_map] at hu; obtain ⟨x, _, rfl⟩ := hu; rfl)
  rw [hl, plTo_next a n han] at hcp
  have hbF : F ≠ b := RowAt.apart hF1 hT1 rfl
  have hF2 := hF1.setRowOther b (Ne.symm hbF) (ta (plTo (a + n)))
  have hT2 : Tab (w1.setRow b (ta (plTo (a + n)))) b 55 (plTo (a + n)) := hT1.setRow _
  have c2 : (w1.setRow b (ta (plTo (a + n)))).cell? ⟨F, 0, none⟩ = some (.int .i64 (a : Int)) := by rw [hF2.cell 0]; rfl
  have f2 := hF2.frozen 0
  have HH := Lib.hid (And.intro hF2 (And.intro hT2 hb1))
  have han2 : (a : Int) + (n : Int) = ((a + n : Nat) : Int) := by omega
  rw [← hz] at hcp HH c2 f2 han2
  have hzb : z ≤ 1042 := by omega
  clear hrd hown hT1 hF1 hl hF2 hT2 hb1 cF han hz
  go_wp2
  go_end0
  obtain ⟨e1, e2, e3⟩ := HH.out
  have hk1 : Kept (fun x => x = b ∨ x = F) w (w1.setRow b (ta (plTo z))) := by
    have h1 : Below b w (w1.setRow b (ta (plTo z))) := below_setRow (e3.mono (by omega)) (Nat.le_refl _) _
    exact ⟨h1.os, h1.tape, h1.output, h1.size, fun k hk hM => (by
      have : (w1.setRow b (ta (plTo z))).heap[k]? = w1.heap[k]? := setRow_other _ _ _ _ (fun e => hM (.inl e))
      rw [this]; exact e3.block k hk)⟩
  exact ⟨rfl, row_set e1, RowAt.setOther e2 _ hbF _, hk1.set (.inl (.inr rfl)) _⟩
theorem plain_any (w : World) : Calls Try.prog 20 #[] w fun e w' => ∃ b, e = .returned (.pointer (some ⟨b, 0, none⟩)) ∧ Tab w' b 55 wordN ∧ w.heap.size ≤ b ∧ Below w.heap.size w w' := by
  have hz := zero_run
  go_enter Try.func20, Try.ntmps20
  go_wp2_with fail
  obtain ⟨wc, hwc⟩ : ∃ wc, wc = (w.alloc (.cells (ta fun _ => 0) 55)).alloc (.cells #[.int .i64 0] 3) := ⟨_, rfl⟩
  have hr1 : Tab wc w.heap.size 55 (plTo 0) := by
    unfold Tab; rw [plTo_none, hwc]; exact (RowAt.new _ _ _).alloc _
  have hr2 : RowAt wc (w.heap.size + 1) 3 #[.int .i64 0] := by
    have h := RowAt.new (w.alloc (.cells (ta fun _ => 0) 55)) 3 #[.int .i64 0]
    rw [alloc_size, ← hwc] at h; exact h
  have hkc : Below w.heap.size w wc := by rw [hwc]; exact ((Below.refl _ w).alloc (Nat.le_refl _) _).alloc (by rw [alloc_size]; omega) _
  have hne : w.heap.size + 1 ≠ w.heap.size := by omega
  rw [← hwc]
  have hp : ∀ k, k < 5 → pOff (k + 1) = pOff k + pLen k ∧ pOff k + pLen k ≤ 1042 ∧ 0 < pLen k := fun k hk => by
    match k, hk with
    | 0, _ => decide
    | 1, _ => decide
    | 2, _ => decide
    | 3, _ => decide
    | 4, _ => decide
  have HI := Lib.hid (And.intro hr1 (And.intro hr2 hkc))
  clear hwc hr1 hr2 hkc hz
  refine (each_any wc w.heap.size 31 #[.pointer (some ⟨w.heap.size + 1, 0, none⟩)] (reg_enters Try.func31 (by kernel_rfl) (by kernel_rfl))
    (fun k wk => RowAt wk (w.heap.size + 1) 3 #[.int .i64 (pOff k : Int)] ∧ Tab wk w.heap.size 55 (plTo (pOff k)) ∧ Kept (fun x => x = w.heap.size ∨ x = w.heap.size + 1) wc wk) ⟨HI.out.2.1, HI.out.1, Kept.refl _ _⟩ ?_).mono ?_
  · intro k wk hk5 hI
    obtain ⟨e1, e2, e3⟩ := hp k hk5
    rw [e1]
    exact (plain1_any wk w.heap.size (w.heap.size + 1) (pOff k) (pLen k) hI.1 hI.2.1 e2 e3).mono fun e w' ⟨a1, a2, a3, a4⟩ => ⟨a1, a2, a3, hI.2.2.trans a4 fun _ _ x => x⟩
  · rintro e we ⟨rfl, h1, h2, h3⟩
    have HF : Hid (Tab we w.heap.size 55 wordN ∧ Below w.heap.size w we) := by
      refine Lib.hid ⟨?_, HI.out.2.2.trans (h3.below HI.out.2.2.size fun x hx => by omega)⟩
      have h2' : RowAt we w.heap.size 55 (ta (plTo 1042)) := h2
      rw [plTo_all] at h2'
      exact h2'
    clear h1 h2 h3 HI
    go_wp2
    go_ret
    exact ⟨_, rfl, HF.out.1, Nat.le_refl _, HF.out.2⟩
end Go.Proofs.Ytglmfagmlfjceaa

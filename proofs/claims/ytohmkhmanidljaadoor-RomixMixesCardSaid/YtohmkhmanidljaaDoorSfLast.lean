/- A row's last block as an array: package shuffle's last by its contract. Conditions: those typed. -/
import Derived.Test.YtohmkhmanidljaaDoorSfSmall
namespace Go.Proofs.YtohmkhmanidljaaDoor
set_option maxRecDepth 50000
open Go.RowKit Rot Sl Sf

/-- an array loaded out of cells from a place on -/
theorem load_at {w : World} {g o : Nat} {L : List Nat} (hL : L.length = 16) (h : ∀ k, k < 16 → w.cell? ⟨g, o + k, none⟩ = some (.int .u32 (L.getD k 0 : Nat))) : (loadVar 81 ⟨g, o, none⟩).run Tryd.prog w = .ok (.agg (wd L)) w := by
  have hl : (loadCells ⟨g, o, none⟩ (u32s L).length).run Tryd.prog w = .ok (u32s L).toArray w :=
    run_loadCells_list (P := Tryd.prog) w ⟨g, o, none⟩ _ (fun j v hv => by
      have hadd : (⟨g, o, none⟩ : Addr).add j = ⟨g, o + j, none⟩ := by unfold Addr.add; split <;> simp_all
      have hj : j < 16 := by
        have := (List.getElem?_eq_some_iff.1 hv).1
        rwa [u32s_length, hL] at this
      rw [hadd, h j hj, ← hv]
      unfold u32s
      rw [List.getElem?_map, List.getElem?_eq_getElem (by omega), List.getD_eq_getElem?_getD, List.getElem?_eq_getElem (by omega)]
      rfl)
  rw [u32s_length, hL] at hl
  have hz := size_16
  cases hq : Tryd.prog.info? 81 with
  | none => rw [hq] at hz; simp at hz
  | some i =>
    have hsz : i.size = 16 := by rw [hq] at hz; simpa using hz
    simp [loadVar, Sem.run_bind, sizeOf, typeInfo, hq, hsz, hl, wd]
theorem array_at (g o n c : Nat) (hn : n = 16) (w : World) : (Instr.arrayAt 81 (.slice (some ⟨g, o, none⟩) n c)).run Tryd.prog w = .ok (.pointer (some ⟨g, o, none⟩)) w := by
  subst hn
  simp [Instr.arrayAt, go_sem]
/-- what a list of words reads as, by its place -/
theorem reads_words {w : World} {B : Nat} {A : Option Addr} {l : List Nat} (h : Reads w B A (u32s l)) (h0 : 0 < l.length) : ∃ g o, A = some ⟨g, o, none⟩ ∧ g < B ∧ ∀ k, k < l.length → w.cell? ⟨g, o + k, none⟩ = some (.int .u32 (l.getD k 0 : Nat)) := by
  obtain ⟨g, o, e, hg, _⟩ := h 0 (by rw [u32s_length]; exact h0)
  refine ⟨g, o, e, hg, fun k hk => ?_⟩
  obtain ⟨b', off', e', _, hc'⟩ := h k (by rw [u32s_length]; exact hk)
  rw [e] at e'
  cases e'
  rw [hc', u32_at, List.getD_eq_getElem?_getD, List.getElem?_eq_getElem hk]
  rfl

set_option maxHeartbeats 1600000 in
theorem last_any (A : Option Addr) (n c : Nat) (l : List Nat) (hl : l.length = n) (hn : 16 ≤ n) (hn2 : n ≤ 100000) (hnc : n ≤ c) (w : World) (hr : Reads w w.heap.size A (u32s l)) :
    Calls Tryd.prog 47 #[.slice A n c] w fun e w' => e = .returned (.agg (wd (lst l))) ∧ Below w.heap.size w w' := by
  obtain ⟨g, o, rfl, hg, hc⟩ := reads_words hr (by omega)
  have hL := lst_length l (by omega)
  obtain ⟨m, hm⟩ : ∃ m, n = m + 16 := ⟨n - 16, by omega⟩
  have HC : Hid (∀ k, k < 16 → (w.alloc (.cells (wd (List.replicate 16 0)) 81)).cell? ⟨g, o + m + k, none⟩ = some (.int .u32 ((lst l).getD k 0 : Nat))) := Lib.hid fun k hk => by
    have h1 := hc (m + k) (by omega)
    rw [lst_at, show l.length - 16 + k = m + k by omega, Nat.add_assoc, ← h1]
    exact ((Below.refl g.succ w).alloc (by omega) _).cell (p := ⟨g, o + (m + k), none⟩) (Nat.lt_succ_self g)
  have HL := Lib.hid hL
  generalize lst l = x at *
  have HZ := Lib.hid (show (wd x).size = 16 by rw [wd_size]; exact HL.out)
  have HR := Lib.hid (RowAt.new w 81 (wd (List.replicate 16 0)))
  have e1 : (n : Int) - 16 = (m : Int) := by omega
  have hA := array_at g (o + m) (n - m) (c - m) (by omega)
  have hmn : m ≤ n := by omega
  have hmb : m ≤ 100000 := by omega
  have hmc : m < c := by omega
  have hmc2 : ¬ c = m := by omega
  clear hr hl hc hL hm
  go_enter Tryd.func47, Tryd.ntmps47
  go_wp2_with (first
    | refine wpList_load_of rfl 81 (.tmp 8) rfl ⟨g, o + m, none⟩ _ rfl (load_at HL.out HC.out) ?_
    | refine wpList_store_row rfl 81 (.tmp 2) (.tmp 9) rfl w.heap.size (wd x) rfl rfl 81 _ HR.out (by rw [HZ.out]; exact size_16) (by rw [HZ.out]; rfl) (wd_one _) ?_)
  have hR := HR.out.setRow (wd x)
  refine bodyPost_ret (v := .agg (wd x)) (results_cell_row rfl _ _ w.heap.size 81 (wd x) (0, 0) _ rfl hR Tryd.underlying81 rfl (by rw [HZ.out]; exact size_16)) rfl ⟨rfl, ?_⟩
  exact below_setRow ((Below.refl _ w).alloc (Nat.le_refl _) _) (Nat.le_refl _) _
end Go.Proofs.YtohmkhmanidljaaDoor

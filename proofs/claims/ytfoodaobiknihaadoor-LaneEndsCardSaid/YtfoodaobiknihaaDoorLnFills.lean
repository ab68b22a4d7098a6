/- Fills of package shape, and the law's grid by the parameters' own numbers. Conditions: those typed. -/
import Derived.Test.YtfoodaobiknihaaDoorFlAwake
namespace Go.Proofs.YtfoodaobiknihaaDoor
set_option maxRecDepth 50000
open Go.RowKit Bb Bn

set_option maxHeartbeats 800000 in
theorem spfills_any (a t l m b c g z : Nat) (ht : t ≤ 4294967295) (hb : b ≤ 4294967295) (hl : l ≤ 16777215) (ho : t * b ≤ 4611686018427387904) (w : World) : Calls Tryd.prog 7 #[spv a t l m b c g z] w fun e w' => e = .returned (.tuple #[.int .i64 (((t * b : Nat) : Int) - ((2 * l : Nat) : Int)), .int .i64 0]) ∧ Below w.heap.size w w' := by
  have HB := Lib.hid (one_box w (.cells (spc a t l m b c g z) 33))
  have C := mul_two t b (by omega) (by omega) (w.alloc (.cells (spc a t l m b c g z) 33))
  simp only [World.size_alloc] at C
  rw [fitN_yes ho, fitE_yes ho] at C
  have H := Lib.hid C
  clear C
  have HR := RowAt.new w 33 (spc a t l m b c g z)
  generalize t * b = q at *
  have HR1 := Lib.hid HR
  clear HR
  go_enter Tryd.func7, Tryd.ntmps7
  go_wp2_with fail
  refine H.out.mono ?_
  rintro e w2 ⟨rfl, hb⟩
  have HB2 := Lib.hid (HB.out.trans (hb.mono (Nat.le_succ _)))
  obtain ⟨-, -, k2, -⟩ := sp_cells (HR1.out.below hb (Nat.lt_succ_self _))
  clear hb
  go_wp2
  refine bodyPost_ret (results_tmp2 rfl _ _ _) rfl ?_
  exact ⟨by go_num, HB2.out⟩

theorem made_shE (pa pt pm pl pz : Int) : (∀ w, Calls Tryd.prog 5 #[pav pa pt pm pl pz] w fun e w' => e = .returned (.pointer none) ∧ Below w.heap.size w w') ∨
    (∃ a t l m b c g z : Nat, (pa = (a : Int) ∧ pt = (t : Int) ∧ pm = (m : Int) ∧ pl = (l : Int) ∧ pz = (z : Int)) ∧ Sh a t l b c g ∧ t ≤ 3 ∧ l ≤ 4 ∧ b ≤ 80 ∧ ∀ w, Calls Tryd.prog 5 #[pav pa pt pm pl pz] w fun e w' => ∃ q p h G, e = .returned (.pointer (some ⟨q, 0, none⟩)) ∧ GrAt w' q p h G a t l m b c g z (List.replicate b zb) ∧ w.heap.size ≤ G ∧ Below w.heap.size w w') := by
  cases hM : mayB pa pt pm pl pz with
  | false => exact .inl fun w => made_bad pa pt pm pl pz hM w
  | true =>
    obtain ⟨a, t, m, l, z, rfl, rfl, rfl, rfl, rfl, hO⟩ := may_nats hM
    obtain ⟨b, c, g, hg, hc, hb, hbm, hgm, CO⟩ := of_good hO
    obtain ⟨h1, h2, h3, h4, h5, h6, h7, h8, h9⟩ := hO
    cases hf : fewB t l b with
    | false => exact .inl fun w => made_many CO hf w
    | true =>
      have hf' := hf
      unfold fewB at hf'
      simp only [Bool.and_eq_true, decide_eq_true_eq] at hf'
      obtain ⟨f1, f2, f3⟩ := hf'
      have hcb : c ≤ b := by rw [hb]; exact Nat.le_mul_of_pos_left c h4
      have hgb : g ≤ c := by omega
      refine .inr ⟨a, t, l, m, b, c, g, z, ⟨rfl, rfl, rfl, rfl, rfl⟩, ⟨h1, h2, h3, h4, by omega, hg, hc, by omega, hb⟩, f1, f2, f3, fun w => made_any CO hf ?_ (by omega) w⟩
      intro x hx
      simp only [List.mem_cons, List.not_mem_nil, or_false] at hx
      omega
end Go.Proofs.YtfoodaobiknihaaDoor

/- The law PbkdfParts, for every password, salt, rounds and number. Conditions: each text is no longer than what may come in; the package's table lies at its place. -/
import Derived.Test.YtebocfbnamcnoaaDoorPk
namespace Go.Proofs.YtebocfbnamcnoaaDoor
set_option maxRecDepth 50000
open Go.RowKit Sha

set_option maxHeartbeats 3200000 in
theorem pparts_any (u s : ByteArray) (hu : u.size ≤ 140737488351232) (hs : s.size ≤ 140737488351232) (m i : Int) (w : World) (hk : KAt w) :
    Calls Tryd.prog 4 #[.string u, .string s, .int .i64 m, .int .i64 i] w fun e w' => e = .returned (.bool true) ∧ Below w.heap.size w w' := by
  have HK := Lib.hid hk
  have CNIL := Lib.hid fun (W : World) => part_nil s m i W
  have hway : 200 < u.size ∨ (u.size ≤ 200 ∧ 200 < s.size) ∨ (u.size ≤ 200 ∧ s.size ≤ 200 ∧ 6 < m ∧ m ≤ 4294967295) ∨ (u.size ≤ 200 ∧ s.size ≤ 200 ∧ (m ≤ 6 ∨ (6 < m ∧ 4294967295 < m))) := by omega
  rcases hway with h1 | ⟨h1, h2⟩ | ⟨h1, h2, h3, h4⟩ | ⟨h1, h2, h34⟩
  iterate 3
    · go_enter Tryd.func4, Tryd.ntmps4
      go_wp2_with fail
      refine (awake22_any w HK.out).mono ?_
      rintro e w1 ⟨rfl, b1⟩
      go_wp2_with fail
      refine (CNIL.out _).mono ?_
      rintro e w' ⟨rfl, rfl⟩
      go_wp2
      go_ret
      exact ⟨rfl, b1⟩
  have CN := fun (W : World) (hW : KAt W) => newmac_any u (by omega) W hW
  have CR0 := right_any m 1
  have hone : inB 1 1 65536 = true := by decide
  cases hm : inB m 1 4294967295
  · have hr : rgt m 1 = false := by unfold rgt; rw [hm]; rfl
    rw [hr] at CR0
    have CR := Lib.hid CR0
    have CP := Lib.hid fun (W : World) (M : Nat) => part_bad M s m i (.inl hm) W
    have CN := Lib.hid CN
    clear CR0 hk hr hm hone
    rcases h34 with h3 | ⟨h3, h4⟩
    all_goals
      go_enter Tryd.func4, Tryd.ntmps4
      go_wp2_with fail
      refine (awake22_any w HK.out).mono ?_
      rintro e w1 ⟨rfl, b1⟩
      have B1 := Lib.hid b1
      clear b1
      go_wp2_with fail
      refine (CNIL.out _).mono ?_
      rintro e w' ⟨rfl, rfl⟩
      go_wp2_with fail
      refine (CN.out _ (HK.out.next B1.out)).mono ?_
      rintro e w2 ⟨M, rfl, hM, b2⟩
      have B2 := Lib.hid (below_step B1.out b2)
      clear b2 hM
      go_wp2_with fail
      refine (CP.out _ M).mono ?_
      rintro e w' ⟨rfl, rfl⟩
      go_wp2_with fail
      refine (CR.out _).mono ?_
      rintro e w' ⟨rfl, rfl⟩
      go_wp2
      go_ret
      exact ⟨rfl, B2.out⟩
  · obtain ⟨a1, a2⟩ := in_true _ _ _ hm
    have hm6 : m ≤ 6 := by omega
    have hr : rgt m 1 = true := by unfold rgt; rw [hm, hone]; rfl
    rw [hr] at CR0
    cases hi : inB i 1 4294967295
    · have hi2 : i < 1 ∨ (1 ≤ i ∧ 4294967295 < i) := by have := in_false _ _ _ hi; omega
      have CR := Lib.hid CR0
      have CP := Lib.hid fun (W : World) (M : Nat) => part_bad M s m i (.inr ⟨hm, hi⟩) W
      have CN := Lib.hid CN
      clear CR0 hk hr hm hone hi h34
      rcases hi2 with h3 | ⟨h3, h4⟩
      all_goals
        go_enter Tryd.func4, Tryd.ntmps4
        go_wp2_with fail
        refine (awake22_any w HK.out).mono ?_
        rintro e w1 ⟨rfl, b1⟩
        have B1 := Lib.hid b1
        clear b1
        go_wp2_with fail
        refine (CNIL.out _).mono ?_
        rintro e w' ⟨rfl, rfl⟩
        go_wp2_with fail
        refine (CN.out _ (HK.out.next B1.out)).mono ?_
        rintro e w2 ⟨M, rfl, hM, b2⟩
        have B2 := Lib.hid (below_step B1.out b2)
        clear b2 hM
        go_wp2_with fail
        refine (CP.out _ M).mono ?_
        rintro e w' ⟨rfl, rfl⟩
        go_wp2_with fail
        refine (CR.out _).mono ?_
        rintro e w' ⟨rfl, rfl⟩
        go_wp2
        go_ret
        exact ⟨rfl, B2.out⟩
    · obtain ⟨i1, i2⟩ := in_true _ _ _ hi
      obtain ⟨n, rfl⟩ : ∃ n : Nat, m = (n : Int) := ⟨m.toNat, by omega⟩
      obtain ⟨j, rfl⟩ : ∃ j : Nat, i = (j : Int) := ⟨i.toNat, by omega⟩
      have CP := fun (W : World) (M : Nat) (hM : MacIs W M (tl u) []) (hW : KAt W) => part_good W M (tl u) hM hW s (by omega) n j (by omega) (by omega)
      have CF := fun (W : World) => rpart_any u s (by omega) (by omega) n j (by omega) (by omega) W
      have CKN := known_any
      obtain ⟨FX, hFX⟩ : ∃ FX, FX = wd (kk ++ hh) := ⟨_, rfl⟩
      rw [← hFX] at CF CKN
      generalize tx (partV (tl u) (tl s) n j) = X at *
      have CP := Lib.hid CP
      have CF := Lib.hid CF
      have CKN := Lib.hid CKN
      have CR := Lib.hid CR0
      have CN := Lib.hid CN
      clear hFX CR0 hk hr hm hone hi h34
      go_enter Tryd.func4, Tryd.ntmps4
      go_wp2_with fail
      refine (awake22_any w HK.out).mono ?_
      rintro e w1 ⟨rfl, b1⟩
      have B1 := Lib.hid b1
      clear b1
      go_wp2_with fail
      refine (CNIL.out _).mono ?_
      rintro e w' ⟨rfl, rfl⟩
      go_wp2_with fail
      refine (CN.out _ (HK.out.next B1.out)).mono ?_
      rintro e w2 ⟨M, rfl, hM, b2⟩
      have B2 := Lib.hid (below_step B1.out b2)
      have HM := Lib.hid hM
      clear b2 hM
      go_wp2_with fail
      refine (CP.out _ M HM.out (HK.out.next B2.out)).mono ?_
      rintro e w3 ⟨rfl, b3⟩
      have B3 := Lib.hid (below_step B2.out b3)
      clear b3
      go_wp2_with fail
      refine (CR.out _).mono ?_
      rintro e w' ⟨rfl, rfl⟩
      go_wp2_with fail
      refine (CKN.out _).mono ?_
      rintro e w4 ⟨rfl, b4⟩
      have B4 := Lib.hid (below_step B3.out b4)
      clear b4
      go_wp2_with fail
      refine (CF.out _).mono ?_
      rintro e w5 ⟨rfl, b5⟩
      have B5 := Lib.hid (below_step B4.out b5)
      clear b5
      go_wp2
      go_ret
      exact ⟨rfl, B5.out⟩
end Go.Proofs.YtebocfbnamcnoaaDoor

/- The document's Setup by its contract. Conditions: those typed. -/
import Derived.Test.YtglmfagmlfjceaaEkPure
import Derived.Test.YtglmfagmlfjceaaCiKeys
namespace Go.Proofs.Ytglmfagmlfjceaa
set_option maxRecDepth 50000
open Go.RowKit Ci Rot

set_option maxHeartbeats 1600000 in
theorem rsetup_any (n : Nat) (hn : n ≤ 2147483648) (salt key : ByteArray) (hs : salt.size ≤ 140737488351232) (hk : key.size ≤ 140737488351232) (g : Nat → Nat) (hg : Ok g) (w : World) (d c : Nat) (hT : RTab w d g) :
    Calls Try.prog 8 #[.slice (some ⟨d, 0, none⟩) 1042 c, .int .i64 (n : Int), .string salt, .string key] w fun e w' => ∃ d2, e = .returned (.slice (some ⟨d2, 0, none⟩) 1042 1042) ∧ RTab w' d2 (ekTo (exB g salt key) salt key n) ∧ Below w.heap.size w w' := by
  have hX := fun (w1 : World) (d c : Nat) (hT : RTab w1 d g) => rexpand_any w1 d c g hT hg salt key (by omega) (by omega)
  obtain ⟨F, hF⟩ : ∃ F, F = exB g salt key := ⟨_, rfl⟩
  have hFo : Ok F := by rw [hF]; exact exB_ok hg _ _
  rw [← hF] at hX ⊢
  have HX := Lib.hid (hX w d c hT)
  have HY := Lib.hid (fun (w1 : World) (b k : Nat) (hT : RTab w1 b (ekTo F salt key k)) => rexpand_any w1 b 1042 _ hT (ekTo_ok hFo salt key k) ⟨#[]⟩ key (by decide) (by omega))
  have HZ := Lib.hid (fun (w1 : World) (b k : Nat) (hT : RTab w1 b (exB (ekTo F salt key k) ⟨#[]⟩ key)) => rexpand_any w1 b 1042 _ hT (exB_ok (ekTo_ok hFo salt key k) _ _) ⟨#[]⟩ salt (by decide) (by omega))
  clear hX hF hFo hT hs hk hg
  go_enter Try.func8, Try.ntmps8
  go_wp2_with fail
  refine HX.out.mono ?_
  rintro e w1 ⟨d1, rfl, hT1, _, hb1⟩
  have H1 := Lib.hid (And.intro hT1 hb1)
  clear hT1 hb1
  go_wp2
  go_loopw [9, 10] (fun v9 v10 wr => ∃ k d2 : Nat, k ≤ n ∧ v10 = .int .i64 (k : Int) ∧ v9 = .slice (some ⟨d2, 0, none⟩) 1042 1042 ∧ Hid (RTab wr d2 (ekTo F salt key k) ∧ Below w.heap.size w wr)) (fun _ v _ => n - (intOf v).toNat)
  case atStart => exact ⟨0, d1, by omega, by simp, rfl, H1⟩
  case round =>
    obtain ⟨k, d2, hk, rfl, rfl, HS⟩ := hrel
    by_cases hlt : k < n
    · have hkn : (k : Int) < (n : Int) := by omega
      go_wp2_with fail
      refine (HY.out wr d2 k HS.out.1).mono ?_
      rintro e w5 ⟨d5, rfl, hT5, _, hb5⟩
      have H5 := Lib.hid (And.intro hT5 (HS.out.2.trans (hb5.mono HS.out.2.size)))
      clear hT5 hb5
      go_wp2_with fail
      refine (HZ.out w5 d5 k H5.out.1).mono ?_
      rintro e w6 ⟨d6, rfl, hT6, _, hb6⟩
      have H6 := Lib.hid (And.intro hT6 (H5.out.2.trans (hb6.mono H5.out.2.size)))
      clear hT6 hb6
      go_wp2
      go_roundw
      case rel => exact ⟨k + 1, d6, by omega, by go_num, rfl, Lib.hid ⟨H6.out.1, H6.out.2⟩⟩
      case measure => simp [intOf]; omega
    · obtain rfl : k = n := by omega
      go_wp2
      go_ret
      exact ⟨d2, rfl, HS.out.1, HS.out.2⟩
end Go.Proofs.Ytglmfagmlfjceaa

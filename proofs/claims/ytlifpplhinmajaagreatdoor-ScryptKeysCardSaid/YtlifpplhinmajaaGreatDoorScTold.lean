/- told of package scrypt by its contract: the bytes of a store's first rows. Conditions: those typed. -/
import Derived.Test.YtlifpplhinmajaaGreatDoorScPut
namespace Go.Proofs.YtlifpplhinmajaaGreatDoor
set_option maxRecDepth 50000
open Go.RowKit Sl Sf Rm

section
variable {w wr w' : World} {s p a g n r : Nat} {X : List (List Nat)}
theorem app_on {base k : Nat} {v : Value} {xs : List Value} (h : w.ownsRow base 36 1 v k xs) (hbase : base ≤ w.heap.size) {G : Nat} {l : List Nat} (hG : RowAt w G 36 (wd l)) (hk : k + l.length ≤ 1000000) (c : Nat) (ty : TypeId) :
    ∃ v' w', (Builtin.append_ #[63, 63] ty #[v, .slice (some ⟨G, 0, none⟩) l.length c]).run Tryz.prog w = .ok v' w' ∧ w'.ownsRow base 36 1 v' (k + l.length) (xs ++ u32s l) ∧ Below base w w' := by
  obtain ⟨i, hi, hz, hs, hby⟩ := info_parts u32_info
  obtain ⟨v', w', hrun, ho, hgr, _, _⟩ := run_append_own_at (P := Tryz.prog) w base 63 ty 36 i _ 1 4 Tryz.underlying63 hi hz hs hby rfl (by decide) v k xs h ⟨G, 0, none⟩ l.length c (u32s l) (by rw [u32s_length, Nat.mul_one])
    (fun j u hj => by
      obtain ⟨hj', rfl⟩ := List.getElem?_eq_some_iff.1 hj
      rw [Go.WideShapes.add_plain, Nat.zero_add, hG.cell j]
      simp [wd]) (fun u hu => by simp only [u32s, List.mem_map] at hu; obtain ⟨x, _, rfl⟩ := hu; rfl) (by unfold maxLen; omega) (by omega) hbase
  exact ⟨v', w', hrun, ho, (Below.refl base w).grown hgr hbase fun k hk => (h.lt k hk).1⟩

set_option maxHeartbeats 6400000 in
theorem stold_any (hS : St w s p a g n r X) (P : Nat) (hP : 1 ≤ P) (hPX : P ≤ X.length) (hb : 32 * r * P ≤ 250000) :
    Calls Tryz.prog 29 #[.pointer (some ⟨s, 0, none⟩), .int .i64 (P : Int)] w fun e w' => e = .returned (.string (tx (leB (tellW X P)))) ∧ Below w.heap.size w w' := by
  have hr1 := hS.r1
  have hR := hS.rok
  obtain ⟨m, hm⟩ : ∃ m, 32 * r = m := ⟨_, rfl⟩
  have HS := Lib.hid hS
  have HL := Lib.hid fun k (hk : k ≤ X.length) => tellW_length hR k hk
  have HO := Lib.hid (tellW_ok hR P hPX)
  have HR := Lib.hid fun k hk => (hR k hk).1
  have HSN := Lib.hid fun k (hk : k < X.length) => tellW_snoc X k hk
  have HPX := Lib.hid hPX
  have H0 : Hid (tellW X 0 = []) := Lib.hid rfl
  rw [hm] at HL HR hb
  have hm1 : 1 ≤ m := by omega
  have hPm : P ≤ m * P := Nat.le_mul_of_pos_left _ hm1
  have hP2 : P ≤ 250000 := by omega
  have HB := Lib.hid hb
  clear hS hR hPX hb hPm
  go_enter Tryz.func29, Tryz.ntmps29
  go_wp2
  go_loopw [5, 10] (fun v5 v10 wr => ∃ (k : Nat) (v : Value), k ≤ P ∧ v10 = .int .i64 (k : Int) ∧ v5 = v ∧ wr.ownsRow w.heap.size 36 1 v (m * k) (u32s (tellW X k)) ∧ Below w.heap.size w wr) (fun _ v10 _ => P - (intOf v10).toNat)
  case atStart => exact ⟨0, _, Nat.zero_le _, rfl, rfl, by rw [H0.out, Nat.mul_zero]; exact World.ownsRow_nil _ _ _ _, Below.refl _ _⟩
  case round =>
    obtain ⟨k, v, hk, rfl, e3, ho, hb⟩ := hrel
    obtain rfl := e3.symm
    clear e3
    by_cases h : k < P
    · have hd : decide ((k : Int) < (P : Int)) = true := by simp; omega
      have hkX : k < X.length := by have := HPX.out; omega
      have CR := Lib.hid (row_in (HS.out.step hb) k hkX)
      have HO := Lib.hid ho
      have HBB := Lib.hid hb
      have hmk : m * (k + 1) ≤ 250000 := Nat.le_trans (Nat.mul_le_mul_left _ h) HB.out
      rw [Nat.mul_succ] at hmk
      rw [hm] at CR
      clear ho hb
      go_wp2_with fail
      refine CR.out.mono ?_
      rintro e w2 ⟨G, rfl, hG, hGl, hb2⟩
      obtain ⟨v5, w5, hap, ho5, hb5⟩ := app_on (own_under HO.out (hb2.mono (Nat.le_refl _))) (Nat.le_trans HBB.out.size hb2.size) hG (by rw [HR.out k hkX]; omega) m 63
      rw [HR.out k hkX] at hap ho5
      have HAP := Lib.hid hap
      have HO5 : Hid (w5.ownsRow w.heap.size 36 1 v5 (m * (k + 1)) (u32s (tellW X (k + 1)))) := Lib.hid (by rw [HSN.out k hkX, Nat.mul_succ, show u32s (tellW X k ++ X.getD k []) = u32s (tellW X k) ++ u32s (X.getD k []) by simp [u32s]]; exact ho5)
      have HB5 : Hid (Below w.heap.size w w5) := Lib.hid ((below_step HBB.out hb2).trans hb5)
      clear hG hGl hb2 hap ho5 hb5 CR
      go_wp2_with (at_builtin; refine wpList_append_of rfl (.tmp 19) (.tmp 20) 63 rfl _ _ _ rfl rfl HAP.out ?_)
      clear HAP
      go_wp2
      go_roundw
      case rel => exact ⟨k + 1, _, by omega, by go_num, rfl, HO5.out, HB5.out⟩
      case measure => simp [intOf]; omega
    · obtain rfl : k = P := by omega
      have hd : decide ((k : Int) < (k : Int)) = false := by simp
      have hlen := HL.out k HPX.out
      obtain ⟨b, c, rfl, hbw, hb1, _, _, _⟩ := own_full ho (by rw [Nat.mul_comm]; exact Nat.mul_pos hP hm1)
      have CL := little32_any (some ⟨b, 0, none⟩) c (tellW X k) wr (Reads.of_own ho) (by rw [hlen]; have := HB.out; omega) HO.out
      rw [hlen] at CL
      have CLL := Lib.hid CL
      have HBB := Lib.hid hb
      clear CL ho hb hlen hbw hb1
      go_wp2_with fail
      refine CLL.out.mono ?_
      rintro e w2 ⟨v2, rfl, ho2, hb2⟩
      have hcv := conv_text w2 (l := leB (tellW X k)) (by unfold leB; rw [cs_bytesL _ (flat_lt ups 4 _)]; exact ho2)
      have HB2 := Lib.hid (below_step HBB.out hb2)
      clear ho2 hb2 CLL
      go_wp2
      go_ret
      exact ⟨rfl, HB2.out⟩
end
end Go.Proofs.YtlifpplhinmajaaGreatDoor

/- The document's Pad by its contract, and the law ShaPads. Condition: the package's table lies at its place. -/
import Derived.Test.YtebocfbnamcnoaaDoorShAwake
import Derived.Test.YtebocfbnamcnoaaDoorShTwo
import Derived.Deep.LoopGhost
import Derived.WalkMore
namespace Go.Proofs.YtebocfbnamcnoaaDoor
set_option maxRecDepth 50000
open Go.RowKit Sha

set_option maxHeartbeats 1600000 in
theorem refpad_any (t : Nat) (ht : t ≤ 9223372036854775807) (w : World) : Calls Tryd.prog 66 #[.int .i64 (t : Int)] w fun e w' => e = .returned (.string (tx (padL t))) ∧ Below w.heap.size w w' := by
  obtain ⟨i0, hi, hz0, hz1, hz2⟩ := info_parts Tryd.info5
  obtain ⟨p, hp⟩ : ∃ p, p = t % 64 := ⟨_, rfl⟩
  have hp1 : (t : Int).tmod 64 = (p : Int) := by rw [Int.tmod_eq_emod_of_nonneg (by omega)]; omega
  have hpb : p < 64 := by omega
  obtain ⟨r, hr⟩ : ∃ r, r = room t := ⟨_, rfl⟩
  have hr2 : r = 63 - (p + 8) % 64 := by rw [hr, hp]; rfl
  obtain ⟨x, hx⟩ : ∃ x, x = 8 * t % 18446744073709551616 := ⟨_, rfl⟩
  have hx1 : IntKind.u64.wrap ((t : Int) * 8) = (x : Int) := by rw [IntKind.wrap_u64]; omega
  have hxb : x < 2 ^ 64 := by rw [hx]; exact Nat.mod_lt _ (by decide)
  have HP : Hid (padN t = (128 :: List.replicate r 0) ++ bytesOf (downs 8) 8 x) := Lib.hid (by rw [hr, hx]; rfl)
  have HX := Lib.hid hxb
  have HR := Lib.hid hr2
  clear hp hr hx hxb hr2
  have hw0 : (w.alloc (.cells #[.int .u8 128] 5)).ownsRow w.heap.size 5 1 (.slice (some ⟨w.heap.size, 0, none⟩) 1 1) 1 (u8s (128 :: List.replicate 0 0)) := World.ownsRow_lit w #[.int .u8 128] 1 (Nat.le_refl _) (by decide) rfl
  have HW := Lib.hid hw0
  clear hw0
  go_enter Tryd.func66, Tryd.ntmps66
  go_wp2
  go_loopg [3] r (fun g v wr => ∃ j c : Nat, ∃ A, j + g = r ∧ v = .slice A (1 + j) c ∧ wr.ownsRow w.heap.size 5 1 (.slice A (1 + j) c) (1 + j) (u8s (128 :: List.replicate j 0)) ∧ Below w.heap.size w wr)
  case atStart => exact ⟨0, 1, _, by omega, rfl, HW.out, (Below.refl _ _).alloc (Nat.le_refl _) _⟩
  case round =>
    obtain ⟨j, c, A, hj, rfl, hown, hb⟩ := hrel
    have hsz := hb.size
    have hrr := HR.out
    obtain ⟨m, hm⟩ : ∃ m, m = 1 + j := ⟨_, rfl⟩
    have hmb : m ≤ 64 := by omega
    obtain ⟨s1, hs1⟩ : ∃ s1, s1 = p + m := ⟨_, rfl⟩
    have q1 : (p : Int) + (m : Int) = (s1 : Int) := by omega
    obtain ⟨s2, hs2⟩ : ∃ s2, s2 = s1 + 8 := ⟨_, rfl⟩
    have q2 : (s1 : Int) + 8 = (s2 : Int) := by omega
    obtain ⟨s3, hs3⟩ : ∃ s3, s3 = s2 % 64 := ⟨_, rfl⟩
    have q3 : (s2 : Int).tmod 64 = (s3 : Int) := by rw [Int.tmod_eq_emod_of_nonneg (by omega)]; omega
    have b1 : s1 ≤ 200 := by omega
    have b2 : s2 ≤ 200 := by omega
    by_cases hlt : j < r
    · have hne : ((s3 : Int) != 0) = true := by simp; omega
      have hne2 : ¬ (s3 : Int) = 0 := by omega
      rw [← hm] at hown ⊢
      have HJ := Lib.hid (And.intro hm (And.intro hlt hj))
      clear hm hs1 hs2 hs3 hlt hj hrr
      go_wp2_with (at_builtin; refine wpList_append_own _ rfl (.tmp 13) (.tmp 14) 48 rfl w.heap.size 5 i0 (.int .u8 0) 1 1 Tryd.underlying48 hi hz0 hz1 hz2 rfl (by decide) _ _ _ rfl (hown.alloc _) ⟨wr.heap.size, 0, none⟩ 1 1 [.int .u8 0] rfl rfl ?c1 ?c2 ?c3 ?c4 ?c5 ?_)
      case c1 => exact one_new _ _ _
      case c2 => exact one_cell _ rfl
      case c3 => unfold maxLen; omega
      case c4 => omega
      case c5 => simp; omega
      intro v' w2 hown2 hg2 _
      have R := rel_step hb hsz hown hown2 hg2
      obtain ⟨k1, k2⟩ := R
      obtain ⟨A', c', rfl, _, _, _⟩ := own_form k1
      have K1 := Lib.hid k1
      have K2 := Lib.hid k2
      clear hown2 hg2 hown hb k1 k2
      go_wp2
      obtain ⟨h1, h2, h3⟩ := HJ.out
      obtain ⟨g2, rfl⟩ : ∃ g2, gk = g2 + 1 := ⟨gk - 1, by omega⟩
      go_roundg g2
      case measure => omega
      case rel =>
        have e : u8s (128 :: List.replicate j 0) ++ [.int .u8 0] = u8s (128 :: List.replicate (j + 1) 0) := by
          rw [List.replicate_succ']; simp [u8s]
        have hk := K1.out
        rw [e] at hk
        have e2 : m + 1 = 1 + (j + 1) := by omega
        rw [e2] at hk ⊢
        exact ⟨j + 1, c', A', by omega, rfl, hk, K2.out⟩
    · obtain rfl : j = r := by omega
      have hne : ((s3 : Int) != 0) = false := by simp; omega
      have hne2 : (s3 : Int) = 0 := by omega
      rw [← hm] at hown ⊢
      have HJ := Lib.hid hm
      have HO := Lib.hid hown
      have HB := Lib.hid hb
      clear hm hs1 hs2 hs3 hlt hj hrr hown hb
      go_wp2_with fail
      refine (of64_own x wr HX.out).mono ?_
      rintro e w2 ⟨g, c2, rfl, hown2, hb2⟩
      have CT := Lib.hid (turned_own 8 (by omega) x g c2 w2 hown2)
      have HB2 := Lib.hid hb2
      clear hown2 hb2
      go_wp2_with fail
      refine CT.out.mono ?_
      rintro e w3 ⟨g3, c3, rfl, hown3, hb3⟩
      have HA := Lib.hid (cells_own hown3)
      have HB3 := Lib.hid (HB2.out.trans (hb3.mono HB2.out.size))
      have HO3 := Lib.hid (own_kept (M := fun _ => False) HO.out (Kept.of_below HB3.out) (fun _ _ h => h))
      have HB4 := Lib.hid (below_step HB.out HB3.out)
      have hsz4 := HB4.out.size
      clear hown3 hb3
      go_wp2_with (at_builtin; refine wpList_append_own _ rfl (.tmp 16) (.tmp 21) 48 rfl w.heap.size 5 i0 (.int .u8 0) 1 1 Tryd.underlying48 hi hz0 hz1 hz2 rfl (by decide) _ _ _ rfl HO3.out ⟨g3, 0, none⟩ 8 c3 (u8s (bytesOf (downs 8) 8 x)) rfl (by rw [u8s_length, bytesOf_length]) ?d1 ?d2 ?d3 ?d4 ?d5 ?_)
      case d1 => exact HA.out
      case d2 => exact u8s_one _
      case d3 => unfold maxLen; omega
      case d4 => omega
      case d5 => omega
      intro v' w4 hown4 hg4 _
      have hB5 : Below w.heap.size w w4 := HB4.out.grown hg4 (by omega) (fun k hk => (HO3.out.lt k hk).1)
      have e3 : u8s (128 :: List.replicate j 0) ++ u8s (bytesOf (downs 8) 8 x) = cs (padL t) := by
        unfold padL
        rw [cs_bytesL _ (padN_lt t), HP.out, ← u8s_append]
      rw [e3] at hown4
      have hc := conv_text w4 hown4
      have HB5 := Lib.hid hB5
      clear hown4 hg4 e3 hB5
      go_wp2
      go_ret
      exact ⟨rfl, HB5.out⟩

end Go.Proofs.YtebocfbnamcnoaaDoor

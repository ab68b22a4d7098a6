/- Take of a lease that has it, by its contract. Conditions: those typed. -/
import Derived.Test.YtcleekhdijiefaaLsMem
import Derived.StillTailTactics
namespace Go.Proofs.Ytcleekhdijiefaa
set_option maxRecDepth 50000
open Go.RowKit Bb

/-- a pointer put behind a row of one's own -/
theorem app_ptr {w : World} {N : Nat} {v : Value} {xs : List Value} (h : w.ownsRow N 41 1 v xs.length xs) (hN : N ≤ w.heap.size) (hl : xs.length ≤ 100000) (p : Nat) :
    ∃ v' w', (∀ ty, (Builtin.append_ #[46, 46] ty #[v, .slice (some ⟨w.heap.size, 0, none⟩) 1 1]).run Try.prog (w.alloc (.cells #[.pointer (some ⟨p, 0, none⟩)] 41)) = .ok v' w') ∧
      w'.ownsRow N 41 1 v' (xs.length + 1) (xs ++ [.pointer (some ⟨p, 0, none⟩)]) ∧ Kept (fun k => v.ownBlock = some k) w w' ∧ (v'.ownBlock = v.ownBlock ∨ ∃ g, v'.ownBlock = some g ∧ w.heap.size ≤ g) := by
  obtain ⟨i, hi, hz, hs, hby⟩ := info_parts ptr_info
  have hb1 : Below w.heap.size w (w.alloc (.cells #[.pointer (some ⟨p, 0, none⟩)] 41)) := (Below.refl _ w).alloc (Nat.le_refl _) _
  have H1 := own_leaves h (.below hb1 _)
  obtain ⟨v', w', hr, ho, hg, _, hv⟩ := run_append_own_at (P := Try.prog) (w.alloc (.cells #[.pointer (some ⟨p, 0, none⟩)] 41)) N 46 0 41 i _ 1 8 Try.underlying46 hi hz hs hby rfl (by decide) v xs.length xs H1 ⟨w.heap.size, 0, none⟩ 1 1 [.pointer (some ⟨p, 0, none⟩)] rfl
    (one_new w _ _) (one_cell _ rfl) (by unfold maxLen; omega) (by omega) (by simp; omega)
  refine ⟨v', w', fun ty => by rw [← hr]; rfl, ho, (Kept.of_below hb1).grown hg fun k hk => .inl hk, ?_⟩
  rcases hv with hv | hv
  · exact .inl hv
  · exact .inr ⟨_, hv, by simp⟩

set_option maxHeartbeats 1600000 in
theorem ltake_any {w : World} {b a held peak B u h c N : Nat} {v : Value} {xs : List Value} (hL : LRow w b a v held peak false) (hA : AreAt w a B u h c) (hO : w.ownsRow N 41 1 v xs.length xs) (hN : N ≤ w.heap.size) (hl : xs.length ≤ 100000) (n : Nat) (hn : u + n ≤ B) (hB : B ≤ 4194304) (hc : c ≤ 4194304) (hh : held ≤ 4194304) :
    Calls Try.prog 10 #[.pointer (some ⟨b, 0, none⟩), .int .i64 (n : Int)] w fun e w' => ∃ p g v', e = .returned (.tuple #[.pointer (some ⟨p, 0, none⟩), .int .i64 0]) ∧ LiveAt w' p a g (List.replicate n zb) ∧ w.heap.size ≤ p ∧ w.heap.size ≤ g ∧ AreAt w' a B (u + n) (max h (u + n)) (c + 1) ∧
      LRow w' b a v' (held + n) (max peak (held + n)) false ∧ w'.ownsRow N 41 1 v' (xs.length + 1) (xs ++ [.pointer (some ⟨p, 0, none⟩)]) ∧ (v'.ownBlock = v.ownBlock ∨ ∃ g', v'.ownBlock = some g' ∧ w.heap.size ≤ g') ∧ Kept (fun k => k = a ∨ k = b ∨ v.ownBlock = some k) w w' := by
  have C := Lib.hid (lfault_open hL)
  have CR := Lib.hid (ares_any hA n hn hB hc)
  obtain ⟨x0, x1, x2, x3, x4, f1, f2, f3, f4⟩ := hL.at_
  have hba : b ≠ a := RowAt.unlike hL hA (by rfl)
  have hva := own_unlike hO hA (by rfl)
  have hvb := own_unlike hO hL (by rfl)
  have HL := Lib.hid hL
  have HO := Lib.hid hO
  clear hL hA hO
  go_enter Try.func10, Try.ntmps10
  go_wp2_with fail
  refine C.out.mono ?_; rintro e w' ⟨rfl, hw⟩; obtain rfl := hw.symm
  clear hw C
  go_wp2_with fail
  refine CR.out.mono ?_
  rintro e w2 ⟨⟨p, g, rfl, hP, hp, hg⟩, hA, hK⟩
  have hL2 := RowAt.kept HL.out hK hba
  have hO2 := own_kept' HO.out hK (fun k e1 e2 => by subst e2; exact hva e1)
  have hs := hK.size
  clear x0 x1 x2 x3 x4 f1 f2 f3 f4 CR HL HO
  obtain ⟨x0, x1, x2, x3, x4, f1, f2, f3, f4⟩ := LRow.at_ hL2
  obtain ⟨v', w3, hap, hO3, hK3, hv⟩ := app_ptr hO2 (by omega) hl p
  have hvp := own_unlike hO2 hP.row (by rfl)
  have hvg := own_unlike hO2 hP.blk (by rfl)
  have hA3 : AreAt w3 a B (u + n) (max h (u + n)) (c + 1) := RowAt.kept hA hK3 hva
  have hP3 : LiveAt w3 p a g (List.replicate n zb) := ⟨RowAt.kept hP.row hK3 hvp, RowAt.kept hP.blk hK3 hvg, hP.ok⟩
  have hL3 : LRow w3 b a v held peak false := RowAt.kept hL2 hK3 hvb
  have hKK : Kept (fun k => k = a ∨ k = b ∨ v.ownBlock = some k) w w3 := (hK.mono fun _ _ e => .inl e).trans hK3 fun _ _ e => .inr (.inr e)
  have hv' : v'.ownBlock = v.ownBlock ∨ ∃ g', v'.ownBlock = some g' ∧ w.heap.size ≤ g' := by
    rcases hv with e | ⟨g', e, h⟩
    · exact .inl e
    · exact .inr ⟨g', e, by omega⟩
  have hbp : b ≠ p := RowAt.unlike hL2 hP.row (by rfl)
  have hbg : b ≠ g := RowAt.unlike hL2 hP.blk (by rfl)
  have hv2b := own_unlike hO3 hL3 (by rfl)
  obtain ⟨A', c', rfl, hown, _, _⟩ := own_form hO3
  clear hown
  have hl1 : (List.replicate n zb).length = n := List.length_replicate ..
  obtain ⟨zs, hz⟩ : ∃ zs, zs = List.replicate n zb := ⟨_, rfl⟩
  rw [← hz] at hP3 hl1
  have HZ := Lib.hid hz
  have HAP := Lib.hid hap
  have HL3 := Lib.hid hL3
  have HO3 := Lib.hid hO3
  have HP3 := Lib.hid hP3
  have HA3 := Lib.hid hA3
  have HKK := Lib.hid hKK
  clear hL2 hO2 hA hP hK hap hO3 hK3 hA3 hP3 hL3 hKK hv hvp hvg hva hvb hz
  obtain ⟨y0, y1, y2, y3, y4, g1, g2, g3, g4⟩ := LRow.at_ HL3.out
  go_wp2_with (at_builtin; refine wpList_append_of rfl (.tmp 30) (.tmp 32) 46 rfl _ _ _ rfl rfl (HAP.out _) ?_)
  clear x0 x1 x2 x3 x4 f1 f2 f3 f4 y0 y1 y2 y3 y4 g1 g2 g3 g4 HAP
  generalize hw4 : World.setCell w3 _ _ = w4
  have hL4 : LRow w4 b a (.slice A' (xs.length + 1) c') held peak false := by rw [← hw4]; exact LRow.setV HL3.out _
  have K4 : Kept (fun k => k = b) w3 w4 := by rw [← hw4]; exact (Kept.refl (fun k => k = b) w3).set (p := ⟨b, 1, none⟩) (.inl rfl) _
  have HP4 : Hid (LiveAt w4 p a g zs) := Lib.hid ⟨RowAt.kept HP3.out.row K4 (Ne.symm hbp), RowAt.kept HP3.out.blk K4 (Ne.symm hbg), HP3.out.ok⟩
  have HA4 : Hid (AreAt w4 a B (u + n) (max h (u + n)) (c + 1)) := Lib.hid (RowAt.kept HA3.out K4 (Ne.symm hba))
  have HO4 := Lib.hid (own_kept' HO3.out K4 (fun k e1 e2 => by subst e2; exact hv2b e1))
  have HKK4 : Hid (Kept (fun k => k = a ∨ k = b ∨ v.ownBlock = some k) w w4) := Lib.hid (HKK.out.trans K4 fun _ _ e => .inr (.inl e))
  clear hw4 HL3 HP3 HA3 HO3 HKK K4
  obtain ⟨y0, y1, y2, y3, y4, g1, g2, g3, g4⟩ := LRow.at_ hL4
  have HLen := Lib.hid (len_any (w := w4.drew) HP4.out.row)
  rw [hl1] at HLen
  have HL4 := Lib.hid (LRow.setH (w := w4.drew) hL4 (held + n))
  clear hL4
  go_wp2
  refine wp_region_still_tail 9 (by kernel_rfl) (by kernel_rfl) ?_
  simp only [List.take_succ_cons, List.take_zero, List.drop_succ_cons, List.drop_zero]
  repeat still_step
  still_call (HLen.out.mono fun _ _ h => And.intro h.1 h.2)
  repeat still_step
  refine wpStill_nil ?_
  change wpList _ _ _ _ _ w4.drew
  go_wp2
  rw [show IntKind.i64.wrap ((held : Int) + (n : Int)) = ((held + n : Nat) : Int) by rw [IntKind.wrap_i64]; omega, show (held : Int) + (n : Int) = ((held + n : Nat) : Int) by omega]
  clear y0 y1 y2 y3 y4 g1 g2 g3 g4 HLen
  generalize hw5 : World.drew _ = w5
  have hL5 : LRow w5 b a (.slice A' (xs.length + 1) c') (held + n) peak false := by rw [← hw5]; exact HL4.out
  have K5 : Kept (fun k => k = b) w4 w5 := by rw [← hw5]; exact ((Kept.refl (fun k => k = b) w4).set (p := ⟨b, 2, none⟩) (.inl rfl) _).drew
  have HP5 : Hid (LiveAt w5 p a g zs) := Lib.hid ⟨RowAt.kept HP4.out.row K5 (Ne.symm hbp), RowAt.kept HP4.out.blk K5 (Ne.symm hbg), HP4.out.ok⟩
  have HA5 : Hid (AreAt w5 a B (u + n) (max h (u + n)) (c + 1)) := Lib.hid (RowAt.kept HA4.out K5 (Ne.symm hba))
  have HO5 := Lib.hid (own_kept' HO4.out K5 (fun k e1 e2 => by subst e2; exact hv2b e1))
  have HKK5 : Hid (Kept (fun k => k = a ∨ k = b ∨ v.ownBlock = some k) w w5) := Lib.hid (HKK4.out.trans K5 fun _ _ e => .inr (.inl e))
  clear hw5 HL4 HP4 HA4 HO4 HKK4 K5
  obtain ⟨y0, y1, y2, y3, y4, g1, g2, g3, g4⟩ := LRow.at_ hL5
  have hm : max (peak : Int) ((held + n : Nat) : Int) = ((max peak (held + n) : Nat) : Int) := by omega
  obtain ⟨pk, hpk⟩ : ∃ pk, pk = max peak (held + n) := ⟨_, rfl⟩
  obtain ⟨hn', hhn⟩ : ∃ hn', hn' = held + n := ⟨_, rfl⟩
  rw [← hpk, ← hhn] at hm
  rw [← hhn] at hL5 y2 ⊢
  have HPK := Lib.hid hpk
  have HHN := Lib.hid hhn
  clear hpk hhn
  have HL5 := Lib.hid (LRow.setP (w := w5.drew) hL5 pk)
  have K6 : Kept (fun k => k = b) w5 (w5.drew.setCell ⟨b, 3, none⟩ (.int .i64 (pk : Int))) := ((Kept.refl (fun k => k = b) w5).drew.set (p := ⟨b, 3, none⟩) (.inl rfl) _)
  have HK6 := Lib.hid K6
  clear hL5 K6
  go_region
  go_wp2
  go_ret2
  have e1 := HZ.out
  have e2 := HPK.out
  have e3 := HHN.out
  subst e1 e2 e3
  refine ⟨p, g, _, rfl, ⟨RowAt.kept HP5.out.row HK6.out (Ne.symm hbp), RowAt.kept HP5.out.blk HK6.out (Ne.symm hbg), HP5.out.ok⟩, hp, hg, RowAt.kept HA5.out HK6.out (Ne.symm hba), HL5.out, own_kept' HO5.out HK6.out (fun k e1 e2 => by subst e2; exact hv2b e1), hv', HKK5.out.trans HK6.out fun _ _ e => .inr (.inl e)⟩
end Go.Proofs.Ytcleekhdijiefaa

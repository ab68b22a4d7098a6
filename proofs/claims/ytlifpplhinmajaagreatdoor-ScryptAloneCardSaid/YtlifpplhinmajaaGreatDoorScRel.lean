/- Release of package arena, deferred, by its contract. Conditions: those typed. -/
import Derived.Test.YtlifpplhinmajaaGreatDoorAr
import Derived.Defers
namespace Go.Proofs.YtlifpplhinmajaaGreatDoor
set_option maxRecDepth 50000
open Go.RowKit Bb

set_option maxHeartbeats 1600000 in
theorem arel_deferred {w : World} {a B u h c p g : Nat} {l : List (List Nat)} (hA : AreAt w a B u h c) (hP : LiveAt w p a g l) (hn : l.length ≤ u) (hu : u ≤ 4194304) (hc1 : 1 ≤ c) (hc : c ≤ 4194304) (u0 : FrameMode) :
    CallsD Tryz.prog 24 #[.pointer (some ⟨a, 0, none⟩), .pointer (some ⟨p, 0, none⟩)] u0 w fun e u' w' => u' = u0 ∧ e = .returned (.int .i64 0) ∧ OffAt w' p a l.length ∧ AreAt w' a B (u - l.length) h (c - 1) ∧ Kept (fun k => k = a ∨ k = p ∨ k = g) w w' := by
  obtain ⟨x0, x1, x2, x3, f0, f1, f2, f3⟩ := hP.row.at_
  have hpa : p ≠ a := RowAt.unlike hP.row hA (by rfl)
  have hpg : p ≠ g := RowAt.unlike hP.row hP.blk (by rfl)
  have hag : a ≠ g := RowAt.unlike hA hP.blk (by rfl)
  obtain ⟨w1, hcl, hB1, hK1, hs1⟩ : ∃ w1, (∀ ty, (Builtin.clear_ #[70] ty #[.slice (some ⟨g, 0, none⟩) l.length l.length]).run Tryz.prog w = .ok (.tuple #[]) w1) ∧ BlkAt w1 g (List.replicate l.length zb) ∧ Kept (fun k => k = g) w w1 ∧ w1.heap.size = w.heap.size := by
    obtain ⟨w1, h1, h2, h3, h4⟩ := clear_blocks hP.blk hP.ok 0
    exact ⟨w1, fun ty => by rw [← h1]; rfl, h2, h3, h4⟩
  have hP1 : PceAt w1 p a l.length true (.slice (some ⟨g, 0, none⟩) l.length l.length) := RowAt.kept hP.row hK1 hpg
  have hA1 : AreAt w1 a B u h c := RowAt.kept hA hK1 hag
  clear hA hP hB1
  obtain ⟨y0, y1, y2, y3, e0, e1, e2, e3⟩ := hP1.at_
  obtain ⟨z0, z1, z2, z3, b0, b1, b2, b3⟩ := hA1.at_
  obtain ⟨r, hr⟩ : ∃ r : Nat, (u : Int) - (l.length : Int) = r := ⟨u - l.length, by omega⟩
  obtain ⟨s, hs⟩ : ∃ s : Nat, (c : Int) - 1 = s := ⟨c - 1, by omega⟩
  have hw : IntKind.i64.wrap ((u : Int) - (l.length : Int)) = (r : Int) := by rw [IntKind.wrap_i64]; omega
  have hN := neq_same a
  have hw2 : IntKind.i64.wrap ((c : Int) - 1) = (s : Int) := by rw [IntKind.wrap_i64]; omega
  have HP := Lib.hid hP1
  have HA := Lib.hid hA1
  have HK := Lib.hid hK1
  have er : u - l.length = r := by omega
  have es : c - 1 = s := by omega
  rw [er, es]
  clear hP1 hA1 hK1 er es
  go_enter_d Tryz.func24, Tryz.ntmps24
  go_wp2
  generalize hw2 : World.setCell (World.setCell w1 _ _) _ _ = w2
  have hP2 : OffAt w2 p a l.length := by rw [← hw2]; exact (HP.out.setCell 2 _).setCell 3 _
  have hA2 : AreAt w2 a B u h c := by rw [← hw2]; exact (RowAt.setOther HA.out ⟨p, 2, none⟩ hpa _).setOther ⟨p, 3, none⟩ hpa _
  have hK2 : Kept (fun k => k = a ∨ k = p ∨ k = g) w w2 := by
    rw [← hw2]
    exact ((HK.out.mono fun _ _ e => .inr (.inr e)).set (p := ⟨p, 2, none⟩) (.inl (.inr (.inl rfl))) _).set (p := ⟨p, 3, none⟩) (.inl (.inr (.inl rfl))) _
  clear hw2 HP HA HK x0 x1 x2 x3 f0 f1 f2 f3 y0 y1 y2 y3 e0 e1 e2 e3 z0 z1 z2 z3 b0 b1 b2 b3 hcl hs1 hN
  obtain ⟨x0, x1, x2, x3, f0, f1, f2, f3⟩ := PceAt.at_ hP2
  obtain ⟨z0, z1, z2, z3, b0, b1, b2, b3⟩ := hA2.at_
  have HA := Lib.hid ((AreAt.setU (w := w2.drew) hA2 r).setC s)
  have HP := Lib.hid ((RowAt.setOther (RowAt.drew hP2) ⟨a, 1, none⟩ (Ne.symm hpa) (.int .i64 (r : Int))).setOther ⟨a, 3, none⟩ (Ne.symm hpa) (.int .i64 (s : Int)))
  have HK := Lib.hid ((hK2.drew.set (p := ⟨a, 1, none⟩) (.inl (.inl rfl)) (.int .i64 (r : Int))).set (p := ⟨a, 3, none⟩) (.inl (.inl rfl)) (.int .i64 (s : Int)))
  clear hA2 hP2 hK2
  go_region
  go_wp2
  go_ret
  exact ⟨rfl, HP.out, HA.out, HK.out⟩
end Go.Proofs.YtlifpplhinmajaaGreatDoor

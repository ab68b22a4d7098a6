/- Release of an arena by its contracts. Conditions: those typed. -/
import Derived.Test.YtohmkhmanidljaaDoorArRes
import Derived.LaidEqlPtr
namespace Go.Proofs.YtohmkhmanidljaaDoor
set_option maxRecDepth 50000
open Go.RowKit Bb

theorem ar_type : ∃ j, Tryd.prog.info? 65 = some j ∧ j.size = 4 := by
  have h := ars_size
  cases hq : Tryd.prog.info? 65 with
  | none => rw [hq] at h; cases h
  | some i => rw [hq] at h; exact ⟨i, rfl, by simpa using h⟩
theorem neq_same (a : Nat) (w : World) : (binOp .neq 42 (.pointer (some ⟨a, 0, none⟩)) (.pointer (some ⟨a, 0, none⟩))).run Tryd.prog w = .ok (.bool false) w := by
  obtain ⟨j, hj, hs⟩ := ar_type
  have h : ∀ d : Nat, (Op.equalIn (d + 1) 42 (.pointer (some ⟨a, 0, none⟩)) (.pointer (some ⟨a, 0, none⟩))).run Tryd.prog w = .ok true w := fun d => by
    simp [Op.equalIn, run_underlying Tryd.underlying42, sizeOf, typeInfo, hj, run_sameAddr_same]
  simp only [binOp]
  simp [Op.equal, Op.maxDepth, h 9999]
theorem neq_other {w : World} {a a' B B' u u' h h' c c' : Nat} (hA : AreAt w a B u h c) (hA' : AreAt w a' B' u' h' c') (hne : a' ≠ a) : (binOp .neq 42 (.pointer (some ⟨a', 0, none⟩)) (.pointer (some ⟨a, 0, none⟩))).run Tryd.prog w = .ok (.bool true) w := by
  obtain ⟨j, hj, hs⟩ := ar_type
  have hn : (⟨a', 0, none⟩ : Addr) ≠ ⟨a, 0, none⟩ := fun e => hne (by injection e)
  have h : ∀ d : Nat, (Op.equalIn (d + 1) 42 (.pointer (some ⟨a', 0, none⟩)) (.pointer (some ⟨a, 0, none⟩))).run Tryd.prog w = .ok false w := fun d => by
    simp [Op.equalIn, run_underlying Tryd.underlying42, sizeOf, typeInfo, hj, hs, run_sameAddr_other w hn hA' hA]
  simp only [binOp]
  simp [Op.equal, Op.maxDepth, h 9999]

theorem arel_nil (p : Option Addr) (w : World) : Calls Tryd.prog 18 #[.pointer none, .pointer p] w fun e w' => e = .returned (.int .i64 11) ∧ w' = w := by
  go_enter Tryd.func18, Tryd.ntmps18
  go_wp2
  go_ret
  exact ⟨rfl, rfl⟩
theorem arel_none (a : Addr) (w : World) : Calls Tryd.prog 18 #[.pointer (some a), .pointer none] w fun e w' => e = .returned (.int .i64 11) ∧ w' = w := by
  go_enter Tryd.func18, Tryd.ntmps18
  go_wp2
  go_ret
  exact ⟨rfl, rfl⟩
theorem arel_other {w : World} {a a' p n : Nat} {live : Bool} {v : Value} {B B' u u' h h' c c' : Nat} (hP : PceAt w p a' n live v) (hA : AreAt w a B u h c) (hA' : AreAt w a' B' u' h' c') (ha : a' ≠ a) : Calls Tryd.prog 18 #[.pointer (some ⟨a, 0, none⟩), .pointer (some ⟨p, 0, none⟩)] w fun e w' => e = .returned (.int .i64 11) ∧ w' = w := by
  obtain ⟨x0, x1, x2, x3, f0, f1, f2, f3⟩ := hP.at_
  have hN := neq_other hA hA' ha
  clear hP hA hA'
  go_enter Tryd.func18, Tryd.ntmps18
  go_wp2
  go_ret
  exact ⟨rfl, rfl⟩
theorem arel_off {w : World} {a p n : Nat} {v : Value} (hP : PceAt w p a n false v) : Calls Tryd.prog 18 #[.pointer (some ⟨a, 0, none⟩), .pointer (some ⟨p, 0, none⟩)] w fun e w' => e = .returned (.int .i64 12) ∧ w' = w := by
  obtain ⟨x0, x1, x2, x3, f0, f1, f2, f3⟩ := hP.at_
  have hN := neq_same a
  clear hP
  go_enter Tryd.func18, Tryd.ntmps18
  go_wp2
  go_ret
  exact ⟨rfl, rfl⟩

set_option maxHeartbeats 1600000 in
theorem arel_any {w : World} {a B u h c p g : Nat} {l : List (List Nat)} (hA : AreAt w a B u h c) (hP : LiveAt w p a g l) (hn : l.length ≤ u) (hu : u ≤ 4194304) (hc1 : 1 ≤ c) (hc : c ≤ 4194304) :
    Calls Tryd.prog 18 #[.pointer (some ⟨a, 0, none⟩), .pointer (some ⟨p, 0, none⟩)] w fun e w' => e = .returned (.int .i64 0) ∧ OffAt w' p a l.length ∧ AreAt w' a B (u - l.length) h (c - 1) ∧ Kept (fun k => k = a ∨ k = p ∨ k = g) w w' := by
  obtain ⟨x0, x1, x2, x3, f0, f1, f2, f3⟩ := hP.row.at_
  have hpa : p ≠ a := RowAt.unlike hP.row hA (by rfl)
  have hpg : p ≠ g := RowAt.unlike hP.row hP.blk (by rfl)
  have hag : a ≠ g := RowAt.unlike hA hP.blk (by rfl)
  obtain ⟨w1, hcl, hB1, hK1, hs1⟩ : ∃ w1, (∀ ty, (Builtin.clear_ #[66] ty #[.slice (some ⟨g, 0, none⟩) l.length l.length]).run Tryd.prog w = .ok (.tuple #[]) w1) ∧ BlkAt w1 g (List.replicate l.length zb) ∧ Kept (fun k => k = g) w w1 ∧ w1.heap.size = w.heap.size := by
    obtain ⟨w1, h1, h2, h3, h4⟩ := clear_blocks hP.blk hP.ok 0
    exact ⟨w1, fun ty => by rw [← h1]; rfl, h2, h3, h4⟩
  have hP1 : PceAt w1 p a l.length true (.slice (some ⟨g, 0, none⟩) l.length l.length) := RowAt.kept hP.row hK1 hpg
  have hA1 : AreAt w1 a B u h c := RowAt.kept hA hK1 hag
  clear hA hP hB1
  obtain ⟨y0, y1, y2, y3, e0, e1, e2, e3⟩ := hP1.at_
  obtain ⟨z0, z1, z2, z3, b0, b1, b2, b3⟩ := hA1.at_
  obtain ⟨r, hr⟩ : ∃ r : Nat, (u : Int) - (l.length : Int) = r := ⟨u - l.length, by omega⟩
  obtain ⟨s, hs⟩ : ∃ s : Nat, (c : Int) - 1 = s := ⟨c - 1, by omega⟩
  have hw : IntKind.i64.wrap ((u : Int) - (l.length : Int)) = (r : Int) := by rw [IntKind.wrap_i64]; omega
  have hN := neq_same a
  have hw2 : IntKind.i64.wrap ((c : Int) - 1) = (s : Int) := by rw [IntKind.wrap_i64]; omega
  have HP := Lib.hid hP1
  have HA := Lib.hid hA1
  have HK := Lib.hid hK1
  have er : u - l.length = r := by omega
  have es : c - 1 = s := by omega
  rw [er, es]
  clear hP1 hA1 hK1 er es
  go_enter Tryd.func18, Tryd.ntmps18
  go_wp2
  generalize hw2 : World.setCell (World.setCell w1 _ _) _ _ = w2
  have hP2 : OffAt w2 p a l.length := by rw [← hw2]; exact (HP.out.setCell 2 _).setCell 3 _
  have hA2 : AreAt w2 a B u h c := by rw [← hw2]; exact (RowAt.setOther HA.out ⟨p, 2, none⟩ hpa _).setOther ⟨p, 3, none⟩ hpa _
  have hK2 : Kept (fun k => k = a ∨ k = p ∨ k = g) w w2 := by
    rw [← hw2]
    exact ((HK.out.mono fun _ _ e => .inr (.inr e)).set (p := ⟨p, 2, none⟩) (.inl (.inr (.inl rfl))) _).set (p := ⟨p, 3, none⟩) (.inl (.inr (.inl rfl))) _
  clear hw2 HP HA HK x0 x1 x2 x3 f0 f1 f2 f3 y0 y1 y2 y3 e0 e1 e2 e3 z0 z1 z2 z3 b0 b1 b2 b3 hcl hs1 hN
  obtain ⟨x0, x1, x2, x3, f0, f1, f2, f3⟩ := PceAt.at_ hP2
  obtain ⟨z0, z1, z2, z3, b0, b1, b2, b3⟩ := hA2.at_
  have HA := Lib.hid ((AreAt.setU (w := w2.drew) hA2 r).setC s)
  have HP := Lib.hid ((RowAt.setOther (RowAt.drew hP2) ⟨a, 1, none⟩ (Ne.symm hpa) (.int .i64 (r : Int))).setOther ⟨a, 3, none⟩ (Ne.symm hpa) (.int .i64 (s : Int)))
  have HK := Lib.hid ((hK2.drew.set (p := ⟨a, 1, none⟩) (.inl (.inl rfl)) (.int .i64 (r : Int))).set (p := ⟨a, 3, none⟩) (.inl (.inl rfl)) (.int .i64 (s : Int)))
  clear hA2 hP2 hK2
  go_region
  go_wp2
  go_ret
  exact ⟨rfl, HP.out, HA.out, HK.out⟩
end Go.Proofs.YtohmkhmanidljaaDoor

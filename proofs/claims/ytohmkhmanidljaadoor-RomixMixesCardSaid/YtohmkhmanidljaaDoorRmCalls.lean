/- Row, Put, mixed, pick and unmixable of package romix, by their contracts. Conditions: those typed. -/
import Derived.Test.YtohmkhmanidljaaDoorRmRead
import Derived.Test.YtohmkhmanidljaaDoorSfInt
import Derived.Test.YtohmkhmanidljaaDoorSz
namespace Go.Proofs.YtohmkhmanidljaaDoor
set_option maxRecDepth 50000
open Go.RowKit Bb Sl Sf Rm

/-- a row of words at its place reads so -/
theorem row_reads {w : World} {g : Nat} {e : TypeId} {l : List Nat} (h : RowAt w g e (wd l)) {B : Nat} (hB : g < B) : Reads w B (some ⟨g, 0, none⟩) (u32s l) := fun k hk => by
  refine ⟨g, 0, rfl, hB, ?_⟩
  rw [Nat.zero_add, h.cell k]
  simp [wd]

section
variable {w w' : World} {s p a g n r : Nat} {M : Nat → Prop} {X : List (List Nat)} {live : Bool} {v : Value}
theorem row_bad_way (z : Int) (hz : z ≠ 0) (S : Option Addr) (k : Int) (w : World) (C : Calls Tryd.prog 30 #[.pointer S, .int .i64 k] w fun e w' => e = .returned (.int .i64 z) ∧ w' = w) :
    Calls Tryd.prog 13 #[.pointer S, .int .i64 k] w fun e w' => e = .returned (.tuple #[.slice none 0 0, .int .i64 z]) ∧ w' = w := by
  have C := Lib.hid C
  have d1 : (z != 0) = true := by simpa using hz
  have d2 : (z == 0) = false := by simpa using hz
  clear hz
  go_enter Tryd.func13, Tryd.ntmps13
  go_wp2_with fail
  refine C.out.mono ?_; rintro e w' ⟨rfl, rfl⟩
  go_wp2
  go_ret2
  exact ⟨rfl, rfl⟩
theorem put_bad_way (z : Int) (hz : z ≠ 0) (S : Option Addr) (k : Int) (l : Value) (w : World) (C : Calls Tryd.prog 30 #[.pointer S, .int .i64 k] w fun e w' => e = .returned (.int .i64 z) ∧ w' = w) :
    Calls Tryd.prog 15 #[.pointer S, .int .i64 k, l] w fun e w' => e = .returned (.int .i64 z) ∧ w' = w := by
  have C := Lib.hid C
  have d1 : (z != 0) = true := by simpa using hz
  have d2 : (z == 0) = false := by simpa using hz
  clear hz
  go_enter Tryd.func15, Tryd.ntmps15
  go_wp2_with fail
  refine C.out.mono ?_; rintro e w' ⟨rfl, rfl⟩
  go_wp2
  go_ret
  exact ⟨rfl, rfl⟩
theorem row_in (hS : St w s p a g n r X) (k : Nat) (hk : k < X.length) : Calls Tryd.prog 13 #[.pointer (some ⟨s, 0, none⟩), .int .i64 (k : Int)] w fun e w' => ∃ G, e = .returned (.tuple #[.slice (some ⟨G, 0, none⟩) (32 * r) (32 * r), .int .i64 0]) ∧ RowAt w' G 50 (wd (X.getD k [])) ∧ w.heap.size ≤ G ∧ Below w.heap.size w w' := by
  have C := Lib.hid (sfault_in hS.row hS.pce hS.r1 hS.r2 hS.n1 k (by rw [← hS.len]; exact hk))
  have C2 := Lib.hid (read_any hS k hk)
  clear hS hk
  generalize 32 * r = m at *
  go_enter Tryd.func13, Tryd.ntmps13
  go_wp2_with fail
  refine C.out.mono ?_; rintro e w' ⟨rfl, rfl⟩
  go_wp2_with fail
  refine C2.out.mono ?_; rintro e w2 ⟨G, rfl, H⟩
  have H := Lib.hid H
  go_wp2
  go_ret2
  exact ⟨G, rfl, H.out⟩
theorem put_size (hS : St w s p a g n r X) (k : Nat) (hk : k < X.length) (A : Option Addr) (m c : Nat) (hm : m ≠ 32 * r) : Calls Tryd.prog 15 #[.pointer (some ⟨s, 0, none⟩), .int .i64 (k : Int), .slice A m c] w fun e w' => e = .returned (.int .i64 9) ∧ w' = w := by
  have C := Lib.hid (sfault_in hS.row hS.pce hS.r1 hS.r2 hS.n1 k (by rw [← hS.len]; exact hk))
  have C2 := Lib.hid (check_size r hS.r1 hS.r2 A m c hm w)
  obtain ⟨x0, x1⟩ := hS.row.at_
  clear hS hk hm
  go_enter Tryd.func15, Tryd.ntmps15
  go_wp2_with fail
  refine C.out.mono ?_; rintro e w' ⟨rfl, rfl⟩
  go_wp2_with fail
  refine C2.out.mono ?_; rintro e w2 ⟨rfl, rfl⟩
  go_wp2
  go_ret
  exact ⟨rfl, rfl⟩
theorem put_in (hS : St w s p a g n r X) (k : Nat) (hk : k < X.length) (b o c : Nat) (l : List Nat) (hl : l.length = 32 * r) (ho : okw l) (hbg : b ≠ g) (hbw : b < w.heap.size) (hc : ∀ i, i < 32 * r → w.cell? ⟨b, o + i, none⟩ = some (.int .u32 (l.getD i 0 : Nat))) :
    Calls Tryd.prog 15 #[.pointer (some ⟨s, 0, none⟩), .int .i64 (k : Int), .slice (some ⟨b, o, none⟩) (32 * r) c] w fun e w' => e = .returned (.int .i64 0) ∧ St w' s p a g n r (X.set k l) ∧ Kept (fun b => b = g) w w' := by
  have C := Lib.hid (sfault_in hS.row hS.pce hS.r1 hS.r2 hS.n1 k (by rw [← hS.len]; exact hk))
  have C2 := Lib.hid (check_ok r hS.r1 hS.r2 (some ⟨b, o, none⟩) (32 * r) c rfl w)
  have C3 := Lib.hid (write_any hS k hk b o c l hl ho hbg hbw hc)
  obtain ⟨x0, x1⟩ := hS.row.at_
  clear hS hk hl ho hbg hbw hc
  obtain ⟨m, hm⟩ : ∃ m, 32 * r = m := ⟨_, rfl⟩
  rw [hm] at C2 C3 ⊢
  clear hm
  go_enter Tryd.func15, Tryd.ntmps15
  go_wp2_with fail
  refine C.out.mono ?_; rintro e w' ⟨rfl, hw⟩; obtain rfl := hw.symm; clear hw
  go_wp2_with fail
  refine C2.out.mono ?_; rintro e w2 ⟨rfl, rfl⟩
  go_wp2_with fail
  refine C3.out.mono ?_; rintro e w2 ⟨rfl, H⟩
  have H := Lib.hid H
  go_wp2
  go_ret
  exact ⟨rfl, H.out⟩

theorem mixed_any (h : ScAt w s p r) (h1 : 1 ≤ r) (h2 : r ≤ 512) (hk : QAt w) (G c : Nat) (l : List Nat) (hl : l.length = 32 * r) (ho : okw l) (hc : 32 * r ≤ c) (hR : RowAt w G 50 (wd l)) :
    Calls Tryd.prog 24 #[.pointer (some ⟨s, 0, none⟩), .slice (some ⟨G, 0, none⟩) (32 * r) c] w fun e w' => ∃ G', e = .returned (.slice (some ⟨G', 0, none⟩) (32 * r) (32 * r)) ∧ RowAt w' G' 50 (wd (mxr r l)) ∧ w.heap.size ≤ G' ∧ Below w.heap.size w w' := by
  have C := Lib.hid (mix_any r h1 h2 (some ⟨G, 0, none⟩) (32 * r) c l hl rfl hc ho w hk (row_reads hR hR.lt))
  obtain ⟨x0, x1⟩ := h.at_
  change Hid (Calls _ _ _ _ fun e w' => ∃ G, _ ∧ RowAt w' G _ (wd (mxr r l)) ∧ _) at C
  generalize mxr r l = y at *
  obtain ⟨m, hm⟩ : ∃ m, 32 * r = m := ⟨_, rfl⟩
  rw [hm] at C ⊢
  clear h hk hl ho hc hR h1 h2 hm
  go_enter Tryd.func24, Tryd.ntmps24
  go_wp2_with fail
  refine C.out.mono ?_; rintro e w2 ⟨G', rfl, H⟩
  have H := Lib.hid H
  go_wp2
  go_ret
  exact ⟨G', rfl, H.out⟩
theorem pick_any (h : ScAt w s p r) (h1 : 1 ≤ r) (h2 : r ≤ 512) (N : Nat) (hN : 1 ≤ N) (hN2 : N ≤ 4611686018427387904) (G c : Nat) (l : List Nat) (hl : l.length = 32 * r) (ho : okw l) (hc : 32 * r ≤ c) (hR : RowAt w G 50 (wd l)) :
    Calls Tryd.prog 25 #[.pointer (some ⟨s, 0, none⟩), .int .i64 (N : Int), .slice (some ⟨G, 0, none⟩) (32 * r) c] w fun e w' => e = .returned (.int .i64 ((pk N l inN : Nat) : Int)) ∧ Below w.heap.size w w' := by
  have C := Lib.hid (int_any r h1 h2 (some ⟨G, 0, none⟩) (32 * r) c l hl rfl hc ho w (row_reads hR hR.lt))
  obtain ⟨x0, x1⟩ := h.at_
  have hI := inN_lt ho
  have hp := pk_lt l inN hN
  unfold pk at hp ⊢
  generalize inN l = I at *
  have e1 : (I : Int) % (N : Int) = ((I % N : Nat) : Int) := rfl
  have e2 : (I : Int).tmod (N : Int) = ((I % N : Nat) : Int) := rfl
  generalize I % N = q at *
  have n0 : ¬ N = 0 := by omega
  have hw1 : IntKind.u64.wrap (N : Int) = (N : Int) := by rw [IntKind.wrap_u64]; omega
  have hw2 : IntKind.u64.wrap (q : Int) = (q : Int) := by rw [IntKind.wrap_u64]; omega
  have hw3 : IntKind.i64.wrap (q : Int) = (q : Int) := by rw [IntKind.wrap_i64]; omega
  obtain ⟨m, hm⟩ : ∃ m, 32 * r = m := ⟨_, rfl⟩
  rw [hm] at C ⊢
  clear h hl ho hc hR h1 h2 hm hp hI hN hN2
  go_enter Tryd.func25, Tryd.ntmps25
  go_wp2_with fail
  refine C.out.mono ?_; rintro e w2 ⟨rfl, H⟩
  have H := Lib.hid H
  go_wp2
  go_ret
  exact ⟨rfl, H.out⟩
end
end Go.Proofs.YtohmkhmanidljaaDoor

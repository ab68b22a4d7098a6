/- New, Size, Total, Rest, Copy of package feed, and what they call, by their contracts. Conditions: those typed. -/
import Derived.Test.YtebocfbnamcnoaaDoorFdHeld
import Derived.Lib.SliceRun
namespace Go.Proofs.YtebocfbnamcnoaaDoor
set_option maxRecDepth 50000
open Go.RowKit

theorem new_bad (n : Int) (lz : Bool) (h : n < 1 ∨ 1 ≤ n ∧ 65536 < n) (w : World) : Calls Tryd.prog 47 #[.int .i64 n, .bool lz] w fun e w' => e = .returned (.tuple #[.pointer none, .int .i64 1]) ∧ w = w' := by
  rcases h with h | ⟨h1, h2⟩
  all_goals
    go_enter Tryd.func47, Tryd.ntmps47
    go_wp2
    go_ret2
    exact ⟨rfl, rfl⟩
theorem new_good (n : Nat) (lz : Bool) (h1 : 1 ≤ n) (h2 : n ≤ 65536) (w : World) : Calls Tryd.prog 47 #[.int .i64 (n : Int), .bool lz] w fun e w' => e = .returned (.tuple #[.pointer (some ⟨w.heap.size, 0, none⟩), .int .i64 0]) ∧ FeedRow w' w.heap.size n lz (.slice none 0 0) 0 ∧ Below w.heap.size w w' := by
  go_enter Tryd.func47, Tryd.ntmps47
  go_wp2
  go_ret2
  exact ⟨rfl, FeedRow.new w n lz _ 0, (Below.refl _ _).alloc (Nat.le_refl _) _⟩

theorem total_nil (w : World) : Calls Tryd.prog 57 #[.pointer none] w fun e w' => e = .returned (.int .i64 0) ∧ w = w' := by
  go_enter Tryd.func57, Tryd.ntmps57
  go_wp2
  go_ret
  exact ⟨rfl, rfl⟩
theorem copy_nil (w : World) : Calls Tryd.prog 55 #[.pointer none] w fun e w' => e = .returned (.pointer none) ∧ w = w' := by
  go_enter Tryd.func55, Tryd.ntmps55
  go_wp2
  go_ret
  exact ⟨rfl, rfl⟩

section
variable {F n t : Nat} {lz : Bool} {v : Value}
theorem total_any (w : World) (h : FeedRow w F n lz v t) : Calls Tryd.prog 57 #[.pointer (some ⟨F, 0, none⟩)] w fun e w' => e = .returned (.int .i64 (t : Int)) ∧ w = w' := by
  obtain ⟨x0, x1, x2, x3, x4, x5⟩ := h.at_
  go_enter Tryd.func57, Tryd.ntmps57
  go_wp2
  go_ret
  exact ⟨rfl, rfl⟩
end

theorem clip_any (A : Option Addr) (n c : Nat) (h : n ≤ c) (w : World) : Calls Tryd.prog 62 #[.slice A n c] w fun e w' => e = .returned (.slice A n n) ∧ w = w' := by
  go_enter Tryd.func62, Tryd.ntmps62
  go_wp2
  go_ret
  exact ⟨rfl, rfl⟩

theorem clone_any (v : Value) (n : Nat) {B : Nat} (l : List UInt8) (w : World) (h : w.ownsRow B 5 1 v n (cs l)) (hn : n ≤ 1000000000) : Calls Tryd.prog 70 #[v] w fun e w' => ∃ v', e = .returned v' ∧ w'.ownsRow w.heap.size 5 1 v' n (cs l) ∧ Below w.heap.size w w' := by
  obtain ⟨i0, hi, hz0, hz1, hz2⟩ := info_parts fd_info_u8
  have hl := h.1
  rw [cs_length, Nat.mul_one] at hl
  have HL := Lib.hid hl
  have qn : ∀ (w : World) (a : Option Addr) (n c n' c' : Nat), (binOp .eql 48 (.slice a n c) (.slice none n' c')).run Tryd.prog w = .ok (.bool a.isNone) w := fun w a n c n' c' => Lib.run_eql_slice_nil w _ _ a n c n' c' Tryd.underlying48
  clear hl
  rcases h.2 with ⟨rfl, rfl⟩ | ⟨g, cap, cur, rfl, _, hg, h1, h2, h3, h4⟩
  · clear h
    go_enter Tryd.func70, Tryd.ntmps70
    go_wp2
    go_ret
    obtain rfl : l = [] := List.eq_nil_of_length_eq_zero HL.out
    exact ⟨_, rfl, World.ownsRow_nil _ _ _ _, Below.refl _ _⟩
  · have hcell := h.cells (g := g) rfl
    have hlt : g < w.heap.size := (h.lt g rfl).2
    have hc2 : ∀ (o : Obj) j u, (cs l)[j]? = some u → (w.alloc o).cell? ((⟨g, 0, none⟩ : Addr).add j) = some u := fun o j u hu => by
      have e : ((⟨g, 0, none⟩ : Addr).add j).block = g := by unfold Addr.add; split <;> simp_all
      rw [World.cell?_of_block (w := w) (by rw [e]; exact Below.heap_alloc w o g hlt)]
      exact hcell j u hu
    have HC := Lib.hid hc2
    clear hc2 hcell hg h3 h4 h
    have hmade : (w.alloc (.cells #[] 5)).ownsRow w.heap.size 5 1 (.slice (some ⟨w.heap.size, 0, none⟩) 0 0) 0 [] := World.ownsRow_made w #[] 0 (Nat.le_refl _) (by unfold maxLen; omega) (by simp)
    have HM := Lib.hid hmade
    clear hmade
    go_enter Tryd.func70, Tryd.ntmps70
    go_wp2_with (at_builtin; refine wpList_append_own _ rfl (.tmp 5) (.tmp 6) 48 rfl w.heap.size 5 i0 (.int .u8 0) 1 1 Tryd.underlying48 hi hz0 hz1 hz2 rfl (by decide) _ 0 [] rfl HM.out ⟨g, 0, none⟩ n cap (cs l) rfl ?c1 ?c2 ?c3 ?c4 ?c5 ?c6 ?_)
    case c1 => rw [cs_length, HL.out, Nat.mul_one]
    case c2 => exact HC.out _
    case c3 => exact cs_one l
    case c4 => unfold maxLen; omega
    case c5 => omega
    case c6 => simp
    intro v' w2 hown2 hg2 _
    have hb : Below w.heap.size w w2 := ((Below.refl _ w).alloc (Nat.le_refl _) _).grown hg2 (by simp) (fun k hk => by injection hk with hk; simp at hk; omega)
    have HO := Lib.hid hown2
    clear hown2 hg2
    go_wp2
    go_ret
    exact ⟨_, rfl, HO.out, hb⟩

section
variable {F n t : Nat} {lz : Bool} {v : Value}
theorem copy_any (w : World) (h : FeedRow w F n lz v t) {B : Nat} (m : Nat) (l : List UInt8) (ho : w.ownsRow B 5 1 v m (cs l)) (hm : m ≤ 1000000000) : Calls Tryd.prog 55 #[.pointer (some ⟨F, 0, none⟩)] w fun e w' => ∃ v', e = .returned (.pointer (some ⟨w.heap.size, 0, none⟩)) ∧ FeedRow w' w.heap.size n lz v' t ∧ w'.ownsRow (w.heap.size + 1) 5 1 v' m (cs l) ∧ Below w.heap.size w w' := by
  obtain ⟨x0, x1, x2, x3, x4, x5⟩ := h.at_
  have hlt := h.lt
  obtain ⟨A, c, rfl, hm1, _, _⟩ := own_form ho
  have HM1 := Lib.hid hm1
  clear hm1
  have hne : ¬ F = w.heap.size := by omega
  have hne2 : ¬ w.heap.size = F := by omega
  have C : ∀ o : Obj, Calls Tryd.prog 70 #[.slice A m c] (w.alloc o) fun e w' => ∃ v', e = .returned v' ∧ w'.ownsRow (w.heap.size + 1) 5 1 v' m (cs l) ∧ Below (w.heap.size + 1) (w.alloc o) w' := fun o => by
    have := clone_any _ m l (w.alloc o) (ho.alloc o) hm
    rw [show (w.alloc o).heap.size = w.heap.size + 1 by simp] at this
    exact this
  have HC := Lib.hid C
  have HN := Lib.hid (FeedRow.new w n lz (.slice A m c) t)
  have y2 : ∀ o : Obj, (w.alloc o).cell? ⟨F, 2, none⟩ = some (.slice A m c) := fun o => (h.alloc o).at_.2.2.1
  clear ho C h
  go_enter Tryd.func55, Tryd.ntmps55
  go_wp2_with fail
  refine (HC.out _).mono ?_
  rintro e w1 ⟨v', rfl, ho, hb⟩
  have r1 : FeedRow w1 w.heap.size n lz (.slice A m c) t := (hb.block w.heap.size (by omega)).trans HN.out
  have HO := Lib.hid ho
  have hsz : w.heap.size + 1 ≤ w1.heap.size := by have := hb.size; simpa using this
  obtain ⟨z0, z1, z2, z3, z4, z5⟩ := r1.at_
  have R1 := Lib.hid r1
  obtain ⟨A', c', rfl, hm2, _, _⟩ := own_form ho
  clear hm2
  have hb2 : Below w.heap.size w w1 := ((Below.refl _ w).alloc (Nat.le_refl _) _).trans (hb.mono (by omega))
  clear ho x0 x1 x2 x3 x4 x5 y2 r1 hb
  go_wp2
  go_ret
  refine ⟨_, rfl, R1.out.set2 _, ?_, hb2.setCell (by simp) _⟩
  refine own_kept HO.out (M := fun k => k = w.heap.size) ⟨rfl, rfl, rfl, by simp [World.setCell], fun k _ hk => Below.heap_setCell _ _ _ k (by simpa using hk)⟩ fun k hk e => ?_
  have := (HO.out.lt k hk).1
  omega
end

/-- is what is held a block that is handed on -/
def wholeB (n : Nat) (lz : Bool) (m k : Nat) : Bool := decide (m = n) && (!lz || decide (0 < k))
theorem whole_any {F n t : Nat} {lz : Bool} {A : Option Addr} {m c : Nat} (w : World) (h : FeedRow w F n lz (.slice A m c) t) (k : Nat) : Calls Tryd.prog 61 #[.pointer (some ⟨F, 0, none⟩), .int .i64 (k : Int)] w fun e w' => e = .returned (.bool (wholeB n lz m k)) ∧ Below w.heap.size w w' := by
  obtain ⟨x0, x1, x2, x3, x4, x5⟩ := h.at_
  have hd : ∀ q, Below w.heap.size w (w.drewN q) := fun q => ⟨rfl, rfl, rfl, Nat.le_refl _, fun _ _ => rfl⟩
  by_cases h1 : m = n
  · subst h1
    cases lz with
    | true =>
      by_cases h2 : 0 < k
      · have e : wholeB m true m k = true := by simp [wholeB, h2]
        rw [e]
        have e2 : decide ((0 : Int) < (k : Int)) = true := by simpa using h2
        go_enter Tryd.func61, Tryd.ntmps61
        go_wp2
        go_quiet (fail)
        go_wp2
        go_ret
        exact ⟨rfl, hd _⟩
      · obtain rfl : k = 0 := by omega
        have e : wholeB m true m 0 = false := by simp [wholeB]
        rw [e]
        go_enter Tryd.func61, Tryd.ntmps61
        go_wp2
        go_quiet (fail)
        go_wp2
        go_ret
        exact ⟨rfl, hd _⟩
    | false =>
      have e : wholeB m false m k = true := by simp [wholeB]
      rw [e]
      go_enter Tryd.func61, Tryd.ntmps61
      go_wp2
      go_quiet (fail)
      go_wp2
      go_ret
      exact ⟨rfl, hd _⟩
  · have e : wholeB n lz m k = false := by simp [wholeB, h1]
    rw [e]
    have e1 : ((m : Int) == (n : Int)) = false := by rw [beq_eq_false_iff_ne]; omega
    go_enter Tryd.func61, Tryd.ntmps61
    go_wp2
    go_quiet (fail)
    go_wp2
    go_ret
    exact ⟨rfl, hd _⟩
end Go.Proofs.YtebocfbnamcnoaaDoor

/- Square of package root, by its contract: the root of n times 2^128, of which the last 64 bits are told; or that n is no number whose root may be asked for. -/
import Derived.Test.YtfkokgcfjminiaaRtWide
import Derived.Test.YtfkokgcfjminiaaRtRoots
namespace Go.Proofs.Ytfkokgcfjminiaa
open Go.RowKit

theorem square_bad (n : Int) (h : ¬ (0 ≤ n ∧ n ≤ 1048576)) (w : World) : Calls Try.prog 10 #[.int .i64 n] w fun e w' => e = .returned (.tuple #[.int .u64 0, .int .i64 1]) ∧ w = w' := by
  have C := rooted_any n w
  rw [decide_eq_false h] at C
  have H := Lib.hid C
  clear C h
  go_enter Try.func10, Try.ntmps10
  go_wp2_with fail
  refine (H.out).mono ?_
  rintro e w' ⟨rfl, rfl⟩
  go_wp2
  go_ret2
  exact ⟨rfl, rfl⟩

/-- block B holds the two words of a number -/
def Two (w : World) (B h l : Nat) : Prop := w.heap[B]? = some (.cells #[.int .u64 (h : Int), .int .u64 (l : Int)] 37 (0, 0))
theorem Two.lt {w : World} {B h l : Nat} (t : Two w B h l) : B < w.heap.size := by
  rcases Nat.lt_or_ge B w.heap.size with hl | hl
  · exact hl
  · unfold Two at t; rw [Array.getElem?_eq_none hl] at t; cases t
theorem Two.cells {w : World} {B h l : Nat} (t : Two w B h l) : w.cell? ⟨B, 0, none⟩ = some (.int .u64 (h : Int)) ∧ w.cell? ⟨B, 1, none⟩ = some (.int .u64 (l : Int)) ∧ w.frozen? ⟨B, 0, none⟩ = false ∧ w.frozen? ⟨B, 1, none⟩ = false := by
  unfold Two at t
  refine ⟨?_, ?_, ?_, ?_⟩ <;> simp [World.cell?, World.frozen?, t]
theorem Two.keep {w w' : World} {B h l : Nat} (t : Two w B h l) (hb : Below w.heap.size w w') : Two w' B h l := (hb.block B t.lt).trans t
theorem set_at {w : World} {B : Nat} {cs : Array Value} {T : TypeId} {fz : Nat × Nat} (t : w.heap[B]? = some (.cells cs T fz)) (o : Nat) (u : Value) : (w.setCell ⟨B, o, none⟩ u).heap[B]? = some (.cells (cs.setIfInBounds o u) T fz) := by
  simp only [World.setCell, Array.getElem?_modify, if_true, t]; rfl
theorem Two.two {w : World} {B h l : Nat} (t : Two w B h l) (h' l' : Nat) : Two ((w.setCell ⟨B, 0, none⟩ (.int .u64 (h' : Int))).setCell ⟨B, 1, none⟩ (.int .u64 (l' : Int))) B h' l' := set_at (set_at t 0 _) 1 _
theorem Two.low {w : World} {B h l : Nat} (t : Two w B h l) (l' : Nat) : Two (w.setCell ⟨B, 1, none⟩ (.int .u64 (l' : Int))) B h l' := set_at t 1 _
theorem Two.other {w : World} {B h l : Nat} (t : Two w B h l) {a : Addr} (ha : B ≠ a.block) (u : Value) : Two (w.setCell a u) B h l := (Below.heap_setCell w a u B ha).trans t
theorem Two.alloc {w : World} {B h l : Nat} (t : Two w B h l) (o : Obj) : Two (w.alloc o) B h l := (Below.heap_alloc w o B t.lt).trans t
theorem Two.new (w : World) (h l : Nat) : Two (w.alloc (.cells #[.int .u64 (h : Int), .int .u64 (l : Int)] 37)) w.heap.size h l := by
  unfold Two World.alloc; exact Array.getElem?_push_size

set_option maxHeartbeats 1600000 in
theorem square_good (n : Nat) (h : n ≤ 1048576) (w : World) : Calls Try.prog 10 #[.int .i64 (n : Int)] w fun e w' => ∃ rh rl : Nat, e = .returned (.tuple #[.int .u64 (rl : Int), .int .i64 0]) ∧ rl < 18446744073709551616 ∧
    (rh * 18446744073709551616 + rl) * (rh * 18446744073709551616 + rl) ≤ n * 340282366920938463463374607431768211456 ∧
    n * 340282366920938463463374607431768211456 < (rh * 18446744073709551616 + rl + 1) * (rh * 18446744073709551616 + rl + 1) ∧ Below w.heap.size w w' := by
  have C := rooted_any n w
  rw [decide_eq_true (show 0 ≤ (n : Int) ∧ (n : Int) ≤ 1048576 from ⟨by omega, by omega⟩)] at C
  have H := Lib.hid C
  have S := Lib.hid (sq_start n h)
  clear C
  go_enter Try.func10, Try.ntmps10
  go_wp2_with fail
  refine (H.out).mono ?_
  rintro e w' ⟨rfl, rfl⟩
  go_wp2_with (fail)
  go_loopw [6, 7, 14] (fun a _ i wr => ∃ k A rh rl lh ll : Nat, k ≤ 75 ∧ i = .int .i64 k ∧ a = .int .u64 A ∧ Hid (SqInv n k A (rh * 18446744073709551616 + rl) (lh * 18446744073709551616 + ll)) ∧
    rl < 18446744073709551616 ∧ ll < 18446744073709551616 ∧ Two wr w.heap.size rh rl ∧ Two wr (w.heap.size + 1) lh ll ∧ Below w.heap.size w wr) (fun _ _ i _ => 75 - (intOf i).toNat)
  case atStart =>
    exact ⟨0, n * 4398046511104, 0, 0, 0, 0, by omega, rfl, by simp, S, by omega, by omega, (Two.new w 0 0).alloc _, by simpa using Two.new (w.alloc (.cells #[.int .u64 0, .int .u64 0] 37)) 0 0, ((Below.refl _ _).alloc (Nat.le_refl _) _).alloc (by simp) _⟩
  case round =>
    obtain ⟨k, A, rh, rl, lh, ll, hk, rfl, rfl, hS, hrl, hll, t1, t2, hb⟩ := hrel
    by_cases hlt : k < 75
    · have hbd := sq_bound hS.out hk
      obtain ⟨hb1, hb2, hb3⟩ := hbd
      obtain ⟨p, hp⟩ : ∃ p : Nat, (A : Int) / 4611686018427387904 = (p : Int) := ⟨A / 4611686018427387904, rfl⟩
      obtain ⟨A', hA'⟩ : ∃ A' : Nat, IntKind.u64.wrap ((A : Int) * 4) = (A' : Int) := ⟨A * 4 % 18446744073709551616, by rw [IntKind.wrap_u64]; omega⟩
      have hp2 : p = A / 4611686018427387904 := by omega
      have hp3 : p < 4 := by omega
      have hA2 : A' = A * 4 % 18446744073709551616 := by rw [IntKind.wrap_u64] at hA'; omega
      have HA := Lib.hid (And.intro hp2 hA2)
      clear hp2 hA2
      obtain ⟨x0, x1, x2, x3⟩ := t1.cells
      obtain ⟨y0, y1, y2, y3⟩ := t2.cells
      have hsz := hb.size
      go_wp2_with fail
      refine (behind_two lh ll p (by omega) hll (by omega) _).mono ?_
      rintro e w1 ⟨h1, l1, rfl, g1, g2, g3, k1⟩
      have G3 := Lib.hid g3
      have t1a := t1.keep k1
      have t2a := t2.keep k1
      have b1 := hb.trans (k1.mono hb.size)
      clear x0 x1 x2 x3 y0 y1 y2 y3 hb t1 t2 hsz g3
      have hsz := b1.size
      obtain ⟨x0, x1, x2, x3⟩ := t1a.cells
      obtain ⟨y0, y1, y2, y3⟩ := t2a.cells
      clear k1
      go_wp2_with fail
      refine (behind_two rh rl 1 (by omega) hrl (by omega) _).mono ?_
      rintro e w2 ⟨h2, l2, rfl, g4, g5, g6, k2⟩
      have G6 := Lib.hid g6
      have t1b := ((t1a.other (a := ⟨w.heap.size + 1, 0, none⟩) (by simp) _).other (a := ⟨w.heap.size + 1, 1, none⟩) (by simp) _).keep k2
      have t2b := (t2a.two h1 l1).keep k2
      have b2 : Below w.heap.size w w2 := ((b1.setCell (p := ⟨w.heap.size + 1, 0, none⟩) (by simp) _).setCell (p := ⟨w.heap.size + 1, 1, none⟩) (by simp) _).trans (k2.mono (by simpa using b1.size))
      clear x0 x1 x2 x3 y0 y1 y2 y3 b1 t1a t2a hsz g6 k2
      have hsz := t2b.lt
      have hne : ¬ w2.heap.size = w.heap.size := by omega
      have hne2 : ¬ w.heap.size = w2.heap.size := by omega
      obtain ⟨x0, x1, x2, x3⟩ := t1b.cells
      obtain ⟨y0, y1, y2, y3⟩ := t2b.cells
      have v0 : ∀ o, (w2.alloc o).cell? ⟨w.heap.size, 0, none⟩ = _ := fun o => (t1b.alloc o).cells.1
      have v1 : ∀ o, (w2.alloc o).cell? ⟨w.heap.size, 1, none⟩ = _ := fun o => (t1b.alloc o).cells.2.1
      go_wp2_with fail
      refine (behind_one rh rl (by omega) hrl _).mono ?_
      rintro e w3 ⟨h3, l3, rfl, g7, g8, g9, k3⟩
      have G9 := Lib.hid g9
      have t3c := (Two.new w2 h2 l2).keep k3
      have t1c := (t1b.alloc _).keep k3
      have t2c := (t2b.alloc _).keep k3
      have b3 : Below w.heap.size w w3 := (b2.alloc b2.size _).trans (k3.mono (by simp; omega))
      clear x0 x1 x2 x3 y0 y1 y2 y3 b2 t1b t2b g9 k3 v0 v1
      obtain ⟨x0, x1, x2, x3⟩ := t1c.cells
      obtain ⟨y0, y1, y2, y3⟩ := t2c.cells
      obtain ⟨z0, z1, z2, z3⟩ := t3c.cells
      have hsz2 := t3c.lt
      go_wp2_with fail
      by_cases ht : h2 * 18446744073709551616 + l2 ≤ h1 * 18446744073709551616 + l1
      · refine (atMost_yes h2 l2 h1 l1 g5 g2 ht _).mono ?_
        rintro e w4 ⟨rfl, k4⟩
        have t3d := ((t3c.other (a := ⟨w.heap.size, 0, none⟩) (by simp; omega) _).other (a := ⟨w.heap.size, 1, none⟩) (by simp; omega) _).keep k4
        have t2d := ((t2c.other (a := ⟨w.heap.size, 0, none⟩) (by simp) _).other (a := ⟨w.heap.size, 1, none⟩) (by simp) _).keep k4
        have t1d := (t1c.two h3 l3).keep k4
        have b4 : Below w.heap.size w w4 := ((b3.setCell (p := ⟨w.heap.size, 0, none⟩) (by simp) _).setCell (p := ⟨w.heap.size, 1, none⟩) (by simp) _).trans (k4.mono (by simpa using b3.size))
        clear x0 x1 x2 x3 y0 y1 y2 y3 z0 z1 z2 z3 b3 t1c t2c t3c k4
        obtain ⟨x0, x1, x2, x3⟩ := t1d.cells
        obtain ⟨y0, y1, y2, y3⟩ := t2d.cells
        obtain ⟨z0, z1, z2, z3⟩ := t3d.cells
        go_wp2_with fail
        refine (less_any h1 l1 h2 l2 g1 g2 g5 ht _).mono ?_
        rintro e w5 ⟨h5, l5, rfl, g10, g11, g12, k5⟩
        have t2e := t2d.keep k5
        have t1e := t1d.keep k5
        have b5 : Below w.heap.size w w5 := b4.trans (k5.mono b4.size)
        clear x0 x1 x2 x3 y0 y1 y2 y3 z0 z1 z2 z3 b4 t1d t2d t3d k5
        obtain ⟨x0, x1, x2, x3⟩ := t1e.cells
        obtain ⟨y0, y1, y2, y3⟩ := t2e.cells
        have hl3 : l3 / 2 * 2 = l3 := by have := G9.out; omega
        obtain ⟨m, hm, hm2⟩ : ∃ m : Nat, bits .or .u64 (l3 : Int) 1 = (m : Int) ∧ m = l3 + 1 := ⟨l3 + 1, by
          have e := or_two (l3 / 2) 1 (by omega) (by omega)
          rw [hl3] at e; exact e, rfl⟩
        have hS2 := Lib.hid (sq_taken hS.out HA.out G3.out G6.out ht G9.out (M := h3 * 18446744073709551616 + m) (by rw [hm2, Nat.add_assoc]) g12)
        have hmb : m < 18446744073709551616 := by omega
        clear hl3 hm2 g10 g12
        go_wp2
        go_roundw
        case rel => exact ⟨k + 1, A', h3, m, h5, l5, by omega, by go_num, rfl, hS2, hmb, g11, (((t1e.other (a := ⟨w.heap.size + 1, 0, none⟩) (by simp) _).other (a := ⟨w.heap.size + 1, 1, none⟩) (by simp) _)).low m, ((t2e.two h5 l5).other (a := ⟨w.heap.size, 1, none⟩) (by simp) _), ((b5.setCell (p := ⟨w.heap.size + 1, 0, none⟩) (by simp) _).setCell (p := ⟨w.heap.size + 1, 1, none⟩) (by simp) _).setCell (p := ⟨w.heap.size, 1, none⟩) (by simp) _⟩
        case measure => simp [intOf]; omega
      · refine (atMost_no h2 l2 h1 l1 g5 g2 ht _).mono ?_
        rintro e w4 ⟨rfl, k4⟩
        have t2d := ((t2c.other (a := ⟨w.heap.size, 0, none⟩) (by simp) _).other (a := ⟨w.heap.size, 1, none⟩) (by simp) _).keep k4
        have t1d := (t1c.two h3 l3).keep k4
        have b4 : Below w.heap.size w w4 := ((b3.setCell (p := ⟨w.heap.size, 0, none⟩) (by simp) _).setCell (p := ⟨w.heap.size, 1, none⟩) (by simp) _).trans (k4.mono (by simpa using b3.size))
        clear x0 x1 x2 x3 y0 y1 y2 y3 z0 z1 z2 z3 b3 t1c t2c t3c k4
        have hS2 := Lib.hid (sq_left hS.out HA.out G3.out G6.out ht G9.out)
        go_wp2
        go_roundw
        case rel => exact ⟨k + 1, A', h3, l3, h1, l1, by omega, by go_num, rfl, hS2, g8, g2, t1d, t2d, b4⟩
        case measure => simp [intOf]; omega
    · obtain rfl : k = 75 := by omega
      obtain ⟨x0, x1, x2, x3⟩ := t1.cells
      go_wp2
      go_ret2
      obtain ⟨q1, q2⟩ := sq_end hS.out
      exact ⟨rh, rl, rfl, hrl, q1, q2, hb⟩
end Go.Proofs.Ytfkokgcfjminiaa

/- The document's arena: its pieces as cells, what is used (Used, by its contract). Conditions: those typed. -/
import Derived.Test.YtackcboidjmegaaArMem
import Derived.LoopTactic
import Derived.RegionTactic
import Derived.Laws.OwnMore
import Derived.Lib.Hide
namespace Go.Proofs.Ytackcboidjmegaa
set_option maxRecDepth 50000
open Go.RowKit

abbrev Pz := List (Nat × Bool)
def mcs (l : Pz) : List Value := l.flatMap fun x => [.int .i64 (x.1 : Int), .bool x.2]
def usd : Pz → Nat
  | [] => 0
  | x :: l => (if x.2 then x.1 else 0) + usd l
def mny : Pz → Nat
  | [] => 0
  | x :: l => (if x.2 then 1 else 0) + mny l
theorem mcs_append (a b : Pz) : mcs (a ++ b) = mcs a ++ mcs b := by simp [mcs]
theorem mcs_length : ∀ l : Pz, (mcs l).length = l.length * 2
  | [] => rfl
  | x :: l => by
    have := mcs_length l
    unfold mcs at *
    rw [List.flatMap_cons, List.length_append, this, List.length_cons]
    simp
    omega
theorem mcs_at : ∀ (l : Pz) (i : Nat) (h : i < l.length), (mcs l)[i * 2]? = some (.int .i64 (l[i].1 : Int)) ∧ (mcs l)[i * 2 + 1]? = some (.bool l[i].2)
  | x :: l, 0, _ => ⟨rfl, rfl⟩
  | x :: l, i + 1, h => by
    have := mcs_at l i (by simpa using h)
    have e : mcs (x :: l) = [.int .i64 (x.1 : Int), .bool x.2] ++ mcs l := by simp [mcs]
    rw [e, show (i + 1) * 2 = i * 2 + 2 by omega, show i * 2 + 2 + 1 = i * 2 + 1 + 2 by omega]
    simpa using this
theorem usd_append (a b : Pz) : usd (a ++ b) = usd a + usd b := by
  induction a with
  | nil => simp [usd]
  | cons x a ih => simp [usd, ih]; omega
theorem mny_append (a b : Pz) : mny (a ++ b) = mny a + mny b := by
  induction a with
  | nil => simp [mny]
  | cons x a ih => simp [mny, ih]; omega
theorem take_next {α : Type} (l : List α) (i : Nat) (h : i < l.length) : l.take (i + 1) = l.take i ++ [l[i]] := by
  rw [List.take_add_one, List.getElem?_eq_getElem h]; rfl
theorem usd_take (l : Pz) (i : Nat) (h : i < l.length) : usd (l.take (i + 1)) = usd (l.take i) + if l[i].2 then l[i].1 else 0 := by
  rw [take_next l i h, usd_append]; simp [usd]
theorem mny_take (l : Pz) (i : Nat) (h : i < l.length) : mny (l.take (i + 1)) = mny (l.take i) + if l[i].2 then 1 else 0 := by
  rw [take_next l i h, mny_append]; simp [mny]
theorem mny_le : ∀ l : Pz, mny l ≤ l.length
  | [] => Nat.le_refl _
  | x :: l => by
    have := mny_le l
    simp only [mny, List.length_cons]
    split <;> omega
theorem usd_part (l : Pz) (i : Nat) : usd (l.take i) ≤ usd l := by
  conv => rhs; rw [← List.take_append_drop i l, usd_append]
  omega

/-- the document's arena as a value -/
def mcells (B : Nat) (v : Value) (h : Nat) : Array Value := #[.int .i64 (B : Int), v, .int .i64 (h : Int)]
theorem m_size : (Try.prog.info? 32).map (·.size) = some 3 := by kernel_rfl

set_option maxHeartbeats 1600000 in
theorem rused_any (B h : Nat) (A : Option Addr) (c : Nat) (l : Pz) (w : World) (hr : Reads w w.heap.size A (mcs l)) (hl : l.length ≤ 1000000) (hu : usd l ≤ 1000000000) :
    Calls Try.prog 23 #[.agg (mcells B (.slice A l.length c) h)] w fun e w' => e = .returned (.tuple #[.int .i64 (usd l : Int), .int .i64 (mny l : Int)]) ∧ Below w.heap.size w w' := by
  have HR := Lib.hid hr
  have HU := Lib.hid hu
  have HW := Lib.hid (RowAt.new w 32 (mcells B (.slice A l.length c) h))
  have HB := Lib.hid ((Below.refl w.heap.size w).alloc (Nat.le_refl _) (.cells (mcells B (.slice A l.length c) h) 32))
  clear hr hu
  unfold mcells at *
  go_enter Try.func23, Try.ntmps23
  go_wp2
  generalize World.alloc w _ = w1 at *
  have x1 : w1.cell? ⟨w.heap.size, 1, none⟩ = some (.slice A l.length c) := by rw [HW.out.cell 1]; rfl
  go_loopw [4, 5, 6] (fun v4 v5 v6 wr => ∃ i : Nat, i ≤ l.length ∧ v4 = .int .i64 (usd (l.take i) : Int) ∧ v5 = .int .i64 (mny (l.take i) : Int) ∧ v6 = .int .i64 (i : Int) ∧ wr = w1) (fun _ _ v6 _ => l.length - (intOf v6).toNat)
  case atStart => exact ⟨0, by omega, rfl, rfl, rfl, rfl⟩
  case round =>
    obtain ⟨i, hi, rfl, rfl, rfl, rfl⟩ := hrel
    by_cases hlt : i < l.length
    · have hdt : decide ((i : Int) < (l.length : Int)) = true := by simp; omega
      have hi0 : (0 : Int) ≤ (i : Int) := by omega
      have hi1 : (i : Int) < (l.length : Int) := by omega
      obtain ⟨c0, c1⟩ := mcs_at l i hlt
      obtain ⟨b, off, rfl, hbB, hc0⟩ := HR.out (i * 2) (by rw [mcs_length]; omega)
      obtain ⟨b', off', e', _, hc1⟩ := HR.out (i * 2 + 1) (by rw [mcs_length]; omega)
      cases e'
      rw [← List.getElem?_eq_getElem, c0] at hc0
      rw [← List.getElem?_eq_getElem, c1] at hc1
      have y0 := (HB.out.cell (p := ⟨b, off + i * 2, none⟩) hbB).trans hc0
      have y1 := (HB.out.cell (p := ⟨b, off + i * 2 + 1, none⟩) hbB).trans hc1
      have HT := Lib.hid (usd_take l i hlt)
      have HM := Lib.hid (mny_take l i hlt)
      have hm := Nat.le_trans (mny_le (l.take i)) (List.length_take_le ..)
      have hp := Nat.le_trans (usd_part l i) HU.out
      have hq := Nat.le_trans (usd_part l (i + 1)) HU.out
      rw [HT.out] at hq
      clear c0 c1 hc0 hc1
      generalize l[i] = z at *
      obtain ⟨n, k⟩ := z
      generalize usd (l.take i) = U at *
      generalize mny (l.take i) = V at *
      cases k
      · go_wp2
        go_roundw
        case rel => exact ⟨i + 1, by omega, by rw [HT.out]; rfl, by rw [HM.out]; rfl, by go_num, trivial⟩
        case measure => simp [intOf]; omega
      · simp only [if_true] at hq HT HM
        go_wp2
        go_roundw
        case rel => exact ⟨i + 1, by omega, by rw [HT.out]; go_num, by rw [HM.out]; go_num, by go_num, trivial⟩
        case measure => simp [intOf]; omega
    · obtain rfl : i = l.length := by omega
      have hdt : decide ((l.length : Int) < (l.length : Int)) = false := by simp
      rw [List.take_length]
      go_wp2
      go_ret2
      exact ⟨rfl, HB.out⟩
end Go.Proofs.Ytackcboidjmegaa

/- Arrays of words of 64 bits and of ints as they lie in memory; Quarter of package blake by its contract, and the document's. Conditions: those typed. -/
import Derived.Test.YtljijgihnoloeaaDoorArr
import Derived.Test.YtljijgihnoloeaaDoorBkPure
import Derived.Test.YtljijgihnoloeaaDoorTurn
import Derived.Test.YtljijgihnoloeaaDoorLaid
import Derived.BigQuiet
import Derived.StillTailTactics
namespace Go.Proofs.YtljijgihnoloeaaDoor
set_option maxRecDepth 50000
open Go.RowKit Rot Bl

def wq (l : List Nat) : Array Value := (u64s l).toArray
theorem wq_size (l : List Nat) : (wq l).size = l.length := by simp [wq, u64s]
theorem wq_at (l : List Nat) (i : Nat) (h : i < l.length) : (wq l)[i]? = some (.int .u64 (l.getD i 0 : Nat)) := by
  simp [wq, u64s, List.getD_eq_getElem?_getD, List.getElem?_eq_getElem h]
theorem wq_set (l : List Nat) (i x : Nat) : (wq l).setIfInBounds i (.int .u64 (x : Int)) = wq (l.set i x) := by
  simp [wq, u64s, List.map_set]
theorem wq_one (l : List Nat) : (wq l).all (·.oneCell') = true := by
  simp [wq, u64s, Value.oneCell']
def iq (l : List Nat) : Array Value := (l.map fun x : Nat => Value.int .i64 (x : Int)).toArray
theorem iq_size (l : List Nat) : (iq l).size = l.length := by simp [iq]
theorem iq_at (l : List Nat) (i : Nat) (h : i < l.length) : (iq l)[i]? = some (.int .i64 (l.getD i 0 : Nat)) := by
  simp [iq, List.getD_eq_getElem?_getD, List.getElem?_eq_getElem h]
theorem iq_set (l : List Nat) (i x : Nat) : (iq l).setIfInBounds i (.int .i64 (x : Int)) = iq (l.set i x) := by
  simp [iq, List.map_set]
theorem iq_one (l : List Nat) : (iq l).all (·.oneCell') = true := by
  simp [iq, Value.oneCell']
theorem q_size8 : (Tryd.prog.info? 30).map (·.size) = some 8 := by kernel_rfl
theorem q_size16 : (Tryd.prog.info? 79).map (·.size) = some 16 := by kernel_rfl
theorem q_size4 : (Tryd.prog.info? 84).map (·.size) = some 4 := by kernel_rfl
theorem q_int16 : (Tryd.prog.info? 80).map (·.size) = some 16 := by kernel_rfl
theorem q_int4 : (Tryd.prog.info? 82).map (·.size) = some 4 := by kernel_rfl
theorem q_u64 : (Tryd.prog.info? 29).map (·.size) = some 1 := by kernel_rfl
theorem q_int : (Tryd.prog.info? 3).map (·.size) = some 1 := by kernel_rfl

theorem right_q (n s : Nat) (h : ((-(n : Int)) % 64).toNat = s) (x : Nat) (hx : x < 18446744073709551616) (w : World) : Calls Tryd.prog 55 #[.int .u64 (x : Int), .int .i64 (n : Int)] w fun e w' => e = .returned (.int .u64 (rotl 64 x s : Nat)) ∧ w = w' := by
  rw [← h]; exact right64_any x n hx w

set_option maxHeartbeats 800000 in
theorem quarter_any (q : Q) (hq : q.ok) (x y : Nat) (w : World) :
    Calls Tryd.prog 47 #[.int .u64 (q.a : Int), .int .u64 (q.b : Int), .int .u64 (q.c : Int), .int .u64 (q.d : Int), .int .u64 (x : Int), .int .u64 (y : Int)] w fun e w' =>
      e = .returned (.tuple #[.int .u64 ((quarter q x y).a : Int), .int .u64 ((quarter q x y).b : Int), .int .u64 ((quarter q x y).c : Int), .int .u64 ((quarter q x y).d : Int)]) ∧ w = w' := by
  obtain ⟨a, b, c, d⟩ := q
  obtain ⟨ha, hb, hc, hd⟩ := hq
  simp only at ha hb hc hd
  have e1 := wadd b x
  have e2 := wadd a (add b x)
  have l2 := Bl.add_lt a (add b x)
  have E : Hid ((quarter ⟨a, b, c, d⟩ x y) = half (half ⟨a, b, c, d⟩ x 32 40) y 48 1) := Lib.hid rfl
  have E1 : Hid (half ⟨a, b, c, d⟩ x 32 40 = ⟨add a (add b x), rotl 64 (b ^^^ add c (rotl 64 (d ^^^ add a (add b x)) 32)) 40, add c (rotl 64 (d ^^^ add a (add b x)) 32), rotl 64 (d ^^^ add a (add b x)) 32⟩) := Lib.hid rfl
  generalize add a (add b x) = a1 at *
  generalize add b x = s1 at *
  have e3 := xor64 d a1 hd l2
  have l3 := xor_lt64 d a1 hd l2
  generalize d ^^^ a1 = z1 at *
  have R1 := Lib.hid fun w => right_q 32 32 rfl z1 l3 w
  have l4 := rotl_lt64 z1 32 (by decide) l3
  generalize rotl 64 z1 32 = d1 at *
  have e5 := wadd c d1
  have l5 := Bl.add_lt c d1
  generalize add c d1 = c1 at *
  have e6 := xor64 b c1 hb l5
  have l6 := xor_lt64 b c1 hb l5
  generalize b ^^^ c1 = z2 at *
  have R2 := Lib.hid fun w => right_q 24 40 rfl z2 l6 w
  have l7 := rotl_lt64 z2 40 (by decide) l6
  generalize rotl 64 z2 40 = b1 at *
  rw [E1.out] at E
  clear E1
  have F1 : Hid (half ⟨a1, b1, c1, d1⟩ y 48 1 = ⟨add a1 (add b1 y), rotl 64 (b1 ^^^ add c1 (rotl 64 (d1 ^^^ add a1 (add b1 y)) 48)) 1, add c1 (rotl 64 (d1 ^^^ add a1 (add b1 y)) 48), rotl 64 (d1 ^^^ add a1 (add b1 y)) 48⟩) := Lib.hid rfl
  have f1 := wadd b1 y
  have f2 := wadd a1 (add b1 y)
  have m2 := Bl.add_lt a1 (add b1 y)
  generalize add a1 (add b1 y) = a2 at *
  generalize add b1 y = s2 at *
  have f3 := xor64 d1 a2 l4 m2
  have m3 := xor_lt64 d1 a2 l4 m2
  generalize d1 ^^^ a2 = z3 at *
  have R3 := Lib.hid fun w => right_q 16 48 rfl z3 m3 w
  generalize rotl 64 z3 48 = d2 at *
  have f5 := wadd c1 d2
  have m5 := Bl.add_lt c1 d2
  generalize add c1 d2 = c2 at *
  have f6 := xor64 b1 c2 l7 m5
  have m6 := xor_lt64 b1 c2 l7 m5
  generalize b1 ^^^ c2 = z4 at *
  have R4 := Lib.hid fun w => right_q 63 1 rfl z4 m6 w
  generalize rotl 64 z4 1 = b2 at *
  rw [F1.out] at E
  clear F1
  rw [E.out]
  clear E ha hb hc hd l2 l3 l4 l5 l6 l7 m2 m3 m5 m6
  go_enter Tryd.func47, Tryd.ntmps47
  go_wp2_with fail
  refine (R1.out _).mono ?_; rintro e w' ⟨rfl, rfl⟩
  go_wp2_with fail
  refine (R2.out _).mono ?_; rintro e w' ⟨rfl, rfl⟩
  go_wp2_with fail
  refine (R3.out _).mono ?_; rintro e w' ⟨rfl, rfl⟩
  go_wp2_with fail
  refine (R4.out _).mono ?_; rintro e w' ⟨rfl, rfl⟩
  go_wp2
  simp [bodyPost, results, Tryd.results47, go_sem]
end Go.Proofs.YtljijgihnoloeaaDoor

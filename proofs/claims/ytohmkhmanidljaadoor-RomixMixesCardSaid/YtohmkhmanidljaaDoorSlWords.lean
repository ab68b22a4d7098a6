/- Arrays of words of 32 bits and of ints as they lie in memory; Quarter of package salsa by its contract, and the document's Quarter and Undone. Conditions: those typed. -/
import Derived.Test.YtohmkhmanidljaaDoorArr
import Derived.Test.YtohmkhmanidljaaDoorSlPure
import Derived.Test.YtohmkhmanidljaaDoorTurn
import Derived.Test.YtohmkhmanidljaaDoorLaid
import Derived.BigQuiet
import Derived.StillTailTactics
import Derived.Deep.QuietTactic
namespace Go.Proofs.YtohmkhmanidljaaDoor
set_option maxRecDepth 50000
open Go.RowKit Rot Sl

def wd (l : List Nat) : Array Value := (u32s l).toArray
theorem wd_size (l : List Nat) : (wd l).size = l.length := by simp [wd, u32s]
theorem wd_at (l : List Nat) (i : Nat) (h : i < l.length) : (wd l)[i]? = some (.int .u32 (l.getD i 0 : Nat)) := by
  simp [wd, u32s, List.getD_eq_getElem?_getD, List.getElem?_eq_getElem h]
theorem wd_set (l : List Nat) (i x : Nat) : (wd l).setIfInBounds i (.int .u32 (x : Int)) = wd (l.set i x) := by
  simp [wd, u32s, List.map_set]
theorem wd_one (l : List Nat) : (wd l).all (·.oneCell') = true := by
  simp [wd, u32s, Value.oneCell']
def iq (l : List Nat) : Array Value := (l.map fun x : Nat => Value.int .i64 (x : Int)).toArray
theorem iq_size (l : List Nat) : (iq l).size = l.length := by simp [iq]
theorem iq_at (l : List Nat) (i : Nat) (h : i < l.length) : (iq l)[i]? = some (.int .i64 (l.getD i 0 : Nat)) := by
  simp [iq, List.getD_eq_getElem?_getD, List.getElem?_eq_getElem h]
theorem iq_set (l : List Nat) (i x : Nat) : (iq l).setIfInBounds i (.int .i64 (x : Int)) = iq (l.set i x) := by
  simp [iq, List.map_set]
theorem iq_one (l : List Nat) : (iq l).all (·.oneCell') = true := by
  simp [iq, Value.oneCell']
theorem size_16 : (Tryd.prog.info? 81).map (·.size) = some 16 := by kernel_rfl
theorem size_4 : (Tryd.prog.info? 99).map (·.size) = some 4 := by kernel_rfl
theorem size_int4 : (Tryd.prog.info? 98).map (·.size) = some 4 := by kernel_rfl
theorem size_u32 : (Tryd.prog.info? 50).map (·.size) = some 1 := by kernel_rfl
theorem size_int : (Tryd.prog.info? 3).map (·.size) = some 1 := by kernel_rfl

theorem left_n (n : Nat) (hn : n < 32) (x : Nat) (hx : x < 4294967296) (w : World) : Calls Tryd.prog 57 #[.int .u32 (x : Int), .int .i64 (n : Int)] w fun e w' => e = .returned (.int .u32 (rotl 32 x n : Nat)) ∧ w = w' := by
  have h := left32_any x n hx w
  rwa [show ((n : Int) % 32).toNat = n by omega] at h
theorem rleft_n (n : Nat) (hn : n < 32) (x : Nat) (hx : x < 4294967296) (w : World) : Calls Tryd.prog 55 #[.int .u32 (x : Int), .int .i64 (n : Int)] w fun e w' => e = .returned (.int .u32 (rotl 32 x n : Nat)) ∧ w = w' := by
  have h := refleft_any x n w hx
  rwa [show ((n : Int) % 32).toNat = n by omega] at h

set_option maxHeartbeats 800000 in
theorem quarter_any (q : Q) (hq : q.ok) (w : World) :
    Calls Tryd.prog 56 #[.int .u32 (q.a : Int), .int .u32 (q.b : Int), .int .u32 (q.c : Int), .int .u32 (q.d : Int)] w fun e w' =>
      e = .returned (.tuple #[.int .u32 ((quarter q).a : Int), .int .u32 ((quarter q).b : Int), .int .u32 ((quarter q).c : Int), .int .u32 ((quarter q).d : Int)]) ∧ w = w' := by
  have E : Hid (quarter q = ⟨aO q, bO q, cO q, dO q⟩) := Lib.hid rfl
  have eb : bO q = q.b ^^^ rotl 32 (add q.a q.d) 7 := rfl
  have ec : cO q = q.c ^^^ rotl 32 (add (bO q) q.a) 9 := rfl
  have ed : dO q = q.d ^^^ rotl 32 (add (cO q) (bO q)) 13 := rfl
  have ea : aO q = q.a ^^^ rotl 32 (add (dO q) (cO q)) 18 := rfl
  generalize aO q = a' at *
  generalize bO q = b' at *
  generalize cO q = c' at *
  generalize dO q = d' at *
  obtain ⟨a, b, c, d⟩ := q
  obtain ⟨ha, hb, hc, hd⟩ := hq
  simp only at ha hb hc hd ea eb ec ed
  have e1 := wadd a d
  have R1 := Lib.hid fun w => left_n 7 (by decide) (add a d) (add_lt _ _) w
  have f1 := xor32 b _ hb (rot_lt a 7 (by decide) d)
  rw [← eb] at f1
  have e2 := wadd b' a
  have R2 := Lib.hid fun w => left_n 9 (by decide) (add b' a) (add_lt _ _) w
  have f2 := xor32 c _ hc (rot_lt b' 9 (by decide) a)
  rw [← ec] at f2
  have e3 := wadd c' b'
  have R3 := Lib.hid fun w => left_n 13 (by decide) (add c' b') (add_lt _ _) w
  have f3 := xor32 d _ hd (rot_lt c' 13 (by decide) b')
  rw [← ed] at f3
  have e4 := wadd d' c'
  have R4 := Lib.hid fun w => left_n 18 (by decide) (add d' c') (add_lt _ _) w
  have f4 := xor32 a _ ha (rot_lt d' 18 (by decide) c')
  rw [← ea] at f4
  rw [E.out]
  clear E ea eb ec ed ha hb hc hd
  generalize rotl 32 (add a d) 7 = r1 at *
  generalize rotl 32 (add b' a) 9 = r2 at *
  generalize rotl 32 (add c' b') 13 = r3 at *
  generalize rotl 32 (add d' c') 18 = r4 at *
  generalize add a d = s1 at *
  generalize add b' a = s2 at *
  generalize add c' b' = s3 at *
  generalize add d' c' = s4 at *
  go_enter Tryd.func56, Tryd.ntmps56
  go_wp2_with fail
  refine (R1.out _).mono ?_; rintro e w' ⟨rfl, rfl⟩
  go_wp2_with fail
  refine (R2.out _).mono ?_; rintro e w' ⟨rfl, rfl⟩
  go_wp2_with fail
  refine (R3.out _).mono ?_; rintro e w' ⟨rfl, rfl⟩
  go_wp2_with fail
  refine (R4.out _).mono ?_; rintro e w' ⟨rfl, rfl⟩
  go_wp2
  simp [bodyPost, results, Tryd.results56, go_sem]
end Go.Proofs.YtohmkhmanidljaaDoor

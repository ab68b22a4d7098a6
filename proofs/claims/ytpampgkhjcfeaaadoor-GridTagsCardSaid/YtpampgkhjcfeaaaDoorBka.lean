/- BLAKE2b as plain mathematics: words are natural numbers below 2^64; the mixing of four words with two, a round, the state behind a block. No condition. Arrays of words of 64 bits and of ints as they lie in memory; Quarter of package blake by its contract, and the document's. Conditions: those typed. -/
import Derived.Test.YtpampgkhjcfeaaaDoorRot
import Derived.WalkKit
import Derived.Test.YtpampgkhjcfeaaaDoorArr
import Derived.Test.YtpampgkhjcfeaaaDoorTurn
import Derived.Test.YtpampgkhjcfeaaaDoorLaid
import Derived.BigQuiet
import Derived.StillTailTactics
namespace Go.Proofs.YtpampgkhjcfeaaaDoor.Bl
set_option maxRecDepth 50000
open Rot

def add (a b : Nat) : Nat := (a + b) % 18446744073709551616
structure Q where
  a : Nat
  b : Nat
  c : Nat
  d : Nat
/-- half of the mixing: turned by places r and s to the left -/
def half (q : Q) (x r s : Nat) : Q :=
  let a := add q.a (add q.b x)
  let d := rotl 64 (q.d ^^^ a) r
  let c := add q.c d
  ⟨a, rotl 64 (q.b ^^^ c) s, c, d⟩
def quarter (q : Q) (x y : Nat) : Q := half (half q x 32 40) y 48 1
def iv : List Nat := [7640891576956012808, 13503953896175478587, 4354685564936845355, 11912009170470909681, 5840696475078001361, 11170449401992604703, 2270897969802886507, 6620516959819538809]
/-- in which order a round takes a block's words -/
def ords : List (List Nat) := [[0, 1, 2, 3, 4, 5, 6, 7, 8, 9, 10, 11, 12, 13, 14, 15], [14, 10, 4, 8, 9, 15, 13, 6, 1, 12, 0, 2, 11, 7, 5, 3], [11, 8, 12, 0, 5, 2, 15, 13, 10, 14, 3, 6, 7, 1, 9, 4], [7, 9, 3, 1, 13, 12, 11, 14, 2, 6, 5, 10, 4, 0, 15, 8], [9, 0, 5, 7, 2, 4, 10, 15, 14, 1, 11, 12, 6, 8, 3, 13], [2, 12, 6, 10, 0, 11, 8, 3, 4, 13, 7, 5, 15, 14, 1, 9], [12, 5, 1, 15, 14, 13, 4, 10, 0, 7, 6, 3, 9, 2, 8, 11], [13, 11, 7, 14, 12, 1, 3, 9, 5, 0, 15, 4, 8, 6, 2, 10], [6, 15, 14, 9, 11, 3, 0, 8, 12, 2, 13, 7, 1, 4, 10, 5], [10, 2, 8, 4, 7, 6, 1, 5, 15, 11, 9, 14, 3, 12, 13, 0]]
def order (r : Nat) : List Nat := ords.getD (r % 10) []
/-- which words a quarter takes -/
def pos : List (List Nat) := [[0, 4, 8, 12], [1, 5, 9, 13], [2, 6, 10, 14], [3, 7, 11, 15], [0, 5, 10, 15], [1, 6, 11, 12], [2, 7, 8, 13], [3, 4, 9, 14]]
def pt (i k : Nat) : Nat := (pos.getD i []).getD k 0
def take4 (v : List Nat) (i : Nat) : Q := ⟨v.getD (pt i 0) 0, v.getD (pt i 1) 0, v.getD (pt i 2) 0, v.getD (pt i 3) 0⟩
def put4 (v : List Nat) (i : Nat) (q : Q) : List Nat := (((v.set (pt i 0) q.a).set (pt i 1) q.b).set (pt i 2) q.c).set (pt i 3) q.d
def mixAt (v m s : List Nat) (i : Nat) : List Nat := put4 v i (quarter (take4 v i) (m.getD (s.getD (2 * i) 0) 0) (m.getD (s.getD (2 * i + 1) 0) 0))
def mixTo (v m s : List Nat) : Nat → List Nat
  | 0 => v
  | i + 1 => mixAt (mixTo v m s i) m s i
def roundsTo (v m : List Nat) : Nat → List Nat
  | 0 => v
  | r + 1 => mixTo (roundsTo v m r) m (order r) 8
def start (h : List Nat) (t : Nat) (last : Bool) : List Nat :=
  h ++ [iv.getD 0 0, iv.getD 1 0, iv.getD 2 0, iv.getD 3 0, iv.getD 4 0 ^^^ t, iv.getD 5 0, if last then 18446744073709551615 - iv.getD 6 0 else iv.getD 6 0, iv.getD 7 0]
def fold8 (h v : List Nat) : Nat → List Nat
  | 0 => h
  | j + 1 => (fold8 h v j).set j (h.getD j 0 ^^^ (v.getD j 0 ^^^ v.getD (j + 8) 0))
/-- the state behind a block -/
def comp (h m : List Nat) (t : Nat) (last : Bool) : List Nat := fold8 h (roundsTo (start h t last) m 12) 8

def okw (l : List Nat) : Prop := ∀ x ∈ l, x < 18446744073709551616
theorem add_lt (a b : Nat) : add a b < 18446744073709551616 := Nat.mod_lt _ (by decide)
theorem xor_lt64 (a b : Nat) (ha : a < 18446744073709551616) (hb : b < 18446744073709551616) : a ^^^ b < 18446744073709551616 := Nat.xor_lt_two_pow (n := 64) ha hb
theorem rotl_lt64 (x s : Nat) (hs : s ≤ 64) (hx : x < 18446744073709551616) : rotl 64 x s < 18446744073709551616 := rotl_lt 64 x s hs hx
theorem okw.at_ {l : List Nat} (h : okw l) (i : Nat) : l.getD i 0 < 18446744073709551616 := by
  rw [List.getD_eq_getElem?_getD]
  by_cases hi : i < l.length
  · rw [List.getElem?_eq_getElem hi]; exact h _ (List.getElem_mem hi)
  · rw [List.getElem?_eq_none (by omega)]; decide
theorem okw.set {l : List Nat} (h : okw l) (i x : Nat) (hx : x < 18446744073709551616) : okw (l.set i x) := fun y hy => by
  rcases List.mem_or_eq_of_mem_set hy with hy | rfl
  · exact h y hy
  · exact hx
def Q.ok (q : Q) : Prop := q.a < 18446744073709551616 ∧ q.b < 18446744073709551616 ∧ q.c < 18446744073709551616 ∧ q.d < 18446744073709551616
theorem half_ok {q : Q} (h : q.ok) (x r s : Nat) (hr : r ≤ 64) (hs : s ≤ 64) : (half q x r s).ok :=
  ⟨add_lt _ _, rotl_lt64 _ _ hs (xor_lt64 _ _ h.2.1 (add_lt _ _)), add_lt _ _, rotl_lt64 _ _ hr (xor_lt64 _ _ h.2.2.2 (add_lt _ _))⟩
theorem quarter_ok {q : Q} (h : q.ok) (x y : Nat) : (quarter q x y).ok := half_ok (half_ok h _ _ _ (by decide) (by decide)) _ _ _ (by decide) (by decide)
theorem put4_ok {v : List Nat} (h : okw v) (i : Nat) {q : Q} (hq : q.ok) : okw (put4 v i q) := (((h.set _ _ hq.1).set _ _ hq.2.1).set _ _ hq.2.2.1).set _ _ hq.2.2.2
theorem put4_length (v : List Nat) (i : Nat) (q : Q) : (put4 v i q).length = v.length := by simp [put4]
theorem mixAt_length (v m s : List Nat) (i : Nat) : (mixAt v m s i).length = v.length := put4_length _ _ _
theorem mixTo_length (v m s : List Nat) : ∀ i, (mixTo v m s i).length = v.length
  | 0 => rfl
  | i + 1 => by rw [mixTo, mixAt_length, mixTo_length v m s i]
theorem take4_ok {v : List Nat} (h : okw v) (i : Nat) : (take4 v i).ok := ⟨h.at_ _, h.at_ _, h.at_ _, h.at_ _⟩
theorem mixTo_ok {v : List Nat} (h : okw v) (m s : List Nat) : ∀ i, okw (mixTo v m s i)
  | 0 => h
  | i + 1 => put4_ok (mixTo_ok h m s i) i (quarter_ok (take4_ok (mixTo_ok h m s i) i) _ _)
theorem roundsTo_length (v m : List Nat) : ∀ r, (roundsTo v m r).length = v.length
  | 0 => rfl
  | r + 1 => by rw [roundsTo, mixTo_length, roundsTo_length v m r]
theorem roundsTo_ok {v : List Nat} (h : okw v) (m : List Nat) : ∀ r, okw (roundsTo v m r)
  | 0 => h
  | r + 1 => mixTo_ok (roundsTo_ok h m r) m _ 8
theorem iv_ok : okw iv := by unfold okw; decide
theorem start_length (h : List Nat) (hl : h.length = 8) (t : Nat) (last : Bool) : (start h t last).length = 16 := by simp [start, hl]
theorem start_ok {h : List Nat} (hk : okw h) {t : Nat} (ht : t < 18446744073709551616) (last : Bool) : okw (start h t last) := fun x hx => by
  rcases List.mem_append.1 hx with hx | hx
  · exact hk x hx
  · simp only [List.mem_cons, List.not_mem_nil, or_false] at hx
    rcases hx with rfl | rfl | rfl | rfl | rfl | rfl | rfl | rfl
    iterate 4 exact iv_ok.at_ _
    · exact xor_lt64 _ _ (iv_ok.at_ _) ht
    · exact iv_ok.at_ _
    · cases last
      · exact iv_ok.at_ _
      · show 18446744073709551615 - _ < _; omega
    · exact iv_ok.at_ _
theorem fold8_length (h v : List Nat) : ∀ j, (fold8 h v j).length = h.length
  | 0 => rfl
  | j + 1 => by simp [fold8, fold8_length h v j]
theorem fold8_ok {h v : List Nat} (hh : okw h) (hv : okw v) : ∀ j, okw (fold8 h v j)
  | 0 => hh
  | j + 1 => (fold8_ok hh hv j).set _ _ (xor_lt64 _ _ (hh.at_ _) (xor_lt64 _ _ (hv.at_ _) (hv.at_ _)))
theorem fold8_at (h v : List Nat) (i : Nat) : ∀ j, j ≤ i → (fold8 h v j).getD i 0 = h.getD i 0
  | 0, _ => rfl
  | j + 1, hl => by
    have := fold8_at h v i j (by omega)
    rw [fold8, List.getD_eq_getElem?_getD, List.getElem?_set_ne (by omega), ← List.getD_eq_getElem?_getD, this]
theorem comp_length (h m : List Nat) (t : Nat) (last : Bool) : (comp h m t last).length = h.length := fold8_length _ _ _
theorem comp_ok {h : List Nat} (hh : okw h) (m : List Nat) {t : Nat} (ht : t < 18446744073709551616) (last : Bool) : okw (comp h m t last) := fold8_ok hh (roundsTo_ok (start_ok hh ht last) m 12) 8
theorem order_length (r : Nat) : (order r).length = 16 := by
  have h : ∀ k, k < 10 → (ords.getD k []).length = 16 := by decide
  exact h _ (Nat.mod_lt _ (by decide))
theorem order_lt (r : Nat) (i : Nat) : (order r).getD i 0 < 16 := by
  have h : ∀ k, k < 10 → ∀ i, i < 16 → (ords.getD k []).getD i 0 < 16 := by decide
  by_cases hi : i < 16
  · exact h _ (Nat.mod_lt _ (by decide)) i hi
  · rw [List.getD_eq_getElem?_getD, List.getElem?_eq_none (by rw [order_length]; omega)]; decide
theorem pt_lt (i k : Nat) (hi : i < 8) (hk : k < 4) : pt i k < 16 := by
  have h : ∀ i, i < 8 → ∀ k, k < 4 → pt i k < 16 := by decide
  exact h i hi k hk

/-! what Go's operations on words of 64 bits are -/
theorem ofInt64 (a : Nat) (h : a < 18446744073709551616) : (BitVec.ofInt 64 (a : Int)).toNat = a := by
  rw [BitVec.toNat_ofInt]; simp; omega
theorem u64_in (a : Nat) (h : a < 18446744073709551616) : IntKind.u64.wrap (a : Int) = (a : Int) := by
  have e : IntKind.u64.wrap (a : Int) = (a : Int) % 18446744073709551616 := by simp [IntKind.wrap, IntKind.bits, IntKind.signed]
  rw [e]; omega
theorem xor64 (a b : Nat) (ha : a < 18446744073709551616) (hb : b < 18446744073709551616) : bits .xor .u64 (a : Int) (b : Int) = ((a ^^^ b : Nat) : Int) := by
  have h := xor_lt64 a b ha hb
  have e : bits .xor .u64 (a : Int) (b : Int) = IntKind.u64.wrap (((BitVec.ofInt 64 (a : Int)) ^^^ (BitVec.ofInt 64 (b : Int))).toNat : Int) := rfl
  rw [e, BitVec.toNat_xor, ofInt64 a ha, ofInt64 b hb, u64_in _ h]
theorem wadd (a b : Nat) : IntKind.u64.wrap ((a : Int) + (b : Int)) = ((add a b : Nat) : Int) := by
  have e : IntKind.u64.wrap ((a : Int) + (b : Int)) = ((a : Int) + (b : Int)) % 18446744073709551616 := by simp [IntKind.wrap, IntKind.bits, IntKind.signed]
  rw [e]; unfold add; omega
theorem not64 (e : Nat) (he : e < 18446744073709551616) : bits .xor .u64 (if IntKind.u64.signed = true then -1 else IntKind.u64.max) (e : Int) = ((18446744073709551615 - e : Nat) : Int) := by
  have e0 : (if IntKind.u64.signed = true then (-1 : Int) else IntKind.u64.max) = ((18446744073709551615 : Nat) : Int) := rfl
  rw [e0, xor64 18446744073709551615 e (by decide) he]
  congr 1
  have h := BitVec.toNat_xor (BitVec.allOnes 64) (BitVec.ofNat 64 e)
  rw [BitVec.allOnes_xor, BitVec.toNat_not, BitVec.toNat_allOnes, BitVec.toNat_ofNat, Nat.mod_eq_of_lt (by simpa using he)] at h
  simpa using h.symm
end Go.Proofs.YtpampgkhjcfeaaaDoor.Bl

namespace Go.Proofs.YtpampgkhjcfeaaaDoor
set_option maxRecDepth 50000
open Go.RowKit Rot Bl

def wq (l : List Nat) : Array Value := (u64s l).toArray
theorem wq_size (l : List Nat) : (wq l).size = l.length := by simp [wq, u64s]
theorem wq_at (l : List Nat) (i : Nat) (h : i < l.length) : (wq l)[i]? = some (.int .u64 (l.getD i 0 : Nat)) := by
  simp [wq, u64s, List.getD_eq_getElem?_getD, List.getElem?_eq_getElem h]
theorem wq_set (l : List Nat) (i x : Nat) : (wq l).setIfInBounds i (.int .u64 (x : Int)) = wq (l.set i x) := by
  simp [wq, u64s, List.map_set]
theorem wq_one (l : List Nat) : (wq l).all (·.oneCell') = true := by
  simp [wq, u64s, Value.oneCell']
def iq (l : List Nat) : Array Value := (l.map fun x : Nat => Value.int .i64 (x : Int)).toArray
theorem iq_size (l : List Nat) : (iq l).size = l.length := by simp [iq]
theorem iq_at (l : List Nat) (i : Nat) (h : i < l.length) : (iq l)[i]? = some (.int .i64 (l.getD i 0 : Nat)) := by
  simp [iq, List.getD_eq_getElem?_getD, List.getElem?_eq_getElem h]
theorem iq_set (l : List Nat) (i x : Nat) : (iq l).setIfInBounds i (.int .i64 (x : Int)) = iq (l.set i x) := by
  simp [iq, List.map_set]
theorem iq_one (l : List Nat) : (iq l).all (·.oneCell') = true := by
  simp [iq, Value.oneCell']
theorem q_size8 : (Tryd.prog.info? 56).map (·.size) = some 8 := by kernel_rfl
theorem q_size16 : (Tryd.prog.info? 153).map (·.size) = some 16 := by kernel_rfl
theorem q_size4 : (Tryd.prog.info? 158).map (·.size) = some 4 := by kernel_rfl
theorem q_int16 : (Tryd.prog.info? 154).map (·.size) = some 16 := by kernel_rfl
theorem q_int4 : (Tryd.prog.info? 156).map (·.size) = some 4 := by kernel_rfl
theorem q_u64 : (Tryd.prog.info? 27).map (·.size) = some 1 := by kernel_rfl
theorem q_int : (Tryd.prog.info? 3).map (·.size) = some 1 := by kernel_rfl

theorem right_q (n s : Nat) (h : ((-(n : Int)) % 64).toNat = s) (x : Nat) (hx : x < 18446744073709551616) (w : World) : Calls Tryd.prog 87 #[.int .u64 (x : Int), .int .i64 (n : Int)] w fun e w' => e = .returned (.int .u64 (rotl 64 x s : Nat)) ∧ w = w' := by
  rw [← h]; exact right64_any x n hx w

set_option maxHeartbeats 800000 in
theorem quarter_any (q : Q) (hq : q.ok) (x y : Nat) (w : World) :
    Calls Tryd.prog 84 #[.int .u64 (q.a : Int), .int .u64 (q.b : Int), .int .u64 (q.c : Int), .int .u64 (q.d : Int), .int .u64 (x : Int), .int .u64 (y : Int)] w fun e w' =>
      e = .returned (.tuple #[.int .u64 ((quarter q x y).a : Int), .int .u64 ((quarter q x y).b : Int), .int .u64 ((quarter q x y).c : Int), .int .u64 ((quarter q x y).d : Int)]) ∧ w = w' := by
  obtain ⟨a, b, c, d⟩ := q
  obtain ⟨ha, hb, hc, hd⟩ := hq
  simp only at ha hb hc hd
  have e1 := wadd b x
  have e2 := wadd a (add b x)
  have l2 := Bl.add_lt a (add b x)
  have E : Hid ((quarter ⟨a, b, c, d⟩ x y) = half (half ⟨a, b, c, d⟩ x 32 40) y 48 1) := Lib.hid rfl
  have E1 : Hid (half ⟨a, b, c, d⟩ x 32 40 = ⟨add a (add b x), rotl 64 (b ^^^ add c (rotl 64 (d ^^^ add a (add b x)) 32)) 40, add c (rotl 64 (d ^^^ add a (add b x)) 32), rotl 64 (d ^^^ add a (add b x)) 32⟩) := Lib.hid rfl
  generalize add a (add b x) = a1 at *
  generalize add b x = s1 at *
  have e3 := xor64 d a1 hd l2
  have l3 := xor_lt64 d a1 hd l2
  generalize d ^^^ a1 = z1 at *
  have R1 := Lib.hid fun w => right_q 32 32 rfl z1 l3 w
  have l4 := rotl_lt64 z1 32 (by decide) l3
  generalize rotl 64 z1 32 = d1 at *
  have e5 := wadd c d1
  have l5 := Bl.add_lt c d1
  generalize add c d1 = c1 at *
  have e6 := xor64 b c1 hb l5
  have l6 := xor_lt64 b c1 hb l5
  generalize b ^^^ c1 = z2 at *
  have R2 := Lib.hid fun w => right_q 24 40 rfl z2 l6 w
  have l7 := rotl_lt64 z2 40 (by decide) l6
  generalize rotl 64 z2 40 = b1 at *
  rw [E1.out] at E
  clear E1
  have F1 : Hid (half ⟨a1, b1, c1, d1⟩ y 48 1 = ⟨add a1 (add b1 y), rotl 64 (b1 ^^^ add c1 (rotl 64 (d1 ^^^ add a1 (add b1 y)) 48)) 1, add c1 (rotl 64 (d1 ^^^ add a1 (add b1 y)) 48), rotl 64 (d1 ^^^ add a1 (add b1 y)) 48⟩) := Lib.hid rfl
  have f1 := wadd b1 y
  have f2 := wadd a1 (add b1 y)
  have m2 := Bl.add_lt a1 (add b1 y)
  generalize add a1 (add b1 y) = a2 at *
  generalize add b1 y = s2 at *
  have f3 := xor64 d1 a2 l4 m2
  have m3 := xor_lt64 d1 a2 l4 m2
  generalize d1 ^^^ a2 = z3 at *
  have R3 := Lib.hid fun w => right_q 16 48 rfl z3 m3 w
  generalize rotl 64 z3 48 = d2 at *
  have f5 := wadd c1 d2
  have m5 := Bl.add_lt c1 d2
  generalize add c1 d2 = c2 at *
  have f6 := xor64 b1 c2 l7 m5
  have m6 := xor_lt64 b1 c2 l7 m5
  generalize b1 ^^^ c2 = z4 at *
  have R4 := Lib.hid fun w => right_q 63 1 rfl z4 m6 w
  generalize rotl 64 z4 1 = b2 at *
  rw [F1.out] at E
  clear F1
  rw [E.out]
  clear E ha hb hc hd l2 l3 l4 l5 l6 l7 m2 m3 m5 m6
  go_enter Tryd.func84, Tryd.ntmps84
  go_wp2_with fail
  refine (R1.out _).mono ?_; rintro e w' ⟨rfl, rfl⟩
  go_wp2_with fail
  refine (R2.out _).mono ?_; rintro e w' ⟨rfl, rfl⟩
  go_wp2_with fail
  refine (R3.out _).mono ?_; rintro e w' ⟨rfl, rfl⟩
  go_wp2_with fail
  refine (R4.out _).mono ?_; rintro e w' ⟨rfl, rfl⟩
  go_wp2
  simp [bodyPost, results, Tryd.results84, go_sem]
end Go.Proofs.YtpampgkhjcfeaaaDoor

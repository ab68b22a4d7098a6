/- BLAKE2b as plain mathematics, and package blake's small functions, by their contracts. Conditions: those typed. -/
import Derived.Test.YtfoodaobiknihaaGreatDoorKi
import Derived.WalkKit
import Derived.BigQuiet
import Derived.StillTailTactics
import Derived.Deep.QuietTactic
import Derived.Test.YtfoodaobiknihaaGreatDoorGen
import Derived.Test.YtfoodaobiknihaaGreatDoorWy
namespace Go.Proofs.YtfoodaobiknihaaGreatDoor.Bl
set_option maxRecDepth 50000
open Rot
def add (a b : Nat) : Nat := (a + b) % 18446744073709551616
structure Q where
  a : Nat
  b : Nat
  c : Nat
  d : Nat
def half (q : Q) (x r s : Nat) : Q :=
  let a := add q.a (add q.b x)
  let d := rotl 64 (q.d ^^^ a) r
  let c := add q.c d
  ⟨a, rotl 64 (q.b ^^^ c) s, c, d⟩
def quarter (q : Q) (x y : Nat) : Q := half (half q x 32 40) y 48 1
def iv : List Nat := [7640891576956012808, 13503953896175478587, 4354685564936845355, 11912009170470909681, 5840696475078001361, 11170449401992604703, 2270897969802886507, 6620516959819538809]
def ords : List (List Nat) := [[0, 1, 2, 3, 4, 5, 6, 7, 8, 9, 10, 11, 12, 13, 14, 15], [14, 10, 4, 8, 9, 15, 13, 6, 1, 12, 0, 2, 11, 7, 5, 3], [11, 8, 12, 0, 5, 2, 15, 13, 10, 14, 3, 6, 7, 1, 9, 4], [7, 9, 3, 1, 13, 12, 11, 14, 2, 6, 5, 10, 4, 0, 15, 8], [9, 0, 5, 7, 2, 4, 10, 15, 14, 1, 11, 12, 6, 8, 3, 13], [2, 12, 6, 10, 0, 11, 8, 3, 4, 13, 7, 5, 15, 14, 1, 9], [12, 5, 1, 15, 14, 13, 4, 10, 0, 7, 6, 3, 9, 2, 8, 11], [13, 11, 7, 14, 12, 1, 3, 9, 5, 0, 15, 4, 8, 6, 2, 10], [6, 15, 14, 9, 11, 3, 0, 8, 12, 2, 13, 7, 1, 4, 10, 5], [10, 2, 8, 4, 7, 6, 1, 5, 15, 11, 9, 14, 3, 12, 13, 0]]
def order (r : Nat) : List Nat := ords.getD (r % 10) []
def pos : List (List Nat) := [[0, 4, 8, 12], [1, 5, 9, 13], [2, 6, 10, 14], [3, 7, 11, 15], [0, 5, 10, 15], [1, 6, 11, 12], [2, 7, 8, 13], [3, 4, 9, 14]]
def pt (i k : Nat) : Nat := (pos.getD i []).getD k 0
def take4 (v : List Nat) (i : Nat) : Q := ⟨v.getD (pt i 0) 0, v.getD (pt i 1) 0, v.getD (pt i 2) 0, v.getD (pt i 3) 0⟩
def put4 (v : List Nat) (i : Nat) (q : Q) : List Nat := (((v.set (pt i 0) q.a).set (pt i 1) q.b).set (pt i 2) q.c).set (pt i 3) q.d
def mixAt (v m s : List Nat) (i : Nat) : List Nat := put4 v i (quarter (take4 v i) (m.getD (s.getD (2 * i) 0) 0) (m.getD (s.getD (2 * i + 1) 0) 0))
def mixTo (v m s : List Nat) : Nat → List Nat
  | 0 => v
  | i + 1 => mixAt (mixTo v m s i) m s i
def roundsTo (v m : List Nat) : Nat → List Nat
  | 0 => v
  | r + 1 => mixTo (roundsTo v m r) m (order r) 8
def start (h : List Nat) (t : Nat) (last : Bool) : List Nat :=
  h ++ [iv.getD 0 0, iv.getD 1 0, iv.getD 2 0, iv.getD 3 0, iv.getD 4 0 ^^^ t, iv.getD 5 0, if last then 18446744073709551615 - iv.getD 6 0 else iv.getD 6 0, iv.getD 7 0]
def fold8 (h v : List Nat) : Nat → List Nat
  | 0 => h
  | j + 1 => (fold8 h v j).set j (h.getD j 0 ^^^ (v.getD j 0 ^^^ v.getD (j + 8) 0))
def comp (h m : List Nat) (t : Nat) (last : Bool) : List Nat := fold8 h (roundsTo (start h t last) m 12) 8
def okw (l : List Nat) : Prop := ∀ x ∈ l, x < 18446744073709551616
theorem add_lt (a b : Nat) : add a b < 18446744073709551616 := Nat.mod_lt _ (by decide)
theorem xor_lt64 (a b : Nat) (ha : a < 18446744073709551616) (hb : b < 18446744073709551616) : a ^^^ b < 18446744073709551616 := Nat.xor_lt_two_pow (n := 64) ha hb
theorem rotl_lt64 (x s : Nat) (hs : s ≤ 64) (hx : x < 18446744073709551616) : rotl 64 x s < 18446744073709551616 := rotl_lt 64 x s hs hx
theorem okw.at_ {l : List Nat} (h : okw l) (i : Nat) : l.getD i 0 < 18446744073709551616 := by
  rw [List.getD_eq_getElem?_getD]
  by_cases hi : i < l.length
  · rw [List.getElem?_eq_getElem hi]; exact h _ (List.getElem_mem hi)
  · rw [List.getElem?_eq_none (by omega)]; decide
theorem okw.set {l : List Nat} (h : okw l) (i x : Nat) (hx : x < 18446744073709551616) : okw (l.set i x) := fun y hy => by
  rcases List.mem_or_eq_of_mem_set hy with hy | rfl
  · exact h y hy
  · exact hx
def Q.ok (q : Q) : Prop := q.a < 18446744073709551616 ∧ q.b < 18446744073709551616 ∧ q.c < 18446744073709551616 ∧ q.d < 18446744073709551616
theorem half_ok {q : Q} (h : q.ok) (x r s : Nat) (hr : r ≤ 64) (hs : s ≤ 64) : (half q x r s).ok :=
  ⟨add_lt _ _, rotl_lt64 _ _ hs (xor_lt64 _ _ h.2.1 (add_lt _ _)), add_lt _ _, rotl_lt64 _ _ hr (xor_lt64 _ _ h.2.2.2 (add_lt _ _))⟩
theorem quarter_ok {q : Q} (h : q.ok) (x y : Nat) : (quarter q x y).ok := half_ok (half_ok h _ _ _ (by decide) (by decide)) _ _ _ (by decide) (by decide)
theorem put4_ok {v : List Nat} (h : okw v) (i : Nat) {q : Q} (hq : q.ok) : okw (put4 v i q) := (((h.set _ _ hq.1).set _ _ hq.2.1).set _ _ hq.2.2.1).set _ _ hq.2.2.2
theorem put4_length (v : List Nat) (i : Nat) (q : Q) : (put4 v i q).length = v.length := by simp [put4]
theorem mixAt_length (v m s : List Nat) (i : Nat) : (mixAt v m s i).length = v.length := put4_length _ _ _
theorem mixTo_length (v m s : List Nat) : ∀ i, (mixTo v m s i).length = v.length
  | 0 => rfl
  | i + 1 => by rw [mixTo, mixAt_length, mixTo_length v m s i]
theorem take4_ok {v : List Nat} (h : okw v) (i : Nat) : (take4 v i).ok := ⟨h.at_ _, h.at_ _, h.at_ _, h.at_ _⟩
theorem mixTo_ok {v : List Nat} (h : okw v) (m s : List Nat) : ∀ i, okw (mixTo v m s i)
  | 0 => h
  | i + 1 => put4_ok (mixTo_ok h m s i) i (quarter_ok (take4_ok (mixTo_ok h m s i) i) _ _)
theorem roundsTo_length (v m : List Nat) : ∀ r, (roundsTo v m r).length = v.length
  | 0 => rfl
  | r + 1 => by rw [roundsTo, mixTo_length, roundsTo_length v m r]
theorem roundsTo_ok {v : List Nat} (h : okw v) (m : List Nat) : ∀ r, okw (roundsTo v m r)
  | 0 => h
  | r + 1 => mixTo_ok (roundsTo_ok h m r) m _ 8
theorem iv_ok : okw iv := by unfold okw; decide
theorem start_length (h : List Nat) (hl : h.length = 8) (t : Nat) (last : Bool) : (start h t last).length = 16 := by simp [start, hl]
theorem start_ok {h : List Nat} (hk : okw h) {t : Nat} (ht : t < 18446744073709551616) (last : Bool) : okw (start h t last) := fun x hx => by
  rcases List.mem_append.1 hx with hx | hx
  · exact hk x hx
  · simp only [List.mem_cons, List.not_mem_nil, or_false] at hx
    rcases hx with rfl | rfl | rfl | rfl | rfl | rfl | rfl | rfl
    iterate 4 exact iv_ok.at_ _
    · exact xor_lt64 _ _ (iv_ok.at_ _) ht
    · exact iv_ok.at_ _
    · cases last
      · exact iv_ok.at_ _
      · show 18446744073709551615 - _ < _; omega
    · exact iv_ok.at_ _
theorem fold8_length (h v : List Nat) : ∀ j, (fold8 h v j).length = h.length
  | 0 => rfl
  | j + 1 => by simp [fold8, fold8_length h v j]
theorem fold8_ok {h v : List Nat} (hh : okw h) (hv : okw v) : ∀ j, okw (fold8 h v j)
  | 0 => hh
  | j + 1 => (fold8_ok hh hv j).set _ _ (xor_lt64 _ _ (hh.at_ _) (xor_lt64 _ _ (hv.at_ _) (hv.at_ _)))
theorem fold8_at (h v : List Nat) (i : Nat) : ∀ j, j ≤ i → (fold8 h v j).getD i 0 = h.getD i 0
  | 0, _ => rfl
  | j + 1, hl => by
    have := fold8_at h v i j (by omega)
    rw [fold8, List.getD_eq_getElem?_getD, List.getElem?_set_ne (by omega), ← List.getD_eq_getElem?_getD, this]
theorem comp_length (h m : List Nat) (t : Nat) (last : Bool) : (comp h m t last).length = h.length := fold8_length _ _ _
theorem comp_ok {h : List Nat} (hh : okw h) (m : List Nat) {t : Nat} (ht : t < 18446744073709551616) (last : Bool) : okw (comp h m t last) := fold8_ok hh (roundsTo_ok (start_ok hh ht last) m 12) 8
theorem order_length (r : Nat) : (order r).length = 16 := by
  have h : ∀ k, k < 10 → (ords.getD k []).length = 16 := by decide
  exact h _ (Nat.mod_lt _ (by decide))
theorem order_lt (r : Nat) (i : Nat) : (order r).getD i 0 < 16 := by
  have h : ∀ k, k < 10 → ∀ i, i < 16 → (ords.getD k []).getD i 0 < 16 := by decide
  by_cases hi : i < 16
  · exact h _ (Nat.mod_lt _ (by decide)) i hi
  · rw [List.getD_eq_getElem?_getD, List.getElem?_eq_none (by rw [order_length]; omega)]; decide
theorem pt_lt (i k : Nat) (hi : i < 8) (hk : k < 4) : pt i k < 16 := by
  have h : ∀ i, i < 8 → ∀ k, k < 4 → pt i k < 16 := by decide
  exact h i hi k hk
theorem ofInt64 (a : Nat) (h : a < 18446744073709551616) : (BitVec.ofInt 64 (a : Int)).toNat = a := by
  rw [BitVec.toNat_ofInt]; simp; omega
theorem u64_in (a : Nat) (h : a < 18446744073709551616) : IntKind.u64.wrap (a : Int) = (a : Int) := by
  have e : IntKind.u64.wrap (a : Int) = (a : Int) % 18446744073709551616 := by simp [IntKind.wrap, IntKind.bits, IntKind.signed]
  rw [e]; omega
theorem xor64 (a b : Nat) (ha : a < 18446744073709551616) (hb : b < 18446744073709551616) : bits .xor .u64 (a : Int) (b : Int) = ((a ^^^ b : Nat) : Int) := by
  have h := xor_lt64 a b ha hb
  have e : bits .xor .u64 (a : Int) (b : Int) = IntKind.u64.wrap (((BitVec.ofInt 64 (a : Int)) ^^^ (BitVec.ofInt 64 (b : Int))).toNat : Int) := rfl
  rw [e, BitVec.toNat_xor, ofInt64 a ha, ofInt64 b hb, u64_in _ h]
theorem wadd (a b : Nat) : IntKind.u64.wrap ((a : Int) + (b : Int)) = ((add a b : Nat) : Int) := by
  have e : IntKind.u64.wrap ((a : Int) + (b : Int)) = ((a : Int) + (b : Int)) % 18446744073709551616 := by simp [IntKind.wrap, IntKind.bits, IntKind.signed]
  rw [e]; unfold add; omega
theorem not64 (e : Nat) (he : e < 18446744073709551616) : bits .xor .u64 (if IntKind.u64.signed = true then -1 else IntKind.u64.max) (e : Int) = ((18446744073709551615 - e : Nat) : Int) := by
  have e0 : (if IntKind.u64.signed = true then (-1 : Int) else IntKind.u64.max) = ((18446744073709551615 : Nat) : Int) := rfl
  rw [e0, xor64 18446744073709551615 e (by decide) he]
  congr 1
  have h := BitVec.toNat_xor (BitVec.allOnes 64) (BitVec.ofNat 64 e)
  rw [BitVec.allOnes_xor, BitVec.toNat_not, BitVec.toNat_allOnes, BitVec.toNat_ofNat, Nat.mod_eq_of_lt (by simpa using he)] at h
  simpa using h.symm
end Go.Proofs.YtfoodaobiknihaaGreatDoor.Bl
namespace Go.Proofs.YtfoodaobiknihaaGreatDoor
set_option maxRecDepth 50000
open Go.RowKit Rot Bl
def wq (l : List Nat) : Array Value := (u64s l).toArray
theorem wq_size (l : List Nat) : (wq l).size = l.length := by simp [wq, u64s]
theorem wq_at (l : List Nat) (i : Nat) (h : i < l.length) : (wq l)[i]? = some (.int .u64 (l.getD i 0 : Nat)) := by
  simp [wq, u64s, List.getD_eq_getElem?_getD, List.getElem?_eq_getElem h]
theorem wq_set (l : List Nat) (i x : Nat) : (wq l).setIfInBounds i (.int .u64 (x : Int)) = wq (l.set i x) := by
  simp [wq, u64s, List.map_set]
theorem wq_one (l : List Nat) : (wq l).all (·.oneCell') = true := by
  simp [wq, u64s, Value.oneCell']
def iq (l : List Nat) : Array Value := (l.map fun x : Nat => Value.int .i64 (x : Int)).toArray
theorem iq_size (l : List Nat) : (iq l).size = l.length := by simp [iq]
theorem iq_at (l : List Nat) (i : Nat) (h : i < l.length) : (iq l)[i]? = some (.int .i64 (l.getD i 0 : Nat)) := by
  simp [iq, List.getD_eq_getElem?_getD, List.getElem?_eq_getElem h]
theorem iq_set (l : List Nat) (i x : Nat) : (iq l).setIfInBounds i (.int .i64 (x : Int)) = iq (l.set i x) := by
  simp [iq, List.map_set]
theorem iq_one (l : List Nat) : (iq l).all (·.oneCell') = true := by
  simp [iq, Value.oneCell']
theorem q_size8 : (Tryz.prog.info? 53).map (·.size) = some 8 := by kernel_rfl
theorem q_size4 : (Tryz.prog.info? 190).map (·.size) = some 4 := by kernel_rfl
theorem q_int16 : (Tryz.prog.info? 186).map (·.size) = some 16 := by kernel_rfl
theorem q_int4 : (Tryz.prog.info? 188).map (·.size) = some 4 := by kernel_rfl
theorem q_u64 : (Tryz.prog.info? 52).map (·.size) = some 1 := by kernel_rfl
theorem right_q (n s : Nat) (h : ((-(n : Int)) % 64).toNat = s) (x : Nat) (hx : x < 18446744073709551616) (w : World) : Calls Tryz.prog 139 #[.int .u64 (x : Int), .int .i64 (n : Int)] w fun e w' => e = .returned (.int .u64 (rotl 64 x s : Nat)) ∧ w = w' := by
  rw [← h]; exact right64_any x n hx w
set_option maxHeartbeats 800000 in
theorem quarter_any (q : Q) (hq : q.ok) (x y : Nat) (w : World) :
    Calls Tryz.prog 135 #[.int .u64 (q.a : Int), .int .u64 (q.b : Int), .int .u64 (q.c : Int), .int .u64 (q.d : Int), .int .u64 (x : Int), .int .u64 (y : Int)] w fun e w' =>
      e = .returned (.tuple #[.int .u64 ((quarter q x y).a : Int), .int .u64 ((quarter q x y).b : Int), .int .u64 ((quarter q x y).c : Int), .int .u64 ((quarter q x y).d : Int)]) ∧ w = w' := by
  obtain ⟨a, b, c, d⟩ := q
  obtain ⟨ha, hb, hc, hd⟩ := hq
  simp only at ha hb hc hd
  have e1 := wadd b x
  have e2 := wadd a (add b x)
  have l2 := Bl.add_lt a (add b x)
  have E : Hid ((quarter ⟨a, b, c, d⟩ x y) = half (half ⟨a, b, c, d⟩ x 32 40) y 48 1) := Lib.hid rfl
  have E1 : Hid (half ⟨a, b, c, d⟩ x 32 40 = ⟨add a (add b x), rotl 64 (b ^^^ add c (rotl 64 (d ^^^ add a (add b x)) 32)) 40, add c (rotl 64 (d ^^^ add a (add b x)) 32), rotl 64 (d ^^^ add a (add b x)) 32⟩) := Lib.hid rfl
  generalize add a (add b x) = a1 at *
  generalize add b x = s1 at *
  have e3 := xor64 d a1 hd l2
  have l3 := xor_lt64 d a1 hd l2
  generalize d ^^^ a1 = z1 at *
  have R1 := Lib.hid fun w => right_q 32 32 rfl z1 l3 w
  have l4 := rotl_lt64 z1 32 (by decide) l3
  generalize rotl 64 z1 32 = d1 at *
  have e5 := wadd c d1
  have l5 := Bl.add_lt c d1
  generalize add c d1 = c1 at *
  have e6 := xor64 b c1 hb l5
  have l6 := xor_lt64 b c1 hb l5
  generalize b ^^^ c1 = z2 at *
  have R2 := Lib.hid fun w => right_q 24 40 rfl z2 l6 w
  have l7 := rotl_lt64 z2 40 (by decide) l6
  generalize rotl 64 z2 40 = b1 at *
  rw [E1.out] at E
  clear E1
  have F1 : Hid (half ⟨a1, b1, c1, d1⟩ y 48 1 = ⟨add a1 (add b1 y), rotl 64 (b1 ^^^ add c1 (rotl 64 (d1 ^^^ add a1 (add b1 y)) 48)) 1, add c1 (rotl 64 (d1 ^^^ add a1 (add b1 y)) 48), rotl 64 (d1 ^^^ add a1 (add b1 y)) 48⟩) := Lib.hid rfl
  have f1 := wadd b1 y
  have f2 := wadd a1 (add b1 y)
  have m2 := Bl.add_lt a1 (add b1 y)
  generalize add a1 (add b1 y) = a2 at *
  generalize add b1 y = s2 at *
  have f3 := xor64 d1 a2 l4 m2
  have m3 := xor_lt64 d1 a2 l4 m2
  generalize d1 ^^^ a2 = z3 at *
  have R3 := Lib.hid fun w => right_q 16 48 rfl z3 m3 w
  generalize rotl 64 z3 48 = d2 at *
  have f5 := wadd c1 d2
  have m5 := Bl.add_lt c1 d2
  generalize add c1 d2 = c2 at *
  have f6 := xor64 b1 c2 l7 m5
  have m6 := xor_lt64 b1 c2 l7 m5
  generalize b1 ^^^ c2 = z4 at *
  have R4 := Lib.hid fun w => right_q 63 1 rfl z4 m6 w
  generalize rotl 64 z4 1 = b2 at *
  rw [F1.out] at E
  clear F1
  rw [E.out]
  clear E ha hb hc hd l2 l3 l4 l5 l6 l7 m2 m3 m5 m6
  go_enter Tryz.func135, Tryz.ntmps135
  go_wp2_with fail
  refine (R1.out _).mono ?_; rintro e w' ⟨rfl, rfl⟩
  go_wp2_with fail
  refine (R2.out _).mono ?_; rintro e w' ⟨rfl, rfl⟩
  go_wp2_with fail
  refine (R3.out _).mono ?_; rintro e w' ⟨rfl, rfl⟩
  go_wp2_with fail
  refine (R4.out _).mono ?_; rintro e w' ⟨rfl, rfl⟩
  go_wp2
  simp [bodyPost, results, Tryz.results135, go_sem]
open Go.RowKit Rot Bl
theorem rotl_round (x s L H : Nat) (hs : s ≤ 64) (hL : 2 ^ (64 - s) = L) (hH : 2 ^ s = H) (hx : x < 18446744073709551616) : x / L + x % L * H = rotl 64 x s ∧ x % L * H < 18446744073709551616 := by
  subst hL; subst hH
  refine ⟨by rw [rotl_split 64 x s hs hx, Nat.add_comm], ?_⟩
  have h := Nat.mod_lt x (show 0 < 2 ^ (64 - s) from Nat.two_pow_pos _)
  calc x % 2 ^ (64 - s) * 2 ^ s < 2 ^ (64 - s) * 2 ^ s := Nat.mul_lt_mul_of_pos_right h (Nat.two_pow_pos _)
    _ = 18446744073709551616 := by rw [← Nat.pow_add, show 64 - s + s = 64 by omega]
set_option maxHeartbeats 800000 in
theorem round_any (x s L H : Nat) (hs : s ≤ 64) (hL : 2 ^ (64 - s) = L) (hH : 2 ^ s = H) (hx : x < 18446744073709551616) (w : World) :
    Calls Tryz.prog 114 #[.int .u64 (x : Int), .int .u64 (L : Int), .int .u64 (H : Int)] w fun e w' => e = .returned (.int .u64 (rotl 64 x s : Nat)) ∧ Below w.heap.size w w' := by
  obtain ⟨h1, h2⟩ := rotl_round x s L H hs hL hH hx
  have hr := rotl_lt64 x s hs hx
  have hL0 : 0 < L := by rw [← hL]; exact Nat.two_pow_pos _
  have q1 : (x : Int) / (L : Int) = ((x / L : Nat) : Int) := by simp
  have q2 : (x : Int).tmod (L : Int) = ((x % L : Nat) : Int) := by simp [Int.tmod_eq_emod_of_nonneg]
  have q2' : (x : Int) % (L : Int) = ((x % L : Nat) : Int) := by simp
  have q3 : IntKind.u64.wrap (((x % L : Nat) : Int) * (H : Int)) = ((x % L * H : Nat) : Int) := by
    rw [← u64_in _ h2]; simp
  have q0 := u64_in (x / L) (Nat.lt_of_le_of_lt (Nat.div_le_self _ _) hx)
  have q4 : IntKind.u64.wrap (((x / L : Nat) : Int) + ((x % L * H : Nat) : Int)) = ((rotl 64 x s : Nat) : Int) := by
    rw [wadd, ← h1]; unfold Bl.add; rw [h1, Nat.mod_eq_of_lt hr]
  generalize x % L * H = p at *
  generalize x % L = r at *
  generalize x / L = q at *
  generalize rotl 64 x s = v at *
  clear h1 h2 hr hL hH hs
  have hne : ¬ (L : Int) = 0 := by omega
  go_enter Tryz.func114, Tryz.ntmps114
  go_wp2
  go_quiet (fail)
  go_wp2
  go_ret
  exact ⟨rfl, below_drewN (Below.refl _ w) nq⟩
theorem round_a (x : Nat) (hx : x < 18446744073709551616) (w : World) : Calls Tryz.prog 114 #[.int .u64 (x : Int), .int .u64 4294967296, .int .u64 4294967296] w fun e w' => e = .returned (.int .u64 (rotl 64 x 32 : Nat)) ∧ Below w.heap.size w w' := by
  have h := round_any x 32 4294967296 4294967296 (by decide) (by decide) (by decide) hx w
  exact h
theorem round_b (x : Nat) (hx : x < 18446744073709551616) (w : World) : Calls Tryz.prog 114 #[.int .u64 (x : Int), .int .u64 16777216, .int .u64 1099511627776] w fun e w' => e = .returned (.int .u64 (rotl 64 x 40 : Nat)) ∧ Below w.heap.size w w' := by
  have h := round_any x 40 16777216 1099511627776 (by decide) (by decide) (by decide) hx w
  exact h
theorem round_c (x : Nat) (hx : x < 18446744073709551616) (w : World) : Calls Tryz.prog 114 #[.int .u64 (x : Int), .int .u64 65536, .int .u64 281474976710656] w fun e w' => e = .returned (.int .u64 (rotl 64 x 48 : Nat)) ∧ Below w.heap.size w w' := by
  have h := round_any x 48 65536 281474976710656 (by decide) (by decide) (by decide) hx w
  exact h
theorem round_d (x : Nat) (hx : x < 18446744073709551616) (w : World) : Calls Tryz.prog 114 #[.int .u64 (x : Int), .int .u64 9223372036854775808, .int .u64 2] w fun e w' => e = .returned (.int .u64 (rotl 64 x 1 : Nat)) ∧ Below w.heap.size w w' := by
  have h := round_any x 1 9223372036854775808 2 (by decide) (by decide) (by decide) hx w
  exact h
theorem wq4 (a b c d : Nat) : (wq [a, b, c, d]).size = 4 := rfl
def Four (w : World) (B : Nat) (a b c d : Nat) : Prop := RowAt w B 190 (wq [a, b, c, d])
theorem Four.facts {w : World} {B a b c d : Nat} (h : Four w B a b c d) : (w.cell? ⟨B, 0, none⟩ = some (.int .u64 (a : Int)) ∧ w.cell? ⟨B, 1, none⟩ = some (.int .u64 (b : Int)) ∧ w.cell? ⟨B, 2, none⟩ = some (.int .u64 (c : Int)) ∧ w.cell? ⟨B, 3, none⟩ = some (.int .u64 (d : Int))) ∧
    w.frozen? ⟨B, 0, none⟩ = false ∧ w.frozen? ⟨B, 1, none⟩ = false ∧ w.frozen? ⟨B, 2, none⟩ = false ∧ w.frozen? ⟨B, 3, none⟩ = false :=
  ⟨⟨(RowAt.cell h 0).trans rfl, (RowAt.cell h 1).trans rfl, (RowAt.cell h 2).trans rfl, (RowAt.cell h 3).trans rfl⟩, RowAt.frozen h 0, RowAt.frozen h 1, RowAt.frozen h 2, RowAt.frozen h 3⟩
theorem Four.s0 {w : World} {B a b c d : Nat} (h : Four w B a b c d) (x : Nat) : Four (w.setCell ⟨B, 0, none⟩ (.int .u64 (x : Int))) B x b c d := RowAt.setCell h 0 _
theorem Four.s1 {w : World} {B a b c d : Nat} (h : Four w B a b c d) (x : Nat) : Four (w.setCell ⟨B, 1, none⟩ (.int .u64 (x : Int))) B a x c d := RowAt.setCell h 1 _
theorem Four.s2 {w : World} {B a b c d : Nat} (h : Four w B a b c d) (x : Nat) : Four (w.setCell ⟨B, 2, none⟩ (.int .u64 (x : Int))) B a b x d := RowAt.setCell h 2 _
theorem Four.s3 {w : World} {B a b c d : Nat} (h : Four w B a b c d) (x : Nat) : Four (w.setCell ⟨B, 3, none⟩ (.int .u64 (x : Int))) B a b c x := RowAt.setCell h 3 _
theorem Four.below {w w' : World} {B T a b c d : Nat} (h : Four w B a b c d) (hb : Below T w w') (hB : B < T) : Four w' B a b c d := RowAt.below h hb hB
theorem Four.other {w : World} {B a b c d : Nat} (h : Four w B a b c d) (p : Addr) (hp : p.block ≠ B) (v : Value) : Four (w.setCell p v) B a b c d := RowAt.setOther h p hp v
set_option maxHeartbeats 1600000 in
theorem rquarter_any (q : Q) (hq : q.ok) (x y : Nat) (w : World) :
    Calls Tryz.prog 105 #[.agg (wq [q.a, q.b, q.c, q.d]), .int .u64 (x : Int), .int .u64 (y : Int)] w fun e w' =>
      e = .returned (.agg (wq [(quarter q x y).a, (quarter q x y).b, (quarter q x y).c, (quarter q x y).d])) ∧ Below w.heap.size w w' := by
  obtain ⟨a, b, c, d⟩ := q
  obtain ⟨ha, hb, hc, hd⟩ := hq
  simp only at ha hb hc hd
  have e1 := wadd a b
  have e2 := wadd (add a b) x
  have es : ∀ a b x : Nat, add (add a b) x = add a (add b x) := fun a b x => by unfold Bl.add; omega
  rw [es] at e2
  have l2 := Bl.add_lt a (add b x)
  have E : Hid ((quarter ⟨a, b, c, d⟩ x y) = half (half ⟨a, b, c, d⟩ x 32 40) y 48 1) := Lib.hid rfl
  have E1 : Hid (half ⟨a, b, c, d⟩ x 32 40 = ⟨add a (add b x), rotl 64 (b ^^^ add c (rotl 64 (d ^^^ add a (add b x)) 32)) 40, add c (rotl 64 (d ^^^ add a (add b x)) 32), rotl 64 (d ^^^ add a (add b x)) 32⟩) := Lib.hid rfl
  generalize add a (add b x) = a1 at *
  generalize add a b = s1 at *
  have e3 := xor64 d a1 hd l2
  have l3 := xor_lt64 d a1 hd l2
  generalize d ^^^ a1 = z1 at *
  have R1 := Lib.hid fun w => round_a z1 l3 w
  have l4 := rotl_lt64 z1 32 (by decide) l3
  generalize rotl 64 z1 32 = d1 at *
  have e5 := wadd c d1
  have l5 := Bl.add_lt c d1
  generalize add c d1 = c1 at *
  have e6 := xor64 b c1 hb l5
  have l6 := xor_lt64 b c1 hb l5
  generalize b ^^^ c1 = z2 at *
  have R2 := Lib.hid fun w => round_b z2 l6 w
  have l7 := rotl_lt64 z2 40 (by decide) l6
  generalize rotl 64 z2 40 = b1 at *
  rw [E1.out] at E
  clear E1
  have F1 : Hid (half ⟨a1, b1, c1, d1⟩ y 48 1 = ⟨add a1 (add b1 y), rotl 64 (b1 ^^^ add c1 (rotl 64 (d1 ^^^ add a1 (add b1 y)) 48)) 1, add c1 (rotl 64 (d1 ^^^ add a1 (add b1 y)) 48), rotl 64 (d1 ^^^ add a1 (add b1 y)) 48⟩) := Lib.hid rfl
  have f1 := wadd a1 b1
  have f2 := wadd (add a1 b1) y
  rw [es] at f2
  have m2 := Bl.add_lt a1 (add b1 y)
  generalize add a1 (add b1 y) = a2 at *
  generalize add a1 b1 = s2 at *
  have f3 := xor64 d1 a2 l4 m2
  have m3 := xor_lt64 d1 a2 l4 m2
  generalize d1 ^^^ a2 = z3 at *
  have R3 := Lib.hid fun w => round_c z3 m3 w
  generalize rotl 64 z3 48 = d2 at *
  have f5 := wadd c1 d2
  have m5 := Bl.add_lt c1 d2
  generalize add c1 d2 = c2 at *
  have f6 := xor64 b1 c2 l7 m5
  have m6 := xor_lt64 b1 c2 l7 m5
  generalize b1 ^^^ c2 = z4 at *
  have R4 := Lib.hid fun w => round_d z4 m6 w
  generalize rotl 64 z4 1 = b2 at *
  rw [F1.out] at E
  clear F1
  rw [E.out]
  clear E ha hb hc hd l2 l3 l4 l5 l6 l7 m2 m3 m5 m6 es
  simp only [wq, u64s, List.map_cons, List.map_nil]
  have A0 : Four ((w.alloc (.cells (wq [a1, b, c, d]) 190)).alloc (.cells (wq [0, 0, 0, 0]) 190)) w.heap.size a1 b c d := (RowAt.new w _ _).alloc _
  have Z0 : Four ((w.alloc (.cells (wq [a1, b, c, d]) 190)).alloc (.cells (wq [0, 0, 0, 0]) 190)) (w.heap.size + 1) 0 0 0 0 := by
    have h := RowAt.new (w.alloc (.cells (wq [a1, b, c, d]) 190)) 190 (wq [0, 0, 0, 0])
    rw [World.size_alloc] at h; exact h
  have B0 : Below w.heap.size w ((w.alloc (.cells (wq [a1, b, c, d]) 190)).alloc (.cells (wq [0, 0, 0, 0]) 190)) := ((Below.refl _ w).alloc (Nat.le_refl _) _).alloc (by simp) _
  have HA0 := Lib.hid A0
  have HZ0 := Lib.hid Z0
  have HB0 := Lib.hid B0
  clear A0 Z0 B0
  go_enter Tryz.func105, Tryz.ntmps105
  go_wp2_with fail
  refine (R1.out _).mono ?_; rintro e w1 ⟨rfl, hb⟩
  have A1 := HA0.out.below hb (by simp <;> omega)
  have Z1 := HZ0.out.below hb (by simp <;> omega)
  have B1 := HB0.out.trans (hb.mono (by simp <;> omega))
  have S1 : w.heap.size + 2 ≤ w1.heap.size := by have := hb.size; simp at this; omega
  obtain ⟨⟨c0, c1', c2', c3⟩, f0, f1', f2', f3'⟩ := A1.facts
  have HA1 := Lib.hid A1
  have HZ1 := Lib.hid Z1
  have HB1 := Lib.hid B1
  clear A1 Z1 B1 hb HA0 HZ0 HB0
  go_wp2_with fail
  refine (R2.out _).mono ?_; rintro e w2 ⟨rfl, hb⟩
  have A2 := ((HA1.out.s3 d1).s2 c1).below hb (by simp <;> omega)
  have Z2 := ((HZ1.out.other _ (by simp) _).other _ (by simp) _).below hb (by simp <;> omega)
  have B2 := ((HB1.out.setCell (by simp) _).setCell (by simp) _).trans (hb.mono (by simp <;> omega))
  have S2 : w.heap.size + 2 ≤ w2.heap.size := by have := hb.size; simp at this; omega
  obtain ⟨⟨c0, c1', c2', c3⟩, f0, f1', f2', f3'⟩ := A2.facts
  have HA2 := Lib.hid A2
  have HZ2 := Lib.hid Z2
  have HB2 := Lib.hid B2
  clear A2 Z2 B2 hb
  go_wp2_with fail
  refine (R3.out _).mono ?_; rintro e w3 ⟨rfl, hb⟩
  have A3 := ((HA2.out.s1 b1).s0 a2).below hb (by simp <;> omega)
  have Z3 := ((HZ2.out.other _ (by simp) _).other _ (by simp) _).below hb (by simp <;> omega)
  have B3 := ((HB2.out.setCell (by simp) _).setCell (by simp) _).trans (hb.mono (by simp <;> omega))
  have S3 : w.heap.size + 2 ≤ w3.heap.size := by have := hb.size; simp at this; omega
  obtain ⟨⟨c0, c1', c2', c3⟩, f0, f1', f2', f3'⟩ := A3.facts
  have HA3 := Lib.hid A3
  have HZ3 := Lib.hid Z3
  have HB3 := Lib.hid B3
  clear A3 Z3 B3 hb
  go_wp2_with fail
  refine (R4.out _).mono ?_; rintro e w4 ⟨rfl, hb⟩
  have A4 := ((HA3.out.s3 d2).s2 c2).below hb (by simp <;> omega)
  have Z4 := ((HZ3.out.other _ (by simp) _).other _ (by simp) _).below hb (by simp <;> omega)
  have B4 := ((HB3.out.setCell (by simp) _).setCell (by simp) _).trans (hb.mono (by simp <;> omega))
  have S4 : w.heap.size + 2 ≤ w4.heap.size := by have := hb.size; simp at this; omega
  obtain ⟨⟨c0, c1', c2', c3⟩, f0, f1', f2', f3'⟩ := A4.facts
  have HA4 := Lib.hid A4
  have HZ4 := Lib.hid Z4
  have HB4 := Lib.hid B4
  clear A4 Z4 B4 hb
  clear c0 c1' c2' c3 f0 f1' f2' f3'
  obtain ⟨⟨c0, c1', c2', c3⟩, f0, f1', f2', f3'⟩ := HA4.out.facts
  have RA := Lib.hid (HA4.out.s1 b2)
  have RZ := Lib.hid (HZ4.out.other ⟨w.heap.size, 1, none⟩ (by simp) (.int .u64 (b2 : Int)))
  go_wp2_with (first
    | refine wpList_load_row rfl 190 (.tmp 3) rfl w.heap.size rfl 190 (wq [a2, b2, c2, d2]) (0, 0) _ RA.out Tryz.underlying190 rfl (by rw [wq4]; exact q_size4) ?_
    | refine wpList_store_row rfl 190 (.tmp 6) (.tmp 63) rfl (w.heap.size + 1) (wq [a2, b2, c2, d2]) rfl rfl 190 _ RZ.out (by rw [wq4]; exact q_size4) (by rw [wq4, wq4]) (wq_one _) ?_)
  have hR := RowAt.setRow RZ.out (wq [a2, b2, c2, d2])
  refine bodyPost_ret (v := .agg (wq [a2, b2, c2, d2])) (results_cell_row rfl _ _ (w.heap.size + 1) 190 (wq [a2, b2, c2, d2]) (0, 0) _ rfl hR Tryz.underlying190 rfl (by rw [wq4]; exact q_size4)) rfl ⟨rfl, ?_⟩
  exact below_setRow (HB4.out.setCell (by simp) _) (by omega) _
open Go.RowKit Rot Bl
def cd (d : Nat) : Nat := if d < 10 then 48 + d else 87 + d
theorem hexd_any (d : Nat) (hd : d < 16) (w : World) : Calls Tryz.prog 138 #[.int .u8 (cd d : Nat)] w fun e w' => e = .returned (.int .i64 (d : Int)) ∧ w = w' := by
  by_cases h : d < 10
  · have e : cd d = 48 + d := by unfold cd; rw [if_pos h]
    rw [e]
    go_enter Tryz.func138, Tryz.ntmps138
    go_wp2
    go_ret
    refine ⟨?_, rfl⟩
    simp; omega
  · obtain ⟨k, rfl⟩ : ∃ k, d = 10 + k := ⟨d - 10, by omega⟩
    have e : cd (10 + k) = 97 + k := by unfold cd; rw [if_neg h]; omega
    rw [e]
    go_enter Tryz.func138, Tryz.ntmps138
    go_wp2
    go_ret
    refine ⟨?_, rfl⟩
    simp; omega
def partO (l : List Nat) (i : Nat) : List Nat := l.take i ++ List.replicate (16 - i) 0
theorem partO_length (l : List Nat) (hl : l.length = 16) (i : Nat) (h : i ≤ 16) : (partO l i).length = 16 := by simp [partO, hl]; omega
theorem partO_set (l : List Nat) (hl : l.length = 16) (i : Nat) (h : i < 16) : (partO l i).set i (l.getD i 0) = partO l (i + 1) := by
  unfold partO
  have e : List.replicate (16 - i) 0 = 0 :: List.replicate (16 - (i + 1)) 0 := by rw [show 16 - i = (16 - (i + 1)) + 1 by omega]; rfl
  rw [e, List.set_append_right _ _ (by simp [hl]; omega), List.length_take, hl, Nat.min_eq_left (by omega), Nat.sub_self, List.set_cons_zero]
  rw [List.take_succ_eq_append_getElem (by omega), List.getD_eq_getElem?_getD, List.getElem?_eq_getElem (by omega), List.append_assoc]
  rfl
theorem partO_all (l : List Nat) (hl : l.length = 16) : partO l 16 = l := by simp [partO, ← hl]
theorem ords_at (m i : Nat) (hm : m < 10) (hi : i < 16) : (ords.flatten.map cd).getD (m * 16 + i) 0 = cd ((ords.getD m []).getD i 0) := by
  have h : ((List.range 10).all fun m => (List.range 16).all fun i => (ords.flatten.map cd).getD (m * 16 + i) 0 == cd ((ords.getD m []).getD i 0)) = true := by kernel_rfl
  have := List.all_eq_true.1 (List.all_eq_true.1 h m (List.mem_range.2 hm)) i (List.mem_range.2 hi)
  simpa using this
def sx : ByteArray := ⟨#[48, 49, 50, 51, 52, 53, 54, 55, 56, 57, 97, 98, 99, 100, 101, 102, 101, 97, 52, 56, 57, 102, 100, 54, 49, 99, 48, 50, 98, 55, 53, 51, 98, 56, 99, 48, 53, 50, 102, 100, 97, 101, 51, 54, 55, 49, 57, 52, 55, 57, 51, 49, 100, 99, 98, 101, 50, 54, 53, 97, 52, 48, 102, 56, 57, 48, 53, 55, 50, 52, 97, 102, 101, 49, 98, 99, 54, 56, 51, 100, 50, 99, 54, 97, 48, 98, 56, 51, 52, 100, 55, 53, 102, 101, 49, 57, 99, 53, 49, 102, 101, 100, 52, 97, 48, 55, 54, 51, 57, 50, 56, 98, 100, 98, 55, 101, 99, 49, 51, 57, 53, 48, 102, 52, 56, 54, 50, 97, 54, 102, 101, 57, 98, 51, 48, 56, 99, 50, 100, 55, 49, 52, 97, 53, 97, 50, 56, 52, 55, 54, 49, 53, 102, 98, 57, 101, 51, 99, 100, 48]⟩
theorem sx_at (q : Nat) (h : q < sx.size) : (sx[q]).toNat = (ords.flatten.map cd).getD q 0 := by
  have e : sx.data.toList.map UInt8.toNat = ords.flatten.map cd := by kernel_rfl
  have h2 : q < sx.data.toList.length := h
  rw [← e, List.getD_eq_getElem?_getD, List.getElem?_map, List.getElem?_eq_getElem h2]
  rfl
set_option maxHeartbeats 1600000 in
theorem order_any (r : Nat) (w : World) : Calls Tryz.prog 134 #[.int .i64 (r : Int)] w fun e w' => e = .returned (.agg (iq (order r))) ∧ Below w.heap.size w w' := by
  obtain ⟨m, hm⟩ : ∃ m, m = r % 10 := ⟨_, rfl⟩
  have hm10 : m < 10 := by omega
  have ht : (r : Int).tmod 10 = (m : Int) := by rw [Int.tmod_eq_emod_of_nonneg (by omega)]; omega
  have HO : Hid (order r = ords.getD m []) := Lib.hid (by rw [hm]; rfl)
  have hl : (order r).length = 16 := order_length r
  have HL := Lib.hid hl
  clear hm hl
  go_enter Tryz.func134, Tryz.ntmps134
  go_wp2
  have hL2 : (ords.getD m []).length = 16 := by rw [← HO.out]; exact HL.out
  generalize hW : (w.alloc _).alloc _ = W2
  have R0 : RowAt W2 w.heap.size 186 (iq (List.replicate 16 0)) := by subst hW; exact (RowAt.new w _ _).alloc _
  have R1 : RowAt W2 (w.heap.size + 1) 186 (iq (partO (ords.getD m []) 0)) := by
    subst hW
    have h := RowAt.new (w.alloc (.cells (iq (List.replicate 16 0)) 186)) 186 (iq (List.replicate 16 0))
    rw [World.size_alloc] at h; exact h
  have hB : Below w.heap.size w W2 := by subst hW; exact ((Below.refl _ w).alloc (Nat.le_refl _) _).alloc (by simp) _
  clear hW
  have H0 := Lib.hid R0
  have H1 := Lib.hid R1
  have HB := Lib.hid hB
  have HL2 := Lib.hid hL2
  clear R0 R1 hB hL2
  go_loopw [12] (fun v wr => ∃ j : Nat, j ≤ 16 ∧ v = .int .i64 (j : Int) ∧ RowAt wr (w.heap.size + 1) 186 (iq (partO (ords.getD m []) j)) ∧ RowAt wr w.heap.size 186 (iq (List.replicate 16 0)) ∧ Below w.heap.size w wr) (fun v _ => 16 - (intOf v).toNat)
  case atStart => exact ⟨0, by omega, rfl, H1.out, H0.out, HB.out⟩
  case round =>
    clear H1 H0 HB
    obtain ⟨j, hj, rfl, R1, R0, hB⟩ := hrel
    by_cases h : j < 16
    · have hdt : decide ((j : Int) < 16) = true := by simp; omega
      have hlen := partO_length (ords.getD m []) HL2.out j (by omega)
      have cj := (R1.cell j).trans (iq_at _ _ (by omega))
      have fj := R1.frozen j
      have HS := Lib.hid (partO_set (ords.getD m []) HL2.out j h)
      have hlt : (ords.getD m []).getD j 0 < 16 := by rw [← HO.out]; exact order_lt r j
      have CD := Lib.hid fun w => hexd_any ((ords.getD m []).getD j 0) hlt w
      have HA := Lib.hid (ords_at m j hm10 h)
      have H1 := Lib.hid R1
      have H0 := Lib.hid R0
      have HB := Lib.hid hB
      clear R1 R0 hB hlen
      obtain ⟨q, hq⟩ : ∃ q, q = m * 16 + j := ⟨_, rfl⟩
      rw [← hq] at HA
      have hq2 : (m : Int) * 16 + (j : Int) = (q : Int) := by omega
      have hb : q < 160 := by omega
      clear hq
      go_wp2_with fail
      generalize hg : UInt8.toNat _ = x
      have hx : x = cd ((ords.getD m []).getD j 0) := by
        rw [← hg]
        exact (sx_at q hb).trans HA.out
      subst hx
      clear hg
      refine (CD.out _).mono ?_
      rintro e w' ⟨rfl, rfl⟩
      generalize (ords.getD m []).getD j 0 = d at *
      go_wp2
      go_roundw
      case rel =>
        refine ⟨j + 1, by omega, by go_num, ?_, H0.out.setOther _ (by simp) _, HB.out.setCell (by simp) _⟩
        rw [← HS.out, ← iq_set]
        exact H1.out.setCell j _
      case measure => simp [intOf]; omega
    · obtain rfl : j = 16 := by omega
      have hdt : decide (((16 : Nat) : Int) < 16) = false := by simp
      rw [partO_all _ HL2.out, ← HO.out] at R1
      have H1 := Lib.hid R1
      have H0 := Lib.hid R0
      have HB := Lib.hid hB
      clear R1 R0 hB
      have hs : (iq (order r)).size = 16 := by rw [iq_size]; exact HL.out
      have HS := Lib.hid hs
      clear hs
      go_wp2_with (first
        | refine wpList_load_row rfl 186 (.tmp 3) rfl (w.heap.size + 1) rfl 186 (iq (order r)) (0, 0) _ H1.out Tryz.underlying186 rfl (by rw [HS.out]; exact q_int16) ?_
        | refine wpList_store_row rfl 186 (.tmp 2) (.tmp 23) rfl w.heap.size (iq (order r)) rfl rfl 186 _ H0.out (by rw [HS.out]; exact q_int16) (by rw [HS.out]; rfl) (iq_one _) ?_)
      have hR := H0.out.setRow (iq (order r))
      refine bodyPost_ret (v := .agg (iq (order r))) (results_cell_row rfl _ _ w.heap.size 186 (iq (order r)) (0, 0) _ rfl hR Tryz.underlying186 rfl (by rw [HS.out]; exact q_int16)) rfl ⟨rfl, ?_⟩
      exact below_setRow HB.out (Nat.le_refl _) _
open Go.RowKit Rot Bl
def lits : List Value := [Value.string ⟨#[48, 49, 50, 51, 52, 53, 54, 55, 56, 57, 97, 98, 99, 100, 101, 102]⟩, Value.string ⟨#[101, 97, 52, 56, 57, 102, 100, 54, 49, 99, 48, 50, 98, 55, 53, 51]⟩, Value.string ⟨#[98, 56, 99, 48, 53, 50, 102, 100, 97, 101, 51, 54, 55, 49, 57, 52]⟩, Value.string ⟨#[55, 57, 51, 49, 100, 99, 98, 101, 50, 54, 53, 97, 52, 48, 102, 56]⟩, Value.string ⟨#[57, 48, 53, 55, 50, 52, 97, 102, 101, 49, 98, 99, 54, 56, 51, 100]⟩, Value.string ⟨#[50, 99, 54, 97, 48, 98, 56, 51, 52, 100, 55, 53, 102, 101, 49, 57]⟩, Value.string ⟨#[99, 53, 49, 102, 101, 100, 52, 97, 48, 55, 54, 51, 57, 50, 56, 98]⟩, Value.string ⟨#[100, 98, 55, 101, 99, 49, 51, 57, 53, 48, 102, 52, 56, 54, 50, 97]⟩, Value.string ⟨#[54, 102, 101, 57, 98, 51, 48, 56, 99, 50, 100, 55, 49, 52, 97, 53]⟩, Value.string ⟨#[97, 50, 56, 52, 55, 54, 49, 53, 102, 98, 57, 101, 51, 99, 100, 48]⟩]
def so (l : List Nat) : ByteArray := ⟨(l.map fun d => UInt8.ofNat (cd d)).toArray⟩
theorem lits_at (m : Nat) (h : m < lits.length) : lits[m] = .string (so (ords.getD m [])) := by
  have e : lits = (List.range 10).map (fun m => Value.string (so (ords.getD m []))) := by kernel_rfl
  have h2 : lits[m]? = some (.string (so (ords.getD m []))) := by
    rw [e, List.getElem?_map, List.getElem?_range (by simpa [lits] using h)]; rfl
  exact (List.getElem?_eq_some_iff.1 h2).2
theorem so_size (l : List Nat) : (so l).size = l.length := by simp [so, ByteArray.size]
theorem so_at (l : List Nat) (hl : ∀ i, l.getD i 0 < 16) (i : Nat) (h : i < (so l).size) : ((so l)[i]).toNat = cd (l.getD i 0) := by
  have h2 : i < l.length := by rwa [so_size] at h
  have e : ((so l)[i]) = UInt8.ofNat (cd (l.getD i 0)) := by
    show (so l).data[i]'_ = _
    simp [so, List.getD_eq_getElem?_getD, List.getElem?_eq_getElem h2]
  have := hl i
  have hc : cd (l.getD i 0) < 256 := by unfold cd; split <;> omega
  rw [e, UInt8.toNat_ofNat']
  omega
theorem cd_inj (a b : Nat) (ha : a < 16) (hb : b < 16) (h : cd a = cd b) : a = b := by
  unfold cd at h; split at h <;> split at h <;> omega
def digs : ByteArray := ⟨#[48, 49, 50, 51, 52, 53, 54, 55, 56, 57, 97, 98, 99, 100, 101, 102]⟩
theorem digs_at (d : Nat) (h : d < digs.size) : (digs[d]).toNat = cd d := by
  have e : digs = so (List.range 16) := by kernel_rfl
  have h2 : d < 16 := h
  have h3 := so_at (List.range 16) (fun i => by
    rw [List.getD_eq_getElem?_getD]
    by_cases hi : i < 16
    · rw [List.getElem?_range hi]; exact hi
    · rw [List.getElem?_eq_none (by simp; omega)]; decide) d (by rw [so_size]; simpa using h2)
  rw [List.getD_eq_getElem?_getD, List.getElem?_range h2] at h3
  simpa [e] using h3
def midO (l : List Nat) (j d : Nat) : List Nat := (partO l j).set j (if l.getD j 0 < d then l.getD j 0 else 0)
theorem midO_start (l : List Nat) (hl : l.length = 16) (j : Nat) (h : j < 16) : midO l j 0 = partO l j := by
  unfold midO
  rw [if_neg (by omega)]
  have e : (partO l j)[j]? = some 0 := by
    unfold partO
    have h0 : (l.take j).length = j := by rw [List.length_take, hl]; omega
    rw [List.getElem?_append_right (by omega), h0, Nat.sub_self, List.getElem?_replicate, if_pos (by omega)]
  obtain ⟨hh, he⟩ := List.getElem?_eq_some_iff.1 e
  conv => lhs; rw [← he]
  exact List.set_getElem_self hh
theorem midO_end (l : List Nat) (hl : l.length = 16) (j : Nat) (h : j < 16) (hd : l.getD j 0 < 16) : midO l j 16 = partO l (j + 1) := by
  unfold midO
  rw [if_pos hd, partO_set l hl j h]
theorem midO_yes (l : List Nat) (j d : Nat) (h : l.getD j 0 = d) : (midO l j d).set j d = midO l j (d + 1) := by
  unfold midO
  rw [List.set_set, if_pos (by omega), h]
theorem midO_no (l : List Nat) (j d : Nat) (h : l.getD j 0 ≠ d) : midO l j d = midO l j (d + 1) := by
  unfold midO
  by_cases h2 : l.getD j 0 < d
  · rw [if_pos h2, if_pos (by omega)]
  · rw [if_neg h2, if_neg (by omega)]
theorem midO_length (l : List Nat) (hl : l.length = 16) (j d : Nat) (h : j ≤ 16) : (midO l j d).length = 16 := by
  unfold midO; rw [List.length_set, partO_length l hl j h]
set_option maxHeartbeats 1600000 in
theorem rorder_any (r : Nat) (w : World) : Calls Tryz.prog 103 #[.int .i64 (r : Int)] w fun e w' => e = .returned (.agg (iq (order r))) ∧ Below w.heap.size w w' := by
  obtain ⟨m, hm⟩ : ∃ m, m = r % 10 := ⟨_, rfl⟩
  have hm10 : m < 10 := by omega
  have ht : (r : Int).tmod 10 = (m : Int) := by rw [Int.tmod_eq_emod_of_nonneg (by omega)]; omega
  have HO : Hid (order r = ords.getD m []) := Lib.hid (by rw [hm]; rfl)
  have hl : (order r).length = 16 := order_length r
  have HL := Lib.hid hl
  clear hm hl
  go_enter Tryz.func103, Tryz.ntmps103
  go_wp2_with fail
  have hL2 : (ords.getD m []).length = 16 := by rw [← HO.out]; exact HL.out
  have hlt : ∀ i, (ords.getD m []).getD i 0 < 16 := fun i => by rw [← HO.out]; exact order_lt r i
  generalize hv : GetElem.getElem (_ : List Value) m _ = v
  have hs : v = .string (so (ords.getD m [])) := by
    rw [← hv]
    exact lits_at m hm10
  subst hs
  clear hv
  generalize hW : ((w.alloc _).alloc _).alloc _ = W2
  have R0 : RowAt W2 w.heap.size 186 (iq (List.replicate 16 0)) := by subst hW; exact ((RowAt.new w _ _).alloc _).alloc _
  have R1 : RowAt W2 (w.heap.size + 1 + 1) 186 (iq (partO (ords.getD m []) 0)) := by
    subst hW
    have h := RowAt.new ((w.alloc (.cells (iq (List.replicate 16 0)) 186)).alloc (.cells lits.toArray 9)) 186 (iq (List.replicate 16 0))
    rw [World.size_alloc, World.size_alloc] at h; exact h
  have hB : Below w.heap.size w W2 := by subst hW; exact (((Below.refl _ w).alloc (Nat.le_refl _) _).alloc (by simp) _).alloc (by simp; omega) _
  clear hW
  have hg : digs.size = 16 := rfl
  have hgd := digs_at
  generalize hD : (⟨#[48, 49, 50, 51, 52, 53, 54, 55, 56, 57, 97, 98, 99, 100, 101, 102]⟩ : ByteArray) = D
  have hD2 : digs = D := hD
  rw [hD2] at hg hgd
  clear hD hD2
  have hz := so_size (ords.getD m [])
  rw [hL2] at hz
  have hzd := so_at (ords.getD m []) hlt
  generalize so (ords.getD m []) = s at *
  have H0 := Lib.hid R0
  have H1 := Lib.hid R1
  have HB := Lib.hid hB
  have HL2 := Lib.hid hL2
  have HLT := Lib.hid hlt
  have HG := Lib.hid hgd
  have HZ := Lib.hid hzd
  clear R0 R1 hB hL2 hlt hgd hzd
  go_loopw [7] (fun v wr => ∃ j : Nat, j ≤ 16 ∧ v = .int .i64 (j : Int) ∧ RowAt wr (w.heap.size + 1 + 1) 186 (iq (partO (ords.getD m []) j)) ∧ RowAt wr w.heap.size 186 (iq (List.replicate 16 0)) ∧ Below w.heap.size w wr) (fun v _ => 16 - (intOf v).toNat)
  case atStart => exact ⟨0, by omega, rfl, H1.out, H0.out, HB.out⟩
  case round =>
    clear H1 H0 HB
    obtain ⟨j, hj, rfl, R1, R0, hB⟩ := hrel
    have H1 := Lib.hid R1
    have H0 := Lib.hid R0
    have HB := Lib.hid hB
    clear R1 R0 hB
    by_cases h : j < 16
    · have hdt : decide ((j : Int) < 16) = true := by simp; omega
      go_wp2
      go_loopw [8] (fun v wr => ∃ d : Nat, d ≤ 16 ∧ v = .int .i64 (d : Int) ∧ RowAt wr (w.heap.size + 1 + 1) 186 (iq (midO (ords.getD m []) j d)) ∧ RowAt wr w.heap.size 186 (iq (List.replicate 16 0)) ∧ Below w.heap.size w wr) (fun v _ => 16 - (intOf v).toNat)
      case atStart => exact ⟨0, by omega, rfl, by rw [midO_start _ HL2.out j h]; exact H1.out, H0.out, HB.out⟩
      case round =>
        clear H1 H0 HB
        obtain ⟨d, hd, rfl, R1, R0, hB⟩ := hrel
        by_cases hd2 : d < 16
        · have hdt2 : decide ((d : Int) < 16) = true := by simp; omega
          have hjs : j < s.size := by omega
          have hdD : d < D.size := by omega
          have hlen := midO_length (ords.getD m []) HL2.out j d (by omega)
          have cj := (R1.cell j).trans (iq_at _ _ (by omega))
          have fj := R1.frozen j
          have x1 := HZ.out j hjs
          have x2 := HG.out d hdD
          have hin := cd_inj d ((ords.getD m []).getD j 0) hd2 (HLT.out j)
          have hy := midO_yes (ords.getD m []) j d
          have hn := midO_no (ords.getD m []) j d
          generalize (ords.getD m []).getD j 0 = o at *
          have H1 := Lib.hid R1
          have H0 := Lib.hid R0
          have HB := Lib.hid hB
          have HY := Lib.hid hy
          have HN := Lib.hid hn
          clear R1 R0 hB hlen hy hn
          by_cases he : d = o
          · subst he
            clear hin
            go_wp2
            go_quiet (fail)
            go_wp2
            go_roundw
            case rel =>
              refine ⟨d + 1, by omega, by go_num, ?_, (H0.out.drewN nq).setOther _ (by simp <;> omega) _, (below_drewN HB.out nq).setCell (by simp <;> omega) _⟩
              rw [← HY.out (by trivial), ← iq_set]
              exact (H1.out.drewN nq).setCell j _
            case measure => simp [intOf]; omega
          · have hne : ¬ cd d = cd o := fun e => he (hin e)
            clear hin
            go_wp2
            go_quiet (fail)
            go_wp2
            go_roundw
            case rel =>
              refine ⟨d + 1, by omega, by go_num, ?_, H0.out.drewN nq, below_drewN HB.out nq⟩
              rw [← HN.out (fun e => he e.symm)]
              exact H1.out.drewN nq
            case measure => simp [intOf]; omega
        · obtain rfl : d = 16 := by omega
          have hdt2 : decide (((16 : Nat) : Int) < 16) = false := by simp
          have H1 := Lib.hid R1
          have H0 := Lib.hid R0
          have HB := Lib.hid hB
          clear R1 R0 hB
          go_wp2
          go_roundw
          case rel => exact ⟨j + 1, by omega, by go_num, by rw [← midO_end _ HL2.out j h (HLT.out j)]; exact H1.out, H0.out, HB.out⟩
          case measure => simp [intOf]; omega
    · obtain rfl : j = 16 := by omega
      have hdt : decide (((16 : Nat) : Int) < 16) = false := by simp
      rw [partO_all _ HL2.out, ← HO.out] at H1
      have hs : (iq (order r)).size = 16 := by rw [iq_size]; exact HL.out
      have HS := Lib.hid hs
      clear hs
      go_wp2_with (first
        | refine wpList_load_row rfl 186 (.tmp 4) rfl (w.heap.size + 1 + 1) rfl 186 (iq (order r)) (0, 0) _ H1.out Tryz.underlying186 rfl (by rw [HS.out]; exact q_int16) ?_
        | refine wpList_store_row rfl 186 (.tmp 2) (.tmp 39) rfl w.heap.size (iq (order r)) rfl rfl 186 _ H0.out (by rw [HS.out]; exact q_int16) (by rw [HS.out]; rfl) (iq_one _) ?_)
      have hR := H0.out.setRow (iq (order r))
      refine bodyPost_ret (v := .agg (iq (order r))) (results_cell_row rfl _ _ w.heap.size 186 (iq (order r)) (0, 0) _ rfl hR Tryz.underlying186 rfl (by rw [HS.out]; exact q_int16)) rfl ⟨rfl, ?_⟩
      exact below_setRow HB.out (Nat.le_refl _) _
open Go.RowKit Rot Bl
section
variable {w : World} {ev : Operand → Value} {x y : Operand} {o : Oper} {B i : Nat}
theorem ix16_run (hop : o.op = .indexAddr 185 x y) (hx : ev x = .pointer (some ⟨B, 0, none⟩)) (hy : ev y = .int .i64 (i : Int)) (hi : i < 16) : (execOp ev o).run Tryz.prog w = .ok (.value (.pointer (some ⟨B, i, none⟩))) w := by
  have h1 : (i : Int) < 16 := by omega
  simp [execOp, hop, hx, hy, go_sem, h1]
theorem ixi_run (hop : o.op = .indexAddr 186 x y) (hx : ev x = .pointer (some ⟨B, 0, none⟩)) (hy : ev y = .int .i64 (i : Int)) (hi : i < 16) : (execOp ev o).run Tryz.prog w = .ok (.value (.pointer (some ⟨B, i, none⟩))) w := by
  have h1 : (i : Int) < 16 := by omega
  simp [execOp, hop, hx, hy, go_sem, h1]
theorem ixs_run {n c : Nat} (hop : o.op = .indexAddr 117 x y) (hx : ev x = .slice (some ⟨B, 0, none⟩) n c) (hy : ev y = .int .i64 (i : Int)) (hi : i < n) : (execOp ev o).run Tryz.prog w = .ok (.value (.pointer (some ⟨B, i, none⟩))) w := by
  have h1 : (i : Int) < (n : Int) := by omega
  simp [execOp, hop, hx, hy, go_sem, h1]
theorem ld_run {v : Value} (hop : o.op = .load 52 x) (hx : ev x = .pointer (some ⟨B, i, none⟩)) (hc : w.cell? ⟨B, i, none⟩ = some v) : (execOp ev o).run Tryz.prog w = .ok (.value v) w := by
  simp [execOp, hop, hx, hc, go_sem]
theorem ldi_run {v : Value} (hop : o.op = .load 3 x) (hx : ev x = .pointer (some ⟨B, i, none⟩)) (hc : w.cell? ⟨B, i, none⟩ = some v) : (execOp ev o).run Tryz.prog w = .ok (.value v) w := by
  simp [execOp, hop, hx, hc, go_sem]
theorem ex_run {cs : Array Value} {v : Value} (hop : o.op = .extract x i) (hx : ev x = .tuple cs) (hc : cs[i]? = some v) : (execOp ev o).run Tryz.prog w = .ok (.value v) w := by
  simp [execOp, hop, hx, hc, go_sem]
theorem st_run {v : Value} {z : Int} (hop : o.op = .store 52 x y) (hx : ev x = .pointer (some ⟨B, i, none⟩)) (hy : ev y = .int .u64 z) (hc : w.cell? ⟨B, i, none⟩ = some v) (hf : w.frozen? ⟨B, i, none⟩ = false) : (execOp ev o).run Tryz.prog w = .ok .skip (w.setCell ⟨B, i, none⟩ (.int .u64 z)) := by
  simp [execOp, hop, hx, hy, hc, hf, go_sem]
end
def qq : List Nat := [0, 4, 8, 12, 1, 5, 9, 13, 2, 6, 10, 14, 3, 7, 11, 15, 0, 5, 10, 15, 1, 6, 11, 12, 2, 7, 8, 13, 3, 4, 9, 14]
def QAt (w : World) : Prop := 1 < w.heap.size ∧ ∀ i, i < 32 → w.cell? ⟨1, i, none⟩ = some (.int .i64 (qq.getD i 0 : Nat))
theorem QAt.below {w w' : World} {B : Nat} (h : QAt w) (hb : Below B w w') (hB : 1 < B) : QAt w' :=
  ⟨Nat.lt_of_lt_of_le h.1 hb.size, fun i hi => (hb.cell (p := ⟨1, i, none⟩) hB).trans (h.2 i hi)⟩
theorem QAt.next {w w' : World} (h : QAt w) (hb : Below w.heap.size w w') : QAt w' := h.below hb h.1
theorem q_size32 : (Tryz.prog.info? 227).map (·.size) = some 32 := by kernel_rfl
theorem tab_load {w : World} (h : QAt w) : (loadVar 227 ⟨1, 0, none⟩).run Tryz.prog w = .ok (.agg (iq qq)) w := by
  have hl : (loadCells ⟨1, 0, none⟩ (qq.map fun x : Nat => Value.int .i64 (x : Int)).length).run Tryz.prog w = .ok (qq.map fun x : Nat => Value.int .i64 (x : Int)).toArray w :=
    run_loadCells_list (P := Tryz.prog) w ⟨1, 0, none⟩ _ (fun j v hv => by
      have hadd : (⟨1, 0, none⟩ : Addr).add j = ⟨1, j, none⟩ := by unfold Addr.add; split <;> simp_all
      have hj : j < 32 := by
        have := (List.getElem?_eq_some_iff.1 hv).1
        rw [List.length_map] at this
        exact this
      rw [hadd, h.2 j hj]
      rw [List.getElem?_map, List.getElem?_eq_getElem (show j < qq.length from hj)] at hv
      rw [List.getD_eq_getElem?_getD, List.getElem?_eq_getElem (show j < qq.length from hj)]
      exact hv)
  rw [List.length_map, show qq.length = 32 from rfl] at hl
  have hz := q_size32
  cases hq : Tryz.prog.info? 227 with
  | none => rw [hq] at hz; simp at hz
  | some i =>
    have hsz : i.size = 32 := by rw [hq] at hz; simpa using hz
    simp [loadVar, Sem.run_bind, sizeOf, typeInfo, hq, hsz, hl, iq]
theorem qq_part (i : Nat) (hi : i < 8) : (iq qq).extract (i * 4) (i * 4 + 4) = iq [pt i 0, pt i 1, pt i 2, pt i 3] := by
  have h : ∀ i, i < 8 → (qq.drop (i * 4)).take 4 = [pt i 0, pt i 1, pt i 2, pt i 3] := by decide
  rw [← h i hi]
  simp [iq, List.map_take, List.map_drop]
theorem tab_index (w : World) (i : Nat) (hi : i < 8) : (Instr.index 227 (.agg (iq qq)) (.int .i64 (i : Int))).run Tryz.prog w = .ok (.agg (iq [pt i 0, pt i 1, pt i 2, pt i 3])) w := by
  have hz := q_int4
  cases hq : Tryz.prog.info? 188 with
  | none => rw [hq] at hz; simp at hz
  | some q =>
    have hsz : q.size = 4 := by rw [hq] at hz; simpa using hz
    simp [Instr.index, run_underlying Tryz.underlying227, asIntOf, hi, go_sem, sizeOf, typeInfo, hq, hsz, qq_part i hi]
theorem init_any (w : World) : Calls Tryz.prog 119 #[] w fun e w' => e = .returned (.agg (wq iv)) ∧ Below w.heap.size w w' := by
  go_enter Tryz.func119, Tryz.ntmps119
  go_wp2
  have hR : RowAt (w.alloc (.cells (wq iv) 53)) w.heap.size 53 (wq iv) := RowAt.new _ _ _
  refine bodyPost_ret (v := .agg (wq iv)) (results_cell_row rfl _ _ w.heap.size 53 (wq iv) (0, 0) _ rfl hR Tryz.underlying53 rfl (by rw [wq_size]; exact q_size8)) rfl ⟨rfl, (Below.refl _ w).alloc (Nat.le_refl _) _⟩
theorem copied8 {W : World} {b sb : Nat} {v own : List Nat} (hC : RowAt W b 185 (wq v)) (hv : v.length = 16) (hr : RowAt W sb 53 (wq own)) (ho : own.length = 8) (ty : TypeId) (p n c : Nat) (hp : p ≤ 8) (hn : 8 ≤ n) :
    (Builtin.copy_ #[117, 117] ty #[.slice (some ⟨b, p, none⟩) n c, .slice (some ⟨sb, 0, none⟩) 8 8]).run Tryz.prog W = .ok (goInt 8) (W.setRow b (wq (v.take p ++ own ++ v.drop (p + 8)))) := by
  have hl : (u64s own).length = 8 := by rw [u64s_length, ho]
  have := run_copy_row (P := Tryz.prog) W 117 117 ty 52 b p n c ⟨sb, 0, none⟩ 8 8 (wq v) 185 (u64s own) Tryz.underlying117 q_u64 hC (by rw [hl]; exact (Nat.min_eq_left hn).symm)
    (fun j u hj => by
      have hadd : (⟨sb, 0, none⟩ : Addr).add j = ⟨sb, j, none⟩ := by unfold Addr.add; split <;> simp_all
      rw [hadd, hr.cell]
      simpa [wq] using hj) (by rw [hl, wq_size, hv]; omega) (fun u hu => by simp only [u64s, List.mem_map] at hu; obtain ⟨x, _, rfl⟩ := hu; rfl)
  rw [hl] at this
  rw [this]
  simp [wq, u64s, List.map_take, List.map_drop]
open Go.RowKit Rot Bl
theorem iq4 (a b c d : Nat) : (iq [a, b, c, d]).size = 4 := rfl
theorem f_size8 : (Tryz.prog.info? 54).map (·.size) = some 8 := by kernel_rfl
theorem rknown_any (w : World) : Calls Tryz.prog 14 #[] w fun e w' => e = .returned (.agg (wq iv)) ∧ Below w.heap.size w w' := by
  go_enter Tryz.func14, Tryz.ntmps14
  go_wp2
  have hR : RowAt (w.alloc (.cells (wq iv) 54)) w.heap.size 54 (wq iv) := RowAt.new _ _ _
  refine bodyPost_ret (v := .agg (wq iv)) (results_cell_row rfl _ _ w.heap.size 54 (wq iv) (0, 0) _ rfl hR Tryz.underlying54 rfl (by rw [wq_size]; exact f_size8)) rfl ⟨rfl, (Below.refl _ w).alloc (Nat.le_refl _) _⟩
set_option maxHeartbeats 800000 in
theorem at_any (i : Nat) (hi : i < 8) (w : World) : Calls Tryz.prog 104 #[.int .i64 (i : Int)] w fun e w' => e = .returned (.agg (iq [pt i 0, pt i 1, pt i 2, pt i 3])) ∧ Below w.heap.size w w' := by
  have hR : ∀ v, RowAt (w.alloc (.cells (iq v) 188)) w.heap.size 188 (iq v) := fun v => RowAt.new _ _ _
  have h : i = 0 ∨ i = 1 ∨ i = 2 ∨ i = 3 ∨ i = 4 ∨ i = 5 ∨ i = 6 ∨ i = 7 := by omega
  rcases h with rfl | rfl | rfl | rfl | rfl | rfl | rfl | rfl
  · rw [show [pt 0 0, pt 0 1, pt 0 2, pt 0 3] = [0, 4, 8, 12] from rfl]
    go_enter Tryz.func104, Tryz.ntmps104
    go_wp2
    refine bodyPost_ret (v := .agg (iq [0, 4, 8, 12])) (results_cell_row rfl _ _ w.heap.size 188 (iq [0, 4, 8, 12]) (0, 0) _ rfl (hR [0, 4, 8, 12]) Tryz.underlying188 rfl (by rw [iq4]; exact q_int4)) rfl ⟨rfl, (Below.refl _ w).alloc (Nat.le_refl _) _⟩
  · rw [show [pt 1 0, pt 1 1, pt 1 2, pt 1 3] = [1, 5, 9, 13] from rfl]
    go_enter Tryz.func104, Tryz.ntmps104
    go_wp2
    refine bodyPost_ret (v := .agg (iq [1, 5, 9, 13])) (results_cell_row rfl _ _ w.heap.size 188 (iq [1, 5, 9, 13]) (0, 0) _ rfl (hR [1, 5, 9, 13]) Tryz.underlying188 rfl (by rw [iq4]; exact q_int4)) rfl ⟨rfl, (Below.refl _ w).alloc (Nat.le_refl _) _⟩
  · rw [show [pt 2 0, pt 2 1, pt 2 2, pt 2 3] = [2, 6, 10, 14] from rfl]
    go_enter Tryz.func104, Tryz.ntmps104
    go_wp2
    refine bodyPost_ret (v := .agg (iq [2, 6, 10, 14])) (results_cell_row rfl _ _ w.heap.size 188 (iq [2, 6, 10, 14]) (0, 0) _ rfl (hR [2, 6, 10, 14]) Tryz.underlying188 rfl (by rw [iq4]; exact q_int4)) rfl ⟨rfl, (Below.refl _ w).alloc (Nat.le_refl _) _⟩
  · rw [show [pt 3 0, pt 3 1, pt 3 2, pt 3 3] = [3, 7, 11, 15] from rfl]
    go_enter Tryz.func104, Tryz.ntmps104
    go_wp2
    refine bodyPost_ret (v := .agg (iq [3, 7, 11, 15])) (results_cell_row rfl _ _ w.heap.size 188 (iq [3, 7, 11, 15]) (0, 0) _ rfl (hR [3, 7, 11, 15]) Tryz.underlying188 rfl (by rw [iq4]; exact q_int4)) rfl ⟨rfl, (Below.refl _ w).alloc (Nat.le_refl _) _⟩
  · rw [show [pt 4 0, pt 4 1, pt 4 2, pt 4 3] = [0, 5, 10, 15] from rfl]
    go_enter Tryz.func104, Tryz.ntmps104
    go_wp2
    refine bodyPost_ret (v := .agg (iq [0, 5, 10, 15])) (results_cell_row rfl _ _ w.heap.size 188 (iq [0, 5, 10, 15]) (0, 0) _ rfl (hR [0, 5, 10, 15]) Tryz.underlying188 rfl (by rw [iq4]; exact q_int4)) rfl ⟨rfl, (Below.refl _ w).alloc (Nat.le_refl _) _⟩
  · rw [show [pt 5 0, pt 5 1, pt 5 2, pt 5 3] = [1, 6, 11, 12] from rfl]
    go_enter Tryz.func104, Tryz.ntmps104
    go_wp2
    refine bodyPost_ret (v := .agg (iq [1, 6, 11, 12])) (results_cell_row rfl _ _ w.heap.size 188 (iq [1, 6, 11, 12]) (0, 0) _ rfl (hR [1, 6, 11, 12]) Tryz.underlying188 rfl (by rw [iq4]; exact q_int4)) rfl ⟨rfl, (Below.refl _ w).alloc (Nat.le_refl _) _⟩
  · rw [show [pt 6 0, pt 6 1, pt 6 2, pt 6 3] = [2, 7, 8, 13] from rfl]
    go_enter Tryz.func104, Tryz.ntmps104
    go_wp2
    refine bodyPost_ret (v := .agg (iq [2, 7, 8, 13])) (results_cell_row rfl _ _ w.heap.size 188 (iq [2, 7, 8, 13]) (0, 0) _ rfl (hR [2, 7, 8, 13]) Tryz.underlying188 rfl (by rw [iq4]; exact q_int4)) rfl ⟨rfl, (Below.refl _ w).alloc (Nat.le_refl _) _⟩
  · rw [show [pt 7 0, pt 7 1, pt 7 2, pt 7 3] = [3, 4, 9, 14] from rfl]
    go_enter Tryz.func104, Tryz.ntmps104
    go_wp2
    refine bodyPost_ret (v := .agg (iq [3, 4, 9, 14])) (results_cell_row rfl _ _ w.heap.size 188 (iq [3, 4, 9, 14]) (0, 0) _ rfl (hR [3, 4, 9, 14]) Tryz.underlying188 rfl (by rw [iq4]; exact q_int4)) rfl ⟨rfl, (Below.refl _ w).alloc (Nat.le_refl _) _⟩
end Go.Proofs.YtfoodaobiknihaaGreatDoor

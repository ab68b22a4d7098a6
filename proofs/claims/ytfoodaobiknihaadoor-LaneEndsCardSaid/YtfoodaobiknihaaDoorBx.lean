/- BLAKE2b as plain mathematics, and package blake's small functions, by their contracts. Conditions: those typed. -/
import Derived.Test.YtfoodaobiknihaaDoorKi
import Derived.WalkKit
import Derived.BigQuiet
import Derived.StillTailTactics
import Derived.Deep.QuietTactic
import Derived.Test.YtfoodaobiknihaaDoorGen
import Derived.Test.YtfoodaobiknihaaDoorWy
namespace Go.Proofs.YtfoodaobiknihaaDoor.Bl
set_option maxRecDepth 50000
open Rot
def add (a b : Nat) : Nat := (a + b) % 18446744073709551616
structure Q where
  a : Nat
  b : Nat
  c : Nat
  d : Nat
def half (q : Q) (x r s : Nat) : Q :=
  let a := add q.a (add q.b x)
  let d := rotl 64 (q.d ^^^ a) r
  let c := add q.c d
  ⟨a, rotl 64 (q.b ^^^ c) s, c, d⟩
def quarter (q : Q) (x y : Nat) : Q := half (half q x 32 40) y 48 1
def iv : List Nat := [7640891576956012808, 13503953896175478587, 4354685564936845355, 11912009170470909681, 5840696475078001361, 11170449401992604703, 2270897969802886507, 6620516959819538809]
def ords : List (List Nat) := [[0, 1, 2, 3, 4, 5, 6, 7, 8, 9, 10, 11, 12, 13, 14, 15], [14, 10, 4, 8, 9, 15, 13, 6, 1, 12, 0, 2, 11, 7, 5, 3], [11, 8, 12, 0, 5, 2, 15, 13, 10, 14, 3, 6, 7, 1, 9, 4], [7, 9, 3, 1, 13, 12, 11, 14, 2, 6, 5, 10, 4, 0, 15, 8], [9, 0, 5, 7, 2, 4, 10, 15, 14, 1, 11, 12, 6, 8, 3, 13], [2, 12, 6, 10, 0, 11, 8, 3, 4, 13, 7, 5, 15, 14, 1, 9], [12, 5, 1, 15, 14, 13, 4, 10, 0, 7, 6, 3, 9, 2, 8, 11], [13, 11, 7, 14, 12, 1, 3, 9, 5, 0, 15, 4, 8, 6, 2, 10], [6, 15, 14, 9, 11, 3, 0, 8, 12, 2, 13, 7, 1, 4, 10, 5], [10, 2, 8, 4, 7, 6, 1, 5, 15, 11, 9, 14, 3, 12, 13, 0]]
def order (r : Nat) : List Nat := ords.getD (r % 10) []
def pos : List (List Nat) := [[0, 4, 8, 12], [1, 5, 9, 13], [2, 6, 10, 14], [3, 7, 11, 15], [0, 5, 10, 15], [1, 6, 11, 12], [2, 7, 8, 13], [3, 4, 9, 14]]
def pt (i k : Nat) : Nat := (pos.getD i []).getD k 0
def take4 (v : List Nat) (i : Nat) : Q := ⟨v.getD (pt i 0) 0, v.getD (pt i 1) 0, v.getD (pt i 2) 0, v.getD (pt i 3) 0⟩
def put4 (v : List Nat) (i : Nat) (q : Q) : List Nat := (((v.set (pt i 0) q.a).set (pt i 1) q.b).set (pt i 2) q.c).set (pt i 3) q.d
def mixAt (v m s : List Nat) (i : Nat) : List Nat := put4 v i (quarter (take4 v i) (m.getD (s.getD (2 * i) 0) 0) (m.getD (s.getD (2 * i + 1) 0) 0))
def mixTo (v m s : List Nat) : Nat → List Nat
  | 0 => v
  | i + 1 => mixAt (mixTo v m s i) m s i
def roundsTo (v m : List Nat) : Nat → List Nat
  | 0 => v
  | r + 1 => mixTo (roundsTo v m r) m (order r) 8
def start (h : List Nat) (t : Nat) (last : Bool) : List Nat :=
  h ++ [iv.getD 0 0, iv.getD 1 0, iv.getD 2 0, iv.getD 3 0, iv.getD 4 0 ^^^ t, iv.getD 5 0, if last then 18446744073709551615 - iv.getD 6 0 else iv.getD 6 0, iv.getD 7 0]
def fold8 (h v : List Nat) : Nat → List Nat
  | 0 => h
  | j + 1 => (fold8 h v j).set j (h.getD j 0 ^^^ (v.getD j 0 ^^^ v.getD (j + 8) 0))
def comp (h m : List Nat) (t : Nat) (last : Bool) : List Nat := fold8 h (roundsTo (start h t last) m 12) 8
def okw (l : List Nat) : Prop := ∀ x ∈ l, x < 18446744073709551616
theorem add_lt (a b : Nat) : add a b < 18446744073709551616 := Nat.mod_lt _ (by decide)
theorem xor_lt64 (a b : Nat) (ha : a < 18446744073709551616) (hb : b < 18446744073709551616) : a ^^^ b < 18446744073709551616 := Nat.xor_lt_two_pow (n := 64) ha hb
theorem rotl_lt64 (x s : Nat) (hs : s ≤ 64) (hx : x < 18446744073709551616) : rotl 64 x s < 18446744073709551616 := rotl_lt 64 x s hs hx
theorem okw.at_ {l : List Nat} (h : okw l) (i : Nat) : l.getD i 0 < 18446744073709551616 := by
  rw [List.getD_eq_getElem?_getD]
  by_cases hi : i < l.length
  · rw [List.getElem?_eq_getElem hi]; exact h _ (List.getElem_mem hi)
  · rw [List.getElem?_eq_none (by omega)]; decide
theorem okw.set {l : List Nat} (h : okw l) (i x : Nat) (hx : x < 18446744073709551616) : okw (l.set i x) := fun y hy => by
  rcases List.mem_or_eq_of_mem_set hy with hy | rfl
  · exact h y hy
  · exact hx
def Q.ok (q : Q) : Prop := q.a < 18446744073709551616 ∧ q.b < 18446744073709551616 ∧ q.c < 18446744073709551616 ∧ q.d < 18446744073709551616
theorem half_ok {q : Q} (h : q.ok) (x r s : Nat) (hr : r ≤ 64) (hs : s ≤ 64) : (half q x r s).ok :=
  ⟨add_lt _ _, rotl_lt64 _ _ hs (xor_lt64 _ _ h.2.1 (add_lt _ _)), add_lt _ _, rotl_lt64 _ _ hr (xor_lt64 _ _ h.2.2.2 (add_lt _ _))⟩
theorem quarter_ok {q : Q} (h : q.ok) (x y : Nat) : (quarter q x y).ok := half_ok (half_ok h _ _ _ (by decide) (by decide)) _ _ _ (by decide) (by decide)
theorem put4_ok {v : List Nat} (h : okw v) (i : Nat) {q : Q} (hq : q.ok) : okw (put4 v i q) := (((h.set _ _ hq.1).set _ _ hq.2.1).set _ _ hq.2.2.1).set _ _ hq.2.2.2
theorem put4_length (v : List Nat) (i : Nat) (q : Q) : (put4 v i q).length = v.length := by simp [put4]
theorem mixAt_length (v m s : List Nat) (i : Nat) : (mixAt v m s i).length = v.length := put4_length _ _ _
theorem mixTo_length (v m s : List Nat) : ∀ i, (mixTo v m s i).length = v.length
  | 0 => rfl
  | i + 1 => by rw [mixTo, mixAt_length, mixTo_length v m s i]
theorem take4_ok {v : List Nat} (h : okw v) (i : Nat) : (take4 v i).ok := ⟨h.at_ _, h.at_ _, h.at_ _, h.at_ _⟩
theorem mixTo_ok {v : List Nat} (h : okw v) (m s : List Nat) : ∀ i, okw (mixTo v m s i)
  | 0 => h
  | i + 1 => put4_ok (mixTo_ok h m s i) i (quarter_ok (take4_ok (mixTo_ok h m s i) i) _ _)
theorem roundsTo_length (v m : List Nat) : ∀ r, (roundsTo v m r).length = v.length
  | 0 => rfl
  | r + 1 => by rw [roundsTo, mixTo_length, roundsTo_length v m r]
theorem roundsTo_ok {v : List Nat} (h : okw v) (m : List Nat) : ∀ r, okw (roundsTo v m r)
  | 0 => h
  | r + 1 => mixTo_ok (roundsTo_ok h m r) m _ 8
theorem iv_ok : okw iv := by unfold okw; decide
theorem start_length (h : List Nat) (hl : h.length = 8) (t : Nat) (last : Bool) : (start h t last).length = 16 := by simp [start, hl]
theorem start_ok {h : List Nat} (hk : okw h) {t : Nat} (ht : t < 18446744073709551616) (last : Bool) : okw (start h t last) := fun x hx => by
  rcases List.mem_append.1 hx with hx | hx
  · exact hk x hx
  · simp only [List.mem_cons, List.not_mem_nil, or_false] at hx
    rcases hx with rfl | rfl | rfl | rfl | rfl | rfl | rfl | rfl
    iterate 4 exact iv_ok.at_ _
    · exact xor_lt64 _ _ (iv_ok.at_ _) ht
    · exact iv_ok.at_ _
    · cases last
      · exact iv_ok.at_ _
      · show 18446744073709551615 - _ < _; omega
    · exact iv_ok.at_ _
theorem fold8_length (h v : List Nat) : ∀ j, (fold8 h v j).length = h.length
  | 0 => rfl
  | j + 1 => by simp [fold8, fold8_length h v j]
theorem fold8_ok {h v : List Nat} (hh : okw h) (hv : okw v) : ∀ j, okw (fold8 h v j)
  | 0 => hh
  | j + 1 => (fold8_ok hh hv j).set _ _ (xor_lt64 _ _ (hh.at_ _) (xor_lt64 _ _ (hv.at_ _) (hv.at_ _)))
theorem fold8_at (h v : List Nat) (i : Nat) : ∀ j, j ≤ i → (fold8 h v j).getD i 0 = h.getD i 0
  | 0, _ => rfl
  | j + 1, hl => by
    have := fold8_at h v i j (by omega)
    rw [fold8, List.getD_eq_getElem?_getD, List.getElem?_set_ne (by omega), ← List.getD_eq_getElem?_getD, this]
theorem comp_length (h m : List Nat) (t : Nat) (last : Bool) : (comp h m t last).length = h.length := fold8_length _ _ _
theorem comp_ok {h : List Nat} (hh : okw h) (m : List Nat) {t : Nat} (ht : t < 18446744073709551616) (last : Bool) : okw (comp h m t last) := fold8_ok hh (roundsTo_ok (start_ok hh ht last) m 12) 8
theorem order_length (r : Nat) : (order r).length = 16 := by
  have h : ∀ k, k < 10 → (ords.getD k []).length = 16 := by decide
  exact h _ (Nat.mod_lt _ (by decide))
theorem order_lt (r : Nat) (i : Nat) : (order r).getD i 0 < 16 := by
  have h : ∀ k, k < 10 → ∀ i, i < 16 → (ords.getD k []).getD i 0 < 16 := by decide
  by_cases hi : i < 16
  · exact h _ (Nat.mod_lt _ (by decide)) i hi
  · rw [List.getD_eq_getElem?_getD, List.getElem?_eq_none (by rw [order_length]; omega)]; decide
theorem pt_lt (i k : Nat) (hi : i < 8) (hk : k < 4) : pt i k < 16 := by
  have h : ∀ i, i < 8 → ∀ k, k < 4 → pt i k < 16 := by decide
  exact h i hi k hk
theorem ofInt64 (a : Nat) (h : a < 18446744073709551616) : (BitVec.ofInt 64 (a : Int)).toNat = a := by
  rw [BitVec.toNat_ofInt]; simp; omega
theorem u64_in (a : Nat) (h : a < 18446744073709551616) : IntKind.u64.wrap (a : Int) = (a : Int) := by
  have e : IntKind.u64.wrap (a : Int) = (a : Int) % 18446744073709551616 := by simp [IntKind.wrap, IntKind.bits, IntKind.signed]
  rw [e]; omega
theorem xor64 (a b : Nat) (ha : a < 18446744073709551616) (hb : b < 18446744073709551616) : bits .xor .u64 (a : Int) (b : Int) = ((a ^^^ b : Nat) : Int) := by
  have h := xor_lt64 a b ha hb
  have e : bits .xor .u64 (a : Int) (b : Int) = IntKind.u64.wrap (((BitVec.ofInt 64 (a : Int)) ^^^ (BitVec.ofInt 64 (b : Int))).toNat : Int) := rfl
  rw [e, BitVec.toNat_xor, ofInt64 a ha, ofInt64 b hb, u64_in _ h]
theorem wadd (a b : Nat) : IntKind.u64.wrap ((a : Int) + (b : Int)) = ((add a b : Nat) : Int) := by
  have e : IntKind.u64.wrap ((a : Int) + (b : Int)) = ((a : Int) + (b : Int)) % 18446744073709551616 := by simp [IntKind.wrap, IntKind.bits, IntKind.signed]
  rw [e]; unfold add; omega
theorem not64 (e : Nat) (he : e < 18446744073709551616) : bits .xor .u64 (if IntKind.u64.signed = true then -1 else IntKind.u64.max) (e : Int) = ((18446744073709551615 - e : Nat) : Int) := by
  have e0 : (if IntKind.u64.signed = true then (-1 : Int) else IntKind.u64.max) = ((18446744073709551615 : Nat) : Int) := rfl
  rw [e0, xor64 18446744073709551615 e (by decide) he]
  congr 1
  have h := BitVec.toNat_xor (BitVec.allOnes 64) (BitVec.ofNat 64 e)
  rw [BitVec.allOnes_xor, BitVec.toNat_not, BitVec.toNat_allOnes, BitVec.toNat_ofNat, Nat.mod_eq_of_lt (by simpa using he)] at h
  simpa using h.symm
end Go.Proofs.YtfoodaobiknihaaDoor.Bl
namespace Go.Proofs.YtfoodaobiknihaaDoor
set_option maxRecDepth 50000
open Go.RowKit Rot Bl
def wq (l : List Nat) : Array Value := (u64s l).toArray
theorem wq_size (l : List Nat) : (wq l).size = l.length := by simp [wq, u64s]
theorem wq_at (l : List Nat) (i : Nat) (h : i < l.length) : (wq l)[i]? = some (.int .u64 (l.getD i 0 : Nat)) := by
  simp [wq, u64s, List.getD_eq_getElem?_getD, List.getElem?_eq_getElem h]
theorem wq_set (l : List Nat) (i x : Nat) : (wq l).setIfInBounds i (.int .u64 (x : Int)) = wq (l.set i x) := by
  simp [wq, u64s, List.map_set]
theorem wq_one (l : List Nat) : (wq l).all (·.oneCell') = true := by
  simp [wq, u64s, Value.oneCell']
def iq (l : List Nat) : Array Value := (l.map fun x : Nat => Value.int .i64 (x : Int)).toArray
theorem iq_size (l : List Nat) : (iq l).size = l.length := by simp [iq]
theorem iq_at (l : List Nat) (i : Nat) (h : i < l.length) : (iq l)[i]? = some (.int .i64 (l.getD i 0 : Nat)) := by
  simp [iq, List.getD_eq_getElem?_getD, List.getElem?_eq_getElem h]
theorem iq_set (l : List Nat) (i x : Nat) : (iq l).setIfInBounds i (.int .i64 (x : Int)) = iq (l.set i x) := by
  simp [iq, List.map_set]
theorem iq_one (l : List Nat) : (iq l).all (·.oneCell') = true := by
  simp [iq, Value.oneCell']
theorem q_int4 : (Tryd.prog.info? 36).map (·.size) = some 4 := by kernel_rfl
theorem q_u64 : (Tryd.prog.info? 89).map (·.size) = some 1 := by kernel_rfl
theorem right_q (n s : Nat) (h : ((-(n : Int)) % 64).toNat = s) (x : Nat) (hx : x < 18446744073709551616) (w : World) : Calls Tryd.prog 71 #[.int .u64 (x : Int), .int .i64 (n : Int)] w fun e w' => e = .returned (.int .u64 (rotl 64 x s : Nat)) ∧ w = w' := by
  rw [← h]; exact right64_any x n hx w
end Go.Proofs.YtfoodaobiknihaaDoor
namespace Go.Proofs.YtfoodaobiknihaaDoor
set_option maxRecDepth 50000
open Go.RowKit Rot Bl
theorem rotl_round (x s L H : Nat) (hs : s ≤ 64) (hL : 2 ^ (64 - s) = L) (hH : 2 ^ s = H) (hx : x < 18446744073709551616) : x / L + x % L * H = rotl 64 x s ∧ x % L * H < 18446744073709551616 := by
  subst hL; subst hH
  refine ⟨by rw [rotl_split 64 x s hs hx, Nat.add_comm], ?_⟩
  have h := Nat.mod_lt x (show 0 < 2 ^ (64 - s) from Nat.two_pow_pos _)
  calc x % 2 ^ (64 - s) * 2 ^ s < 2 ^ (64 - s) * 2 ^ s := Nat.mul_lt_mul_of_pos_right h (Nat.two_pow_pos _)
    _ = 18446744073709551616 := by rw [← Nat.pow_add, show 64 - s + s = 64 by omega]
theorem wq4 (a b c d : Nat) : (wq [a, b, c, d]).size = 4 := rfl
end Go.Proofs.YtfoodaobiknihaaDoor
namespace Go.Proofs.YtfoodaobiknihaaDoor
set_option maxRecDepth 50000
open Go.RowKit Rot Bl
def cd (d : Nat) : Nat := if d < 10 then 48 + d else 87 + d
def partO (l : List Nat) (i : Nat) : List Nat := l.take i ++ List.replicate (16 - i) 0
theorem partO_length (l : List Nat) (hl : l.length = 16) (i : Nat) (h : i ≤ 16) : (partO l i).length = 16 := by simp [partO, hl]; omega
theorem partO_set (l : List Nat) (hl : l.length = 16) (i : Nat) (h : i < 16) : (partO l i).set i (l.getD i 0) = partO l (i + 1) := by
  unfold partO
  have e : List.replicate (16 - i) 0 = 0 :: List.replicate (16 - (i + 1)) 0 := by rw [show 16 - i = (16 - (i + 1)) + 1 by omega]; rfl
  rw [e, List.set_append_right _ _ (by simp [hl]; omega), List.length_take, hl, Nat.min_eq_left (by omega), Nat.sub_self, List.set_cons_zero]
  rw [List.take_succ_eq_append_getElem (by omega), List.getD_eq_getElem?_getD, List.getElem?_eq_getElem (by omega), List.append_assoc]
  rfl
theorem partO_all (l : List Nat) (hl : l.length = 16) : partO l 16 = l := by simp [partO, ← hl]
theorem ords_at (m i : Nat) (hm : m < 10) (hi : i < 16) : (ords.flatten.map cd).getD (m * 16 + i) 0 = cd ((ords.getD m []).getD i 0) := by
  have h : ((List.range 10).all fun m => (List.range 16).all fun i => (ords.flatten.map cd).getD (m * 16 + i) 0 == cd ((ords.getD m []).getD i 0)) = true := by kernel_rfl
  have := List.all_eq_true.1 (List.all_eq_true.1 h m (List.mem_range.2 hm)) i (List.mem_range.2 hi)
  simpa using this
def sx : ByteArray := ⟨#[48, 49, 50, 51, 52, 53, 54, 55, 56, 57, 97, 98, 99, 100, 101, 102, 101, 97, 52, 56, 57, 102, 100, 54, 49, 99, 48, 50, 98, 55, 53, 51, 98, 56, 99, 48, 53, 50, 102, 100, 97, 101, 51, 54, 55, 49, 57, 52, 55, 57, 51, 49, 100, 99, 98, 101, 50, 54, 53, 97, 52, 48, 102, 56, 57, 48, 53, 55, 50, 52, 97, 102, 101, 49, 98, 99, 54, 56, 51, 100, 50, 99, 54, 97, 48, 98, 56, 51, 52, 100, 55, 53, 102, 101, 49, 57, 99, 53, 49, 102, 101, 100, 52, 97, 48, 55, 54, 51, 57, 50, 56, 98, 100, 98, 55, 101, 99, 49, 51, 57, 53, 48, 102, 52, 56, 54, 50, 97, 54, 102, 101, 57, 98, 51, 48, 56, 99, 50, 100, 55, 49, 52, 97, 53, 97, 50, 56, 52, 55, 54, 49, 53, 102, 98, 57, 101, 51, 99, 100, 48]⟩
theorem sx_at (q : Nat) (h : q < sx.size) : (sx[q]).toNat = (ords.flatten.map cd).getD q 0 := by
  have e : sx.data.toList.map UInt8.toNat = ords.flatten.map cd := by kernel_rfl
  have h2 : q < sx.data.toList.length := h
  rw [← e, List.getD_eq_getElem?_getD, List.getElem?_map, List.getElem?_eq_getElem h2]
  rfl
end Go.Proofs.YtfoodaobiknihaaDoor
namespace Go.Proofs.YtfoodaobiknihaaDoor
set_option maxRecDepth 50000
open Go.RowKit Rot Bl
def lits : List Value := [Value.string ⟨#[48, 49, 50, 51, 52, 53, 54, 55, 56, 57, 97, 98, 99, 100, 101, 102]⟩, Value.string ⟨#[101, 97, 52, 56, 57, 102, 100, 54, 49, 99, 48, 50, 98, 55, 53, 51]⟩, Value.string ⟨#[98, 56, 99, 48, 53, 50, 102, 100, 97, 101, 51, 54, 55, 49, 57, 52]⟩, Value.string ⟨#[55, 57, 51, 49, 100, 99, 98, 101, 50, 54, 53, 97, 52, 48, 102, 56]⟩, Value.string ⟨#[57, 48, 53, 55, 50, 52, 97, 102, 101, 49, 98, 99, 54, 56, 51, 100]⟩, Value.string ⟨#[50, 99, 54, 97, 48, 98, 56, 51, 52, 100, 55, 53, 102, 101, 49, 57]⟩, Value.string ⟨#[99, 53, 49, 102, 101, 100, 52, 97, 48, 55, 54, 51, 57, 50, 56, 98]⟩, Value.string ⟨#[100, 98, 55, 101, 99, 49, 51, 57, 53, 48, 102, 52, 56, 54, 50, 97]⟩, Value.string ⟨#[54, 102, 101, 57, 98, 51, 48, 56, 99, 50, 100, 55, 49, 52, 97, 53]⟩, Value.string ⟨#[97, 50, 56, 52, 55, 54, 49, 53, 102, 98, 57, 101, 51, 99, 100, 48]⟩]
def so (l : List Nat) : ByteArray := ⟨(l.map fun d => UInt8.ofNat (cd d)).toArray⟩
theorem lits_at (m : Nat) (h : m < lits.length) : lits[m] = .string (so (ords.getD m [])) := by
  have e : lits = (List.range 10).map (fun m => Value.string (so (ords.getD m []))) := by kernel_rfl
  have h2 : lits[m]? = some (.string (so (ords.getD m []))) := by
    rw [e, List.getElem?_map, List.getElem?_range (by simpa [lits] using h)]; rfl
  exact (List.getElem?_eq_some_iff.1 h2).2
theorem so_size (l : List Nat) : (so l).size = l.length := by simp [so, ByteArray.size]
theorem so_at (l : List Nat) (hl : ∀ i, l.getD i 0 < 16) (i : Nat) (h : i < (so l).size) : ((so l)[i]).toNat = cd (l.getD i 0) := by
  have h2 : i < l.length := by rwa [so_size] at h
  have e : ((so l)[i]) = UInt8.ofNat (cd (l.getD i 0)) := by
    show (so l).data[i]'_ = _
    simp [so, List.getD_eq_getElem?_getD, List.getElem?_eq_getElem h2]
  have := hl i
  have hc : cd (l.getD i 0) < 256 := by unfold cd; split <;> omega
  rw [e, UInt8.toNat_ofNat']
  omega
theorem cd_inj (a b : Nat) (ha : a < 16) (hb : b < 16) (h : cd a = cd b) : a = b := by
  unfold cd at h; split at h <;> split at h <;> omega
def digs : ByteArray := ⟨#[48, 49, 50, 51, 52, 53, 54, 55, 56, 57, 97, 98, 99, 100, 101, 102]⟩
theorem digs_at (d : Nat) (h : d < digs.size) : (digs[d]).toNat = cd d := by
  have e : digs = so (List.range 16) := by kernel_rfl
  have h2 : d < 16 := h
  have h3 := so_at (List.range 16) (fun i => by
    rw [List.getD_eq_getElem?_getD]
    by_cases hi : i < 16
    · rw [List.getElem?_range hi]; exact hi
    · rw [List.getElem?_eq_none (by simp; omega)]; decide) d (by rw [so_size]; simpa using h2)
  rw [List.getD_eq_getElem?_getD, List.getElem?_range h2] at h3
  simpa [e] using h3
def midO (l : List Nat) (j d : Nat) : List Nat := (partO l j).set j (if l.getD j 0 < d then l.getD j 0 else 0)
theorem midO_start (l : List Nat) (hl : l.length = 16) (j : Nat) (h : j < 16) : midO l j 0 = partO l j := by
  unfold midO
  rw [if_neg (by omega)]
  have e : (partO l j)[j]? = some 0 := by
    unfold partO
    have h0 : (l.take j).length = j := by rw [List.length_take, hl]; omega
    rw [List.getElem?_append_right (by omega), h0, Nat.sub_self, List.getElem?_replicate, if_pos (by omega)]
  obtain ⟨hh, he⟩ := List.getElem?_eq_some_iff.1 e
  conv => lhs; rw [← he]
  exact List.set_getElem_self hh
theorem midO_end (l : List Nat) (hl : l.length = 16) (j : Nat) (h : j < 16) (hd : l.getD j 0 < 16) : midO l j 16 = partO l (j + 1) := by
  unfold midO
  rw [if_pos hd, partO_set l hl j h]
theorem midO_yes (l : List Nat) (j d : Nat) (h : l.getD j 0 = d) : (midO l j d).set j d = midO l j (d + 1) := by
  unfold midO
  rw [List.set_set, if_pos (by omega), h]
theorem midO_no (l : List Nat) (j d : Nat) (h : l.getD j 0 ≠ d) : midO l j d = midO l j (d + 1) := by
  unfold midO
  by_cases h2 : l.getD j 0 < d
  · rw [if_pos h2, if_pos (by omega)]
  · rw [if_neg h2, if_neg (by omega)]
theorem midO_length (l : List Nat) (hl : l.length = 16) (j d : Nat) (h : j ≤ 16) : (midO l j d).length = 16 := by
  unfold midO; rw [List.length_set, partO_length l hl j h]
end Go.Proofs.YtfoodaobiknihaaDoor
namespace Go.Proofs.YtfoodaobiknihaaDoor
set_option maxRecDepth 50000
open Go.RowKit Rot Bl
section
variable {w : World} {ev : Operand → Value} {x y : Operand} {o : Oper} {B i : Nat}
theorem ix16_run (hop : o.op = .indexAddr 136 x y) (hx : ev x = .pointer (some ⟨B, 0, none⟩)) (hy : ev y = .int .i64 (i : Int)) (hi : i < 16) : (execOp ev o).run Tryd.prog w = .ok (.value (.pointer (some ⟨B, i, none⟩))) w := by
  have h1 : (i : Int) < 16 := by omega
  simp [execOp, hop, hx, hy, go_sem, h1]
theorem ld_run {v : Value} (hop : o.op = .load 89 x) (hx : ev x = .pointer (some ⟨B, i, none⟩)) (hc : w.cell? ⟨B, i, none⟩ = some v) : (execOp ev o).run Tryd.prog w = .ok (.value v) w := by
  simp [execOp, hop, hx, hc, go_sem]
theorem ldi_run {v : Value} (hop : o.op = .load 3 x) (hx : ev x = .pointer (some ⟨B, i, none⟩)) (hc : w.cell? ⟨B, i, none⟩ = some v) : (execOp ev o).run Tryd.prog w = .ok (.value v) w := by
  simp [execOp, hop, hx, hc, go_sem]
theorem ex_run {cs : Array Value} {v : Value} (hop : o.op = .extract x i) (hx : ev x = .tuple cs) (hc : cs[i]? = some v) : (execOp ev o).run Tryd.prog w = .ok (.value v) w := by
  simp [execOp, hop, hx, hc, go_sem]
theorem st_run {v : Value} {z : Int} (hop : o.op = .store 89 x y) (hx : ev x = .pointer (some ⟨B, i, none⟩)) (hy : ev y = .int .u64 z) (hc : w.cell? ⟨B, i, none⟩ = some v) (hf : w.frozen? ⟨B, i, none⟩ = false) : (execOp ev o).run Tryd.prog w = .ok .skip (w.setCell ⟨B, i, none⟩ (.int .u64 z)) := by
  simp [execOp, hop, hx, hy, hc, hf, go_sem]
end
def qq : List Nat := [0, 4, 8, 12, 1, 5, 9, 13, 2, 6, 10, 14, 3, 7, 11, 15, 0, 5, 10, 15, 1, 6, 11, 12, 2, 7, 8, 13, 3, 4, 9, 14]
theorem q_size32 : (Tryd.prog.info? 138).map (·.size) = some 32 := by kernel_rfl
theorem qq_part (i : Nat) (hi : i < 8) : (iq qq).extract (i * 4) (i * 4 + 4) = iq [pt i 0, pt i 1, pt i 2, pt i 3] := by
  have h : ∀ i, i < 8 → (qq.drop (i * 4)).take 4 = [pt i 0, pt i 1, pt i 2, pt i 3] := by decide
  rw [← h i hi]
  simp [iq, List.map_take, List.map_drop]
theorem tab_index (w : World) (i : Nat) (hi : i < 8) : (Instr.index 138 (.agg (iq qq)) (.int .i64 (i : Int))).run Tryd.prog w = .ok (.agg (iq [pt i 0, pt i 1, pt i 2, pt i 3])) w := by
  have hz := q_int4
  cases hq : Tryd.prog.info? 36 with
  | none => rw [hq] at hz; simp at hz
  | some q =>
    have hsz : q.size = 4 := by rw [hq] at hz; simpa using hz
    simp [Instr.index, run_underlying Tryd.underlying138, asIntOf, hi, go_sem, sizeOf, typeInfo, hq, hsz, qq_part i hi]
end Go.Proofs.YtfoodaobiknihaaDoor
namespace Go.Proofs.YtfoodaobiknihaaDoor
set_option maxRecDepth 50000
open Go.RowKit Rot Bl
theorem iq4 (a b c d : Nat) : (iq [a, b, c, d]).size = 4 := rfl
end Go.Proofs.YtfoodaobiknihaaDoor

/- A coder in memory: 64 letters, and a value for each byte; why letters are none for a coder. No condition. -/
import Derived.Test.YtjknpbaegnkdnaaArr
import Derived.Test.YtjknpbaegnkdnaaSxPure
import Derived.Test.YtjknpbaegnkdnaaHxRefs
namespace Go.Proofs.Ytjknpbaegnkdnaa
set_option maxRecDepth 50000
open Go.RowKit

namespace Sx
/-- what is wrong in the letter at a place, but for those ahead -/
def wrong (l : List UInt8) (i : Nat) : Int := if (lt l i).toNat < 33 ∨ 126 < (lt l i).toNat then 8 else if lt l i ∈ l.take i then 15 else 0
/-- .. in the first one of k that is wrong -/
def scan (l : List UInt8) : Nat → Int
  | 0 => 0
  | k + 1 => if scan l k = 0 then wrong l k else scan l k
theorem scan_next {l : List UInt8} {k : Nat} (h : scan l k = 0) : scan l (k + 1) = wrong l k := by unfold scan; rw [if_pos h]
theorem scan_stop {l : List UInt8} {k : Nat} (h : scan l k ≠ 0) : ∀ j, k ≤ j → scan l j = scan l k
  | 0, hj => by obtain rfl : k = 0 := by omega
                rfl
  | j + 1, hj => by
    rcases Nat.lt_or_ge j k with h1 | h1
    · obtain rfl : k = j + 1 := by omega
      rfl
    · have h2 := scan_stop h j h1
      rw [scan, if_neg (by rw [h2]; exact h), h2]
theorem scan_wrong {l : List UInt8} {k : Nat} (h : scan l k = 0) (hw : wrong l k ≠ 0) {j : Nat} (hj : k < j) : scan l j = wrong l k := by
  have h1 := scan_next h
  rw [← h1] at hw
  rw [scan_stop hw j hj, h1]
/-- why letters are none for a coder -/
def lettE (l : List UInt8) : Int := if l.length = 64 then scan l 64 else 9
theorem take_next {l : List UInt8} {k : Nat} (h : k < l.length) : l.take (k + 1) = l.take k ++ [lt l k] := by
  rw [List.take_succ_eq_append_getElem h]
  unfold lt
  rw [List.getD_eq_getElem?_getD, List.getElem?_eq_getElem h]; rfl
theorem scan_nodup (l : List UInt8) : ∀ k, k ≤ l.length → scan l k = 0 → (l.take k).Nodup
  | 0, _, _ => by simp
  | k + 1, hk, h => by
    have h0 : scan l k = 0 := by
      by_cases h0 : scan l k = 0
      · exact h0
      · rw [scan, if_neg h0] at h; exact h
    rw [scan_next h0] at h
    have hn : lt l k ∉ l.take k := by
      intro hm
      unfold wrong at h
      split at h
      · exact absurd h (by decide)
      · exact absurd h (by decide)
    rw [take_next (by omega), List.nodup_append]
    refine ⟨scan_nodup l k (by omega) h0, by simp, ?_⟩
    intro a ha b hb
    rw [List.mem_singleton] at hb
    rintro rfl
    exact hn (hb ▸ ha)
theorem lettE_fine {l : List UInt8} (h : lettE l = 0) : Fine l := by
  unfold lettE at h
  split at h
  · rename_i hl
    have := scan_nodup l 64 (by omega) h
    rw [List.take_of_length_le (by omega)] at this
    exact ⟨hl, this⟩
  · exact absurd h (by decide)
/-- a byte's value: its place and one more, or 0 -/
def vv (l : List UInt8) (b : UInt8) : Nat := if b ∈ l then pos l b + 1 else 0
theorem vv_le {l : List UInt8} (b : UInt8) (h : l.length ≤ 64) : vv l b ≤ 64 := by
  unfold vv
  split
  · have := pos_lt (by assumption : b ∈ l); omega
  · omega
theorem vv_next {l : List UInt8} {x : UInt8} (hn : x ∉ l) (b : UInt8) : vv (l ++ [x]) b = if b = x then l.length + 1 else vv l b := by
  unfold vv pos
  rw [List.idxOf_append]
  by_cases hb : b = x
  · subst hb
    rw [if_pos (by simp), if_pos rfl, if_neg hn]
    simp
  · rw [if_neg hb]
    by_cases hm : b ∈ l
    · rw [if_pos (by simp [hm]), if_pos hm, if_pos hm]
    · rw [if_neg (by simp [hm, hb]), if_neg hm]
def upd (g : Nat → Nat) (i v : Nat) : Nat → Nat := fun j => if j = i then v else g j
/-- a coder's cells: letters, and behind them values -/
def cg (l : List UInt8) : Nat → Nat := fun i => if i < 64 then (lt l i).toNat else vv l (UInt8.ofNat (i - 64))
theorem cg_lett (l : List UInt8) (i : Nat) (h : i < 64) : cg l i = (lt l i).toNat := if_pos h
theorem cg_val (l : List UInt8) (x : UInt8) : cg l (64 + x.toNat) = vv l x := by
  unfold cg
  rw [if_neg (by omega), Nat.add_sub_cancel_left]; simp
theorem lt_take (l : List UInt8) (k i : Nat) : lt (l.take k) i = if i < k then lt l i else 0 := by
  unfold lt
  rw [List.getD_eq_getElem?_getD, List.getElem?_take, List.getD_eq_getElem?_getD]
  split <;> rfl
theorem cg_next {l : List UInt8} {k : Nat} (hk : k < l.length) (hl : l.length = 64) (hn : lt l k ∉ l.take k) (i : Nat) (hi : i < 320) :
    upd (upd (cg (l.take k)) k (lt l k).toNat) (64 + (lt l k).toNat) (k + 1) i = cg (l.take (k + 1)) i := by
  have hx := (lt l k).toNat_lt
  unfold upd
  by_cases h1 : i < 64
  · rw [if_neg (by omega), cg_lett (l.take (k + 1)) i h1, cg_lett (l.take k) i h1, lt_take, lt_take]
    by_cases h2 : i = k
    · subst h2; rw [if_pos rfl, if_pos (by omega)]
    · rw [if_neg h2]
      by_cases h3 : i < k
      · rw [if_pos h3, if_pos (by omega)]
      · rw [if_neg h3, if_neg (by omega)]
  · have e1 : ∀ m : List UInt8, cg m i = vv m (UInt8.ofNat (i - 64)) := fun m => if_neg h1
    rw [e1, e1, take_next hk, vv_next hn, List.length_take]
    by_cases h2 : i = 64 + (lt l k).toNat
    · rw [if_pos h2, if_pos (by rw [h2, Nat.add_sub_cancel_left]; simp)]; omega
    · rw [if_neg h2, if_neg (by omega), if_neg]
      intro he
      apply h2
      have := congrArg UInt8.toNat he
      rw [UInt8.toNat_ofNat_of_lt' (show i - 64 < 2 ^ 8 by omega)] at this
      omega
end Sx
open Sx

def ca (g : Nat → Nat) : Array Value := ((List.range 320).map fun i => Value.int .u8 (g i : Int)).toArray
theorem ca_size (g : Nat → Nat) : (ca g).size = 320 := by simp [ca]
theorem ca_at (g : Nat → Nat) (i : Nat) (h : i < 320) : (ca g)[i]? = some (.int .u8 (g i : Int)) := by simp [ca, h]
theorem ca_set (g : Nat → Nat) (i v : Nat) : (ca g).setIfInBounds i (.int .u8 (v : Int)) = ca (upd g i v) := by
  apply Array.ext
  · simp [ca]
  · intro j h1 h2
    simp [ca_size] at h1
    have a1 : (ca (upd g i v))[j]? = some (.int .u8 (upd g i v j : Int)) := ca_at _ j h1
    rw [Array.getElem?_eq_getElem h2] at a1
    injection a1 with a1
    rw [a1, Array.getElem_setIfInBounds (by rw [ca_size]; exact h1)]
    unfold upd
    by_cases hj : i = j
    · subst hj; simp
    · rw [if_neg hj, if_neg (Ne.symm hj)]
      have a2 := ca_at g j h1
      rw [Array.getElem?_eq_getElem (by rw [ca_size]; exact h1)] at a2
      injection a2
theorem ca_congr (g h : Nat → Nat) (e : ∀ i, i < 320 → g i = h i) : ca g = ca h := by
  unfold ca
  congr 1
  apply List.map_congr_left
  intro i hi
  rw [e i (by simpa using hi)]
/-- block b is a coder of these letters, so far as they go -/
def Cdr (w : World) (b : Nat) (l : List UInt8) : Prop := RowAt w b 49 (ca (cg l))
theorem Cdr.lett {w : World} {b : Nat} {l : List UInt8} (h : Cdr w b l) (i : Nat) (hi : i < 64) : w.cell? ⟨b, i, none⟩ = some (.int .u8 ((lt l i).toNat : Int)) := by
  rw [RowAt.cell h, ca_at _ i (by omega), cg_lett l i hi]
theorem Cdr.val {w : World} {b : Nat} {l : List UInt8} (h : Cdr w b l) (x : UInt8) : w.cell? ⟨b, 64 + x.toNat, none⟩ = some (.int .u8 (vv l x : Int)) := by
  have := x.toNat_lt
  rw [RowAt.cell h, ca_at _ _ (by omega), cg_val]
theorem Cdr.free {w : World} {b : Nat} {l : List UInt8} (h : Cdr w b l) (i : Nat) : w.frozen? ⟨b, i, none⟩ = false := RowAt.frozen h i
theorem Cdr.below {w w' : World} {b B : Nat} {l : List UInt8} (h : Cdr w b l) (hb : Below B w w') (hB : b < B) : Cdr w' b l := RowAt.below h hb hB
theorem Cdr.lt {w : World} {b : Nat} {l : List UInt8} (h : Cdr w b l) : b < w.heap.size := RowAt.lt h
theorem Cdr.alloc {w : World} {b : Nat} {l : List UInt8} (h : Cdr w b l) (o : Obj) : Cdr (w.alloc o) b l := RowAt.alloc h o
/-- the next letter is put in -/
theorem Cdr.next {w : World} {b : Nat} {l : List UInt8} {k : Nat} (h : Cdr w b (l.take k)) (hk : k < l.length) (hl : l.length = 64) (hn : Sx.lt l k ∉ l.take k) :
    Cdr ((w.setCell ⟨b, k, none⟩ (.int .u8 ((Sx.lt l k).toNat : Int))).setCell ⟨b, 64 + (Sx.lt l k).toNat, none⟩ (.int .u8 ((k + 1 : Nat) : Int))) b (l.take (k + 1)) := by
  unfold Cdr
  rw [← ca_congr _ _ (cg_next hk hl hn), ← ca_set, ← ca_set]
  exact (RowAt.setCell h k _).setCell _ _
theorem zero_coder : (Try.prog.info? 49).map (·.zero) = some (some (.agg (ca fun _ => 0))) := by kernel_rfl
theorem zero_coder_run (w : World) : (zeroValue 49).run Try.prog w = .ok (.agg (ca fun _ => 0)) w := by
  have hz := zero_coder
  cases hq : Try.prog.info? 49 with
  | none => rw [hq] at hz; simp at hz
  | some i =>
    rw [hq] at hz
    have hz2 : i.zero = some (.agg (ca fun _ => 0)) := by simpa using hz
    simp [zeroValue, typeInfo, Sem.run_bind, hq, hz2]
theorem ca_none : ca (fun _ => 0) = ca (cg []) := ca_congr _ _ fun i _ => by unfold cg; split <;> simp [Sx.lt, vv]
theorem Cdr.new (w : World) (l : List UInt8) : Cdr (w.alloc (.cells (ca fun _ => 0) 49)) w.heap.size (l.take 0) := by
  rw [ca_none]; exact RowAt.new _ _ _
end Go.Proofs.Ytjknpbaegnkdnaa

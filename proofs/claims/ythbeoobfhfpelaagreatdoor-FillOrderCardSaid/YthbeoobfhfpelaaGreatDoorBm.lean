/- Blocks of 128 words as plain mathematics: put together word by word, and by halves. No condition but those typed. Blocks as they lie in memory, and whether two are the same. Condition: words are below 2^64. Half and SetHalf of package block, and the document's Half, by their contracts. Conditions: those typed. Xor and Clean of package block, and the document's Xor, by their contracts. Conditions: those typed. The law BlockHalves by the calls' contracts. No condition. The law BlockBytes by the calls' contracts. No condition. A block that came in; a list of blocks that came in. No condition. Rows of blocks of one's own: an empty one, one of a block, and blocks put behind them. Conditions: those typed. The law BlockXors by the calls' contracts. No condition. An arena and a piece in memory; New, Budget, Used, High, Lent, Mark, Len by their contracts. Conditions: those typed. Reserve and Release of an arena, by their contracts. Conditions: those typed. Release of an arena by its contracts. Conditions: those typed. A piece's blocks: what is at fault, At, Get, Set, Clean, by their contracts. Conditions: those typed. Get and Set of a piece by their contracts. Conditions: those typed. Bytes, From and Of of package block, and the document's Bytes, by their contracts. Conditions: those typed. -/
import Derived.WalkKit
import Derived.Laws.BitsAllLaws
import Derived.Test.YthbeoobfhfpelaaGreatDoorBx
import Derived.Test.YthbeoobfhfpelaaGreatDoorKi
import Derived.DeepKeys
import Derived.IntWalk
import Derived.Lib.Hide
import Derived.Deep.QuietTactic
import Derived.BigQuiet
import Derived.BigRegion
import Derived.StillTailTactics
import Derived.LoopTactic
import Derived.RegionTactic
import Derived.Test.YthbeoobfhfpelaaGreatDoorGen
import Derived.Great.BuildSlice
import Derived.Laws.CopyRow
import Derived.Laws.MakeOwn
import Derived.OwnWalk
import Derived.Lib.MinMax
import Derived.LaidEqlPtr
import Derived.Deep.MidRow
import Derived.Test.YthbeoobfhfpelaaGreatDoorWy
namespace Go.Proofs.YthbeoobfhfpelaaGreatDoor.Bb

/-- 128 words below 2^64 -/
def okb (L : List Nat) : Prop := L.length = 128 ∧ ∀ x ∈ L, x < 18446744073709551616
def zb : List Nat := List.replicate 128 0
/-- 128 numbers by their places -/
def tb (f : Nat → Nat) : List Nat := (List.range 128).map f
theorem tb_length (f : Nat → Nat) : (tb f).length = 128 := by simp [tb]
theorem tb_at (f : Nat → Nat) (k : Nat) (h : k < 128) : (tb f).getD k 0 = f k := by
  simp [tb, List.getD_eq_getElem?_getD, h]
theorem tb_set (f g : Nat → Nat) (k : Nat) (h : ∀ j, j < 128 → j ≠ k → g j = f j) : (tb f).set k (g k) = tb g := by
  refine List.ext_getElem (by simp [tb]) fun j h1 h2 => ?_
  have hj : j < 128 := by simpa [tb] using h2
  rw [List.getElem_set]
  by_cases e : k = j
  · subst e; simp [tb]
  · rw [if_neg e]; simp [tb, h j hj (fun e' => e e'.symm)]
theorem tb_congr (f g : Nat → Nat) (h : ∀ j, j < 128 → f j = g j) : tb f = tb g := List.map_congr_left fun j hj => h j (List.mem_range.1 hj)
theorem tb_self (L : List Nat) (hL : L.length = 128) : tb (fun k => L.getD k 0) = L := by
  refine List.ext_getElem (by simp [tb, hL]) fun j h1 h2 => ?_
  simp [tb, List.getD_eq_getElem?_getD, List.getElem?_eq_getElem h2]
theorem tb_ok (f : Nat → Nat) (h : ∀ j, j < 128 → f j < 18446744073709551616) : okb (tb f) := ⟨tb_length f, fun x hx => by
  obtain ⟨j, hj, rfl⟩ := List.mem_map.1 hx
  exact h j (List.mem_range.1 hj)⟩
theorem zb_tb : zb = tb fun _ => 0 := by decide
theorem zb_ok : okb zb := ⟨by simp [zb], fun x hx => by rw [List.eq_of_mem_replicate hx]; decide⟩
theorem ok_at {L : List Nat} (h : okb L) (k : Nat) : L.getD k 0 < 18446744073709551616 := by
  rw [List.getD_eq_getElem?_getD]
  cases hk : L[k]? with
  | none => decide
  | some x => exact h.2 x (List.mem_of_getElem? hk)
theorem ok_ext {a b : List Nat} (ha : a.length = 128) (hb : b.length = 128) (h : ∀ k, k < 128 → a.getD k 0 = b.getD k 0) : a = b := by
  rw [← tb_self a ha, ← tb_self b hb]; exact tb_congr _ _ h
theorem ok_set {L : List Nat} (h : okb L) (k x : Nat) (hx : x < 18446744073709551616) : okb (L.set k x) := ⟨by rw [List.length_set]; exact h.1, fun y hy => by
  rcases List.mem_or_eq_of_mem_set hy with hy | rfl
  · exact h.2 y hy
  · exact hx⟩

/-- the words at one place of blocks, put together -/
def xw (l : List (List Nat)) (k : Nat) : Nat := l.foldl (fun a b => a ^^^ b.getD k 0) 0
def xB (l : List (List Nat)) : List Nat := tb (xw l)
theorem xw_snoc (l : List (List Nat)) (b : List Nat) (k : Nat) : xw (l ++ [b]) k = xw l k ^^^ b.getD k 0 := by simp [xw]
theorem xw_take (l : List (List Nat)) (i k : Nat) (h : i < l.length) : xw (l.take (i + 1)) k = xw (l.take i) k ^^^ (l.getD i []).getD k 0 := by
  rw [List.take_add_one, List.getElem?_eq_getElem h, Option.toList_some, xw_snoc]
  congr 2
  rw [List.getD_eq_getElem?_getD, List.getElem?_eq_getElem h]; rfl
theorem xw_lt (k : Nat) : ∀ (l : List (List Nat)), (∀ b ∈ l, okb b) → xw l k < 18446744073709551616 := by
  intro l
  unfold xw
  suffices H : ∀ a, a < 18446744073709551616 → (∀ b ∈ l, okb b) → l.foldl (fun a b => a ^^^ b.getD k 0) a < 18446744073709551616 from fun h => H 0 (by decide) h
  induction l with
  | nil => intro a h _; exact h
  | cons b l ih =>
    intro a h ho
    exact ih _ (Nat.xor_lt_two_pow (n := 64) h (ok_at (ho b (by simp)) k)) fun b hb => ho b (by simp [hb])
theorem xB_ok (l : List (List Nat)) (h : ∀ b ∈ l, okb b) : okb (xB l) := tb_ok _ fun k _ => xw_lt k l h
theorem xB_twice (l : List (List Nat)) : xB (l ++ [xB l]) = zb := by
  rw [zb_tb]
  refine tb_congr _ _ fun k hk => ?_
  rw [xw_snoc, xB, tb_at _ k hk, Nat.xor_self]
/-- i blocks are put together, and of the next one k words -/
def xst (l : List (List Nat)) (i k : Nat) : List Nat := tb fun j => if j < k then xw (l.take (i + 1)) j else xw (l.take i) j
theorem xst_length (l : List (List Nat)) (i k : Nat) : (xst l i k).length = 128 := tb_length _
theorem xst_start (l : List (List Nat)) : xst l 0 0 = zb := by
  rw [zb_tb]; exact tb_congr _ _ fun j _ => by simp [xw]
theorem xst_line (l : List (List Nat)) (i : Nat) : xst l i 128 = xst l (i + 1) 0 := tb_congr _ _ fun j hj => by simp [hj]
theorem xst_end (l : List (List Nat)) : xst l l.length 0 = xB l := tb_congr _ _ fun j _ => by simp
theorem xst_at (l : List (List Nat)) (i k : Nat) (hk : k < 128) : (xst l i k).getD k 0 = xw (l.take i) k := by
  unfold xst; rw [tb_at _ _ hk]; simp
theorem xst_next (l : List (List Nat)) (i k : Nat) (hi : i < l.length) : (xst l i k).set k (xw (l.take i) k ^^^ (l.getD i []).getD k 0) = xst l i (k + 1) := by
  rw [← xw_take l i k hi]
  unfold xst
  have := tb_set (fun j => if j < k then xw (l.take (i + 1)) j else xw (l.take i) j) (fun j => if j < k + 1 then xw (l.take (i + 1)) j else xw (l.take i) j) k (fun j _ hj => by
    by_cases h : j < k
    · rw [if_pos (by omega), if_pos h]
    · rw [if_neg (by omega), if_neg h])
  simpa using this
/-- i words are put together, and of the next one those of k blocks -/
def rst (l : List (List Nat)) (i k : Nat) : List Nat := tb fun j => if j < i then xw l j else if j = i then xw (l.take k) j else 0
theorem rst_length (l : List (List Nat)) (i k : Nat) : (rst l i k).length = 128 := tb_length _
theorem rst_start (l : List (List Nat)) : rst l 0 0 = zb := by
  rw [zb_tb]; exact tb_congr _ _ fun j _ => by simp [xw]
theorem rst_line (l : List (List Nat)) (i : Nat) : rst l i l.length = rst l (i + 1) 0 := tb_congr _ _ fun j hj => by
  by_cases h : j < i
  · simp [h, show j < i + 1 by omega]
  · by_cases e : j = i
    · subst e; simp
    · simp [h, e, show ¬ j < i + 1 by omega, xw]
theorem rst_end (l : List (List Nat)) : rst l 128 0 = xB l := tb_congr _ _ fun j hj => by simp [hj]
theorem rst_at (l : List (List Nat)) (i k : Nat) (hi : i < 128) : (rst l i k).getD i 0 = xw (l.take k) i := by
  unfold rst; rw [tb_at _ _ hi]; simp
theorem rst_next (l : List (List Nat)) (i k : Nat) (hk : k < l.length) : (rst l i k).set i (xw (l.take k) i ^^^ (l.getD k []).getD i 0) = rst l i (k + 1) := by
  rw [← xw_take l k i hk]
  unfold rst
  have := tb_set (fun j => if j < i then xw l j else if j = i then xw (l.take k) j else 0) (fun j => if j < i then xw l j else if j = i then xw (l.take (k + 1)) j else 0) i (fun j _ hj => by simp [hj])
  simpa using this
theorem take_lt {l : List (List Nat)} (h : ∀ b ∈ l, okb b) (i k : Nat) : xw (l.take i) k < 18446744073709551616 := xw_lt k _ fun b hb => h b (List.mem_of_mem_take hb)
theorem word_lt {l : List (List Nat)} (h : ∀ b ∈ l, okb b) (i k : Nat) : (l.getD i []).getD k 0 < 18446744073709551616 := by
  rw [List.getD_eq_getElem?_getD (l := l)]
  cases hi : l[i]? with
  | none => simp
  | some b => exact ok_at (h b (List.mem_of_getElem? hi)) k
/-- all words are 0 -/
def clB (l : List (List Nat)) : Bool := l.all fun b => decide (b = zb)
theorem clB_take (l : List (List Nat)) (i : Nat) (h : i < l.length) : clB (l.take (i + 1)) = (clB (l.take i) && decide (l.getD i [] = zb)) := by
  unfold clB
  rw [List.take_add_one, List.getElem?_eq_getElem h, Option.toList_some, List.all_append, List.getD_eq_getElem?_getD, List.getElem?_eq_getElem h]
  simp

theorem clB_no (l : List (List Nat)) (i : Nat) (h : i < l.length) (hn : l.getD i [] ≠ zb) : clB l = false := by
  unfold clB
  rw [List.all_eq_false]
  refine ⟨l[i], List.getElem_mem h, ?_⟩
  rw [List.getD_eq_getElem?_getD, List.getElem?_eq_getElem h] at hn
  simpa using hn
theorem block_ok {l : List (List Nat)} (h : ∀ b ∈ l, okb b) (i : Nat) (hi : i < l.length) : okb (l.getD i []) := by
  rw [List.getD_eq_getElem?_getD, List.getElem?_eq_getElem hi]; exact h _ (List.getElem_mem hi)

/-- half r (0 or 1) of a word, and the word with that half another one -/
def hf (w r : Nat) : Nat := w / 2 ^ (32 * r) % 4294967296
def wf (w r x : Nat) : Nat := if r = 0 then w / 4294967296 * 4294967296 + x else x * 4294967296 + w % 4294967296
theorem wf_lt (w r x : Nat) (hw : w < 18446744073709551616) (hx : x < 4294967296) : wf w r x < 18446744073709551616 := by
  unfold wf; split <;> omega
theorem hf_lt (w r : Nat) : hf w r < 4294967296 := Nat.mod_lt _ (by decide)
theorem hf_wf (w r x : Nat) (hr : r < 2) (hx : x < 4294967296) : hf (wf w r x) r = x := by
  match r, hr with
  | 0, _ => simp [hf, wf]; omega
  | 1, _ => simp [hf, wf]; omega
theorem hf_other (w r s x : Nat) (hr : r < 2) (hs : s < 2) (hx : x < 4294967296) (h : r ≠ s) : hf (wf w r x) s = hf w s := by
  rcases (show (r = 0 ∧ s = 1) ∨ (r = 1 ∧ s = 0) by omega) with ⟨rfl, rfl⟩ | ⟨rfl, rfl⟩
  · simp [hf, wf]; omega
  · simp [hf, wf]
theorem wf_back (w r x : Nat) (hr : r < 2) (hw : w < 18446744073709551616) (hx : x < 4294967296) : wf (wf w r x) r (hf w r) = w := by
  match r, hr with
  | 0, _ => simp [hf, wf]; omega
  | 1, _ => simp [hf, wf]; omega
/-- half i of a block, and the block with that half another one -/
def hb (b : List Nat) (i : Nat) : Nat := hf (b.getD (i / 2) 0) (i % 2)
def sb (b : List Nat) (i x : Nat) : List Nat := b.set (i / 2) (wf (b.getD (i / 2) 0) (i % 2) x)
theorem hb_lt (b : List Nat) (i : Nat) : hb b i < 4294967296 := hf_lt _ _
theorem sb_length (b : List Nat) (i x : Nat) : (sb b i x).length = b.length := by simp [sb]
theorem sb_ok {b : List Nat} (h : okb b) (i x : Nat) (hx : x < 4294967296) : okb (sb b i x) := ok_set h _ _ (wf_lt _ _ _ (ok_at h _) hx)
theorem set_at (b : List Nat) (k x j : Nat) (hk : k < b.length) : (b.set k x).getD j 0 = if k = j then x else b.getD j 0 := by
  rw [List.getD_eq_getElem?_getD, List.getElem?_set]
  by_cases e : k = j
  · subst e; simp [hk]
  · simp [e, List.getD_eq_getElem?_getD]
theorem hb_sb {b : List Nat} (h : okb b) (i x k : Nat) (hi : i < 256) (hx : x < 4294967296) : hb (sb b i x) k = if k = i then x else hb b k := by
  have hl : i / 2 < b.length := by rw [h.1]; omega
  unfold hb sb
  rw [set_at _ _ _ _ hl]
  by_cases e : k = i
  · subst e
    rw [if_pos rfl, if_pos rfl, hf_wf _ _ _ (by omega) hx]
  · rw [if_neg e]
    by_cases e2 : i / 2 = k / 2
    · rw [if_pos e2, e2, hf_other _ _ _ _ (by omega) (by omega) hx (by omega)]
    · rw [if_neg e2]
theorem sb_back {b : List Nat} (h : okb b) (i x : Nat) (hi : i < 256) (hx : x < 4294967296) : sb (sb b i x) i (hb b i) = b := by
  have hl : i / 2 < b.length := by rw [h.1]; omega
  unfold hb
  rw [sb, sb, set_at _ _ _ _ hl, if_pos rfl, List.set_set, wf_back _ _ _ (by omega) (ok_at h _) hx]
  refine List.ext_getElem (by simp) fun j h1 h2 => ?_
  rw [List.getElem_set]
  by_cases e : i / 2 = j
  · subst e; simp [List.getD_eq_getElem?_getD, List.getElem?_eq_getElem h2]
  · simp [e]

/-- what Go's operations make of a word -/
theorem or_low32 (a b : Nat) (h : b < 4294967296) : (a * 4294967296) ||| b = a * 4294967296 + b := by
  rw [show a * 4294967296 = 2 ^ 32 * a by omega, ← Nat.two_pow_add_eq_or_of_lt (i := 32) (by omega)]
theorem and_high32 (w : Nat) (hw : w < 18446744073709551616) : w &&& 18446744069414584320 = w / 4294967296 * 4294967296 := by
  refine Nat.eq_of_testBit_eq fun i => ?_
  rw [Nat.testBit_and, show (18446744069414584320 : Nat) = (2 ^ 32 - 1) * 2 ^ 32 by decide, show w / 4294967296 * 4294967296 = (w / 2 ^ 32) * 2 ^ 32 by omega, Nat.testBit_mul_two_pow, Nat.testBit_mul_two_pow, Nat.testBit_two_pow_sub_one, Nat.testBit_div_two_pow]
  by_cases h : 32 ≤ i
  · by_cases h2 : i - 32 < 32
    · simp [h, h2, show i - 32 + 32 = i by omega]
    · have : w.testBit i = false := Nat.testBit_lt_two_pow (Nat.lt_of_lt_of_le (show w < 2 ^ 64 by omega) (Nat.pow_le_pow_right (by decide) (by omega)))
      simp [h, h2, this, show i - 32 + 32 = i by omega]
  · simp [h]
theorem and_low32 (w : Nat) : w &&& 4294967295 = w % 4294967296 := Nat.and_two_pow_sub_one_eq_mod w 32
theorem low0 (w x : Nat) (hw : w < 18446744073709551616) (hx : x < 4294967296) : bits .andNot .u64 (w : Int) (4294967295 : Int) = ((w / 4294967296 * 4294967296 : Nat) : Int) ∧ bits .or .u64 ((w / 4294967296 * 4294967296 : Nat) : Int) (x : Int) = ((wf w 0 x : Nat) : Int) := by
  refine ⟨?_, ?_⟩
  · rw [show (4294967295 : Int) = ((4294967295 : Nat) : Int) from rfl, u64_andNot_nat w _ hw (by decide), and_high32 w hw]
  · rw [u64_or_nat _ _ (by omega) (by omega), or_low32 _ _ hx]; rfl
theorem low1 (w x : Nat) (hw : w < 18446744073709551616) (hx : x < 4294967296) : bits .andNot .u64 (w : Int) (18446744069414584320 : Int) = ((w % 4294967296 : Nat) : Int) ∧ bits .or .u64 ((w % 4294967296 : Nat) : Int) ((x * 4294967296 : Nat) : Int) = ((wf w 1 x : Nat) : Int) := by
  refine ⟨?_, ?_⟩
  · rw [show (18446744069414584320 : Int) = ((18446744069414584320 : Nat) : Int) from rfl, u64_andNot_nat w _ hw (by decide), ← and_low32]
  · rw [u64_or_nat _ _ (by omega) (by omega), Nat.or_comm, or_low32 _ _ (Nat.mod_lt _ (by decide))]; rfl
end Go.Proofs.YthbeoobfhfpelaaGreatDoor.Bb

namespace Go.Proofs.YthbeoobfhfpelaaGreatDoor
set_option maxRecDepth 50000
open Go.RowKit Bb

theorem b_size : (Tryz.prog.info? 67).map (·.size) = some 128 := by kernel_rfl
theorem b_cells : Tryz.prog.cellsOf 67 = 128 := by kernel_rfl
theorem b_u64 : Tryz.prog.cellsOf 39 = 1 := by kernel_rfl
theorem wfb_u64 (a : Nat) (h : a < 18446744073709551616) : (Lit.int .u64 (a : Int)).wf = true := by
  have e1 : IntKind.u64.min = 0 := rfl
  have e2 : IntKind.u64.max = 18446744073709551615 := rfl
  simp [Lit.wf, e1, e2]
  omega
theorem kb_u64 (d a : Nat) (h : a < 18446744073709551616) : Tryz.prog.keyLits (d + 1) 39 [.int .u64 (a : Int)] = some [.int .u64 (a : Int)] := by
  unfold Program.keyLits
  simp only [Tryz.underlying39]
  simp [wfb_u64 a h]
theorem mapM_some {α β : Type} (f : α → Option β) (g : α → β) : ∀ l : List α, (∀ x ∈ l, f x = some (g x)) → l.mapM f = some (l.map g)
  | [], _ => rfl
  | x :: l, h => by
    rw [List.mapM_cons, h x (by simp), mapM_some f g l fun y hy => h y (by simp [hy])]; rfl
def litsB (L : List Nat) : List Lit := L.map fun x : Nat => Lit.int .u64 (x : Int)
theorem litsB_inj : ∀ {a b : List Nat}, litsB a = litsB b → a = b
  | [], [], _ => rfl
  | [], _ :: _, h => by simp [litsB] at h
  | _ :: _, [], h => by simp [litsB] at h
  | x :: a, y :: b, h => by
    simp only [litsB, List.map_cons, List.cons.injEq, Lit.int.injEq, true_and] at h
    rw [litsB_inj (a := a) (b := b) h.2]
    have := h.1
    congr 1
    omega
theorem flat_one {α β : Type} (f : α → β) : ∀ l : List α, (l.map fun x => [f x]).flatten = l.map f
  | [] => rfl
  | x :: l => by rw [List.map_cons, List.flatten_cons, flat_one f l]; rfl
theorem key_b (d : Nat) {L : List Nat} (h : okb L) : Tryz.prog.keyLits (d + 2) 67 (wq L).toList = some (litsB L) := by
  have hl : (wq L).toList.length = 128 := by rw [Array.length_toList, wq_size]; exact h.1
  have E : (List.range 128).mapM (fun i => Tryz.prog.keyLits (d + 1) 39 (((wq L).toList.drop (i * 1)).take 1)) = some ((List.range 128).map fun i => [Lit.int .u64 (L.getD i 0 : Nat)]) := by
    refine mapM_some _ _ _ fun i hi => ?_
    have hi := List.mem_range.1 hi
    have e : ((wq L).toList.drop (i * 1)).take 1 = [.int .u64 ((L.getD i 0 : Nat) : Int)] := by
      rw [Nat.mul_one, List.drop_eq_getElem_cons (by omega), List.take_succ_cons, List.take_zero]
      congr 1
      have := wq_at L i (by rw [h.1]; exact hi)
      rw [← Array.getElem?_toList, List.getElem?_eq_getElem (by omega)] at this
      exact Option.some.inj this
    rw [e, kb_u64 d _ (ok_at h i)]
  unfold Program.keyLits
  simp only [Tryz.underlying67, b_cells, b_u64, hl, if_true, E, Option.map_some]
  congr 1
  have e2 : (List.range 128).map (fun i => [Lit.int .u64 (L.getD i 0 : Nat)]) = (tb fun k => L.getD k 0).map fun x : Nat => [Lit.int .u64 (x : Int)] := by
    simp [tb, Function.comp_def]
  rw [e2, tb_self L h.1]
  exact flat_one _ L
theorem in_b {a b : List Nat} (ha : okb a) (hb : okb b) (w : World) : (Op.equalIn 10000 67 (.agg (wq a)) (.agg (wq b))).run Tryz.prog w = .ok (decide (a = b)) w := by
  obtain ⟨r, q1, q2⟩ := run_equalIn_deep (P := Tryz.prog) 9990 10 67 (by kernel_rfl) w 10 10 (.agg (wq a)) (.agg (wq b)) _ _ (by simp [Value.formed, Tryz.underlying67, wq_size, ha.1, b_cells]) (by simp [Value.formed, Tryz.underlying67, wq_size, hb.1, b_cells]) (key_b 8 ha) (key_b 8 hb)
  have hr : r = decide (a = b) := by
    cases r with
    | true => exact (decide_eq_true (litsB_inj (q2.1 rfl))).symm
    | false => exact (decide_eq_false fun e => by subst e; cases q2.2 rfl).symm
  subst hr
  rw [show (10000 : Nat) = 9990 + 10 from rfl, q1]
theorem eql_b {a b : List Nat} (ha : okb a) (hb : okb b) (w : World) : (binOp .eql 67 (.agg (wq a)) (.agg (wq b))).run Tryz.prog w = .ok (.bool (decide (a = b))) w := by
  rw [run_eql_struct, in_b ha hb w]; rfl
theorem neq_b {a b : List Nat} (ha : okb a) (hb : okb b) (w : World) : (binOp .neq 67 (.agg (wq a)) (.agg (wq b))).run Tryz.prog w = .ok (.bool (!decide (a = b))) w := by
  rw [run_neq_struct, in_b ha hb w]; rfl
theorem g_b : Tryz.prog.eqGuardType Tryz.prog.depth 67 = false := by kernel_rfl
theorem bneq_run (w : World) {xs ys : List Nat} (hxs : okb xs) (hys : okb ys) {k : Bool} (hk : decide (xs = ys) = !k) (ev : Operand → Value) (x y : Operand) {ty : TypeId} {o : Oper} (hop : o.op = .binOp .neq 67 x y ty) (hx : ev x = .agg (wq xs)) (hy : ev y = .agg (wq ys)) : (execOp ev o).run Tryz.prog w = .ok (.value (.bool k)) w := by
  have hg := run_eqGuard_agg (P := Tryz.prog) w .neq 67 x y (wq xs) (wq ys) g_b
  simp only [execOp, hop, hx, hy, Sem.run_bind, hg, Result.andThen_ok, neq_b hxs hys, Sem.run_pure, hk, Bool.not_not]
theorem beql_run (w : World) {xs ys : List Nat} (hxs : okb xs) (hys : okb ys) {k : Bool} (hk : decide (xs = ys) = k) (ev : Operand → Value) (x y : Operand) {ty : TypeId} {o : Oper} (hop : o.op = .binOp .eql 67 x y ty) (hx : ev x = .agg (wq xs)) (hy : ev y = .agg (wq ys)) : (execOp ev o).run Tryz.prog w = .ok (.value (.bool k)) w := by
  have hg := run_eqGuard_agg (P := Tryz.prog) w .eql 67 x y (wq xs) (wq ys) g_b
  simp only [execOp, hop, hx, hy, Sem.run_bind, hg, Result.andThen_ok, eql_b hxs hys, Sem.run_pure, hk]
theorem wpList_value_want {P : Program} {ops : Array Oper} {rest : List Oper} {o : Oper} {a : Act} {w w' : World} {Q : Exit → Act → World → Prop} (hw : Region.wanted o (yielded ops a.tmps) = true) (v : Value) (hr : (execOp a.eval o).run P w = .ok (.value v) w') (h : wpList P ops Q rest (a.put o.dst v) w') : wpList P ops Q (o :: rest) a w := wpList_step fun K hK => by
  rw [if_pos hw]
  unfold Oper.wp
  rw [hr]
  exact hK _ _ h
/-- a block 0 that is built, and one that is new -/
theorem build_b (w : World) : (Instr.build 67 #[]).run Tryz.prog w = .ok (.agg (wq zb)) w := run_build w _ _ _ (by kernel_rfl)
theorem zero_b (w : World) : (zeroValue 67).run Tryz.prog w = .ok (.agg (wq zb)) w := by kernel_rfl
theorem bbuild_run (w : World) (ev : Operand → Value) {o : Oper} (hop : o.op = .build 67 #[]) : (execOp ev o).run Tryz.prog w = .ok (.value (.agg (wq zb))) w := by
  simp only [execOp, hop, Array.map_empty, Sem.run_bind, build_b, Result.andThen_ok, Sem.run_pure]
end Go.Proofs.YthbeoobfhfpelaaGreatDoor

namespace Go.Proofs.YthbeoobfhfpelaaGreatDoor
set_option maxRecDepth 50000
open Go.RowKit Bb

theorem frozen_drew (w : World) (p : Addr) : w.drew.frozen? p = w.frozen? p := rfl

end Go.Proofs.YthbeoobfhfpelaaGreatDoor

namespace Go.Proofs.YthbeoobfhfpelaaGreatDoor
set_option maxRecDepth 50000
open Go.RowKit Bb

/-- blocks one behind the other, as cells -/
def bcs (l : List (List Nat)) : List Value := l.flatMap u64s
theorem bcs_append (a b : List (List Nat)) : bcs (a ++ b) = bcs a ++ bcs b := by simp [bcs]
theorem bcs_length : ∀ {l : List (List Nat)}, (∀ b ∈ l, okb b) → (bcs l).length = l.length * 128
  | [], _ => rfl
  | b :: l, h => by
    have := bcs_length (l := l) fun x hx => h x (by simp [hx])
    have h1 := (h b (by simp)).1
    unfold bcs at *
    rw [List.flatMap_cons, List.length_append, this, u64s_length, h1, List.length_cons]
    omega
theorem bcs_at : ∀ {l : List (List Nat)}, (∀ b ∈ l, okb b) → ∀ i k, i < l.length → k < 128 → (bcs l)[i * 128 + k]? = some (.int .u64 (((l.getD i []).getD k 0 : Nat) : Int))
  | [], _, _, _, hi, _ => by simp at hi
  | b :: l, h, i, k, hi, hk => by
    have h1 := (h b (by simp)).1
    have e : bcs (b :: l) = u64s b ++ bcs l := by simp [bcs]
    rw [e]
    cases i with
    | zero =>
      rw [Nat.zero_mul, Nat.zero_add, List.getElem?_append_left (by rw [u64s_length, h1]; exact hk)]
      simp [u64s, List.getD_eq_getElem?_getD, List.getElem?_eq_getElem (show k < b.length by omega)]
    | succ i =>
      rw [List.getElem?_append_right (by rw [u64s_length, h1]; omega), u64s_length, h1, show (i + 1) * 128 + k - 128 = i * 128 + k by omega,
        bcs_at (fun x hx => h x (by simp [hx])) i k (by simpa using hi) hk]
      simp
theorem reads_b {w : World} {B : Nat} {A : Option Addr} {l : List (List Nat)} (hr : Reads w B A (bcs l)) (ho : ∀ b ∈ l, okb b) (i : Nat) (hi : i < l.length) :
    ∃ b off, A = some ⟨b, off, none⟩ ∧ b < B ∧ ∀ k, k < 128 → w.cell? ⟨b, off + i * 128 + k, none⟩ = some (.int .u64 (((l.getD i []).getD k 0 : Nat) : Int)) := by
  have hl := bcs_length ho
  obtain ⟨b, off, e, hb, _⟩ := hr 0 (by omega)
  refine ⟨b, off, e, hb, fun k hk => ?_⟩
  obtain ⟨b', off', e', _, hc⟩ := hr (i * 128 + k) (by omega)
  rw [e] at e'
  cases e'
  rw [Nat.add_assoc, hc, ← List.getElem?_eq_getElem, bcs_at ho i k hi hk]

/-- a row for the answer, and one that is worked on -/
structure Xx (w wr : World) (x : List Nat) : Prop where
  rz : RowAt wr w.heap.size 67 (wq zb)
  rx : RowAt wr (w.heap.size + 1) 67 (wq x)
  below : Below w.heap.size w wr
section
variable {w wr wr' : World} {x : List Nat}
theorem Xx.new (w : World) : Xx w ((w.alloc (.cells (wq zb) 67)).alloc (.cells (wq zb) 67)) zb := by
  refine ⟨(RowAt.new w _ _).alloc _, ?_, ((Below.refl _ w).alloc (Nat.le_refl _) _).alloc (by simp) _⟩
  have h := RowAt.new (w.alloc (.cells (wq zb) 67)) 67 (wq zb)
  rw [World.size_alloc] at h; exact h
theorem Xx.drewN (h : Xx w wr x) (k : Nat) : Xx w (wr.drewN k) x := ⟨h.rz, h.rx, below_drewN h.below k⟩
theorem Xx.drew (h : Xx w wr x) : Xx w wr.drew x := h.drewN 1
theorem Xx.set (h : Xx w wr x) (i v : Nat) : Xx w (wr.setCell ⟨w.heap.size + 1, i, none⟩ (.int .u64 (v : Int))) (x.set i v) :=
  ⟨h.rz.setOther _ (by simp) _, by rw [← wq_set]; exact h.rx.setCell i _, h.below.setCell (by simp) _⟩
end

set_option maxHeartbeats 3200000 in
theorem xor_any {l : List (List Nat)} (ho : ∀ b ∈ l, okb b) (A : Option Addr) (c : Nat) (w : World) (hr : Reads w w.heap.size A (bcs l)) (hlen : l.length ≤ 1000000) :
    Calls Tryz.prog 77 #[.slice A l.length c] w fun e w' => e = .returned (.agg (wq (xB l))) ∧ Below w.heap.size w w' := by
  have HO := Lib.hid ho
  have HR := Lib.hid hr
  have HX0 := Lib.hid (Xx.new w)
  have hz := zero_b
  clear ho hr
  go_enter Tryz.func77, Tryz.ntmps77
  go_wp2
  generalize hW0 : World.alloc _ _ = w0
  have HX1 : Hid (Xx w w0 (xst l 0 0)) := Lib.hid (by subst hW0; rw [xst_start]; exact HX0.out)
  clear hW0 HX0
  go_loopw [4, 8] (fun _ v8 wr => ∃ i : Nat, i ≤ l.length ∧ v8 = .int .i64 (i : Int) ∧ Xx w wr (xst l i 0)) (fun _ v8 _ => l.length - (intOf v8).toNat)
  case atStart => exact ⟨0, by omega, rfl, HX1.out⟩
  case round =>
    clear HX1
    obtain ⟨i, hi, rfl, X⟩ := hrel
    have HX := Lib.hid X
    clear X
    by_cases h : i < l.length
    · have hdt : decide ((i : Int) < (l.length : Int)) = true := by simp; omega
      have hi0 : (0 : Int) ≤ (i : Int) := by omega
      have hi1 : (i : Int) < (l.length : Int) := by omega
      obtain ⟨b, off, rfl, hbB, hrd⟩ := reads_b HR.out HO.out i h
      have HRD := Lib.hid hrd
      clear hrd
      go_wp2
      obtain ⟨wo, rfl⟩ : ∃ wo : World, wo = wr := ⟨_, rfl⟩
      go_loopw [5, 11] (fun _ v11 wr => ∃ k : Nat, k ≤ 128 ∧ v11 = .int .i64 (k : Int) ∧ Xx w wr (xst l i k)) (fun _ v11 _ => 128 - (intOf v11).toNat)
      case atStart => exact ⟨0, by omega, rfl, HX.out⟩
      case round =>
        clear HX
        obtain ⟨k, hk, rfl, X⟩ := hrel
        have HX := Lib.hid X
        clear X
        by_cases h8 : k < 128
        · have hdk : decide ((k : Int) < 128) = true := by simp; omega
          have hk0 : (0 : Int) ≤ (k : Int) := by omega
          have hk1 : (k : Int) < 128 := by omega
          have ck := (HX.out.rx.cell k).trans (wq_at _ k (by rw [xst_length]; exact h8))
          rw [xst_at l i k h8] at ck
          have dk : wr.cell? ⟨b, off + i * 128 + k, none⟩ = _ := (HX.out.below.cell (p := ⟨b, off + i * 128 + k, none⟩) hbB).trans (HRD.out k h8)
          have HF := Lib.hid (xst_next l i k h)
          have hv := u64_xor_nat _ _ (take_lt HO.out i k) (word_lt HO.out i k)
          have HXD := Lib.hid fun v => HX.out.drew.set k v
          have hfz := HX.out.drew.rx.frozen k
          generalize xw (l.take i) k = a at *
          generalize (l.getD i []).getD k 0 = d at *
          generalize a ^^^ d = s at *
          have k1 : ∀ tp d os out, (World.mk wr.heap tp d os out).cell? ⟨w.heap.size + 1, k, none⟩ = some (.int .u64 (a : Int)) := fun _ _ _ _ => ck
          have k2 : ∀ tp d' os out, (World.mk wr.heap tp d' os out).cell? ⟨b, off + i * 128 + k, none⟩ = some (.int .u64 (d : Int)) := fun _ _ _ _ => dk
          clear ck dk HX
          go_wp2
          refine wp_region_still_tail 11 (by kernel_rfl) (by kernel_rfl) ?_
          simp only [List.take_succ_cons, List.take_zero, List.drop_succ_cons, List.drop_zero]
          repeat still_step
          refine wpStill_nil ?_
          change wpList _ _ _ _ _ wr.drew
          have ck : wr.drew.cell? ⟨w.heap.size + 1, k, none⟩ = some (.int .u64 (a : Int)) := k1 _ _ _ _
          clear k1 k2
          generalize wr.drew = w2 at *
          go_wp2
          go_roundw
          case rel => exact ⟨k + 1, by omega, by go_num, by rw [← HF.out]; exact HXD.out s⟩
          case measure => simp [intOf]; omega
        · obtain rfl : k = 128 := by omega
          have hdk : decide (((128 : Nat) : Int) < 128) = false := by simp
          go_wp2
          go_roundw
          case rel => exact ⟨i + 1, by omega, by go_num, by rw [← xst_line]; exact HX.out⟩
          case measure => simp [intOf]; omega
    · obtain rfl : i = l.length := by omega
      have hdt : decide ((l.length : Int) < (l.length : Int)) = false := by simp
      have HZ : Hid ((wq (xB l)).size = 128) := Lib.hid (by rw [wq_size]; exact (xB_ok l HO.out).1)
      have HE := Lib.hid (xst_end l)
      have RX := HX.out.rx
      rw [HE.out] at RX
      have RX := Lib.hid RX
      have RZ := Lib.hid HX.out.rz
      have HB := Lib.hid HX.out.below
      clear HX HO HR hi
      obtain ⟨z, hz⟩ : ∃ z, z = xB l := ⟨_, rfl⟩
      rw [← hz] at RX HZ
      have HZZ := Lib.hid hz
      clear hz
      go_wp2_with (first
        | refine wpList_load_row rfl 67 (.tmp 3) rfl (w.heap.size + 1) rfl 67 (wq z) (0, 0) _ RX.out Tryz.underlying67 rfl (by rw [HZ.out]; exact b_size) ?_
        | refine wpList_store_row rfl 67 (.tmp 2) (.tmp 27) rfl w.heap.size (wq z) rfl rfl 67 _ RZ.out (by rw [HZ.out]; exact b_size) (by rw [HZ.out]; rfl) (wq_one _) ?_)
      have hR := RowAt.setRow RZ.out (wq z)
      refine bodyPost_ret (v := .agg (wq z)) (results_cell_row rfl _ _ w.heap.size 67 (wq z) (0, 0) _ rfl hR Tryz.underlying67 rfl (by rw [HZ.out]; exact b_size)) rfl ⟨by rw [HZZ.out], ?_⟩
      exact below_setRow HB.out (Nat.le_refl _) _

set_option maxHeartbeats 3200000 in
theorem rxor_any {l : List (List Nat)} (ho : ∀ b ∈ l, okb b) (A : Option Addr) (c : Nat) (w : World) (hr : Reads w w.heap.size A (bcs l)) (hlen : l.length ≤ 1000000) :
    Calls Tryz.prog 55 #[.slice A l.length c] w fun e w' => e = .returned (.agg (wq (xB l))) ∧ Below w.heap.size w w' := by
  have HO := Lib.hid ho
  have HR := Lib.hid hr
  have HX0 := Lib.hid (Xx.new w)
  have hz := zero_b
  clear ho hr
  go_enter Tryz.func55, Tryz.ntmps55
  go_wp2
  generalize hW0 : World.alloc _ _ = w0
  have HX1 : Hid (Xx w w0 (rst l 0 0)) := Lib.hid (by subst hW0; rw [rst_start]; exact HX0.out)
  clear hW0 HX0
  go_loopw [4] (fun v4 wr => ∃ i : Nat, i ≤ 128 ∧ v4 = .int .i64 (i : Int) ∧ Xx w wr (rst l i 0)) (fun v4 _ => 128 - (intOf v4).toNat)
  case atStart => exact ⟨0, by omega, rfl, HX1.out⟩
  case round =>
    clear HX1
    obtain ⟨i, hi, rfl, X⟩ := hrel
    have HX := Lib.hid X
    clear X
    by_cases h : i < 128
    · have hdt : decide ((i : Int) < 128) = true := by simp; omega
      have hi0 : (0 : Int) ≤ (i : Int) := by omega
      have hi1 : (i : Int) < 128 := by omega
      go_wp2
      obtain ⟨wo, rfl⟩ : ∃ wo : World, wo = wr := ⟨_, rfl⟩
      go_loopw [5] (fun v5 wr => ∃ k : Nat, k ≤ l.length ∧ v5 = .int .i64 (k : Int) ∧ Xx w wr (rst l i k)) (fun v5 _ => l.length - (intOf v5).toNat)
      case atStart => exact ⟨0, by omega, rfl, HX.out⟩
      case round =>
        clear HX
        obtain ⟨k, hk, rfl, X⟩ := hrel
        have HX := Lib.hid X
        clear X
        by_cases h8 : k < l.length
        · have hdk : decide ((k : Int) < (l.length : Int)) = true := by simp; omega
          have hk0 : (0 : Int) ≤ (k : Int) := by omega
          have hk1 : (k : Int) < (l.length : Int) := by omega
          obtain ⟨b, off, rfl, hbB, hrd⟩ := reads_b HR.out HO.out k h8
          have ci := (HX.out.rx.cell i).trans (wq_at _ i (by rw [rst_length]; exact h))
          rw [rst_at l i k h] at ci
          have di : wr.cell? ⟨b, off + k * 128 + i, none⟩ = _ := (HX.out.below.cell (p := ⟨b, off + k * 128 + i, none⟩) hbB).trans (hrd i h)
          clear hrd
          have HF := Lib.hid (rst_next l i k h8)
          have hv := u64_xor_nat _ _ (take_lt HO.out k i) (word_lt HO.out k i)
          have HXD := Lib.hid fun v => HX.out.drew.set i v
          have hfz := HX.out.drew.rx.frozen i
          generalize xw (l.take k) i = a at *
          generalize (l.getD k []).getD i 0 = d at *
          generalize a ^^^ d = s at *
          have k1 : ∀ tp d os out, (World.mk wr.heap tp d os out).cell? ⟨w.heap.size + 1, i, none⟩ = some (.int .u64 (a : Int)) := fun _ _ _ _ => ci
          have k2 : ∀ tp d' os out, (World.mk wr.heap tp d' os out).cell? ⟨b, off + k * 128 + i, none⟩ = some (.int .u64 (d : Int)) := fun _ _ _ _ => di
          clear ci di HX
          go_wp2
          refine wp_region_still_tail 12 (by kernel_rfl) (by kernel_rfl) ?_
          simp only [List.take_succ_cons, List.take_zero, List.drop_succ_cons, List.drop_zero]
          repeat still_step
          refine wpStill_nil ?_
          change wpList _ _ _ _ _ wr.drew
          have ck : wr.drew.cell? ⟨w.heap.size + 1, i, none⟩ = some (.int .u64 (a : Int)) := k1 _ _ _ _
          clear k1 k2
          generalize wr.drew = w2 at *
          go_wp2
          go_roundw
          case rel => exact ⟨k + 1, by omega, by go_num, by rw [← HF.out]; exact HXD.out s⟩
          case measure => simp [intOf]; omega
        · obtain rfl : k = l.length := by omega
          have hdk : decide ((l.length : Int) < (l.length : Int)) = false := by simp
          go_wp2
          go_roundw
          case rel => exact ⟨i + 1, by omega, by go_num, by rw [← rst_line]; exact HX.out⟩
          case measure => simp [intOf]; omega
    · obtain rfl : i = 128 := by omega
      have hdt : decide (((128 : Nat) : Int) < 128) = false := by simp
      have HZ : Hid ((wq (xB l)).size = 128) := Lib.hid (by rw [wq_size]; exact (xB_ok l HO.out).1)
      have HE := Lib.hid (rst_end l)
      have RX := HX.out.rx
      rw [HE.out] at RX
      have RX := Lib.hid RX
      have RZ := Lib.hid HX.out.rz
      have HB := Lib.hid HX.out.below
      clear HX HO HR hi
      obtain ⟨z, hz⟩ : ∃ z, z = xB l := ⟨_, rfl⟩
      rw [← hz] at RX HZ
      have HZZ := Lib.hid hz
      clear hz
      go_wp2_with (first
        | refine wpList_load_row rfl 67 (.tmp 3) rfl (w.heap.size + 1) rfl 67 (wq z) (0, 0) _ RX.out Tryz.underlying67 rfl (by rw [HZ.out]; exact b_size) ?_
        | refine wpList_store_row rfl 67 (.tmp 2) (.tmp 28) rfl w.heap.size (wq z) rfl rfl 67 _ RZ.out (by rw [HZ.out]; exact b_size) (by rw [HZ.out]; rfl) (wq_one _) ?_)
      have hR := RowAt.setRow RZ.out (wq z)
      refine bodyPost_ret (v := .agg (wq z)) (results_cell_row rfl _ _ w.heap.size 67 (wq z) (0, 0) _ rfl hR Tryz.underlying67 rfl (by rw [HZ.out]; exact b_size)) rfl ⟨by rw [HZZ.out], ?_⟩
      exact below_setRow HB.out (Nat.le_refl _) _

/-- a block loaded out of a row -/
theorem load_b {w : World} {b o : Nat} {L : List Nat} (hL : L.length = 128) (h : ∀ k, k < 128 → w.cell? ⟨b, o + k, none⟩ = some (.int .u64 (L.getD k 0 : Nat))) : (loadVar 67 ⟨b, o, none⟩).run Tryz.prog w = .ok (.agg (wq L)) w := by
  have hl : (loadCells ⟨b, o, none⟩ (u64s L).length).run Tryz.prog w = .ok (u64s L).toArray w :=
    run_loadCells_list (P := Tryz.prog) w ⟨b, o, none⟩ _ (fun j v hv => by
      have hj : j < 128 := by
        have := (List.getElem?_eq_some_iff.1 hv).1
        rwa [u64s_length, hL] at this
      rw [Go.WideShapes.add_plain, h j hj, ← hv]
      unfold u64s
      rw [List.getElem?_map, List.getElem?_eq_getElem (by omega), List.getD_eq_getElem?_getD, List.getElem?_eq_getElem (by omega)]
      rfl)
  rw [u64s_length, hL] at hl
  have hz := b_size
  cases hq : Tryz.prog.info? 67 with
  | none => rw [hq] at hz; simp at hz
  | some i =>
    have hsz : i.size = 128 := by rw [hq] at hz; simpa using hz
    simp [loadVar, Sem.run_bind, sizeOf, typeInfo, hq, hsz, hl, wq]

end Go.Proofs.YthbeoobfhfpelaaGreatDoor

namespace Go.Proofs.YthbeoobfhfpelaaGreatDoor
set_option maxRecDepth 50000
open Go.RowKit Bb

theorem op_call3 {P : Program} {o : Oper} {a : Act} {w : World} {Q : Exit → Act → World → Prop} {p : Value → World → Prop} {f : FuncId} {x y z : Operand} {ts : Array TypeId} {v1 v2 v3 : Value} (ho : o.op = .call { callee := .value (.func f), args := #[x, y, z], argTypes := ts }) (he : ∀ (args : Array Value) (w : World), (callFunc f args).run P w = .ok (.enter f args) w)
    (hx : a.eval x = v1) (hy : a.eval y = v2) (hz : a.eval z = v3) (hc : Calls P f #[v1, v2, v3] w fun e w' => ∃ v, e = .returned v ∧ p v w' ∧ Below w.heap.size w w') : Does P p o a w Q := by
  subst hx; subst hy; subst hz
  exact op_call ho he hc
theorem bload_run {w : World} {b : Nat} {L : List Nat} {ev : Operand → Value} {x : Operand} {o : Oper} (hop : o.op = .load 67 x) (hx : ev x = .pointer (some ⟨b, 0, none⟩)) (hR : RowAt w b 67 (wq L)) (hz : (wq L).size = 128) : (execOp ev o).run Tryz.prog w = .ok (.value (.agg (wq L))) w := by
  have h := hR.loadAt (P := Tryz.prog) Tryz.underlying67 (by rw [hz]; exact b_size)
  simp only [execOp, hop, hx, Sem.run_bind, h, Result.andThen_ok, Sem.run_pure]

/-- a block that came in, and a copy of it that is turned -/
structure Cx (w wr : World) (b4 b9 : Nat) (L c : List Nat) : Prop where
  r4 : RowAt wr b4 67 (wq L)
  r9 : RowAt wr b9 67 (wq c)
  lt : b4 < b9
  base : w.heap.size ≤ b9
  below : Below w.heap.size w wr
section
variable {w wr w' : World} {b4 b9 : Nat} {L c : List Nat}
theorem Cx.new (h : RowAt wr b4 67 (wq L)) (hb : Below w.heap.size w wr) : Cx w ((wr.alloc (.cells (wq zb) 67)).setRow wr.heap.size (wq L)) b4 wr.heap.size L L :=
  ⟨(h.alloc _).setRowOther _ (by have := h.lt; omega) _, (RowAt.new wr _ _).setRow _, h.lt, hb.size, below_setRow (hb.alloc hb.size _) hb.size _⟩
theorem Cx.drewN (h : Cx w wr b4 b9 L c) (q : Nat) : Cx w (wr.drewN q) b4 b9 L c := ⟨h.r4, h.r9, h.lt, h.base, below_drewN h.below q⟩
theorem Cx.turn {c' : List Nat} (h : Cx w wr b4 b9 L c) (hr : RowAt w' b9 67 (wq c')) (hk : Kept (fun k => k = b9) wr w') : Cx w w' b4 b9 L c' :=
  ⟨(hk.block b4 h.r4.lt (by have := h.lt; omega)).trans h.r4, hr, h.lt, h.base, h.below.trans (hk.below h.below.size (fun x hx => by subst hx; exact h.base))⟩
end

end Go.Proofs.YthbeoobfhfpelaaGreatDoor

namespace Go.Proofs.YthbeoobfhfpelaaGreatDoor
set_option maxRecDepth 50000
open Go.RowKit Bb

/-- a block that is laid anew -/
theorem newb (w : World) (c : List Nat) : RowAt ((w.alloc (.cells (wq zb) 67)).setRow w.heap.size (wq c)) w.heap.size 67 (wq c) ∧ Below w.heap.size w ((w.alloc (.cells (wq zb) 67)).setRow w.heap.size (wq c)) :=
  ⟨(RowAt.new w _ _).setRow _, below_setRow ((Below.refl _ w).alloc (Nat.le_refl _) _) (Nat.le_refl _) _⟩

theorem oper_value {P : Program} {o : Oper} {a : Act} {w w' : World} {K : Act → World → Prop} {Q : Exit → Act → World → Prop} (v : Value) (hr : (execOp a.eval o).run P w = .ok (.value v) w') (h : K (a.put o.dst v) w') : o.wp P a w K Q := by
  unfold Oper.wp
  rw [hr]
  exact h
end Go.Proofs.YthbeoobfhfpelaaGreatDoor

namespace Go.Proofs.YthbeoobfhfpelaaGreatDoor
set_option maxRecDepth 50000
open Go.ChangeShapes Go.WideShapes Go.ChangeAt Go.RowKit Bb

/-- what an int cell holds, as a natural -/
def natOf : Value → Nat
  | .int _ z => z.toNat
  | _ => 0
/-- cells that are 128 words -/
theorem cells_b {H : Type} {enc : TypeId × Value → H} {W : World} {base : Nat} {spare : Nat → Bool} {held : Bool} {cl : List Value} {fuel : Nat} {x : DataW H × List MemPlace}
    (hf : DataW.trod enc Tryz.prog W base spare held fuel 67 cl = some x) : cl = u64s (cl.map natOf) ∧ okb (cl.map natOf) := by
  obtain ⟨xs, m, rfl, _, hl, hxl, hall⟩ := DataW.trod_array Tryz.underlying67 hf
  rw [b_cells] at hl
  have G : ∀ i, (hi : i < cl.length) → ∃ n : Nat, n < 18446744073709551616 ∧ cl[i] = .int .u64 (n : Int) := fun i hi => by
    have h1 := hall i (by omega)
    rw [List.getElem?_eq_getElem (by omega : i < xs.length), b_u64, Nat.mul_one] at h1
    obtain ⟨z, e1, _, hw⟩ := DataW.trod_int Tryz.underlying39 h1
    have hb := wf_u64 z hw
    obtain ⟨n, rfl⟩ := Int.eq_ofNat_of_zero_le hb.1
    refine ⟨n, by omega, ?_⟩
    rw [List.drop_eq_getElem_cons hi, List.take_succ_cons] at e1
    exact (List.cons.inj e1).1
  refine ⟨?_, by rw [List.length_map]; exact hl, ?_⟩
  · refine List.ext_getElem (by simp [u64s]) fun i h1 h2 => ?_
    obtain ⟨n, _, e⟩ := G i h1
    simp [u64s, e, natOf]
  · intro y hy
    obtain ⟨c, hc, rfl⟩ := List.mem_map.1 hy
    obtain ⟨i, hi, rfl⟩ := List.getElem_of_mem hc
    obtain ⟨n, hn, e⟩ := G i hi
    rw [e]
    simpa [natOf] using hn
theorem open_b {H : Type} {enc : TypeId × Value → H} {W : World} {r : Reach} {b0 base : Nat} {spare : Nat → Bool} {held : Bool} {v : Value} {d : DataW H} {ps : List MemPlace}
    (hval : Value.okWide Tryz.prog W r b0 67 v) (hd : DataW.Trod enc Tryz.prog W base spare held 67 v d ps) : ∃ L : List Nat, v = .agg (wq L) ∧ okb L := by
  obtain ⟨cs, rfl, _⟩ : ∃ cs, v = .agg cs ∧ cs.size = Tryz.prog.cellsOf 67 ∧ Row.okWide Tryz.prog W r b0 67 cs := by
    have := hval
    simpa [Value.okWide, Tryz.underlying67] using this
  obtain ⟨fuel, hf⟩ := hd
  obtain ⟨e, ho⟩ := cells_b hf
  refine ⟨_, ?_, ho⟩
  unfold wq
  rw [← e]
  simp [Value.cells]
theorem cell_lt {w : World} {p : Addr} {v : Value} (h : w.cell? p = some v) : p.block < w.heap.size := by
  unfold World.cell? at h
  cases hq : w.heap[p.block]? with
  | none => rw [hq] at h; cases h
  | some o => exact (Array.getElem?_eq_some_iff.1 hq).1
theorem open_blocks {H : Type} {enc : TypeId × Value → H} {W : World} {r : Reach} {b0 : Nat} {v : Value} {d : DataW H} {ps : List MemPlace}
    (hval : Value.okWide Tryz.prog W r b0 69 v) (h : DataW.Trod enc Tryz.prog W 0 (fun _ => true) true 69 v d ps) :
    ∃ A c, ∃ l : List (List Nat), v = .slice A l.length c ∧ (∀ b ∈ l, okb b) ∧ Reads W W.heap.size A (bcs l) ∧ l.length ≤ maxLen := by
  obtain ⟨a0, len, cap, rfl⟩ := okWide_slice Tryz.underlying69 hval
  obtain ⟨fuel, hf⟩ := h
  rcases DataW.trod_slice Tryz.underlying69 hf with ⟨hcs, hx⟩ | ⟨a, len', cap', elems, rest, n, _, hcs, _, _, hl, hm, hlen, hel, _, _⟩
  · simp [Value.cells] at hcs
    obtain ⟨rfl, rfl, rfl⟩ := hcs
    exact ⟨none, 0, [], rfl, by simp, Reads.nil_, by simp⟩
  · simp [Value.cells] at hcs
    obtain ⟨rfl, rfl, rfl⟩ := hcs
    have G : ∀ i, i < len → ∃ cl, W.cells? 0 (a.add (i * 128)) 128 = some cl ∧ cl = u64s (cl.map natOf) ∧ okb (cl.map natOf) := fun i hi => by
      have h1 := hel i hi
      rw [List.getElem?_eq_getElem (by omega : i < elems.length), b_cells, Option.bind_eq_some_iff] at h1
      obtain ⟨cl, e, h2⟩ := h1
      exact ⟨cl, e, cells_b h2⟩
    have K : ∀ i k, i < len → k < 128 → W.cell? ((a.add (i * 128)).add k) = some (.int .u64 (((((W.cells? 0 (a.add (i * 128)) 128).getD []).map natOf).getD k 0 : Nat) : Int)) := fun i k hi hk => by
      obtain ⟨cl, e, e2, ho⟩ := G i hi
      rw [e, Option.getD_some]
      unfold World.cells? at e
      rw [if_pos (Nat.zero_le _)] at e
      have h3 := mapM_some_get e k k (by simp [hk])
      rw [h3]
      have hkl : k < (cl.map natOf).length := by rw [ho.1]; exact hk
      conv => lhs; rw [e2]
      simp [u64s, List.getD_eq_getElem?_getD, List.getElem?_eq_getElem (show k < cl.length by simpa using hkl)]
    have O : ∀ i, i < len → okb (((W.cells? 0 (a.add (i * 128)) 128).getD []).map natOf) := fun i hi => by
      obtain ⟨cl, e, _, ho⟩ := G i hi
      rw [e, Option.getD_some]; exact ho
    obtain ⟨l, hl2⟩ : ∃ l, l = (List.range len).map fun i => ((W.cells? 0 (a.add (i * 128)) 128).getD []).map natOf := ⟨_, rfl⟩
    have hll : l.length = len := by rw [hl2]; simp
    have hlo : ∀ b ∈ l, okb b := fun b hb => by
      rw [hl2] at hb
      obtain ⟨i, hi, rfl⟩ := List.mem_map.1 hb
      exact O i (List.mem_range.1 hi)
    refine ⟨some a, cap, l, by rw [hll], hlo, fun k hk => ?_, by omega⟩
    rw [bcs_length hlo, hll] at hk
    obtain ⟨b, off, spot⟩ := a
    have e0 := K 0 0 (by omega) (by decide)
    have hspot : spot = none := by simpa [Addr.add] using World.cell?_spot e0
    subst hspot
    have hlt := cell_lt e0
    have ek := K (k / 128) (k % 128) (by omega) (by omega)
    simp only [add_plain] at ek hlt
    have eb := bcs_at hlo (k / 128) (k % 128) (by omega) (by omega)
    have el : l.getD (k / 128) [] = ((W.cells? 0 ((⟨b, off, none⟩ : Addr).add (k / 128 * 128)) 128).getD []).map natOf := by
      rw [hl2, List.getD_eq_getElem?_getD, List.getElem?_map, List.getElem?_range (by omega)]; rfl
    rw [el] at eb
    simp only [add_plain] at eb
    rw [show k / 128 * 128 + k % 128 = k by omega] at eb
    refine ⟨b, off, rfl, hlt, ?_⟩
    rw [show off + k / 128 * 128 + k % 128 = off + k by omega] at ek
    rw [ek, ← eb, List.getElem?_eq_getElem (by rw [bcs_length hlo, hll]; exact hk)]
end Go.Proofs.YthbeoobfhfpelaaGreatDoor

namespace Go.Proofs.YthbeoobfhfpelaaGreatDoor
set_option maxRecDepth 50000
open Go.RowKit Bb

theorem b_info : (Tryz.prog.info? 67).map (fun i => (i.zero, i.size, i.bytes)) = some (some (.agg (wq zb)), 128, 1024) := by kernel_rfl
theorem b_parts : ∃ i, Tryz.prog.info? 67 = some i ∧ i.zero = some (.agg (wq zb)) ∧ i.size = 128 ∧ i.bytes = 1024 := by
  have h := b_info
  cases hq : Tryz.prog.info? 67 with
  | none => rw [hq] at h; cases h
  | some i =>
    rw [hq] at h
    simp only [Option.map_some, Option.some.injEq, Prod.mk.injEq] at h
    exact ⟨i, rfl, h.1, h.2.1, h.2.2⟩
theorem zb_cells : (Value.agg (wq zb)).cells.size = 128 := by
  simp [Value.cells, wq_size, zb]
theorem bcs_one (l : List (List Nat)) : ∀ u ∈ bcs l, u.oneCell' = true := by
  intro u hu
  obtain ⟨b, _, hb⟩ := List.mem_flatMap.1 hu
  obtain ⟨x, _, rfl⟩ := List.mem_map.1 hb
  rfl
theorem bcs_z (z : List Nat) : bcs [z] = u64s z := by simp [bcs]

def OwB (N : Nat) (l : List (List Nat)) : Value → World → Prop := fun v w => w.ownsRow N 67 128 v l.length (bcs l)
def OneB (z : List Nat) : Value → World → Prop := fun v w => ∃ g, v = .slice (some ⟨g, 0, none⟩) 1 1 ∧ RowAt w g 67 (wq z)
/-- a list that reads as these blocks -/
def RdB (l : List (List Nat)) : Value → World → Prop := fun v w => ∃ A c, v = .slice A l.length c ∧ Reads w w.heap.size A (bcs l)
theorem lt_of_some {w : World} {g : Nat} {o : Obj} (h : w.heap[g]? = some o) : g < w.heap.size := (Array.getElem?_eq_some_iff.1 h).1
theorem stable_owb (N : Nat) (l : List (List Nat)) : Stable (OwB N l) := fun v w w' h hb => by
  refine ⟨h.1, ?_⟩
  rcases h.2 with hn | ⟨g, cap, cur, rfl, h0, hg, rest⟩
  · exact .inl hn
  · exact .inr ⟨g, cap, cur, rfl, h0, (hb.block g (lt_of_some hg)).trans hg, rest⟩
theorem stable_oneb (z : List Nat) : Stable (OneB z) := fun _ _ _ ⟨g, e, h⟩ hb => ⟨g, e, h.below hb h.lt⟩
theorem stable_rdb (l : List (List Nat)) : Stable (RdB l) := fun _ _ _ ⟨A, c, e, h⟩ hb => ⟨A, c, e, (h.below hb).more hb.size⟩

/-- what is owned reads so -/
theorem owb_reads {w : World} {N : Nat} {l : List (List Nat)} {v : Value} (h : OwB N l v w) : RdB l v w := by
  rcases h.2 with ⟨rfl, h0⟩ | ⟨g, cap, cur, rfl, h0, hg, _, _, _, ht⟩
  · have : bcs l = [] := List.eq_nil_of_length_eq_zero (by rw [h.1, h0])
    exact ⟨none, 0, by rw [h0], fun k hk => absurd hk (by simp [this])⟩
  · refine ⟨_, _, rfl, fun k hk => ⟨g, 0, rfl, lt_of_some hg, ?_⟩⟩
    rw [Nat.zero_add, h.cellAt k (by rw [← h.1]; exact hk), List.getElem?_eq_getElem hk]

theorem app_more {w : World} {N : Nat} {l : List (List Nat)} {v : Value} (h : OwB N l v w) (hN : N ≤ w.heap.size) {g : Nat} {z : List Nat} (hz' : okb z) (hg : RowAt w g 67 (wq z)) (hl : l.length ≤ 1000000) (ty : TypeId) :
    ∃ v' w', (Builtin.append_ #[69, 69] ty #[v, .slice (some ⟨g, 0, none⟩) 1 1]).run Tryz.prog w = .ok v' w' ∧ OwB N (l ++ [z]) v' w' ∧ Below N w w' := by
  obtain ⟨i, hi, hz, hs, hby⟩ := b_parts
  have hzl : (u64s z).length = 128 := by rw [u64s_length]; exact hz'.1
  obtain ⟨v', w', hr, ho, hgr, _, _⟩ := run_append_own_at (P := Tryz.prog) w N 69 ty 67 i _ 128 1024 Tryz.underlying69 hi hz hs hby zb_cells (by decide) v l.length (bcs l) h ⟨g, 0, none⟩ 1 1 (u64s z) (by rw [hzl])
    (fun j u hj => by
      rw [Go.WideShapes.add_plain, Nat.zero_add, hg.cell j]
      simpa [wq] using hj) (fun u hu => by simp only [u64s, List.mem_map] at hu; obtain ⟨x, _, rfl⟩ := hu; rfl) (by unfold maxLen; omega) (by omega) hN
  refine ⟨v', w', hr, ?_, (Below.refl N w).grown hgr hN (fun k hk => (h.lt k hk).1)⟩
  unfold OwB
  rw [bcs_append, bcs_z, List.length_append]
  exact ho

theorem build_none (w : World) : (Instr.buildSlice 69 0 #[]).run Tryz.prog w = .ok (.slice (some ⟨w.heap.size, 0, none⟩) 0 0) (w.alloc (.cells #[] 67)) := by
  obtain ⟨i, hi, hz, hs, hby⟩ := b_parts
  simp [Instr.buildSlice, run_underlying Tryz.underlying69, sizeOf, typeInfo, hi, Instr.fill, newRow]
  rw [show Array.range 0 = #[] by decide, Array.map_empty]
theorem fold_cells : ∀ (l : List Value) (off : Nat) (cs : Array Value), off + l.length ≤ cs.size → (l.zipIdx off).foldl (fun (cs : Array Value) (x : Value × Nat) => cs.setIfInBounds x.2 x.1) cs = (cs.toList.take off ++ l ++ cs.toList.drop (off + l.length)).toArray
  | [], off, cs, _ => by simp
  | x :: l, off, cs, h => by
    rw [List.zipIdx_cons, List.foldl_cons, fold_cells l (off + 1) _ (by simp at h ⊢; omega)]
    simp only [List.length_cons] at h
    congr 1
    rw [Array.toList_setIfInBounds]
    have h1 : (cs.toList.set off x).take (off + 1) = cs.toList.take off ++ [x] := by
      rw [List.take_add_one, List.getElem?_set_self (by simp; omega), List.take_set_of_le (Nat.le_refl _)]; rfl
    have h2 : (cs.toList.set off x).drop (off + 1 + l.length) = cs.toList.drop (off + (x :: l).length) := by
      rw [List.drop_set_of_lt (by omega), List.length_cons, show off + 1 + l.length = off + (l.length + 1) by omega]
    rw [h1, h2]
    simp
theorem build_one (w : World) {z : List Nat} (hz' : z.length = 128) : (Instr.buildSlice 69 1 #[(0, .agg (wq z))]).run Tryz.prog w = .ok (.slice (some ⟨w.heap.size, 0, none⟩) 1 1) (w.alloc (.cells (wq z) 67)) := by
  obtain ⟨i, hi, hz, hs, hby⟩ := b_parts
  refine run_buildSlice w _ _ 1 _ (wq z) i _ Tryz.underlying69 hi hz (by rw [hs]; decide) (by rw [hs]; decide) ?_
  have hsz : (wq z).size = 128 := by rw [wq_size]; exact hz'
  have e : (Value.agg (wq z)).cells = wq z := rfl
  simp only [Instr.fill, hs, e, hsz, Nat.zero_mul, Nat.one_mul, Nat.zero_add]
  rw [if_neg (by simp)]
  congr 1
  have := fold_cells (wq z).toList 0 ((Array.range 128).map ((Value.agg (wq zb)).cells[· % (Value.agg (wq zb)).cells.size]!)) (by simp [hsz])
  rw [← Array.foldl_toList, Array.toList_zipIdx, this]
  rw [List.take_zero, List.nil_append, List.drop_of_length_le (by simp [hsz]), List.append_nil, Array.toArray_toList]
end Go.Proofs.YthbeoobfhfpelaaGreatDoor

namespace Go.Proofs.YthbeoobfhfpelaaGreatDoor
set_option maxRecDepth 50000
open Go.RowKit Bb

theorem op_made {P : Program} {o : Oper} {a : Act} {w w' : World} {Q : Exit → Act → World → Prop} {p : Value → World → Prop} {v : Value} (h : (execOp a.eval o).run P w = .ok (.value v) w') (hp : p v w') (hb : Below w.heap.size w w') : Does P p o a w Q := by
  unfold Does Oper.wp
  rw [h]
  exact ⟨v, rfl, hp, hb⟩
theorem turns_value {P : Program} {o : Oper} {a : Act} {w0 w w' : World} {Q : Exit → Act → World → Prop} {p : Value → World → Prop} {v : Value} (h : (execOp a.eval o).run P w = .ok (.value v) w') (hp : p v w') (hb : Below w0.heap.size w0 w') : Turns P p o a w0 w Q := by
  unfold Turns Oper.wp
  rw [h]
  exact ⟨v, rfl, hp, hb⟩
theorem op_append {P : Program} {o : Oper} {a : Act} {w w' : World} {x y : Operand} {t : TypeId} {v1 v2 v : Value} (ho : o.op = .call { callee := .builtin .append, args := #[x, y], argTypes := #[t, t] }) (hx : a.eval x = v1) (hy : a.eval y = v2) (hr : (Builtin.append_ #[t, t] o.type #[v1, v2]).run P w = .ok v w') : (execOp a.eval o).run P w = .ok (.value v) w' := by
  simp only [execOp, ho, resolve, invoke, builtin, Sem.run_bind, Sem.run_pure, Result.andThen_ok, List.map_toArray, List.map_cons, List.map_nil, hx, hy, hr]
theorem build_none_run {w : World} {ev : Operand → Value} {o : Oper} (hop : o.op = .buildSlice 69 0 #[]) : (execOp ev o).run Tryz.prog w = .ok (.value (.slice (some ⟨w.heap.size, 0, none⟩) 0 0)) (w.alloc (.cells #[] 67)) := by
  simp only [execOp, hop, Array.map_empty, Sem.run_bind, build_none, Result.andThen_ok, Sem.run_pure]
theorem build_one_run {w : World} {ev : Operand → Value} {x : Operand} {o : Oper} {z : List Nat} (hz : z.length = 128) (hop : o.op = .buildSlice 69 1 #[(0, x)]) (hx : ev x = .agg (wq z)) : (execOp ev o).run Tryz.prog w = .ok (.value (.slice (some ⟨w.heap.size, 0, none⟩) 1 1)) (w.alloc (.cells (wq z) 67)) := by
  simp only [execOp, hop, List.map_toArray, List.map_cons, List.map_nil, hx, Sem.run_bind, build_one w hz, Result.andThen_ok, Sem.run_pure]

end Go.Proofs.YthbeoobfhfpelaaGreatDoor

namespace Go.Proofs.YthbeoobfhfpelaaGreatDoor
set_option maxRecDepth 50000
open Go.RowKit Bb

/-- an arena at block a: its budget, what is used, the most, how many pieces -/
def ars (B u h c : Nat) : Array Value := #[.int .i64 (B : Int), .int .i64 (u : Int), .int .i64 (h : Int), .int .i64 (c : Int)]
def AreAt (w : World) (a B u h c : Nat) : Prop := RowAt w a 125 (ars B u h c)
/-- a piece at block p -/
def pcs (a n : Nat) (live : Bool) (v : Value) : Array Value := #[.pointer (some ⟨a, 0, none⟩), .int .i64 (n : Int), .bool live, v]
def PceAt (w : World) (p a n : Nat) (live : Bool) (v : Value) : Prop := RowAt w p 127 (pcs a n live v)
/-- blocks at block g -/
def BlkAt (w : World) (g : Nat) (l : List (List Nat)) : Prop := RowAt w g 67 (bcs l).toArray
/-- a live piece and its blocks -/
structure LiveAt (w : World) (p a g : Nat) (l : List (List Nat)) : Prop where
  row : PceAt w p a l.length true (.slice (some ⟨g, 0, none⟩) l.length l.length)
  blk : BlkAt w g l
  ok : ∀ b ∈ l, okb b
def OffAt (w : World) (p a n : Nat) : Prop := PceAt w p a n false (.slice none 0 0)

section
variable {w w' : World} {a p g n B u h c : Nat} {live : Bool} {v : Value} {l : List (List Nat)} {M : Nat → Prop}
theorem RowAt.kept {t : TypeId} {C : Array Value} {b : Nat} (h : RowAt w b t C) (hk : Kept M w w') (hM : ¬ M b) : RowAt w' b t C := (hk.block b h.lt hM).trans h
theorem RowAt.unlike {t t' : TypeId} {C C' : Array Value} {b b' : Nat} (h : RowAt w b t C) (k : RowAt w b' t' C') (ht : (t == t') = false) : b ≠ b' := fun e => by
  subst e
  unfold RowAt at h k
  rw [h] at k
  simp only [Option.some.injEq, Obj.cells.injEq] at k
  rw [k.2.1] at ht
  simp at ht
theorem AreAt.at_ (h' : AreAt w a B u h c) : w.cell? ⟨a, 0, none⟩ = some (.int .i64 (B : Int)) ∧ w.cell? ⟨a, 1, none⟩ = some (.int .i64 (u : Int)) ∧ w.cell? ⟨a, 2, none⟩ = some (.int .i64 (h : Int)) ∧ w.cell? ⟨a, 3, none⟩ = some (.int .i64 (c : Int)) ∧
    w.frozen? ⟨a, 0, none⟩ = false ∧ w.frozen? ⟨a, 1, none⟩ = false ∧ w.frozen? ⟨a, 2, none⟩ = false ∧ w.frozen? ⟨a, 3, none⟩ = false :=
  ⟨by rw [RowAt.cell h' 0]; rfl, by rw [RowAt.cell h' 1]; rfl, by rw [RowAt.cell h' 2]; rfl, by rw [RowAt.cell h' 3]; rfl, RowAt.frozen h' 0, RowAt.frozen h' 1, RowAt.frozen h' 2, RowAt.frozen h' 3⟩
theorem PceAt.at_ (h' : PceAt w p a n live v) : w.cell? ⟨p, 0, none⟩ = some (.pointer (some ⟨a, 0, none⟩)) ∧ w.cell? ⟨p, 1, none⟩ = some (.int .i64 (n : Int)) ∧ w.cell? ⟨p, 2, none⟩ = some (.bool live) ∧ w.cell? ⟨p, 3, none⟩ = some v ∧
    w.frozen? ⟨p, 0, none⟩ = false ∧ w.frozen? ⟨p, 1, none⟩ = false ∧ w.frozen? ⟨p, 2, none⟩ = false ∧ w.frozen? ⟨p, 3, none⟩ = false :=
  ⟨by rw [RowAt.cell h' 0]; rfl, by rw [RowAt.cell h' 1]; rfl, by rw [RowAt.cell h' 2]; rfl, by rw [RowAt.cell h' 3]; rfl, RowAt.frozen h' 0, RowAt.frozen h' 1, RowAt.frozen h' 2, RowAt.frozen h' 3⟩
theorem AreAt.setU (h' : AreAt w a B u h c) (u' : Nat) : AreAt (w.setCell ⟨a, 1, none⟩ (.int .i64 (u' : Int))) a B u' h c := RowAt.setCell h' 1 _
theorem AreAt.setH (h' : AreAt w a B u h c) (x : Nat) : AreAt (w.setCell ⟨a, 2, none⟩ (.int .i64 (x : Int))) a B u x c := RowAt.setCell h' 2 _
theorem AreAt.setC (h' : AreAt w a B u h c) (x : Nat) : AreAt (w.setCell ⟨a, 3, none⟩ (.int .i64 (x : Int))) a B u h x := RowAt.setCell h' 3 _
theorem BlkAt.reads (h' : BlkAt w g l) : Reads w w.heap.size (some ⟨g, 0, none⟩) (bcs l) := fun k hk => by
  refine ⟨g, 0, rfl, RowAt.lt h', ?_⟩
  rw [Nat.zero_add, RowAt.cell h' k, List.getElem?_toArray, List.getElem?_eq_getElem hk]
end

theorem anew_bad (n : Int) (h : n < 0 ∨ 4194304 < n) (w : World) : Calls Tryz.prog 29 #[.int .i64 n] w fun e w' => e = .returned (.tuple #[.pointer none, .int .i64 1]) ∧ w' = w := by
  have hh : decide (n < 0) = true ∨ decide (n < 0) = false ∧ decide (4194304 < n) = true := by simp; omega
  rcases hh with d1 | ⟨d1, d2⟩
  all_goals
    go_enter Tryz.func29, Tryz.ntmps29
    go_wp2
    go_ret2
    exact ⟨rfl, rfl⟩
theorem anew_any (n : Nat) (h : n ≤ 4194304) (w : World) : Calls Tryz.prog 29 #[.int .i64 (n : Int)] w fun e w' => e = .returned (.tuple #[.pointer (some ⟨w.heap.size, 0, none⟩), .int .i64 0]) ∧ AreAt w' w.heap.size n 0 0 0 ∧ Below w.heap.size w w' := by
  have d1 : decide ((n : Int) < 0) = false := by simp
  have d2 : decide ((4194304 : Int) < (n : Int)) = false := by simp; omega
  have d3 : decide (4194304 < n) = false := by simp; omega
  go_enter Tryz.func29, Tryz.ntmps29
  go_wp2
  go_ret2
  exact ⟨rfl, RowAt.new _ _ _, (Below.refl _ _).alloc (Nat.le_refl _) _⟩

/-- the numbers of an arena, of none too -/
theorem ars_size : (Tryz.prog.info? 125).map (·.size) = some 4 := by kernel_rfl
theorem field_int (w : World) (B u h c : Nat) : (Instr.field 125 (.agg (ars B u h c)) 0).run Tryz.prog w = .ok (.int .i64 (B : Int)) w ∧ (Instr.field 125 (.agg (ars B u h c)) 1).run Tryz.prog w = .ok (.int .i64 (u : Int)) w ∧
    (Instr.field 125 (.agg (ars B u h c)) 2).run Tryz.prog w = .ok (.int .i64 (h : Int)) w ∧ (Instr.field 125 (.agg (ars B u h c)) 3).run Tryz.prog w = .ok (.int .i64 (c : Int)) w := by
  refine ⟨?_, ?_, ?_, ?_⟩ <;> simp [Instr.field, run_underlying Tryz.underlying125, asAgg, part, isAgg, run_underlying Tryz.underlying3, ars]
theorem len_nil (w : World) : Calls Tryz.prog 61 #[.pointer none] w fun e w' => e = .returned (.int .i64 0) ∧ w' = w := by
  go_enter Tryz.func61, Tryz.ntmps61
  go_wp2
  go_ret
  exact ⟨rfl, rfl⟩
theorem len_any {w : World} {p a n : Nat} {live : Bool} {v : Value} (h : PceAt w p a n live v) : Calls Tryz.prog 61 #[.pointer (some ⟨p, 0, none⟩)] w fun e w' => e = .returned (.int .i64 (n : Int)) ∧ w' = w := by
  obtain ⟨x0, x1, x2, x3, f0, f1, f2, f3⟩ := h.at_
  clear h
  go_enter Tryz.func61, Tryz.ntmps61
  go_wp2
  go_ret
  exact ⟨rfl, rfl⟩
end Go.Proofs.YthbeoobfhfpelaaGreatDoor

namespace Go.Proofs.YthbeoobfhfpelaaGreatDoor
set_option maxRecDepth 50000
open Go.RowKit Bb

theorem zb_cells' : u64s zb = List.replicate 128 (.int .u64 0) := by unfold u64s zb; rw [List.map_replicate]; rfl
theorem bcs_zeros : ∀ n : Nat, bcs (List.replicate n zb) = List.replicate (n * 128) (.int .u64 0)
  | 0 => rfl
  | n + 1 => by
    rw [List.replicate_succ, show bcs (zb :: List.replicate n zb) = u64s zb ++ bcs (List.replicate n zb) by simp [bcs], bcs_zeros n,
      zb_cells', List.replicate_append_replicate]
    congr 1
    omega
theorem zeros_ok (n : Nat) : ∀ b ∈ List.replicate n zb, okb b := fun b hb => by rw [List.eq_of_mem_replicate hb]; exact zb_ok
theorem made_b (n : Nat) : madeCells (wq zb) (n * 128) = (bcs (List.replicate n zb)).toArray := by
  rw [bcs_zeros]
  apply Array.ext
  · simp [size_madeCells]
  · intro i h1 h2
    simp only [madeCells, Array.getElem_map, Array.getElem_range, wq_size, List.getElem_toArray, List.getElem_replicate]
    rw [show zb.length = 128 by simp [zb], getElem!_pos (wq zb) (i % 128) (by rw [wq_size]; simp [zb]; omega)]
    simp only [wq, zb_cells', List.getElem_toArray, List.getElem_replicate]
theorem make_blocks (n : Nat) (hn : n ≤ 4194304) (w : World) : (Instr.makeSlice 69 (.int .i64 (n : Int)) (.int .i64 (n : Int))).run Tryz.prog w = .ok (.slice (some ⟨w.heap.size, 0, none⟩) n n) (w.alloc (.cells (bcs (List.replicate n zb)).toArray 67)) := by
  obtain ⟨i, hi, hz, hs, hb⟩ := b_parts
  have := run_make (P := Tryz.prog) w 69 67 i _ Tryz.underlying69 hi hz .i64 .i64 (n : Int) (n : Int) (by omega) (Int.le_refl _) (by rw [hb]; omega) (by omega)
  rw [this, hs, Int.toNat_natCast, ← made_b]
  rfl
theorem ares_nil (n : Int) (w : World) : Calls Tryz.prog 30 #[.pointer none, .int .i64 n] w fun e w' => e = .returned (.tuple #[.pointer none, .int .i64 11]) ∧ w' = w := by
  go_enter Tryz.func30, Tryz.ntmps30
  go_wp2
  go_ret2
  exact ⟨rfl, rfl⟩
theorem ares_neg (a : Addr) (n : Int) (hn : n < 0) (w : World) : Calls Tryz.prog 30 #[.pointer (some a), .int .i64 n] w fun e w' => e = .returned (.tuple #[.pointer none, .int .i64 1]) ∧ w' = w := by
  have d1 : decide (n < 0) = true := by simp; omega
  go_enter Tryz.func30, Tryz.ntmps30
  go_wp2
  go_ret2
  exact ⟨rfl, rfl⟩
set_option maxHeartbeats 800000 in
theorem ares_full {w : World} {a B u h c : Nat} (hA : AreAt w a B u h c) (n : Int) (hn0 : 0 ≤ n) (hn : (B : Int) - u < n) (hB : B ≤ 4194304) (hu : u ≤ B) : Calls Tryz.prog 30 #[.pointer (some ⟨a, 0, none⟩), .int .i64 n] w fun e w' => e = .returned (.tuple #[.pointer none, .int .i64 4]) ∧ ∃ q, w' = w.drewN q := by
  obtain ⟨x0, x1, x2, x3, f0, f1, f2, f3⟩ := hA.at_
  clear hA
  obtain ⟨r, hr⟩ : ∃ r : Nat, (B : Int) - u = r := ⟨B - u, by omega⟩
  have d1 : decide (n < 0) = false := by simp; omega
  have d2 : decide ((r : Int) < n) = true := by simp; omega
  have hw : IntKind.i64.wrap ((B : Int) - u) = (r : Int) := by rw [IntKind.wrap_i64]; omega
  go_enter Tryz.func30, Tryz.ntmps30
  go_wp2
  go_quiet (fail)
  go_wp2
  go_ret2
  exact ⟨rfl, _, rfl⟩

set_option maxHeartbeats 1600000 in
theorem ares_any {w : World} {a B u h c : Nat} (hA : AreAt w a B u h c) (n : Nat) (hn : u + n ≤ B) (hB : B ≤ 4194304) (hc : c ≤ 4194304) : Calls Tryz.prog 30 #[.pointer (some ⟨a, 0, none⟩), .int .i64 (n : Int)] w fun e w' => (∃ p g, e = .returned (.tuple #[.pointer (some ⟨p, 0, none⟩), .int .i64 0]) ∧ LiveAt w' p a g (List.replicate n zb) ∧ w.heap.size ≤ p ∧ w.heap.size ≤ g) ∧ AreAt w' a B (u + n) (max h (u + n)) (c + 1) ∧ Kept (fun k => k = a) w w' := by
  obtain ⟨x0, x1, x2, x3, f0, f1, f2, f3⟩ := hA.at_
  have HA := Lib.hid fun q => ((AreAt.setU (w := w.drewN q) hA (u + n)).setC (c + 1))
  clear hA
  obtain ⟨r, hr⟩ : ∃ r : Nat, (B : Int) - u = r := ⟨B - u, by omega⟩
  have d1 : decide ((n : Int) < 0) = false := by simp
  have d2 : decide ((r : Int) < (n : Int)) = false := by simp; omega
  have d3 : decide (r < n) = false := by simp; omega
  have hw : IntKind.i64.wrap ((B : Int) - u) = (r : Int) := by rw [IntKind.wrap_i64]; omega
  have hm : max (h : Int) ((u : Int) + (n : Int)) = ((max h (u + n) : Nat) : Int) := by omega
  have hmk := make_blocks n (by omega)
  have hln : (List.replicate n zb).length = n := List.length_replicate ..
  generalize max h (u + n) = m at *
  go_enter Tryz.func30, Tryz.ntmps30
  go_wp2
  go_quiet (fail)
  go_wp2
  obtain ⟨w1, e1⟩ : ∃ w1, w1 = ((w.drewN nq).setCell ⟨a, 1, none⟩ (.int .i64 ((u : Int) + n))).setCell ⟨a, 3, none⟩ (.int .i64 ((c : Int) + 1)) := ⟨_, rfl⟩
  have hK : Kept (fun k => k = a) w w1 := by
    rw [e1]
    have h0 : Kept (fun k => k = a) w (w.drewN nq) := ⟨rfl, rfl, rfl, Nat.le_refl _, fun _ _ _ => rfl⟩
    exact (h0.set (p := ⟨a, 1, none⟩) (.inl rfl) _).set (p := ⟨a, 3, none⟩) (.inl rfl) _
  have hA1 : AreAt w1 a B (u + n) h (c + 1) := by
    have := HA.out nq
    rw [show ((u + n : Nat) : Int) = (u : Int) + n by omega, show ((c + 1 : Nat) : Int) = (c : Int) + 1 by omega] at this
    rw [e1]
    exact this
  rw [← e1]
  clear e1 HA x0 x1 x2 x3 f0 f1 f2 f3
  obtain ⟨y0, y1, y2, y3, f0, f1, f2, f3⟩ := hA1.at_
  have HA := Lib.hid (AreAt.setH (w := w1.drew) hA1 m)
  have HK := Lib.hid hK
  clear hK hA1
  rw [show ((u + n : Nat) : Int) = (u : Int) + n by omega] at y1
  clear y0 y3 f0 f1 f3
  go_region
  go_wp2
  go_ret2
  have hs := HK.out.size
  have HZ := zeros_ok n
  generalize List.replicate n zb = l at *
  obtain rfl := hln
  generalize hw2 : w1.setCell _ _ = w2
  have hA2 : AreAt w2 a B (u + l.length) m (c + 1) := by rw [← hw2]; exact HA.out
  have hs2 : w2.heap.size = w1.heap.size := by rw [← hw2]; simp [World.setCell]
  have hK2 : Kept (fun k => k = a) w w2 := by rw [← hw2]; exact HK.out.set (p := ⟨a, 2, none⟩) (.inl rfl) _
  have R1 := RowAt.new w2 67 (bcs l).toArray
  have R2 := RowAt.new (w2.alloc (.cells (bcs l).toArray 67)) 127 (pcs a l.length true (.slice (some ⟨w2.heap.size, 0, none⟩) l.length l.length))
  rw [World.size_alloc] at R2
  rw [← hs2]
  exact ⟨⟨_, w2.heap.size, rfl, ⟨R2, R1.alloc _, HZ⟩, by omega, by omega⟩, (RowAt.alloc hA2 _).alloc _, ((hK2.alloc _).alloc _).drew⟩
end Go.Proofs.YthbeoobfhfpelaaGreatDoor

namespace Go.Proofs.YthbeoobfhfpelaaGreatDoor
set_option maxRecDepth 50000
open Go.RowKit Bb

theorem ar_type : ∃ j, Tryz.prog.info? 125 = some j ∧ j.size = 4 := by
  have h := ars_size
  cases hq : Tryz.prog.info? 125 with
  | none => rw [hq] at h; cases h
  | some i => rw [hq] at h; exact ⟨i, rfl, by simpa using h⟩
theorem neq_same (a : Nat) (w : World) : (binOp .neq 79 (.pointer (some ⟨a, 0, none⟩)) (.pointer (some ⟨a, 0, none⟩))).run Tryz.prog w = .ok (.bool false) w := by
  obtain ⟨j, hj, hs⟩ := ar_type
  have h : ∀ d : Nat, (Op.equalIn (d + 1) 79 (.pointer (some ⟨a, 0, none⟩)) (.pointer (some ⟨a, 0, none⟩))).run Tryz.prog w = .ok true w := fun d => by
    simp [Op.equalIn, run_underlying Tryz.underlying79, sizeOf, typeInfo, hj, run_sameAddr_same]
  simp only [binOp]
  simp [Op.equal, Op.maxDepth, h 9999]
theorem neq_other {w : World} {a a' B B' u u' h h' c c' : Nat} (hA : AreAt w a B u h c) (hA' : AreAt w a' B' u' h' c') (hne : a' ≠ a) : (binOp .neq 79 (.pointer (some ⟨a', 0, none⟩)) (.pointer (some ⟨a, 0, none⟩))).run Tryz.prog w = .ok (.bool true) w := by
  obtain ⟨j, hj, hs⟩ := ar_type
  have hn : (⟨a', 0, none⟩ : Addr) ≠ ⟨a, 0, none⟩ := fun e => hne (by injection e)
  have h : ∀ d : Nat, (Op.equalIn (d + 1) 79 (.pointer (some ⟨a', 0, none⟩)) (.pointer (some ⟨a, 0, none⟩))).run Tryz.prog w = .ok false w := fun d => by
    simp [Op.equalIn, run_underlying Tryz.underlying79, sizeOf, typeInfo, hj, hs, run_sameAddr_other w hn hA' hA]
  simp only [binOp]
  simp [Op.equal, Op.maxDepth, h 9999]

end Go.Proofs.YthbeoobfhfpelaaGreatDoor

namespace Go.Proofs.YthbeoobfhfpelaaGreatDoor
set_option maxRecDepth 50000
open Go.RowKit Bb

section
variable {w : World} {p a g n : Nat} {live : Bool} {v : Value} {l : List (List Nat)}
theorem fault_nil (i : Int) (w : World) : Calls Tryz.prog 82 #[.pointer none, .int .i64 i] w fun e w' => e = .returned (.int .i64 11) ∧ w' = w := by
  go_enter Tryz.func82, Tryz.ntmps82
  go_wp2
  go_ret
  exact ⟨rfl, rfl⟩
theorem fault_out (hP : PceAt w p a n live v) (i : Int) (hi : i < 0 ∨ (n : Int) ≤ i) : Calls Tryz.prog 82 #[.pointer (some ⟨p, 0, none⟩), .int .i64 i] w fun e w' => e = .returned (.int .i64 11) ∧ w' = w := by
  obtain ⟨x0, x1, x2, x3, f0, f1, f2, f3⟩ := hP.at_
  clear hP
  have hh : decide (i < 0) = true ∨ decide (i < 0) = false ∧ decide ((n : Int) ≤ i) = true := by simp; omega
  rcases hh with d1 | ⟨d1, d2⟩
  all_goals
    go_enter Tryz.func82, Tryz.ntmps82
    go_wp2
    go_ret
    exact ⟨rfl, rfl⟩
theorem fault_in (hP : PceAt w p a n live v) (i : Nat) (hi : i < n) : Calls Tryz.prog 82 #[.pointer (some ⟨p, 0, none⟩), .int .i64 (i : Int)] w fun e w' => e = .returned (.int .i64 (if live then 0 else 12)) ∧ w' = w := by
  obtain ⟨x0, x1, x2, x3, f0, f1, f2, f3⟩ := hP.at_
  clear hP
  have d1 : decide ((i : Int) < 0) = false := by simp
  have d2 : decide ((n : Int) ≤ (i : Int)) = false := by simp; omega
  have d3 : decide (n ≤ i) = false := by simp; omega
  cases live
  all_goals
    go_enter Tryz.func82, Tryz.ntmps82
    go_wp2
    go_ret
    exact ⟨rfl, rfl⟩

/-- what is at fault, as a number; 0: nothing -/
def faN (n : Nat) (live : Bool) (i : Int) : Int := if i < 0 ∨ (n : Int) ≤ i then 11 else if live then 0 else 12
theorem fault_any (hP : PceAt w p a n live v) (i : Int) : Calls Tryz.prog 82 #[.pointer (some ⟨p, 0, none⟩), .int .i64 i] w fun e w' => e = .returned (.int .i64 (faN n live i)) ∧ w' = w := by
  by_cases h : i < 0 ∨ (n : Int) ≤ i
  · rw [show faN n live i = 11 from if_pos h]; exact fault_out hP i h
  · rw [show faN n live i = if live then 0 else 12 from if_neg h]
    obtain ⟨k, rfl⟩ := Int.eq_ofNat_of_zero_le (show 0 ≤ i by omega)
    exact fault_in hP k (by omega)
theorem fa_ok {i : Nat} (hi : i < n) : faN n true (i : Int) = 0 := by
  unfold faN; rw [if_neg (by omega)]; rfl

end
end Go.Proofs.YthbeoobfhfpelaaGreatDoor

namespace Go.Proofs.YthbeoobfhfpelaaGreatDoor
set_option maxRecDepth 50000
open Go.RowKit Bb

theorem wpStill_load_b {P : Program} {ops : Array Oper} {w : World} {Q : Act → Prop} {a : Act} {o : Oper} {rest : List Oper} (hg : o.guard = none) (ty : TypeId) (x : Operand) (ho : o.op = .load ty x) (ad : Addr) (v : Value) (hx : a.eval x = .pointer (some ad))
    (hl : (loadVar ty ad).run P w = .ok v w) (h : wpStill P ops w Q rest (a.put o.dst v)) : wpStill P ops w Q (o :: rest) a := by
  refine wpStill_step fun K hK => ?_
  rw [if_pos (by simp [Region.wanted, hg])]
  unfold Oper.still execOp
  simp only [ho, hx, Instr.loadAt, Instr.sureAddr, Sem.run_bind, Sem.run_pure, Result.andThen_ok, hl]
  exact ⟨rfl, hK _ h⟩

theorem okl_take {l : List (List Nat)} (h : ∀ b ∈ l, okb b) (i : Nat) : ∀ b ∈ l.take i, okb b := fun b hb => h b (List.mem_of_mem_take hb)
theorem okl_set {l : List (List Nat)} (h : ∀ b ∈ l, okb b) (i : Nat) {x : List Nat} (hx : okb x) : ∀ b ∈ l.set i x, okb b := fun b hb => by
  rcases List.mem_or_eq_of_mem_set hb with hb | rfl
  · exact h b hb
  · exact hx
theorem bcs_set {l : List (List Nat)} (h : ∀ b ∈ l, okb b) (i : Nat) (hi : i < l.length) (x : List Nat) : (bcs l).take (i * 128) ++ u64s x ++ (bcs l).drop (i * 128 + 128) = bcs (l.set i x) := by
  have h1 : (bcs (l.take i)).length = i * 128 := by rw [bcs_length (okl_take h i), List.length_take]; congr 1; omega
  have h2 : (bcs (l.take (i + 1))).length = i * 128 + 128 := by rw [bcs_length (okl_take h (i + 1)), List.length_take]; rw [show min (i + 1) l.length = i + 1 by omega]; omega
  have e1 : bcs l = bcs (l.take i) ++ bcs (l.drop i) := by rw [← bcs_append, List.take_append_drop]
  have e2 : bcs l = bcs (l.take (i + 1)) ++ bcs (l.drop (i + 1)) := by rw [← bcs_append, List.take_append_drop]
  have t1 : (bcs l).take (i * 128) = bcs (l.take i) := by rw [e1, ← h1]; exact List.take_left
  have t2 : (bcs l).drop (i * 128 + 128) = bcs (l.drop (i + 1)) := by rw [e2, ← h2]; exact List.drop_left
  rw [t1, t2, List.set_eq_take_append_cons_drop, if_pos hi, bcs_append, show bcs (x :: l.drop (i + 1)) = u64s x ++ bcs (l.drop (i + 1)) by simp [bcs], List.append_assoc]

section
variable {w w' : World} {p a g n : Nat} {live : Bool} {v : Value} {l : List (List Nat)}
theorem BlkAt.at_ (h : BlkAt w g l) (ho : ∀ b ∈ l, okb b) (i : Nat) (hi : i < l.length) : ∀ k, k < 128 → w.cell? ⟨g, i * 128 + k, none⟩ = some (.int .u64 (((l.getD i []).getD k 0 : Nat) : Int)) := fun k hk => by
  rw [RowAt.cell h, List.getElem?_toArray, bcs_at ho i k hi hk]
theorem BlkAt.load (h : BlkAt w g l) (ho : ∀ b ∈ l, okb b) (i : Nat) (hi : i < l.length) : (loadVar 67 ⟨g, i * 128, none⟩).run Tryz.prog w = .ok (.agg (wq (l.getD i []))) w :=
  load_b (block_ok ho i hi).1 (h.at_ ho i hi)
theorem BlkAt.store (h : BlkAt w g l) (ho : ∀ b ∈ l, okb b) (i : Nat) (hi : i < l.length) {x : List Nat} (hx : okb x) : (storeVar 67 ⟨g, i * 128, none⟩ (.agg (wq x))).run Tryz.prog w = .ok () (w.setRow g (bcs (l.set i x)).toArray) := by
  have hst := run_storeCells_at Tryz.prog g (i * 128) 67 (u64s x) 0 (bcs l).toArray w h (by
    rw [List.size_toArray, bcs_length ho, u64s_length, hx.1]
    have : i * 128 + 128 ≤ l.length * 128 := by omega
    omega) (fun v hv => by
    obtain ⟨y, _, rfl⟩ := List.mem_map.1 hv
    rfl)
  rw [u64s_length, hx.1, Nat.add_zero] at hst
  rw [bcs_set ho i hi x] at hst
  have hz := b_size
  cases hq : Tryz.prog.info? 67 with
  | none => rw [hq] at hz; simp at hz
  | some j =>
    have hsz : j.size = 128 := by rw [hq] at hz; simpa using hz
    have hc : (Value.agg (wq x)).cells = wq x := rfl
    have hl : (wq x).toList = u64s x := rfl
    simp [storeVar, sizeOf, typeInfo, hq, hsz, hc, wq_size, hx.1, hl, hst]
theorem LiveAt.alloc (h : LiveAt w p a g l) (o : Obj) : LiveAt (w.alloc o) p a g l := ⟨RowAt.alloc h.row o, RowAt.alloc h.blk o, h.ok⟩
theorem LiveAt.drew (h : LiveAt w p a g l) : LiveAt w.drew p a g l := ⟨h.row, h.blk, h.ok⟩
theorem LiveAt.drewN (h : LiveAt w p a g l) (q : Nat) : LiveAt (w.drewN q) p a g l := ⟨h.row, h.blk, h.ok⟩
theorem LiveAt.set (h : LiveAt w p a g l) (i : Nat) {x : List Nat} (hx : okb x) : LiveAt (w.setRow g (bcs (l.set i x)).toArray) p a g (l.set i x) :=
  ⟨by rw [List.length_set]; exact RowAt.setRowOther h.row g (RowAt.unlike h.row h.blk (by rfl)).symm _, RowAt.setRow h.blk _, okl_set h.ok i hx⟩

set_option maxHeartbeats 1600000 in
theorem get_bad_way (z : Int) (hz0 : z ≠ 0) (P : Option Addr) (i : Int) (w : World) (C : Calls Tryz.prog 82 #[.pointer P, .int .i64 i] (w.alloc (.cells (wq zb) 67)) fun e w' => e = .returned (.int .i64 z) ∧ w' = w.alloc (.cells (wq zb) 67)) :
    Calls Tryz.prog 70 #[.pointer P, .int .i64 i] w fun e w' => e = .returned (.tuple #[.agg (wq zb), .int .i64 z]) ∧ Below w.heap.size w w' := by
  have hz := zero_b
  have C := Lib.hid C
  have d1 : (z != 0) = true := by simpa using hz0
  have d2 : (z == 0) = false := by simpa using hz0
  have HR := Lib.hid (RowAt.new w 67 (wq zb))
  clear hz0
  go_enter Tryz.func70, Tryz.ntmps70
  go_wp2_with fail
  refine C.out.mono ?_; rintro e w' ⟨rfl, rfl⟩
  go_wp2_with (first
    | refine wpList_value_want rfl _ (bbuild_run _ _ rfl) ?_
    | refine wpList_store_row rfl 67 (.tmp 4) (.tmp 12) rfl w.heap.size (wq zb) rfl rfl 67 _ HR.out b_size rfl (wq_one _) ?_)
  have hR := RowAt.setRow HR.out (wq zb)
  refine bodyPost_ret (results_row_tmp rfl _ (p := 4) rfl hR Tryz.underlying67 rfl b_size) rfl ⟨rfl, ?_⟩
  exact below_setRow ((Below.refl _ _).alloc (Nat.le_refl _) _) (Nat.le_refl _) _
theorem get_nil (i : Int) (w : World) : Calls Tryz.prog 70 #[.pointer none, .int .i64 i] w fun e w' => e = .returned (.tuple #[.agg (wq zb), .int .i64 11]) ∧ Below w.heap.size w w' :=
  get_bad_way 11 (by decide) none i w (fault_nil i _)
theorem get_bad (hP : PceAt w p a n live v) (i : Int) (hi : faN n live i ≠ 0) : Calls Tryz.prog 70 #[.pointer (some ⟨p, 0, none⟩), .int .i64 i] w fun e w' => e = .returned (.tuple #[.agg (wq zb), .int .i64 (faN n live i)]) ∧ Below w.heap.size w w' :=
  get_bad_way _ hi _ i w (fault_any (RowAt.alloc hP _) i)
set_option maxHeartbeats 1600000 in
theorem get_any (hP : LiveAt w p a g l) (i : Nat) (hi : i < l.length) : Calls Tryz.prog 70 #[.pointer (some ⟨p, 0, none⟩), .int .i64 (i : Int)] w fun e w' => e = .returned (.tuple #[.agg (wq (l.getD i [])), .int .i64 0]) ∧ Below w.heap.size w w' := by
  have hz := zero_b
  have hP1 := hP.alloc (.cells (wq zb) 67)
  have C := Lib.hid (fault_any hP1.row i)
  rw [fa_ok hi] at C
  have HR := Lib.hid (RowAt.new w 67 (wq zb))
  have HL := Lib.hid (hP1.blk.load hP1.ok i hi)
  have hx : okb (l.getD i []) := block_ok hP.ok i hi
  have HS : Hid ((wq (l.getD i [])).size = 128) := Lib.hid (by rw [wq_size]; exact hx.1)
  generalize l.getD i [] = x at *
  obtain ⟨x0, x1, x2, x3, f0, f1, f2, f3⟩ := hP1.row.at_
  have hi0 : (0 : Int) ≤ (i : Int) := by omega
  have hi1 : (i : Int) < (l.length : Int) := by omega
  clear hP hP1 hx
  go_enter Tryz.func70, Tryz.ntmps70
  go_wp2_with fail
  refine C.out.mono ?_; rintro e w' ⟨rfl, rfl⟩
  go_wp2_with (first
    | refine wpList_load_of rfl 67 (.tmp 19) rfl ⟨g, i * 128, none⟩ _ (by first | rfl | simp [Act.eval]) HL.out ?_
    | refine wpList_store_row rfl 67 (.tmp 4) (.tmp 20) rfl w.heap.size (wq x) rfl rfl 67 _ HR.out (by rw [HS.out]; exact b_size) (by rw [HS.out, wq_size]; exact zb_ok.1) (wq_one _) ?_)
  have hR := RowAt.setRow HR.out (wq x)
  refine bodyPost_ret (results_row_tmp rfl _ (p := 4) rfl hR Tryz.underlying67 rfl (by rw [HS.out]; exact b_size)) rfl ⟨rfl, ?_⟩
  exact below_setRow ((Below.refl _ _).alloc (Nat.le_refl _) _) (Nat.le_refl _) _

set_option maxHeartbeats 1600000 in
theorem set_bad_way (z : Int) (hz0 : z ≠ 0) (P : Option Addr) (i : Int) (x : List Nat) (w : World) (C : Calls Tryz.prog 82 #[.pointer P, .int .i64 i] (w.alloc (.cells (wq x) 67)) fun e w' => e = .returned (.int .i64 z) ∧ w' = w.alloc (.cells (wq x) 67)) :
    Calls Tryz.prog 63 #[.pointer P, .int .i64 i, .agg (wq x)] w fun e w' => e = .returned (.int .i64 z) ∧ Below w.heap.size w w' := by
  have C := Lib.hid C
  have d1 : (z != 0) = true := by simpa using hz0
  have d2 : (z == 0) = false := by simpa using hz0
  clear hz0
  go_enter Tryz.func63, Tryz.ntmps63
  go_wp2_with fail
  refine C.out.mono ?_; rintro e w' ⟨rfl, rfl⟩
  go_wp2
  go_ret
  exact ⟨rfl, (Below.refl _ _).alloc (Nat.le_refl _) _⟩
theorem pset_nil (i : Int) (x : List Nat) (w : World) : Calls Tryz.prog 63 #[.pointer none, .int .i64 i, .agg (wq x)] w fun e w' => e = .returned (.int .i64 11) ∧ Below w.heap.size w w' :=
  set_bad_way 11 (by decide) none i x w (fault_nil i _)
theorem pset_bad (hP : PceAt w p a n live v) (i : Int) (hi : faN n live i ≠ 0) (x : List Nat) : Calls Tryz.prog 63 #[.pointer (some ⟨p, 0, none⟩), .int .i64 i, .agg (wq x)] w fun e w' => e = .returned (.int .i64 (faN n live i)) ∧ Below w.heap.size w w' :=
  set_bad_way _ hi _ i x w (fault_any (RowAt.alloc hP _) i)
set_option maxHeartbeats 1600000 in
theorem pset_any (hP : LiveAt w p a g l) (i : Nat) (hi : i < l.length) {x : List Nat} (hx : okb x) : Calls Tryz.prog 63 #[.pointer (some ⟨p, 0, none⟩), .int .i64 (i : Int), .agg (wq x)] w fun e w' => e = .returned (.int .i64 0) ∧ LiveAt w' p a g (l.set i x) ∧ Kept (fun k => k = g) w w' := by
  have hP1 := hP.alloc (.cells (wq x) 67)
  have C := Lib.hid (fault_any hP1.row i)
  rw [fa_ok hi] at C
  obtain ⟨w1, e1⟩ : ∃ w1, w1 = w.alloc (.cells (wq x) 67) := ⟨_, rfl⟩
  rw [← e1] at hP1
  have HR : Hid (RowAt w1 w.heap.size 67 (wq x)) := Lib.hid (by rw [e1]; exact RowAt.new w _ _)
  have HK : Hid (Kept (fun k => k = g) w w1) := Lib.hid (by rw [e1]; exact (Kept.refl _ w).alloc _)
  have HS : Hid ((wq x).size = 128) := Lib.hid (by rw [wq_size]; exact hx.1)
  have HST := Lib.hid (BlkAt.store hP1.drew.blk hP1.ok i hi hx)
  have HP := Lib.hid (hP1.drew.set i hx)
  have HLX2 := Lib.hid (show (loadVar 67 ⟨w.heap.size, 0, none⟩).run Tryz.prog w1.drew = .ok (.agg (wq x)) w1.drew from RowAt.load (RowAt.drew HR.out) Tryz.underlying67 (by rw [HS.out]; exact b_size))
  obtain ⟨x0, x1, x2, x3, f0, f1, f2, f3⟩ := hP1.row.at_
  have hi0 : (0 : Int) ≤ (i : Int) := by omega
  have hi1 : (i : Int) < (l.length : Int) := by omega
  have E1 := Lib.hid e1
  clear hP hP1 hx e1
  go_enter Tryz.func63, Tryz.ntmps63
  go_wp2_with fail
  refine C.out.mono ?_; rintro e w' ⟨rfl, rfl⟩
  rw [← E1.out]
  clear C
  go_wp2
  refine wp_region_still_tail 7 (by kernel_rfl) (by kernel_rfl) ?_
  simp only [List.take_succ_cons, List.take_zero, List.drop_succ_cons, List.drop_zero]
  repeat still_step
  refine wpStill_load_b rfl 67 (.tmp 5) rfl ⟨w.heap.size, 0, none⟩ _ rfl HLX2.out ?_
  simp only [Act.put, List.setIfInBounds_toArray, List.set_cons_succ, List.set_cons_zero]
  repeat still_step
  refine wpStill_nil ?_
  change wpList _ _ _ _ _ w1.drew
  go_wp2_with (refine wpList_store_of rfl 67 (.tmp 20) (.tmp 19) rfl ⟨g, i * 128, none⟩ (.agg (wq x)) (by first | rfl | simp [Act.eval]) rfl HST.out ?_)
  go_ret
  exact ⟨rfl, HP.out, HK.out.drew.trans ⟨rfl, rfl, rfl, Nat.le_of_eq (setRow_size _ _ _).symm, fun k _ hne => setRow_other _ _ _ _ hne⟩ (fun _ _ e => e)⟩
end
end Go.Proofs.YthbeoobfhfpelaaGreatDoor

namespace Go.Proofs.YthbeoobfhfpelaaGreatDoor
set_option maxRecDepth 50000
open Go.RowKit Bb

theorem orTo_ups_b (f : Nat → Nat) (hf : ∀ i, f i < 256) (m : Nat) : orTo ups f (m + 1) = orTo ups f m + f m * 2 ^ (8 * m) := by
  have h : orTo ups f m < 2 ^ (8 * m) := orTo_lt ups m (fun i h => h) f hf m (Nat.le_refl _)
  rw [orTo, Nat.or_comm, show f m * 2 ^ (8 * ups m) = 2 ^ (8 * m) * f m from by rw [Nat.mul_comm]; rfl, ← Nat.two_pow_add_eq_or_of_lt h, Nat.add_comm, Nat.mul_comm]
/-- a byte of eight that are put together -/
theorem byte_of8 (f : Nat → Nat) (hf : ∀ i, f i < 256) (i : Nat) (hi : i < 8) : orTo ups f 8 / 2 ^ (8 * i) % 256 = f i := by
  have e : orTo ups f 8 = f 0 + f 1 * 256 + f 2 * 65536 + f 3 * 16777216 + f 4 * 4294967296 + f 5 * 1099511627776 + f 6 * 281474976710656 + f 7 * 72057594037927936 := by
    rw [orTo_ups_b f hf 7, orTo_ups_b f hf 6, orTo_ups_b f hf 5, orTo_ups_b f hf 4, orTo_ups_b f hf 3, orTo_ups_b f hf 2, orTo_ups_b f hf 1, orTo_ups_b f hf 0]
    simp [orTo]
  rw [e]
  have h0 := hf 0; have h1 := hf 1; have h2 := hf 2; have h3 := hf 3; have h4 := hf 4; have h5 := hf 5; have h6 := hf 6; have h7 := hf 7
  clear e hf
  rcases (show i = 0 ∨ i = 1 ∨ i = 2 ∨ i = 3 ∨ i = 4 ∨ i = 5 ∨ i = 6 ∨ i = 7 by omega) with rfl | rfl | rfl | rfl | rfl | rfl | rfl | rfl <;> (generalize f 0 = a0 at *; generalize f 1 = a1 at *; generalize f 2 = a2 at *; generalize f 3 = a3 at *; generalize f 4 = a4 at *; generalize f 5 = a5 at *; generalize f 6 = a6 at *; generalize f 7 = a7 at *; simp only [Nat.mul_zero, Nat.pow_zero, Nat.div_one, Nat.reduceMul, Nat.reducePow]; omega)
/-- the bytes of the words that are made of bytes -/
theorem bytes_words (M : Nat) (bs : List Nat) (hM : bs.length = 8 * M) (hx : ∀ x ∈ bs, x < 256) : (wordsAt ups 8 M bs (8 * M)).flatMap (bytesOf ups 8) = bs := by
  have hl : (wordsAt ups 8 M bs (8 * M)).length = M := by simp [wordsAt]
  refine List.ext_getElem (by rw [flat_length, hl, hM]) fun t h1 h2 => ?_
  have ht : t < 8 * M := by omega
  have e := flat_getD 8 (bytesOf ups 8) (fun x => bytesOf_length ups 8 x) (wordsAt ups 8 M bs (8 * M)) (t / 8) (t % 8) (by rw [hl]; omega) (by omega)
  rw [show t / 8 * 8 + t % 8 = t by omega] at e
  have e1 : ((wordsAt ups 8 M bs (8 * M)).flatMap (bytesOf ups 8)).getD t 0 = ((wordsAt ups 8 M bs (8 * M)).flatMap (bytesOf ups 8))[t] := by
    rw [List.getD_eq_getElem?_getD, List.getElem?_eq_getElem h1]; rfl
  rw [← e1, e]
  have e2 : (wordsAt ups 8 M bs (8 * M))[t / 8]'(by rw [hl]; omega) = orTo ups (fun i => bs.getD (t / 8 * 8 + i) 0) 8 := by
    simp only [wordsAt, List.getElem_map, List.getElem_range, wordAt]
    rw [show min 8 (8 * M - t / 8 * 8) = 8 by omega]
  rw [e2]
  have e3 : (bytesOf ups 8 (orTo ups (fun i => bs.getD (t / 8 * 8 + i) 0) 8)).getD (t % 8) 0 = orTo ups (fun i => bs.getD (t / 8 * 8 + i) 0) 8 / 2 ^ (8 * (t % 8)) % 256 := by
    rw [List.getD_eq_getElem?_getD, List.getElem?_eq_getElem (by rw [bytesOf_length]; omega)]
    simp [bytesOf, ups]
  rw [e3, byte_of8 _ (fun i => getD_lt bs hx _) _ (by omega), show t / 8 * 8 + t % 8 = t by omega, List.getD_eq_getElem?_getD, List.getElem?_eq_getElem h2]
  rfl

/-- a block's bytes as numbers, and the block of so many bytes -/
def byB (L : List Nat) : List Nat := L.flatMap (bytesOf ups 8)
def frB (bs : List Nat) : List Nat := wordsAt ups 8 128 bs (8 * 128)
theorem byB_length {L : List Nat} (h : okb L) : (byB L).length = 1024 := by rw [byB, flat_length, h.1]
theorem byB_lt (L : List Nat) : ∀ x ∈ byB L, x < 256 := flat_lt _ _ _
theorem frB_ok (bs : List Nat) (hx : ∀ x ∈ bs, x < 256) : okb (frB bs) := by
  refine ⟨by simp [frB, wordsAt], fun x h => ?_⟩
  simp only [frB, wordsAt, List.mem_map, List.mem_range] at h
  obtain ⟨j, _, rfl⟩ := h
  exact wordAt_lt ups 8 (fun i h => h) bs hx _ _
theorem fr_by {L : List Nat} (h : okb L) : frB (byB L) = L := by
  have := words_back ups 8 (onto_ups 8) L (fun x hx => by have := h.2 x hx; omega)
  rwa [h.1] at this
theorem by_fr (bs : List Nat) (hl : bs.length = 1024) (hx : ∀ x ∈ bs, x < 256) : byB (frB bs) = bs := bytes_words 128 bs (by omega) hx
theorem str_nb (s : ByteArray) : strOf (nb s) = s := by
  unfold strOf strOfNums nb
  rw [List.map_map, List.map_map]
  conv => rhs; rw [show s = ⟨s.data.toList.toArray⟩ by rw [Array.toArray_toList]]
  congr 2
  conv => rhs; rw [← List.map_id s.data.toList]
  exact List.map_congr_left fun b _ => by simp
theorem nb_str (l : List Nat) (h : ∀ x ∈ l, x < 256) : nb (strOf l) = l := by
  unfold nb strOf strOfNums
  simp only [List.map_map]
  conv => rhs; rw [← List.map_id l]
  exact List.map_congr_left fun x hx => by
    have := h x hx
    simp [Nat.mod_eq_of_lt this]

theorem from_bad (s : ByteArray) (h : s.size ≠ 1024) (w : World) : Calls Tryz.prog 65 #[.string s] w fun e w' => e = .returned (.tuple #[.agg (wq zb), .int .i64 9]) ∧ Below w.heap.size w w' := by
  have h1 : ((s.size : Int) == 1024) = false := by simp; omega
  have h2 : ((s.size : Int) != 1024) = true := by simp; omega
  have RN := Lib.hid (RowAt.new w 67 (wq zb))
  have HB := Lib.hid ((Below.refl _ w).alloc (Nat.le_refl _) (.cells (wq zb) 67))
  have hz := zero_b
  have hb := build_b
  clear h
  go_enter Tryz.func65, Tryz.ntmps65
  go_wp2_with (first
    | refine wpList_value_want rfl _ (bbuild_run _ _ rfl) ?_
    | refine wpList_store_row rfl 67 (.tmp 2) (.tmp 9) rfl w.heap.size (wq zb) rfl rfl 67 _ RN.out (by rw [wq_size, zb_ok.1]; exact b_size) rfl (wq_one _) ?_)
  refine bodyPost_ret ?_ rfl ⟨rfl, below_setRow HB.out (Nat.le_refl _) _⟩
  exact results_row_tmp (fn := Tryz.f65) (p := 2) (u := 3) (b := w.heap.size) (t := 67) (C := wq zb) rfl _ rfl (RN.out.setRow _) Tryz.underlying67 rfl (by rw [wq_size, zb_ok.1]; exact b_size)

theorem array_at (g c : Nat) (w : World) : (Instr.arrayAt 67 (.slice (some ⟨g, 0, none⟩) 128 c)).run Tryz.prog w = .ok (.pointer (some ⟨g, 0, none⟩)) w := by
  simp [Instr.arrayAt, go_sem]

set_option maxHeartbeats 1600000 in
theorem from_any (s : ByteArray) (h : s.size = 1024) (w : World) : Calls Tryz.prog 65 #[.string s] w fun e w' => e = .returned (.tuple #[.agg (wq (frB (nb s))), .int .i64 0]) ∧ Below w.heap.size w w' := by
  have h1 : ((s.size : Int) == 1024) = true := by simp; omega
  have h2 : ((s.size : Int) != 1024) = false := by simp; omega
  have hfo := frB_ok (nb s) (nb_lt s)
  have RN := RowAt.new w 67 (wq zb)
  have hb := (Below.refl _ w).alloc (Nat.le_refl _) (.cells (wq zb) 67)
  obtain ⟨W1, c1, hcv, hbw, hbuf, hsw⟩ := bytes_of_text (w.alloc (.cells (wq zb) 67)) s
  have C := take64_any (some ⟨(w.alloc (.cells (wq zb) 67)).heap.size, 0, none⟩) c1 (nb s) 128 (by rw [nb_length, h]) W1 (hbuf.reads (by omega)) (by rw [nb_length, h]; decide) (nb_lt s)
  rw [nb_length, h, World.size_alloc] at C
  rw [h, World.size_alloc] at hcv
  have HC := Lib.hid C
  have HE : Hid (wordsAt ups 8 128 (nb s) (8 * 128) = frB (nb s)) := Lib.hid rfl
  have HFO := Lib.hid hfo
  have HR1 := Lib.hid (RN.below hbw RN.lt)
  have HB1 := Lib.hid (below_step hb hbw)
  clear C hfo hbuf hsw hbw hb RN
  have hz := zero_b
  go_enter Tryz.func65, Tryz.ntmps65
  go_wp2_with fail
  refine HC.out.mono ?_
  rintro e w3 ⟨v, rfl, hown, hb3⟩
  rw [HE.out] at hown
  have HZ : Hid ((wq (frB (nb s))).size = 128) := Lib.hid (by rw [wq_size]; exact HFO.out.1)
  obtain ⟨z, hz2⟩ : ∃ z, z = frB (nb s) := ⟨_, rfl⟩
  rw [← hz2] at hown HZ HFO
  obtain ⟨A', c', rfl, hnl, hA, _⟩ := own_form hown
  obtain ⟨g, rfl, hg⟩ := hA (by decide)
  clear hnl
  have hrd := Reads.of_own hown
  have HL := Lib.hid (load_b (w := w3) (b := g) (o := 0) HFO.out.1 (fun k hk => by
    obtain ⟨b', off', e', _, hc'⟩ := hrd k (by rw [u64s_length, HFO.out.1]; exact hk)
    cases e'
    rw [hc', u64_at, List.getD_eq_getElem?_getD, List.getElem?_eq_getElem (by rw [HFO.out.1]; exact hk)]
    rfl))
  have HR3 := Lib.hid (HR1.out.below hb3 HR1.out.lt)
  have HB3 := Lib.hid (below_step HB1.out hb3)
  have hA := array_at g c' w3
  have HZ2 := Lib.hid hz2
  clear hown hrd hb3 HR1 HB1 HC hg hz2
  go_wp2_with (first
    | refine wpList_load_of rfl 67 (.tmp 17) rfl ⟨g, 0, none⟩ _ rfl HL.out ?_
    | refine wpList_store_row rfl 67 (.tmp 2) (.tmp 18) rfl w.heap.size (wq z) rfl rfl 67 _ HR3.out (by rw [HZ.out]; exact b_size) (by rw [HZ.out]; rfl) (wq_one _) ?_)
  refine bodyPost_ret ?_ rfl ⟨by rw [← HZ2.out], below_setRow HB3.out (Nat.le_refl _) _⟩
  exact results_row_tmp (fn := Tryz.f65) (p := 2) (u := 3) (b := w.heap.size) (t := 67) (C := wq z) rfl _ rfl (HR3.out.setRow _) Tryz.underlying67 rfl (by rw [HZ.out]; exact b_size)

theorem setRow_same {w : World} {b : Nat} {t : TypeId} {C : Array Value} (h : RowAt w b t C) : w.setRow b C = w := by
  unfold RowAt at h
  have e : w.heap.modify b (fun | .cells _ elem frozen => .cells C elem frozen | o => o) = w.heap := by
    refine Array.ext_getElem? fun i => ?_
    rw [Array.getElem?_modify]
    split
    · rename_i hi
      subst hi
      rw [h]; rfl
    · rfl
  show { w with heap := w.heap.modify b (fun | .cells _ elem frozen => .cells C elem frozen | o => o) } = w
  rw [e]
/-- words, and 0 behind them -/
def ofB (xs : List Nat) : List Nat := xs ++ List.replicate (128 - xs.length) 0
theorem ofB_ok {xs : List Nat} (hl : xs.length ≤ 128) (hx : ∀ x ∈ xs, x < 18446744073709551616) : okb (ofB xs) := by
  refine ⟨by simp [ofB]; omega, fun x h => ?_⟩
  rcases List.mem_append.1 h with h | h
  · exact hx x h
  · rw [List.eq_of_mem_replicate h]; decide
theorem of_cells (xs : List Nat) : ((wq zb).toList.take 0 ++ u64s xs ++ (wq zb).toList.drop (0 + xs.length)).toArray = wq (ofB xs) := by
  have e : (wq zb).toList = List.replicate 128 (.int .u64 ((0 : Nat) : Int)) := by
    unfold wq zb u64s
    rw [List.map_replicate]
  have e2 : u64s (List.replicate (128 - xs.length) 0) = List.replicate (128 - xs.length) (.int .u64 ((0 : Nat) : Int)) := by
    unfold u64s
    rw [List.map_replicate]
  rw [e, List.take_zero, List.nil_append, Nat.zero_add, List.drop_replicate, ← e2]
  unfold wq ofB u64s
  rw [List.map_append]
end Go.Proofs.YthbeoobfhfpelaaGreatDoor

/- Blocks of 128 words as plain mathematics: put together word by word, and by halves. No condition but those typed. -/
import Derived.WalkKit
import Derived.Laws.BitsAllLaws
namespace Go.Proofs.YtpampgkhjcfeaaaDoor.Bb

/-- 128 words below 2^64 -/
def okb (L : List Nat) : Prop := L.length = 128 ∧ ∀ x ∈ L, x < 18446744073709551616
def zb : List Nat := List.replicate 128 0
/-- 128 numbers by their places -/
def tb (f : Nat → Nat) : List Nat := (List.range 128).map f
theorem tb_length (f : Nat → Nat) : (tb f).length = 128 := by simp [tb]
theorem tb_at (f : Nat → Nat) (k : Nat) (h : k < 128) : (tb f).getD k 0 = f k := by
  simp [tb, List.getD_eq_getElem?_getD, h]
theorem tb_set (f g : Nat → Nat) (k : Nat) (h : ∀ j, j < 128 → j ≠ k → g j = f j) : (tb f).set k (g k) = tb g := by
  refine List.ext_getElem (by simp [tb]) fun j h1 h2 => ?_
  have hj : j < 128 := by simpa [tb] using h2
  rw [List.getElem_set]
  by_cases e : k = j
  · subst e; simp [tb]
  · rw [if_neg e]; simp [tb, h j hj (fun e' => e e'.symm)]
theorem tb_congr (f g : Nat → Nat) (h : ∀ j, j < 128 → f j = g j) : tb f = tb g := List.map_congr_left fun j hj => h j (List.mem_range.1 hj)
theorem tb_self (L : List Nat) (hL : L.length = 128) : tb (fun k => L.getD k 0) = L := by
  refine List.ext_getElem (by simp [tb, hL]) fun j h1 h2 => ?_
  simp [tb, List.getD_eq_getElem?_getD, List.getElem?_eq_getElem h2]
theorem tb_ok (f : Nat → Nat) (h : ∀ j, j < 128 → f j < 18446744073709551616) : okb (tb f) := ⟨tb_length f, fun x hx => by
  obtain ⟨j, hj, rfl⟩ := List.mem_map.1 hx
  exact h j (List.mem_range.1 hj)⟩
theorem zb_tb : zb = tb fun _ => 0 := by decide
theorem zb_ok : okb zb := ⟨by simp [zb], fun x hx => by rw [List.eq_of_mem_replicate hx]; decide⟩
theorem ok_at {L : List Nat} (h : okb L) (k : Nat) : L.getD k 0 < 18446744073709551616 := by
  rw [List.getD_eq_getElem?_getD]
  cases hk : L[k]? with
  | none => decide
  | some x => exact h.2 x (List.mem_of_getElem? hk)
theorem ok_ext {a b : List Nat} (ha : a.length = 128) (hb : b.length = 128) (h : ∀ k, k < 128 → a.getD k 0 = b.getD k 0) : a = b := by
  rw [← tb_self a ha, ← tb_self b hb]; exact tb_congr _ _ h
theorem ok_set {L : List Nat} (h : okb L) (k x : Nat) (hx : x < 18446744073709551616) : okb (L.set k x) := ⟨by rw [List.length_set]; exact h.1, fun y hy => by
  rcases List.mem_or_eq_of_mem_set hy with hy | rfl
  · exact h.2 y hy
  · exact hx⟩

/-- the words at one place of blocks, put together -/
def xw (l : List (List Nat)) (k : Nat) : Nat := l.foldl (fun a b => a ^^^ b.getD k 0) 0
def xB (l : List (List Nat)) : List Nat := tb (xw l)
theorem xw_snoc (l : List (List Nat)) (b : List Nat) (k : Nat) : xw (l ++ [b]) k = xw l k ^^^ b.getD k 0 := by simp [xw]
theorem xw_take (l : List (List Nat)) (i k : Nat) (h : i < l.length) : xw (l.take (i + 1)) k = xw (l.take i) k ^^^ (l.getD i []).getD k 0 := by
  rw [List.take_add_one, List.getElem?_eq_getElem h, Option.toList_some, xw_snoc]
  congr 2
  rw [List.getD_eq_getElem?_getD, List.getElem?_eq_getElem h]; rfl
theorem xw_lt (k : Nat) : ∀ (l : List (List Nat)), (∀ b ∈ l, okb b) → xw l k < 18446744073709551616 := by
  intro l
  unfold xw
  suffices H : ∀ a, a < 18446744073709551616 → (∀ b ∈ l, okb b) → l.foldl (fun a b => a ^^^ b.getD k 0) a < 18446744073709551616 from fun h => H 0 (by decide) h
  induction l with
  | nil => intro a h _; exact h
  | cons b l ih =>
    intro a h ho
    exact ih _ (Nat.xor_lt_two_pow (n := 64) h (ok_at (ho b (by simp)) k)) fun b hb => ho b (by simp [hb])
theorem xB_ok (l : List (List Nat)) (h : ∀ b ∈ l, okb b) : okb (xB l) := tb_ok _ fun k _ => xw_lt k l h
theorem xB_twice (l : List (List Nat)) : xB (l ++ [xB l]) = zb := by
  rw [zb_tb]
  refine tb_congr _ _ fun k hk => ?_
  rw [xw_snoc, xB, tb_at _ k hk, Nat.xor_self]
/-- i blocks are put together, and of the next one k words -/
def xst (l : List (List Nat)) (i k : Nat) : List Nat := tb fun j => if j < k then xw (l.take (i + 1)) j else xw (l.take i) j
theorem xst_length (l : List (List Nat)) (i k : Nat) : (xst l i k).length = 128 := tb_length _
theorem xst_start (l : List (List Nat)) : xst l 0 0 = zb := by
  rw [zb_tb]; exact tb_congr _ _ fun j _ => by simp [xw]
theorem xst_line (l : List (List Nat)) (i : Nat) : xst l i 128 = xst l (i + 1) 0 := tb_congr _ _ fun j hj => by simp [hj]
theorem xst_end (l : List (List Nat)) : xst l l.length 0 = xB l := tb_congr _ _ fun j _ => by simp
theorem xst_at (l : List (List Nat)) (i k : Nat) (hk : k < 128) : (xst l i k).getD k 0 = xw (l.take i) k := by
  unfold xst; rw [tb_at _ _ hk]; simp
theorem xst_next (l : List (List Nat)) (i k : Nat) (hi : i < l.length) : (xst l i k).set k (xw (l.take i) k ^^^ (l.getD i []).getD k 0) = xst l i (k + 1) := by
  rw [← xw_take l i k hi]
  unfold xst
  have := tb_set (fun j => if j < k then xw (l.take (i + 1)) j else xw (l.take i) j) (fun j => if j < k + 1 then xw (l.take (i + 1)) j else xw (l.take i) j) k (fun j _ hj => by
    by_cases h : j < k
    · rw [if_pos (by omega), if_pos h]
    · rw [if_neg (by omega), if_neg h])
  simpa using this
/-- i words are put together, and of the next one those of k blocks -/
def rst (l : List (List Nat)) (i k : Nat) : List Nat := tb fun j => if j < i then xw l j else if j = i then xw (l.take k) j else 0
theorem rst_length (l : List (List Nat)) (i k : Nat) : (rst l i k).length = 128 := tb_length _
theorem rst_start (l : List (List Nat)) : rst l 0 0 = zb := by
  rw [zb_tb]; exact tb_congr _ _ fun j _ => by simp [xw]
theorem rst_line (l : List (List Nat)) (i : Nat) : rst l i l.length = rst l (i + 1) 0 := tb_congr _ _ fun j hj => by
  by_cases h : j < i
  · simp [h, show j < i + 1 by omega]
  · by_cases e : j = i
    · subst e; simp
    · simp [h, e, show ¬ j < i + 1 by omega, xw]
theorem rst_end (l : List (List Nat)) : rst l 128 0 = xB l := tb_congr _ _ fun j hj => by simp [hj]
theorem rst_at (l : List (List Nat)) (i k : Nat) (hi : i < 128) : (rst l i k).getD i 0 = xw (l.take k) i := by
  unfold rst; rw [tb_at _ _ hi]; simp
theorem rst_next (l : List (List Nat)) (i k : Nat) (hk : k < l.length) : (rst l i k).set i (xw (l.take k) i ^^^ (l.getD k []).getD i 0) = rst l i (k + 1) := by
  rw [← xw_take l k i hk]
  unfold rst
  have := tb_set (fun j => if j < i then xw l j else if j = i then xw (l.take k) j else 0) (fun j => if j < i then xw l j else if j = i then xw (l.take (k + 1)) j else 0) i (fun j _ hj => by simp [hj])
  simpa using this
theorem take_lt {l : List (List Nat)} (h : ∀ b ∈ l, okb b) (i k : Nat) : xw (l.take i) k < 18446744073709551616 := xw_lt k _ fun b hb => h b (List.mem_of_mem_take hb)
theorem word_lt {l : List (List Nat)} (h : ∀ b ∈ l, okb b) (i k : Nat) : (l.getD i []).getD k 0 < 18446744073709551616 := by
  rw [List.getD_eq_getElem?_getD (l := l)]
  cases hi : l[i]? with
  | none => simp
  | some b => exact ok_at (h b (List.mem_of_getElem? hi)) k
/-- all words are 0 -/
def clB (l : List (List Nat)) : Bool := l.all fun b => decide (b = zb)
theorem clB_take (l : List (List Nat)) (i : Nat) (h : i < l.length) : clB (l.take (i + 1)) = (clB (l.take i) && decide (l.getD i [] = zb)) := by
  unfold clB
  rw [List.take_add_one, List.getElem?_eq_getElem h, Option.toList_some, List.all_append, List.getD_eq_getElem?_getD, List.getElem?_eq_getElem h]
  simp

theorem clB_no (l : List (List Nat)) (i : Nat) (h : i < l.length) (hn : l.getD i [] ≠ zb) : clB l = false := by
  unfold clB
  rw [List.all_eq_false]
  refine ⟨l[i], List.getElem_mem h, ?_⟩
  rw [List.getD_eq_getElem?_getD, List.getElem?_eq_getElem h] at hn
  simpa using hn
theorem block_ok {l : List (List Nat)} (h : ∀ b ∈ l, okb b) (i : Nat) (hi : i < l.length) : okb (l.getD i []) := by
  rw [List.getD_eq_getElem?_getD, List.getElem?_eq_getElem hi]; exact h _ (List.getElem_mem hi)

/-- half r (0 or 1) of a word, and the word with that half another one -/
def hf (w r : Nat) : Nat := w / 2 ^ (32 * r) % 4294967296
def wf (w r x : Nat) : Nat := if r = 0 then w / 4294967296 * 4294967296 + x else x * 4294967296 + w % 4294967296
theorem wf_lt (w r x : Nat) (hw : w < 18446744073709551616) (hx : x < 4294967296) : wf w r x < 18446744073709551616 := by
  unfold wf; split <;> omega
theorem hf_lt (w r : Nat) : hf w r < 4294967296 := Nat.mod_lt _ (by decide)
theorem hf_wf (w r x : Nat) (hr : r < 2) (hx : x < 4294967296) : hf (wf w r x) r = x := by
  match r, hr with
  | 0, _ => simp [hf, wf]; omega
  | 1, _ => simp [hf, wf]; omega
theorem hf_other (w r s x : Nat) (hr : r < 2) (hs : s < 2) (hx : x < 4294967296) (h : r ≠ s) : hf (wf w r x) s = hf w s := by
  rcases (show (r = 0 ∧ s = 1) ∨ (r = 1 ∧ s = 0) by omega) with ⟨rfl, rfl⟩ | ⟨rfl, rfl⟩
  · simp [hf, wf]; omega
  · simp [hf, wf]
theorem wf_back (w r x : Nat) (hr : r < 2) (hw : w < 18446744073709551616) (hx : x < 4294967296) : wf (wf w r x) r (hf w r) = w := by
  match r, hr with
  | 0, _ => simp [hf, wf]; omega
  | 1, _ => simp [hf, wf]; omega
/-- half i of a block, and the block with that half another one -/
def hb (b : List Nat) (i : Nat) : Nat := hf (b.getD (i / 2) 0) (i % 2)
def sb (b : List Nat) (i x : Nat) : List Nat := b.set (i / 2) (wf (b.getD (i / 2) 0) (i % 2) x)
theorem hb_lt (b : List Nat) (i : Nat) : hb b i < 4294967296 := hf_lt _ _
theorem sb_length (b : List Nat) (i x : Nat) : (sb b i x).length = b.length := by simp [sb]
theorem sb_ok {b : List Nat} (h : okb b) (i x : Nat) (hx : x < 4294967296) : okb (sb b i x) := ok_set h _ _ (wf_lt _ _ _ (ok_at h _) hx)
theorem set_at (b : List Nat) (k x j : Nat) (hk : k < b.length) : (b.set k x).getD j 0 = if k = j then x else b.getD j 0 := by
  rw [List.getD_eq_getElem?_getD, List.getElem?_set]
  by_cases e : k = j
  · subst e; simp [hk]
  · simp [e, List.getD_eq_getElem?_getD]
theorem hb_sb {b : List Nat} (h : okb b) (i x k : Nat) (hi : i < 256) (hx : x < 4294967296) : hb (sb b i x) k = if k = i then x else hb b k := by
  have hl : i / 2 < b.length := by rw [h.1]; omega
  unfold hb sb
  rw [set_at _ _ _ _ hl]
  by_cases e : k = i
  · subst e
    rw [if_pos rfl, if_pos rfl, hf_wf _ _ _ (by omega) hx]
  · rw [if_neg e]
    by_cases e2 : i / 2 = k / 2
    · rw [if_pos e2, e2, hf_other _ _ _ _ (by omega) (by omega) hx (by omega)]
    · rw [if_neg e2]
theorem sb_back {b : List Nat} (h : okb b) (i x : Nat) (hi : i < 256) (hx : x < 4294967296) : sb (sb b i x) i (hb b i) = b := by
  have hl : i / 2 < b.length := by rw [h.1]; omega
  unfold hb
  rw [sb, sb, set_at _ _ _ _ hl, if_pos rfl, List.set_set, wf_back _ _ _ (by omega) (ok_at h _) hx]
  refine List.ext_getElem (by simp) fun j h1 h2 => ?_
  rw [List.getElem_set]
  by_cases e : i / 2 = j
  · subst e; simp [List.getD_eq_getElem?_getD, List.getElem?_eq_getElem h2]
  · simp [e]

/-- what Go's operations make of a word -/
theorem or_low32 (a b : Nat) (h : b < 4294967296) : (a * 4294967296) ||| b = a * 4294967296 + b := by
  rw [show a * 4294967296 = 2 ^ 32 * a by omega, ← Nat.two_pow_add_eq_or_of_lt (i := 32) (by omega)]
theorem and_high32 (w : Nat) (hw : w < 18446744073709551616) : w &&& 18446744069414584320 = w / 4294967296 * 4294967296 := by
  refine Nat.eq_of_testBit_eq fun i => ?_
  rw [Nat.testBit_and, show (18446744069414584320 : Nat) = (2 ^ 32 - 1) * 2 ^ 32 by decide, show w / 4294967296 * 4294967296 = (w / 2 ^ 32) * 2 ^ 32 by omega, Nat.testBit_mul_two_pow, Nat.testBit_mul_two_pow, Nat.testBit_two_pow_sub_one, Nat.testBit_div_two_pow]
  by_cases h : 32 ≤ i
  · by_cases h2 : i - 32 < 32
    · simp [h, h2, show i - 32 + 32 = i by omega]
    · have : w.testBit i = false := Nat.testBit_lt_two_pow (Nat.lt_of_lt_of_le (show w < 2 ^ 64 by omega) (Nat.pow_le_pow_right (by decide) (by omega)))
      simp [h, h2, this, show i - 32 + 32 = i by omega]
  · simp [h]
theorem and_low32 (w : Nat) : w &&& 4294967295 = w % 4294967296 := Nat.and_two_pow_sub_one_eq_mod w 32
theorem low0 (w x : Nat) (hw : w < 18446744073709551616) (hx : x < 4294967296) : bits .andNot .u64 (w : Int) (4294967295 : Int) = ((w / 4294967296 * 4294967296 : Nat) : Int) ∧ bits .or .u64 ((w / 4294967296 * 4294967296 : Nat) : Int) (x : Int) = ((wf w 0 x : Nat) : Int) := by
  refine ⟨?_, ?_⟩
  · rw [show (4294967295 : Int) = ((4294967295 : Nat) : Int) from rfl, u64_andNot_nat w _ hw (by decide), and_high32 w hw]
  · rw [u64_or_nat _ _ (by omega) (by omega), or_low32 _ _ hx]; rfl
theorem low1 (w x : Nat) (hw : w < 18446744073709551616) (hx : x < 4294967296) : bits .andNot .u64 (w : Int) (18446744069414584320 : Int) = ((w % 4294967296 : Nat) : Int) ∧ bits .or .u64 ((w % 4294967296 : Nat) : Int) ((x * 4294967296 : Nat) : Int) = ((wf w 1 x : Nat) : Int) := by
  refine ⟨?_, ?_⟩
  · rw [show (18446744069414584320 : Int) = ((18446744069414584320 : Nat) : Int) from rfl, u64_andNot_nat w _ hw (by decide), ← and_low32]
  · rw [u64_or_nat _ _ (by omega) (by omega), Nat.or_comm, or_low32 _ _ (Nat.mod_lt _ (by decide))]; rfl
end Go.Proofs.YtpampgkhjcfeaaaDoor.Bb

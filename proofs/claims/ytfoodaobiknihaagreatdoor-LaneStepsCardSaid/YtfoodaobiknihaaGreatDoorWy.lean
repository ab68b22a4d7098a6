/- Words and their bytes, by their contracts. Conditions: those typed. -/
import Derived.Test.YtfoodaobiknihaaGreatDoorKi
import Derived.LoopTactic
import Derived.IntWalk
import Derived.Lib.Hide
import Derived.Outline
import Derived.StillTailTactics
import Derived.Laws.BytesArg
import Derived.Lib.BufferRead
import Derived.Lib.ConvBytes
namespace Go.Proofs.YtfoodaobiknihaaGreatDoor
set_option maxRecDepth 50000
open Go.RowKit
def ups (i : Nat) : Nat := i
theorem low_ups (n : Nat) : Orders 76 ups n := low_any n
theorem little64_any (A : Option Addr) (c : Nat) (xs : List Nat) (w : World) (hr : Reads w w.heap.size A (u64s xs)) (hlen : xs.length ≤ 1000000) (hx : ∀ x ∈ xs, x < 2 ^ 64) :
    Calls Tryz.prog 125 #[.slice A xs.length c] w fun e w' => ∃ v, e = .returned v ∧ w'.ownsRow w.heap.size 5 1 v (8 * xs.length) (u8s (xs.flatMap (bytesOf ups 8))) ∧ Below w.heap.size w w' := by
  have C := laid64_any 76 ups (fun i h => h) (low_ups 8) A c xs w hr hlen hx
  have H := Lib.hid C
  clear C hr hx
  go_enter Tryz.func125, Tryz.ntmps125
  go_wp2_with fail
  refine (H.out).mono ?_
  rintro e w' ⟨v, rfl, hown, hb⟩
  go_wp2
  go_ret
  exact ⟨_, rfl, hown, hb⟩
theorem div_next (x i : Nat) : x / 2 ^ (8 * i) / 256 = x / 2 ^ (8 * (i + 1)) := by
  rw [Nat.div_div_eq_div_mul, Nat.mul_add, Nat.pow_add]
theorem div_le_self' (x i : Nat) : x / 2 ^ (8 * i) ≤ x := Nat.div_le_self _ _
set_option maxHeartbeats 800000 in
theorem of64_any (x : Nat) (w : World) (hx : x < 2 ^ 64) : Calls Tryz.prog 79 #[.int .u64 (x : Int)] w fun e w' => ∃ v, e = .returned v ∧ w'.ownsRow w.heap.size 5 1 v 8 (u8s (bytesOf ups 8 x)) ∧ Below w.heap.size w w' := by
  obtain ⟨i0, hi, hz0, hz1, hz2⟩ := info_parts Tryz.info5
  have hx2 : x ≤ 18446744073709551615 := by omega
  go_enter Tryz.func79, Tryz.ntmps79
  go_wp2
  go_loopw [0, 3, 4] (fun y v i wr => ∃ k : Nat, k ≤ 8 ∧ i = .int .i64 k ∧ y = .int .u64 (x / 2 ^ (8 * k) : Nat) ∧ wr.ownsRow w.heap.size 5 1 v k (u8s (bytesOf ups k x)) ∧ Below w.heap.size w wr) (fun _ _ i _ => 8 - (intOf i).toNat)
  case atStart => exact ⟨0, Nat.zero_le _, rfl, by simp, by simpa [bytesOf, u8s] using World.ownsRow_nil _ _ _ _, Below.refl _ _⟩
  case round =>
    obtain ⟨k, hk, rfl, rfl, hown, hb⟩ := hrel
    by_cases hlt : k < 8
    · have hsz := hb.size
      have hle := div_le_self' x k
      have hn := div_next x k
      have Hn := Lib.hid hn
      have hbs : bytesOf ups (k + 1) x = bytesOf ups k x ++ [x / 2 ^ (8 * k) % 256] := bytesOf_snoc ups k x
      have Hbs := Lib.hid hbs
      clear hn hbs
      generalize x / 2 ^ (8 * k) = y at *
      go_wp2_with (at_builtin; refine wpList_append_own _ rfl (.tmp 9) (.tmp 13) 86 rfl w.heap.size 5 i0 (.int .u8 0) 1 1 Tryz.underlying86 hi hz0 hz1 hz2 rfl (by decide) _ _ _ rfl (hown.alloc _) ⟨wr.heap.size, 0, none⟩ 1 1 [.int .u8 ((y : Int) % 256)] rfl rfl ?c1 ?c2 ?c3 ?c4 ?c5 ?_)
      case c1 => exact one_new _ _ _
      case c2 => exact one_cell _ rfl
      case c3 => unfold maxLen; omega
      case c4 => omega
      case c5 => simp; omega
      intro v' w2 hown2 hg2 _
      have R := rel_step hb hsz hown hown2 hg2
      clear hown2 hg2 hown hb
      go_wp2
      go_roundw
      case rel => exact ⟨k + 1, by omega, by go_num, by rw [← Hn.out]; simp, by rw [Hbs.out, u8s_append]; simpa [u8s] using R.1, R.2⟩
      case measure => simp [intOf]; omega
    · obtain rfl : k = 8 := by omega
      go_wp2
      go_ret
      exact ⟨_, rfl, hown, hb⟩
open Go.RowKit
def orTo (p : Nat → Nat) (f : Nat → Nat) : Nat → Nat
  | 0 => 0
  | m + 1 => orTo p f m ||| f m * 2 ^ (8 * p m)
def wordAt (p : Nat → Nat) (n : Nat) (bs : List Nat) (t j : Nat) : Nat := orTo p (fun i => bs.getD (j * n + i) 0) (min n (t - j * n))
def wordsAt (p : Nat → Nat) (n M : Nat) (bs : List Nat) (t : Nat) : List Nat := (List.range M).map (wordAt p n bs t)
theorem orTo_lt (p : Nat → Nat) (n : Nat) (hp : ∀ i, i < n → p i < n) (f : Nat → Nat) (hf : ∀ i, f i < 256) : ∀ m, m ≤ n → orTo p f m < 2 ^ (8 * n)
  | 0, _ => Nat.two_pow_pos _
  | m + 1, h => by
    refine Nat.or_lt_two_pow (orTo_lt p n hp f hf m (by omega)) ?_
    have h1 := hp m (by omega)
    have h2 : f m * 2 ^ (8 * p m) < 2 ^ 8 * 2 ^ (8 * p m) := Nat.mul_lt_mul_of_pos_right (hf m) (Nat.two_pow_pos _)
    rw [← Nat.pow_add] at h2
    exact Nat.lt_of_lt_of_le h2 (Nat.pow_le_pow_right (by omega) (by omega))
theorem getD_lt (bs : List Nat) (hx : ∀ x ∈ bs, x < 256) (i : Nat) : bs.getD i 0 < 256 := by
  unfold List.getD
  cases h : bs[i]? with
  | none => simp
  | some x => exact hx x (List.mem_of_getElem? h)
theorem wordAt_lt (p : Nat → Nat) (n : Nat) (hp : ∀ i, i < n → p i < n) (bs : List Nat) (hx : ∀ x ∈ bs, x < 256) (t j : Nat) : wordAt p n bs t j < 2 ^ (8 * n) :=
  orTo_lt p n hp _ (fun _ => getD_lt bs hx _) _ (Nat.min_le_left _ _)
theorem shifted_lt (n k x : Nat) (hk : k < n) (hx : x < 256) : x * 2 ^ (8 * k) < 2 ^ (8 * n) := by
  have h2 : x * 2 ^ (8 * k) < 2 ^ 8 * 2 ^ (8 * k) := Nat.mul_lt_mul_of_pos_right hx (Nat.two_pow_pos _)
  rw [← Nat.pow_add] at h2
  exact Nat.lt_of_lt_of_le h2 (Nat.pow_le_pow_right (by omega) (by omega))
theorem words_set (p : Nat → Nat) (n M : Nat) (bs : List Nat) (t j m x : Nat) (ht : t = n * j + m) (hm : m < n) (hx : bs.getD t 0 = x) :
    (wordsAt p n M bs t).set j (wordAt p n bs t j ||| x * 2 ^ (8 * p m)) = wordsAt p n M bs (t + 1) := by
  refine List.ext_getElem (by simp [wordsAt]) fun i h1 h2 => ?_
  simp only [wordsAt, List.length_map, List.length_range] at h2
  rw [List.getElem_set]
  simp only [wordsAt, List.getElem_map, List.getElem_range]
  have hcomm : j * n = n * j := Nat.mul_comm _ _
  split
  · rename_i h; subst h
    unfold wordAt
    rw [show min n (t - j * n) = m from by omega, show min n (t + 1 - j * n) = m + 1 from by omega]
    show _ = orTo p _ m ||| bs.getD (j * n + m) 0 * 2 ^ (8 * p m)
    rw [show j * n + m = t from by omega, hx]
  · rename_i h
    unfold wordAt
    congr 1
    rcases Nat.lt_or_gt_of_ne h with hlt | hgt
    · have : (j + 1) * n ≤ i * n := Nat.mul_le_mul_right _ hlt
      rw [Nat.add_mul] at this
      omega
    · have : (i + 1) * n ≤ j * n := Nat.mul_le_mul_right _ hgt
      rw [Nat.add_mul] at this
      omega
theorem words_zero (p : Nat → Nat) (n M : Nat) (bs : List Nat) : wordsAt p n M bs 0 = List.replicate M 0 := by
  refine List.ext_getElem (by simp [wordsAt]) fun i _ _ => ?_
  simp [wordsAt, wordAt, orTo]
theorem made_one (z : Value) (M : Nat) : (madeCells #[z] M).toList = List.replicate M z := by
  refine List.ext_getElem (by simp [madeCells]) fun i h1 h2 => ?_
  simp [madeCells, Nat.mod_one]
theorem or_u64 (y x k : Nat) (hy : y < 2 ^ 64) (hx : x < 256) (hk : k < 8) : bits .or .u64 (y : Int) (IntKind.u64.wrap ((x : Int) * 2 ^ (8 * k))) = ((y ||| x * 2 ^ (8 * k) : Nat) : Int) := by
  have h := shifted_lt 8 k x hk hx
  have e : IntKind.u64.wrap ((x : Int) * 2 ^ (8 * k)) = ((x * 2 ^ (8 * k) : Nat) : Int) := by
    rw [IntKind.wrap_u64]
    have : ((x * 2 ^ (8 * k) : Nat) : Int) % 18446744073709551616 = ((x * 2 ^ (8 * k) : Nat) : Int) := by omega
    rw [← this, Int.natCast_mul, Int.natCast_pow]; rfl
  rw [e]
  exact u64_or_nat y _ (by omega) (by omega)
theorem Tryz.info88 : (Tryz.prog.info? 88).map (fun i => (i.zero, i.size, i.bytes)) = some (some (.int .u32 0), 1, 4) := by kernel_rfl
theorem Tryz.info52 : (Tryz.prog.info? 52).map (fun i => (i.zero, i.size, i.bytes)) = some (some (.int .u64 0), 1, 8) := by kernel_rfl
set_option maxHeartbeats 1600000 in
theorem taken64_any (g : FuncId) (p : Nat → Nat) (hp : ∀ i, i < 8 → p i < 8) (ho : Orders g p 8) (A : Option Addr) (c : Nat) (bs : List Nat) (M : Nat) (hM : bs.length = 8 * M) (w : World) (hr : Reads w w.heap.size A (u8s bs)) (hlen : bs.length ≤ 1000000) (hx : ∀ x ∈ bs, x < 256) :
    Calls Tryz.prog 97 #[.slice A bs.length c, .int .i64 8, .func (.func g) #[] #[]] w fun e w' => ∃ v, e = .returned (.tuple #[v, .int .i64 0]) ∧ w'.ownsRow w.heap.size 52 1 v M (u64s (wordsAt p 8 M bs (8 * M))) ∧ Below w.heap.size w w' := by
  obtain ⟨i0, hi, hz0, hz1, hz2⟩ := info_parts Tryz.info52
  have hlen63 : M ≤ 125000 := by omega
  obtain ⟨hcf, hoi⟩ := ho
  have hoi4 : ∀ (i : Nat) (w : World), i < 8 → Calls Tryz.prog g #[.int .i64 (i : Int), .int .i64 8] w fun e w' => e = .returned (.int .i64 (p i : Nat)) ∧ w = w' := hoi
  have Ho := Lib.hid hoi4
  have Hx := Lib.hid hx
  have Hp := Lib.hid hp
  have Hr := Lib.hid hr
  have HM := Lib.hid hM
  rw [hM]
  clear hoi hoi4 hx hp hr hM hlen
  go_enter Tryz.func97, Tryz.ntmps97
  go_wp2_with (at_make; refine wpList_make_full _ rfl _ _ 117 rfl w.heap.size 52 i0 (.int .u64 0) 1 Tryz.underlying117 hi hz0 hz1 _ _ _ _ M rfl rfl rfl rfl ?c1 ?c2 ?c3 ?_)
  case c1 => simp [hz2]; omega
  case c2 => unfold maxLen; omega
  case c3 => exact Nat.le_refl _
  intro w1 hown1 hg1
  have hb1 : Below w.heap.size w w1 := (Below.refl _ _).grown hg1 (Nat.le_refl _) (by simp)
  clear hg1
  go_wp2
  go_loopw [23] (fun i wr => ∃ t : Nat, t ≤ 8 * M ∧ i = .int .i64 t ∧ wr.ownsRow w.heap.size 52 1 (.slice (some ⟨w.heap.size, 0, none⟩) M M) M (u64s (wordsAt p 8 M bs t)) ∧ Below w.heap.size w wr) (fun i _ => 8 * M - (intOf i).toNat)
  case atStart => exact ⟨0, Nat.zero_le _, rfl, by rw [words_zero]; rw [made_one] at hown1; simpa [u64s] using hown1, hb1⟩
  case round =>
    obtain ⟨t, ht, rfl, hown, hb⟩ := hrel
    clear hown1 hb1
    by_cases hlt : t < 8 * M
    · obtain ⟨j, hj⟩ : ∃ j, j = t / 8 := ⟨_, rfl⟩
      obtain ⟨m, hm⟩ : ∃ m, m = t % 8 := ⟨_, rfl⟩
      have hjM : j < M := by omega
      have hm4 : m < 8 := by omega
      have htj : t = 8 * j + m := by omega
      have Htj := Lib.hid htj
      have hj2 : (t : Int) / 8 = (j : Int) := by omega
      have hm2 : (t : Int) % 8 = (m : Int) := by omega
      clear hj hm htj
      have hpm := Hp.out m hm4
      obtain ⟨b, off, rfl, hbB, hcell⟩ := (Hr.out.below hb) t (by rw [u8s_length, HM.out]; exact hlt)
      rw [u8_at] at hcell
      have htl : t < bs.length := by have := HM.out; omega
      have hx0 := Hx.out bs[t] (List.getElem_mem htl)
      generalize hxx : bs[t] = x at *
      have Hxx := Lib.hid hxx
      have hcj : wr.cell? ⟨w.heap.size, j, none⟩ = some (.int .u64 (wordAt p 8 bs t j : Nat)) := by
        rw [hown.cellAt j (by omega)]; simp [u64s, wordsAt, hjM]
      have hfj : wr.frozen? ⟨w.heap.size, j, none⟩ = false := hown.frozenAt j
      generalize hy : wordAt p 8 bs t j = y at *
      have Hy := Lib.hid hy
      have hy32 : y < 2 ^ 64 := by rw [← hy]; exact wordAt_lt p 8 Hp.out bs Hx.out t j
      have hset := words_set p 8 M bs t j m x Htj.out hm4 (by simp [← hxx, List.getD, List.getElem?_eq_getElem htl])
      rw [hy] at hset
      have hor := or_u64 y x (p m) hy32 hx0 hpm
      have Hset := Lib.hid hset
      have Hor := Lib.hid hor
      clear hxx hy hset hor
      have hy32 : y ≤ 18446744073709551615 := by omega
      have hwj : IntKind.i64.wrap (j : Int) = (j : Int) := IntWalk.i64_in _ (by omega)
      have hw8 : IntKind.i64.wrap (8 * (p m : Int)) = 8 * (p m : Int) := IntWalk.i64_in _ (by omega)
      have hn8 : (8 * (p m : Int)).toNat = 8 * p m := by omega
      have hg8 : 0 ≤ 8 * (p m : Int) := by omega
      have hgj : 0 ≤ (j : Int) := by omega
      have hgM : (j : Int) < (M : Int) := by omega
      have htm : (t : Int).tmod 8 = (m : Int) := by rw [Int.tmod_eq_emod_of_nonneg (by omega)]; exact hm2
      go_wp2
      refine wp_region_still_tail 18 (by kernel_rfl) (by kernel_rfl) ?_
      simp only [List.take_succ_cons, List.take_zero, List.drop_succ_cons, List.drop_zero]
      repeat still_step
      still_call ((Ho.out m _ hm4).mono fun _ _ h => And.intro h.1 h.2.symm)
      repeat still_step
      refine wpStill_nil ?_
      change wpList _ _ _ _ _ wr.drew
      go_wp2
      go_roundw
      case rel =>
        refine ⟨t + 1, by omega, by go_num, ?_, (hb.setCell (Nat.le_refl _) _).drew⟩
        have hst := (hown.stored j (.int .u64 (y ||| x * 2 ^ (8 * p m) : Nat))).1
        have e : (u64s (wordsAt p 8 M bs t)).set j (.int .u64 (y ||| x * 2 ^ (8 * p m) : Nat)) = u64s (wordsAt p 8 M bs (t + 1)) := by rw [← Hset.out]; unfold u64s; rw [List.map_set]
        rw [e] at hst
        rw [Hor.out]
        exact hst.drew
      case measure => simp [intOf]; omega
    · obtain rfl : t = 8 * M := by omega
      go_wp2
      go_ret2
      exact ⟨_, rfl, hown, hb⟩
open Go.RowKit
theorem orTo_bit (p : Nat → Nat) (f : Nat → Nat) (b : Nat) : ∀ m, (orTo p f m).testBit b = (List.range m).any fun i => (f i * 2 ^ (8 * p i)).testBit b
  | 0 => by simp [orTo]
  | m + 1 => by rw [orTo, Nat.testBit_or, orTo_bit p f b m, List.range_succ, List.any_append]; simp
theorem flat_length (p : Nat → Nat) (n : Nat) : ∀ xs : List Nat, (xs.flatMap (bytesOf p n)).length = n * xs.length
  | [] => by simp
  | x :: xs => by rw [List.flatMap_cons, List.length_append, flat_length p n xs, bytesOf_length, List.length_cons, Nat.mul_add]; omega
theorem take64_any (A : Option Addr) (c : Nat) (bs : List Nat) (M : Nat) (hM : bs.length = 8 * M) (w : World) (hr : Reads w w.heap.size A (u8s bs)) (hlen : bs.length ≤ 1000000) (hx : ∀ x ∈ bs, x < 256) :
    Calls Tryz.prog 73 #[.slice A bs.length c] w fun e w' => ∃ v, e = .returned (.tuple #[v, .int .i64 0]) ∧ w'.ownsRow w.heap.size 52 1 v M (u64s (wordsAt ups 8 M bs (8 * M))) ∧ Below w.heap.size w w' := by
  have C := taken64_any 76 ups (fun i h => h) (low_ups 8) A c bs M hM w hr hlen hx
  have H := Lib.hid C
  clear C hr hx hM
  go_enter Tryz.func73, Tryz.ntmps73
  go_wp2_with fail
  refine (H.out).mono ?_
  rintro e w' ⟨v, rfl, hown, hb⟩
  go_wp2
  go_ret2
  exact ⟨_, rfl, hown, hb⟩
open Go.RowKit
open Go.RowKit
theorem cells_own {w : World} {base : Nat} {n c : Nat} {g : Nat} {xs : List Value} (h : w.ownsRow base 5 1 (.slice (some ⟨g, 0, none⟩) n c) n xs) : ∀ j u, xs[j]? = some u → w.cell? ((⟨g, 0, none⟩ : Addr).add j) = some u := h.cells rfl
theorem u8s_one (l : List Nat) : ∀ u ∈ u8s l, u.oneCell' = true := by
  intro u hu
  obtain ⟨x, _, rfl⟩ := List.mem_map.1 hu
  rfl
theorem of64_own (x : Nat) (w : World) (hx : x < 2 ^ 64) : Calls Tryz.prog 79 #[.int .u64 (x : Int)] w fun e w' => ∃ g c, e = .returned (.slice (some ⟨g, 0, none⟩) 8 c) ∧ w'.ownsRow w.heap.size 5 1 (.slice (some ⟨g, 0, none⟩) 8 c) 8 (u8s (bytesOf ups 8 x)) ∧ Below w.heap.size w w' :=
  (of64_any x w hx).mono fun e w' ⟨v, he, hown, hb⟩ => by
    obtain ⟨A, c, rfl, _, hA, _⟩ := own_form hown
    obtain ⟨g, rfl, _⟩ := hA (by omega)
    exact ⟨g, c, he, hown, hb⟩
open Go.RowKit
def hornTo (f : Nat → Nat) (n : Nat) : Nat → Nat
  | 0 => 0
  | d + 1 => 256 * hornTo f n d + f (n - 1 - d)
def hornsAt (n : Nat) (bs : List Nat) (k : Nat) : List Nat := (List.range k).map fun j => hornTo (fun i => bs.getD (n * j + i) 0) n n
theorem hornTo_lt (f : Nat → Nat) (n : Nat) (hf : ∀ i, f i < 256) : ∀ d, hornTo f n d < 256 ^ d
  | 0 => by simp [hornTo]
  | d + 1 => by
    have h := hornTo_lt f n hf d
    have h2 := hf (n - 1 - d)
    rw [hornTo, Nat.pow_succ]; omega
theorem hornsAt_snoc (n : Nat) (bs : List Nat) (k : Nat) : hornsAt n bs (k + 1) = hornsAt n bs k ++ [hornTo (fun i => bs.getD (n * k + i) 0) n n] := by
  unfold hornsAt; rw [List.range_succ, List.map_append]; rfl
theorem getD_at (bs : List Nat) (i : Nat) (h : i < bs.length) : bs.getD i 0 = bs[i] := by simp [List.getD, List.getElem?_eq_getElem h]
set_option maxHeartbeats 1600000 in
theorem words8_any (A : Option Addr) (c : Nat) (bs : List Nat) (M : Nat) (hM : bs.length = 8 * M) (w : World) (hr : Reads w w.heap.size A (u8s bs)) (hlen : bs.length ≤ 1000000) (hx : ∀ x ∈ bs, x < 256) :
    Calls Tryz.prog 55 #[.slice A bs.length c, .int .i64 8] w fun e w' => ∃ v, e = .returned (.tuple #[v, .bool true]) ∧ w'.ownsRow w.heap.size 52 1 v M (u64s (hornsAt 8 bs M)) ∧ Below w.heap.size w w' := by
  obtain ⟨i0, hi, hz0, hz1, hz2⟩ := info_parts Tryz.info52
  have hlen63 : M ≤ 125000 := by omega
  have Hx := Lib.hid hx
  have Hr := Lib.hid hr
  have HM := Lib.hid hM
  rw [hM]
  clear hx hr hM hlen
  go_enter Tryz.func55, Tryz.ntmps55
  go_wp2
  go_loopw [6, 7] (fun v i wr => ∃ k : Nat, k ≤ M ∧ i = .int .i64 (8 * (k : Int)) ∧ wr.ownsRow w.heap.size 52 1 v k (u64s (hornsAt 8 bs k)) ∧ Below w.heap.size w wr) (fun _ i _ => 8 * M - (intOf i).toNat)
  case atStart => exact ⟨0, Nat.zero_le _, rfl, by simpa [hornsAt, u64s] using World.ownsRow_nil _ _ _ _, Below.refl _ _⟩
  case round =>
    obtain ⟨k, hk, rfl, hown, hb⟩ := hrel
    by_cases hlt : k < M
    · have hsz := hb.size
      go_wp2
      obtain ⟨wo, rfl⟩ : ∃ wo : World, wo = wr := ⟨_, rfl⟩
      have Hown := Lib.hid hown
      have Hb := Lib.hid hb
      clear hown hb
      go_loop [8, 9] (fun v i => ∃ q : Nat, q ≤ 8 ∧ i = .int .i64 ((q : Int) - 1) ∧ v = .int .u64 (hornTo (fun i => bs.getD (8 * k + i) 0) 8 (8 - q) : Nat)) (fun _ i => (intOf i + 1).toNat)
      case atStart => exact ⟨8, Nat.le_refl _, rfl, rfl⟩
      case round =>
        obtain ⟨q, hq, rfl, rfl⟩ := hrel
        by_cases hq0 : 0 < q
        · obtain ⟨r, rfl⟩ : ∃ r, q = r + 1 := ⟨q - 1, by omega⟩
          have hlb : 8 * k + r < bs.length := by have := HM.out; omega
          obtain ⟨b, off, rfl, hbB, hcell⟩ := (Hr.out.below Hb.out) (8 * k + r) (by rw [u8s_length]; exact hlb)
          rw [u8_at] at hcell
          have hx0 := Hx.out bs[8 * k + r] (List.getElem_mem hlb)
          have hle := hornTo_lt (fun i => bs.getD (8 * k + i) 0) 8 (fun i => getD_lt bs Hx.out _) (8 - (r + 1))
          have hle2 : 256 ^ (8 - (r + 1)) ≤ 256 ^ 7 := Nat.pow_le_pow_right (by omega) (by omega)
          have hst : hornTo (fun i => bs.getD (8 * k + i) 0) 8 (8 - r) = 256 * hornTo (fun i => bs.getD (8 * k + i) 0) 8 (8 - (r + 1)) + bs[8 * k + r] := by
            rw [show 8 - r = 8 - (r + 1) + 1 from by omega, hornTo, show 8 - 1 - (8 - (r + 1)) = r from by omega, getD_at bs _ hlb]
          have Hst := Lib.hid hst
          clear hst
          generalize bs[8 * k + r] = x at *
          generalize hornTo (fun i => bs.getD (8 * k + i) 0) 8 (8 - (r + 1)) = y at *
          have hy2 : y ≤ 72057594037927935 := by omega
          clear hle hle2
          go_wp2
          go_round
          case rel => exact ⟨r, by omega, by simp, by rw [Hst.out]; simp⟩
          case measure => simp [intOf]
        · obtain rfl : q = 0 := by omega
          have hsn := hornsAt_snoc 8 bs k
          have Hsn := Lib.hid hsn
          clear hsn
          simp only [Nat.sub_zero] at *
          have hown := Hown.out
          have hb := Hb.out
          generalize hornTo (fun i => bs.getD (8 * k + i) 0) 8 8 = y at *
          go_wp2_with (at_builtin; refine wpList_append_own _ rfl (.tmp 38) (.tmp 40) 117 rfl w.heap.size 52 i0 (.int .u64 0) 1 8 Tryz.underlying117 hi hz0 hz1 hz2 rfl (by decide) _ _ _ rfl (hown.alloc _) ⟨wo.heap.size, 0, none⟩ 1 1 [.int .u64 (y : Int)] rfl rfl ?c1 ?c2 ?c3 ?c4 ?c5 ?_)
          case c1 => exact one_new _ _ _
          case c2 => exact one_cell _ rfl
          case c3 => unfold maxLen; omega
          case c4 => omega
          case c5 => simp; omega
          intro v' w2 hown2 hg2 _
          have R := rel_step hb hsz hown hown2 hg2
          clear hown2 hg2 hown hb
          go_wp2
          go_roundw
          case rel => exact ⟨k + 1, by omega, by simp; omega, by rw [Hsn.out]; simpa [u64s] using R.1, R.2⟩
          case measure => simp [intOf]; omega
    · obtain rfl : k = M := by omega
      go_wp2
      go_ret2
      exact ⟨_, rfl, hown, hb⟩
theorem orTo_ups (f : Nat → Nat) (hf : ∀ i, f i < 256) (m : Nat) : orTo ups f (m + 1) = orTo ups f m + f m * 2 ^ (8 * m) := by
  have h : orTo ups f m < 2 ^ (8 * m) := orTo_lt ups m (fun i h => h) f hf m (Nat.le_refl _)
  rw [orTo, Nat.or_comm, show f m * 2 ^ (8 * ups m) = 2 ^ (8 * m) * f m from by rw [Nat.mul_comm]; rfl, ← Nat.two_pow_add_eq_or_of_lt h, Nat.add_comm, Nat.mul_comm]
theorem ups8 (f : Nat → Nat) (hf : ∀ i, f i < 256) : orTo ups f 8 = hornTo f 8 8 := by
  rw [orTo_ups f hf 7, orTo_ups f hf 6, orTo_ups f hf 5, orTo_ups f hf 4, orTo_ups f hf 3, orTo_ups f hf 2, orTo_ups f hf 1, orTo_ups f hf 0]
  simp [hornTo, orTo]; omega
theorem link (p : Nat → Nat) (n M : Nat) (bs cs : List Nat) (h : ∀ j, j < M → orTo p (fun i => bs.getD (j * n + i) 0) n = hornTo (fun i => cs.getD (n * j + i) 0) n n) : wordsAt p n M bs (n * M) = hornsAt n cs M := by
  unfold wordsAt hornsAt
  refine List.map_congr_left fun j hj => ?_
  have hj : j < M := List.mem_range.1 hj
  rw [← h j hj]
  unfold wordAt
  have : (j + 1) * n ≤ M * n := Nat.mul_le_mul_right _ hj
  rw [Nat.add_mul, Nat.mul_comm M] at this
  rw [show min n (n * M - j * n) = n from by omega]
theorem link8 (M : Nat) (bs : List Nat) (hx : ∀ x ∈ bs, x < 256) : wordsAt ups 8 M bs (8 * M) = hornsAt 8 bs M :=
  link ups 8 M bs bs fun j _ => by rw [ups8 _ (fun i => getD_lt bs hx _), Nat.mul_comm]
open Go.RowKit
set_option maxHeartbeats 1600000 in
theorem laid32_any (g : FuncId) (p : Nat → Nat) (hp : ∀ i, i < 4 → p i < 4) (ho : Orders g p 4) (A : Option Addr) (c : Nat) (xs : List Nat) (w : World) (hr : Reads w w.heap.size A (u32s xs)) (hlen : xs.length ≤ 1000000) (hx : ∀ x ∈ xs, x < 2 ^ 32) :
    Calls Tryz.prog 75 #[.slice A xs.length c, .int .i64 4, .func (.func g) #[] #[]] w fun e w' => ∃ v, e = .returned v ∧ w'.ownsRow w.heap.size 5 1 v (4 * xs.length) (u8s (xs.flatMap (bytesOf p 4))) ∧ Below w.heap.size w w' := by
  obtain ⟨i0, hi, hz0, hz1, hz2⟩ := info_parts Tryz.info5
  obtain ⟨M, hM⟩ : ∃ M : Nat, (xs.length : Int) * 4 = (M : Int) := ⟨xs.length * 4, by simp⟩
  have hMb : M ≤ 4000000 := by omega
  have hlen63 : xs.length ≤ 9223372036854775807 := by omega
  obtain ⟨hcf, hoi⟩ := ho
  have hoi4 : ∀ (i : Nat) (w : World), i < 4 → Calls Tryz.prog g #[.int .i64 (i : Int), .int .i64 4] w fun e w' => e = .returned (.int .i64 (p i : Nat)) ∧ w = w' := hoi
  have Ho := Lib.hid hoi4
  have Hx := Lib.hid hx
  have Hp := Lib.hid hp
  have Hr := Lib.hid hr
  clear hoi hoi4 hx hp hr
  go_enter Tryz.func75, Tryz.ntmps75
  go_wp2_with (at_make; refine wpList_make_own _ rfl _ _ 86 rfl w.heap.size 5 i0 (.int .u8 0) 1 Tryz.underlying86 hi hz0 hz1 _ _ _ M rfl rfl (by omega) ?c1 ?c2 ?c3 ?_)
  case c1 => simp [hz2]; omega
  case c2 => unfold maxLen; omega
  case c3 => exact Nat.le_refl _
  intro w1 hown1 hg1
  have hb1 : Below w.heap.size w w1 := (Below.refl _ _).grown hg1 (Nat.le_refl _) (by simp)
  clear hg1
  go_wp2
  go_loopw [7, 18] (fun v i wr => ∃ k : Nat, k ≤ xs.length ∧ i = .int .i64 k ∧ wr.ownsRow w.heap.size 5 1 v (4 * k) (u8s ((xs.take k).flatMap (bytesOf p 4))) ∧ Below w.heap.size w wr) (fun _ i _ => xs.length - (intOf i).toNat)
  case atStart => exact ⟨0, Nat.zero_le _, rfl, hown1, hb1⟩
  case round =>
    obtain ⟨k, hk, rfl, hown, hb⟩ := hrel
    by_cases hlt : k < xs.length
    · obtain ⟨b, off, rfl, hbB, hcell⟩ := (Hr.out.below hb) k (by rw [u32s_length]; exact hlt)
      rw [u32_at] at hcell
      have hx0 := Hx.out xs[k] (List.getElem_mem hlt)
      have hfl := flat_snoc (bytesOf p 4) xs k hlt
      have Hfl := Lib.hid hfl
      clear hfl
      generalize hxx : xs[k] = x at *
      have hx1 : x ≤ 4294967295 := by omega
      clear hxx hown1 hb1 hM
      generalize (xs.take k).flatMap (bytesOf p 4) = F at *
      go_wp2
      obtain ⟨wo, rfl⟩ : ∃ wo : World, wo = wr := ⟨_, rfl⟩
      go_loopw [7, 23] (fun v j wr => ∃ m : Nat, m ≤ 4 ∧ j = .int .i64 m ∧ wr.ownsRow w.heap.size 5 1 v (4 * k + m) (u8s (F ++ bytesOf p m x)) ∧ Below w.heap.size w wr) (fun _ j _ => 4 - (intOf j).toNat)
      case atStart => exact ⟨0, Nat.zero_le _, rfl, by simpa [bytesOf] using hown, hb⟩
      case round =>
        obtain ⟨m, hm, rfl, hown, hb⟩ := hrel
        by_cases hm4 : m < 4
        · have hpm := Hp.out m hm4
          have hsz := hb.size
          go_wp2_with (first
            | (at_builtin; refine wpList_append_own _ rfl (.tmp 26) (.tmp 35) 86 rfl w.heap.size 5 i0 (.int .u8 0) 1 1 Tryz.underlying86 hi hz0 hz1 hz2 rfl (by decide) _ _ _ rfl (hown.alloc _) ⟨wr.heap.size, 0, none⟩ 1 1 [.int .u8 ((x : Int) / 2 ^ (8 * p m) % 256)] rfl rfl ?c1 ?c2 ?c3 ?c4 ?c5 ?_)
            | (with_reducible refine (Ho.out m _ hm4).mono ?_; rintro e w' ⟨rfl, rfl⟩))
          case c1 => exact one_new _ _ _
          case c2 => exact one_cell _ rfl
          case c3 => unfold maxLen; omega
          case c4 => omega
          case c5 => simp; omega
          intro v' w2 hown2 hg2 _
          have R := rel_step hb hsz hown hown2 hg2
          have hbs := bytesOf_snoc p m x
          have Hbs := Lib.hid hbs
          clear hbs hown2 hg2 hown hb
          go_wp2
          go_roundw
          case rel => exact ⟨m + 1, by omega, by go_num, by rw [Hbs.out, ← List.append_assoc, u8s_append, ← Nat.add_assoc]; simpa [u8s] using R.1, R.2⟩
          case measure => simp [intOf]; omega
        · obtain rfl : m = 4 := by omega
          go_wp2
          go_roundw
          case rel => exact ⟨k + 1, by omega, by go_num, by rw [Hfl.out, Nat.mul_add]; exact hown, hb⟩
          case measure => simp [intOf]; omega
    · obtain rfl : k = xs.length := by omega
      rw [List.take_length] at hown
      go_wp2
      go_ret
      exact ⟨_, rfl, hown, hb⟩
theorem little32_any (A : Option Addr) (c : Nat) (xs : List Nat) (w : World) (hr : Reads w w.heap.size A (u32s xs)) (hlen : xs.length ≤ 1000000) (hx : ∀ x ∈ xs, x < 2 ^ 32) :
    Calls Tryz.prog 54 #[.slice A xs.length c] w fun e w' => ∃ v, e = .returned v ∧ w'.ownsRow w.heap.size 5 1 v (4 * xs.length) (u8s (xs.flatMap (bytesOf ups 4))) ∧ Below w.heap.size w w' := by
  have C := laid32_any 76 ups (fun i h => h) (low_ups 4) A c xs w hr hlen hx
  have H := Lib.hid C
  clear C hr hx
  go_enter Tryz.func54, Tryz.ntmps54
  go_wp2_with fail
  refine (H.out).mono ?_
  rintro e w' ⟨v, rfl, hown, hb⟩
  go_wp2
  go_ret
  exact ⟨_, rfl, hown, hb⟩
set_option maxHeartbeats 800000 in
theorem of32_any (x : Nat) (w : World) (hx : x < 2 ^ 32) : Calls Tryz.prog 33 #[.int .u32 (x : Int)] w fun e w' => ∃ v, e = .returned v ∧ w'.ownsRow w.heap.size 5 1 v 4 (u8s (bytesOf ups 4 x)) ∧ Below w.heap.size w w' := by
  obtain ⟨i0, hi, hz0, hz1, hz2⟩ := info_parts Tryz.info5
  have hx2 : x ≤ 4294967295 := by omega
  go_enter Tryz.func33, Tryz.ntmps33
  go_wp2
  go_loopw [0, 3, 4] (fun y v i wr => ∃ k : Nat, k ≤ 4 ∧ i = .int .i64 k ∧ y = .int .u32 (x / 2 ^ (8 * k) : Nat) ∧ wr.ownsRow w.heap.size 5 1 v k (u8s (bytesOf ups k x)) ∧ Below w.heap.size w wr) (fun _ _ i _ => 4 - (intOf i).toNat)
  case atStart => exact ⟨0, Nat.zero_le _, rfl, by simp, by simpa [bytesOf, u8s] using World.ownsRow_nil _ _ _ _, Below.refl _ _⟩
  case round =>
    obtain ⟨k, hk, rfl, rfl, hown, hb⟩ := hrel
    by_cases hlt : k < 4
    · have hsz := hb.size
      have hle := div_le_self' x k
      have hn := div_next x k
      have Hn := Lib.hid hn
      have hbs : bytesOf ups (k + 1) x = bytesOf ups k x ++ [x / 2 ^ (8 * k) % 256] := bytesOf_snoc ups k x
      have Hbs := Lib.hid hbs
      clear hn hbs
      generalize x / 2 ^ (8 * k) = y at *
      go_wp2_with (at_builtin; refine wpList_append_own _ rfl (.tmp 9) (.tmp 13) 86 rfl w.heap.size 5 i0 (.int .u8 0) 1 1 Tryz.underlying86 hi hz0 hz1 hz2 rfl (by decide) _ _ _ rfl (hown.alloc _) ⟨wr.heap.size, 0, none⟩ 1 1 [.int .u8 ((y : Int) % 256)] rfl rfl ?c1 ?c2 ?c3 ?c4 ?c5 ?_)
      case c1 => exact one_new _ _ _
      case c2 => exact one_cell _ rfl
      case c3 => unfold maxLen; omega
      case c4 => omega
      case c5 => simp; omega
      intro v' w2 hown2 hg2 _
      have R := rel_step hb hsz hown hown2 hg2
      clear hown2 hg2 hown hb
      go_wp2
      go_roundw
      case rel => exact ⟨k + 1, by omega, by go_num, by rw [← Hn.out]; simp, by rw [Hbs.out, u8s_append]; simpa [u8s] using R.1, R.2⟩
      case measure => simp [intOf]; omega
    · obtain rfl : k = 4 := by omega
      go_wp2
      go_ret
      exact ⟨_, rfl, hown, hb⟩
theorem of32_own (x : Nat) (w : World) (hx : x < 2 ^ 32) : Calls Tryz.prog 33 #[.int .u32 (x : Int)] w fun e w' => ∃ g c, e = .returned (.slice (some ⟨g, 0, none⟩) 4 c) ∧ w'.ownsRow w.heap.size 5 1 (.slice (some ⟨g, 0, none⟩) 4 c) 4 (u8s (bytesOf ups 4 x)) ∧ Below w.heap.size w w' :=
  (of32_any x w hx).mono fun e w' ⟨v, he, hown, hb⟩ => by
    obtain ⟨A, c, rfl, _, hA, _⟩ := own_form hown
    obtain ⟨g, rfl, _⟩ := hA (by omega)
    exact ⟨g, c, he, hown, hb⟩
open Go.RowKit
open Go.RowKit
def nb (s : ByteArray) : List Nat := s.data.toList.map UInt8.toNat
theorem nb_length (s : ByteArray) : (nb s).length = s.size := by unfold nb; rw [List.length_map, Array.length_toList]; rfl
theorem nb_lt (s : ByteArray) : ∀ x ∈ nb s, x < 256 := by
  intro x hx
  obtain ⟨u, _, rfl⟩ := List.mem_map.1 hx
  exact u.toNat_lt
structure Buf (w : World) (g : Nat) (xs : List Nat) : Prop where
  cell : ∀ j, (h : j < xs.length) → w.cell? ⟨g, j, none⟩ = some (.int .u8 (xs[j] : Int))
  free : ∀ j, j < xs.length → w.frozen? ⟨g, j, none⟩ = false
theorem Buf.reads {w : World} {g B : Nat} {xs : List Nat} (h : Buf w g xs) (hg : g < B) : Reads w B (some ⟨g, 0, none⟩) (u8s xs) := fun k hk => by
  rw [u8s_length] at hk
  exact ⟨g, 0, rfl, hg, by rw [Nat.zero_add, h.cell k hk, u8_at]⟩
theorem bytes_of_text (w : World) (s : ByteArray) : ∃ W c, (convert 9 86 (.string s)).run Tryz.prog w = .ok (.slice (some ⟨w.heap.size, 0, none⟩) s.size c) W ∧ Below w.heap.size w W ∧ Buf W w.heap.size (nb s) ∧ W.heap.size = w.heap.size + 1 := by
  refine ⟨_, _, Lib.run_convert_string_bytes w 9 86 5 s Tryz.underlying9 Tryz.underlying86 Tryz.underlying5, ⟨rfl, rfl, rfl, by rw [Lib.bytesWorld_size]; omega, fun k hk => Lib.bytesWorld_at_old w 5 s k hk⟩, ⟨fun j hj => ?_, fun j hj => ?_⟩, Lib.bytesWorld_size w 5 s⟩
  · rw [nb_length] at hj
    rw [Lib.bytesWorld_cell w 5 s j hj]
    have hj2 : j < s.data.toList.length := by rw [Array.length_toList]; exact hj
    simp [nb, List.getD, List.getElem?_eq_getElem hj2]
  · rw [nb_length] at hj
    have h := Lib.bytesWorld_at_new w 5 s
    have hsz : j < (Lib.bytesCells w 5 s).size := by simp [Lib.bytesCells]; omega
    simp [World.frozen?, h]
    omega
end Go.Proofs.YtfoodaobiknihaaGreatDoor

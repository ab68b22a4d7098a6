/- words.taken, at words of 32 and of 64 bits, by its contract. -/
import Derived.Test.YtebocfbnamcnoaaDoorSmall
import Derived.StillTailTactics
namespace Go.Proofs.YtebocfbnamcnoaaDoor
set_option maxRecDepth 50000
open Go.RowKit

/-- the first m bytes of a word, put together; f tells the bytes -/
def orTo (p : Nat → Nat) (f : Nat → Nat) : Nat → Nat
  | 0 => 0
  | m + 1 => orTo p f m ||| f m * 2 ^ (8 * p m)
/-- word number j of bytes bs, n bytes each, when t of them are in -/
def wordAt (p : Nat → Nat) (n : Nat) (bs : List Nat) (t j : Nat) : Nat := orTo p (fun i => bs.getD (j * n + i) 0) (min n (t - j * n))
def wordsAt (p : Nat → Nat) (n M : Nat) (bs : List Nat) (t : Nat) : List Nat := (List.range M).map (wordAt p n bs t)

theorem orTo_lt (p : Nat → Nat) (n : Nat) (hp : ∀ i, i < n → p i < n) (f : Nat → Nat) (hf : ∀ i, f i < 256) : ∀ m, m ≤ n → orTo p f m < 2 ^ (8 * n)
  | 0, _ => Nat.two_pow_pos _
  | m + 1, h => by
    refine Nat.or_lt_two_pow (orTo_lt p n hp f hf m (by omega)) ?_
    have h1 := hp m (by omega)
    have h2 : f m * 2 ^ (8 * p m) < 2 ^ 8 * 2 ^ (8 * p m) := Nat.mul_lt_mul_of_pos_right (hf m) (Nat.two_pow_pos _)
    rw [← Nat.pow_add] at h2
    exact Nat.lt_of_lt_of_le h2 (Nat.pow_le_pow_right (by omega) (by omega))
theorem getD_lt (bs : List Nat) (hx : ∀ x ∈ bs, x < 256) (i : Nat) : bs.getD i 0 < 256 := by
  unfold List.getD
  cases h : bs[i]? with
  | none => simp
  | some x => exact hx x (List.mem_of_getElem? h)
theorem wordAt_lt (p : Nat → Nat) (n : Nat) (hp : ∀ i, i < n → p i < n) (bs : List Nat) (hx : ∀ x ∈ bs, x < 256) (t j : Nat) : wordAt p n bs t j < 2 ^ (8 * n) :=
  orTo_lt p n hp _ (fun _ => getD_lt bs hx _) _ (Nat.min_le_left _ _)
theorem shifted_lt (n k x : Nat) (hk : k < n) (hx : x < 256) : x * 2 ^ (8 * k) < 2 ^ (8 * n) := by
  have h2 : x * 2 ^ (8 * k) < 2 ^ 8 * 2 ^ (8 * k) := Nat.mul_lt_mul_of_pos_right hx (Nat.two_pow_pos _)
  rw [← Nat.pow_add] at h2
  exact Nat.lt_of_lt_of_le h2 (Nat.pow_le_pow_right (by omega) (by omega))
theorem words_set (p : Nat → Nat) (n M : Nat) (bs : List Nat) (t j m x : Nat) (ht : t = n * j + m) (hm : m < n) (hx : bs.getD t 0 = x) :
    (wordsAt p n M bs t).set j (wordAt p n bs t j ||| x * 2 ^ (8 * p m)) = wordsAt p n M bs (t + 1) := by
  refine List.ext_getElem (by simp [wordsAt]) fun i h1 h2 => ?_
  simp only [wordsAt, List.length_map, List.length_range] at h2
  rw [List.getElem_set]
  simp only [wordsAt, List.getElem_map, List.getElem_range]
  have hcomm : j * n = n * j := Nat.mul_comm _ _
  split
  · rename_i h; subst h
    unfold wordAt
    rw [show min n (t - j * n) = m from by omega, show min n (t + 1 - j * n) = m + 1 from by omega]
    show _ = orTo p _ m ||| bs.getD (j * n + m) 0 * 2 ^ (8 * p m)
    rw [show j * n + m = t from by omega, hx]
  · rename_i h
    unfold wordAt
    congr 1
    rcases Nat.lt_or_gt_of_ne h with hlt | hgt
    · have : (j + 1) * n ≤ i * n := Nat.mul_le_mul_right _ hlt
      rw [Nat.add_mul] at this
      omega
    · have : (i + 1) * n ≤ j * n := Nat.mul_le_mul_right _ hgt
      rw [Nat.add_mul] at this
      omega
theorem words_zero (p : Nat → Nat) (n M : Nat) (bs : List Nat) : wordsAt p n M bs 0 = List.replicate M 0 := by
  refine List.ext_getElem (by simp [wordsAt]) fun i _ _ => ?_
  simp [wordsAt, wordAt, orTo]
theorem or_u32 (y x k : Nat) (hy : y < 2 ^ 32) (hx : x < 256) (hk : k < 4) : bits .or .u32 (y : Int) ((x : Int) * 2 ^ (8 * k) % 4294967296) = ((y ||| x * 2 ^ (8 * k) : Nat) : Int) := by
  have h := shifted_lt 4 k x hk hx
  have e : (x : Int) * 2 ^ (8 * k) % 4294967296 = ((x * 2 ^ (8 * k) : Nat) : Int) := by
    have : ((x * 2 ^ (8 * k) : Nat) : Int) % 4294967296 = ((x * 2 ^ (8 * k) : Nat) : Int) := by omega
    rw [← this, Int.natCast_mul, Int.natCast_pow]; rfl
  rw [e]
  exact u32_or_nat y _ (by omega) (by omega)

theorem made_one (z : Value) (M : Nat) : (madeCells #[z] M).toList = List.replicate M z := by
  refine List.ext_getElem (by simp [madeCells]) fun i h1 h2 => ?_
  simp [madeCells, Nat.mod_one]
theorem or_u64 (y x k : Nat) (hy : y < 2 ^ 64) (hx : x < 256) (hk : k < 8) : bits .or .u64 (y : Int) (IntKind.u64.wrap ((x : Int) * 2 ^ (8 * k))) = ((y ||| x * 2 ^ (8 * k) : Nat) : Int) := by
  have h := shifted_lt 8 k x hk hx
  have e : IntKind.u64.wrap ((x : Int) * 2 ^ (8 * k)) = ((x * 2 ^ (8 * k) : Nat) : Int) := by
    rw [IntKind.wrap_u64]
    have : ((x * 2 ^ (8 * k) : Nat) : Int) % 18446744073709551616 = ((x * 2 ^ (8 * k) : Nat) : Int) := by omega
    rw [← this, Int.natCast_mul, Int.natCast_pow]; rfl
  rw [e]
  exact u64_or_nat y _ (by omega) (by omega)

theorem Tryd.info29 : (Tryd.prog.info? 29).map (fun i => (i.zero, i.size, i.bytes)) = some (some (.int .u32 0), 1, 4) := by kernel_rfl
theorem Tryd.info105 : (Tryd.prog.info? 105).map (fun i => (i.zero, i.size, i.bytes)) = some (some (.int .u64 0), 1, 8) := by kernel_rfl

set_option maxHeartbeats 1600000 in
theorem taken32_any (g : FuncId) (p : Nat → Nat) (hp : ∀ i, i < 4 → p i < 4) (ho : Orders g p 4) (A : Option Addr) (c : Nat) (bs : List Nat) (M : Nat) (hM : bs.length = 4 * M) (w : World) (hr : Reads w w.heap.size A (u8s bs)) (hlen : bs.length ≤ 1000000) (hx : ∀ x ∈ bs, x < 256) :
    Calls Tryd.prog 72 #[.slice A bs.length c, .int .i64 4, .func (.func g) #[] #[]] w fun e w' => ∃ v, e = .returned (.tuple #[v, .int .i64 0]) ∧ w'.ownsRow w.heap.size 29 1 v M (u32s (wordsAt p 4 M bs (4 * M))) ∧ Below w.heap.size w w' := by
  obtain ⟨i0, hi, hz0, hz1, hz2⟩ := info_parts Tryd.info29
  have hlen63 : M ≤ 250000 := by omega
  obtain ⟨hcf, hoi⟩ := ho
  have hoi4 : ∀ (i : Nat) (w : World), i < 4 → Calls Tryd.prog g #[.int .i64 (i : Int), .int .i64 4] w fun e w' => e = .returned (.int .i64 (p i : Nat)) ∧ w = w' := hoi
  have Ho := Lib.hid hoi4
  have Hx := Lib.hid hx
  have Hp := Lib.hid hp
  have Hr := Lib.hid hr
  have HM := Lib.hid hM
  rw [hM]
  clear hoi hoi4 hx hp hr hM hlen
  go_enter Tryd.func72, Tryd.ntmps72
  go_wp2_with (at_make; refine wpList_make_full _ rfl _ _ 64 rfl w.heap.size 29 i0 (.int .u32 0) 1 Tryd.underlying64 hi hz0 hz1 _ _ _ _ M rfl rfl rfl rfl ?c1 ?c2 ?c3 ?_)
  case c1 => simp [hz2]; omega
  case c2 => unfold maxLen; omega
  case c3 => exact Nat.le_refl _
  intro w1 hown1 hg1
  have hb1 : Below w.heap.size w w1 := (Below.refl _ _).grown hg1 (Nat.le_refl _) (by simp)
  clear hg1
  go_wp2
  go_loopw [23] (fun i wr => ∃ t : Nat, t ≤ 4 * M ∧ i = .int .i64 t ∧ wr.ownsRow w.heap.size 29 1 (.slice (some ⟨w.heap.size, 0, none⟩) M M) M (u32s (wordsAt p 4 M bs t)) ∧ Below w.heap.size w wr) (fun i _ => 4 * M - (intOf i).toNat)
  case atStart => exact ⟨0, Nat.zero_le _, rfl, by rw [words_zero]; rw [made_one] at hown1; simpa [u32s] using hown1, hb1⟩
  case round =>
    obtain ⟨t, ht, rfl, hown, hb⟩ := hrel
    clear hown1 hb1
    by_cases hlt : t < 4 * M
    · obtain ⟨j, hj⟩ : ∃ j, j = t / 4 := ⟨_, rfl⟩
      obtain ⟨m, hm⟩ : ∃ m, m = t % 4 := ⟨_, rfl⟩
      have hjM : j < M := by omega
      have hm4 : m < 4 := by omega
      have htj : t = 4 * j + m := by omega
      have Htj := Lib.hid htj
      have hj2 : (t : Int) / 4 = (j : Int) := by omega
      have hm2 : (t : Int) % 4 = (m : Int) := by omega
      clear hj hm htj
      have hpm := Hp.out m hm4
      obtain ⟨b, off, rfl, hbB, hcell⟩ := (Hr.out.below hb) t (by rw [u8s_length, HM.out]; exact hlt)
      rw [u8_at] at hcell
      have htl : t < bs.length := by have := HM.out; omega
      have hx0 := Hx.out bs[t] (List.getElem_mem htl)
      generalize hxx : bs[t] = x at *
      have Hxx := Lib.hid hxx
      have hcj : wr.cell? ⟨w.heap.size, j, none⟩ = some (.int .u32 (wordAt p 4 bs t j : Nat)) := by
        rw [hown.cellAt j (by omega)]; simp [u32s, wordsAt, hjM]
      have hfj : wr.frozen? ⟨w.heap.size, j, none⟩ = false := hown.frozenAt j
      generalize hy : wordAt p 4 bs t j = y at *
      have Hy := Lib.hid hy
      have hy32 : y < 2 ^ 32 := by rw [← hy]; exact wordAt_lt p 4 Hp.out bs Hx.out t j
      have hset := words_set p 4 M bs t j m x Htj.out hm4 (by simp [← hxx, List.getD, List.getElem?_eq_getElem htl])
      rw [hy] at hset
      have hor := or_u32 y x (p m) hy32 hx0 hpm
      have Hset := Lib.hid hset
      have Hor := Lib.hid hor
      clear hxx hy hset hor
      have hy32 : y ≤ 4294967295 := by omega
      have hwj : IntKind.i64.wrap (j : Int) = (j : Int) := IntWalk.i64_in _ (by omega)
      have hw8 : IntKind.i64.wrap (8 * (p m : Int)) = 8 * (p m : Int) := IntWalk.i64_in _ (by omega)
      have hn8 : (8 * (p m : Int)).toNat = 8 * p m := by omega
      have hg8 : 0 ≤ 8 * (p m : Int) := by omega
      have hgj : 0 ≤ (j : Int) := by omega
      have hgM : (j : Int) < (M : Int) := by omega
      have htm : (t : Int).tmod 4 = (m : Int) := by rw [Int.tmod_eq_emod_of_nonneg (by omega)]; exact hm2
      go_wp2
      refine wp_region_still_tail 18 (by kernel_rfl) (by kernel_rfl) ?_
      simp only [List.take_succ_cons, List.take_zero, List.drop_succ_cons, List.drop_zero]
      repeat still_step
      still_call ((Ho.out m _ hm4).mono fun _ _ h => And.intro h.1 h.2.symm)
      repeat still_step
      refine wpStill_nil ?_
      change wpList _ _ _ _ _ wr.drew
      go_wp2
      go_roundw
      case rel =>
        refine ⟨t + 1, by omega, by go_num, ?_, (hb.setCell (Nat.le_refl _) _).drew⟩
        have hst := (hown.stored j (.int .u32 (y ||| x * 2 ^ (8 * p m) : Nat))).1
        have e : (u32s (wordsAt p 4 M bs t)).set j (.int .u32 (y ||| x * 2 ^ (8 * p m) : Nat)) = u32s (wordsAt p 4 M bs (t + 1)) := by rw [← Hset.out]; unfold u32s; rw [List.map_set]
        rw [e] at hst
        rw [Hor.out]
        exact hst.drew
      case measure => simp [intOf]; omega
    · obtain rfl : t = 4 * M := by omega
      go_wp2
      go_ret2
      exact ⟨_, rfl, hown, hb⟩

theorem taken32_bad (g : FuncId) (A : Option Addr) (c n : Nat) (hn : n % 4 ≠ 0) (hlen : n ≤ 1000000) (w : World) :
    Calls Tryd.prog 72 #[.slice A n c, .int .i64 4, .func (.func g) #[] #[]] w fun e w' => e = .returned (.tuple #[.slice none 0 0, .int .i64 9]) ∧ w = w' := by
  have h1 : ¬ (n : Int) % 4 = 0 := by omega
  go_enter Tryd.func72, Tryd.ntmps72
  go_wp2
  go_ret2
  exact ⟨rfl, rfl⟩

end Go.Proofs.YtebocfbnamcnoaaDoor

/- sha.Pad by its contract: what stands behind so many bytes. Condition: the number is an int. -/
import Derived.Test.YtlifpplhinmajaaGreatDoorShSched
import Derived.Test.YtlifpplhinmajaaGreatDoorWb
import Derived.Test.YtlifpplhinmajaaGreatDoorFh
namespace Go.Proofs.YtlifpplhinmajaaGreatDoor
set_option maxRecDepth 50000
open Go.RowKit Sha

/-- bytes that are told as numbers -/
def bytesL (l : List Nat) : List UInt8 := l.map UInt8.ofNat
theorem cs_bytesL (l : List Nat) (h : ∀ x ∈ l, x < 256) : cs (bytesL l) = u8s l := by
  unfold cs bytesL u8s
  rw [List.map_map]
  refine List.map_congr_left fun x hx => ?_
  have := h x hx
  simp [Function.comp, Nat.mod_eq_of_lt this]
/-- how many bytes 0 stand behind the byte 128 -/
def room (t : Nat) : Nat := 63 - (t % 64 + 8) % 64
def padN (t : Nat) : List Nat := (128 :: List.replicate (room t) 0) ++ bytesOf (downs 8) 8 (8 * t % 18446744073709551616)
def padL (t : Nat) : List UInt8 := bytesL (padN t)
theorem bytesOf_lt (p : Nat → Nat) (n x : Nat) : ∀ b ∈ bytesOf p n x, b < 256 := by
  intro b hb
  simp only [bytesOf, List.mem_map] at hb
  obtain ⟨i, _, rfl⟩ := hb
  exact Nat.mod_lt _ (by decide)
theorem padN_lt (t : Nat) : ∀ x ∈ padN t, x < 256 := by
  intro x hx
  simp only [padN, List.mem_append, List.mem_cons, List.mem_replicate] at hx
  rcases hx with (rfl | ⟨_, rfl⟩) | hx
  · decide
  · decide
  · exact bytesOf_lt _ _ _ x hx
theorem padL_length (t : Nat) : (padL t).length = 1 + room t + 8 := by simp [padL, bytesL, padN, bytesOf_length]; omega
theorem pad_whole (t : Nat) : (t + (padL t).length) % 64 = 0 := by rw [padL_length]; unfold room; omega

theorem wpList_make_part {ops : Array Oper} {rest : List Oper} {o : Oper} {a : Act} {Q : Exit → Act → World → Prop} (w : World) (hg : o.guard = none) (l c : Operand) (hop : o.op = Op.makeSlice 68 l c) (n m : Nat)
    (hl : a.eval l = .int .i64 (n : Int)) (hc : a.eval c = .int .i64 (m : Int)) (hnm : n ≤ m) (hm : m ≤ 1000000)
    (hK : ∀ w', w'.ownsRow w.heap.size 5 1 (.slice (some ⟨w.heap.size, 0, none⟩) n m) n (List.replicate n (.int .u8 0)) → w.grownBy w' none → wpList Tryz.prog ops Q rest (a.put o.dst (.slice (some ⟨w.heap.size, 0, none⟩) n m)) w') :
    wpList Tryz.prog ops Q (o :: rest) a w := by
  obtain ⟨i0, hi, hz0, hz1, hz2⟩ := info_parts Tryz.info5
  refine wpList_plain hg fun K hK' => ?_
  have hrun := run_make (P := Tryz.prog) w 68 5 i0 (.int .u8 0) Tryz.underlying68 hi hz0 .i64 .i64 n m (by omega) (by omega) (by rw [hz2]; omega) (by omega)
  rw [hz1, Nat.mul_one] at hrun
  simp only [Int.toNat_natCast] at hrun
  unfold Oper.wp
  simp only [execOp, hop, hl, hc, Sem.run_bind, hrun, Result.andThen, Sem.run_pure]
  refine hK' _ _ (hK _ ?_ (World.grownBy_alloc w _ none))
  refine ⟨by simp, .inr ⟨w.heap.size, m, _, rfl, Nat.le_refl _, heap_alloc_new w _, hnm, by unfold maxLen; omega, by rw [size_madeCells, Nat.mul_one], ?_⟩⟩
  show List.take (n * 1) (madeCells #[.int .u8 0] m).toList = _
  rw [toList_madeCells_one, List.take_replicate, Nat.mul_one, Nat.min_eq_left hnm]

set_option maxHeartbeats 1600000 in
theorem pad_neg (t : Int) (h : t < 0) (w : World) : Calls Tryz.prog 117 #[.int .i64 t] w fun e w' => e = .returned (.string ⟨#[]⟩) ∧ w = w' := by
  go_enter Tryz.func117, Tryz.ntmps117
  go_wp2
  go_ret
  exact ⟨rfl, rfl⟩

set_option maxHeartbeats 1600000 in
theorem pad_any (t : Nat) (ht : t ≤ 9223372036854775807) (w : World) : Calls Tryz.prog 117 #[.int .i64 (t : Int)] w fun e w' => e = .returned (.string (tx (padL t))) ∧ Below w.heap.size w w' := by
  obtain ⟨i0, hi, hz0, hz1, hz2⟩ := info_parts Tryz.info5
  obtain ⟨p, hp⟩ : ∃ p, p = t % 64 := ⟨_, rfl⟩
  have hp1 : (t : Int).tmod 64 = (p : Int) := by rw [Int.tmod_eq_emod_of_nonneg (by omega)]; omega
  have hpb : p < 64 := by omega
  obtain ⟨q, hq⟩ : ∃ q, q = (p + 8) % 64 := ⟨_, rfl⟩
  have hq1 : ((p : Int) + 8).tmod 64 = (q : Int) := by rw [Int.tmod_eq_emod_of_nonneg (by omega)]; omega
  have hqb : q < 64 := by omega
  obtain ⟨r, hr⟩ : ∃ r, r = room t := ⟨_, rfl⟩
  have hr1 : (63 : Int) - (q : Int) = (r : Int) := by unfold room at hr; omega
  have hrb : r < 64 := by omega
  obtain ⟨n1, hn1⟩ : ∃ n1, n1 = 1 + r := ⟨_, rfl⟩
  obtain ⟨n2, hn2⟩ : ∃ n2, n2 = n1 + 8 := ⟨_, rfl⟩
  have hs1 : (1 : Int) + (r : Int) = (n1 : Int) := by omega
  have hs2 : (n1 : Int) + 8 = (n2 : Int) := by omega
  have h11 : 1 ≤ n1 := by omega
  have h12 : n1 ≤ 64 := by omega
  have h21 : n1 ≤ n2 := by omega
  have h22 : n2 ≤ 72 := by omega
  have HN := Lib.hid (And.intro hn1 hn2)
  obtain ⟨x, hx⟩ : ∃ x, x = 8 * t % 18446744073709551616 := ⟨_, rfl⟩
  have hx1 : IntKind.u64.wrap (8 * (t : Int)) = (x : Int) := by rw [IntKind.wrap_u64]; omega
  have hxb : x < 2 ^ 64 := by rw [hx]; exact Nat.mod_lt _ (by decide)
  have HP : Hid (padN t = (128 :: List.replicate r 0) ++ bytesOf (downs 8) 8 x) := Lib.hid (by rw [hr, hx]; rfl)
  have C : ∀ (w : World) (A : Option Addr), Reads w w.heap.size A (u64s [x]) → Calls Tryz.prog 133 #[.slice A 1 1] w fun e w' => ∃ v, e = .returned v ∧ w'.ownsRow w.heap.size 5 1 v 8 (u8s (bytesOf (downs 8) 8 x)) ∧ Below w.heap.size w w' := fun w A hrd => by
    have h := big64_any A 1 [x] w hrd (by simp) (by simpa using hxb)
    simpa using h
  have HC := Lib.hid C
  clear C hp hq hr hx hxb hn1 hn2
  go_enter Tryz.func117, Tryz.ntmps117
  go_wp2_with (at_make; refine wpList_make_part _ rfl _ _ rfl n1 n2 rfl rfl ?c1 ?c2 ?_)
  case c1 => exact h21
  case c2 => omega
  intro w1 hown hg1
  have hB1 : Below w.heap.size w w1 := (Below.refl _ w).grown hg1 (Nat.le_refl _) (fun k hk => by cases hk)
  have hlen : (List.replicate n1 (Value.int .u8 0)).length = n1 := by simp
  have c0 : w1.cell? ⟨w.heap.size, 0, none⟩ = some (.int .u8 0) := by
    rw [hown.cellAt 0 (by omega), List.getElem?_replicate, if_pos (by omega)]
  have f0 := hown.frozenAt 0
  have hst := hown.stored 0 (.int .u8 128)
  have HO := Lib.hid hst
  have HG := Lib.hid hg1
  clear hown hst hg1 hlen
  go_wp2_with fail
  refine (HC.out _ _ (fun k hk => ?_)).mono ?_
  case refine_1 =>
    have hk0 : k = 0 := by simp [u64s] at hk; omega
    subst hk0
    have h := one_new (w1.setCell ⟨w.heap.size, 0, none⟩ (.int .u8 128)) (.int .u64 (x : Int)) 96 0 _ rfl
    have hs : (w1.setCell ⟨w.heap.size, 0, none⟩ (.int .u8 128)).heap.size = w1.heap.size := by simp [World.setCell]
    rw [hs] at h
    exact ⟨w1.heap.size, 0, rfl, by simp, by simpa [Addr.add, u64s] using h⟩
  rintro e w2 ⟨v, rfl, hown2, hb2⟩
  obtain ⟨A', c', rfl, hl2, hg2, hm2⟩ := own_form hown2
  obtain ⟨g, rfl, hbg⟩ := hg2 (by simp)
  have hl1 := HO.out.1
  have hsz1 : w.heap.size < w1.heap.size := by
    rcases Nat.lt_or_ge w.heap.size w1.heap.size with h | h
    · exact h
    · rw [World.cell?] at c0; simp [Array.getElem?_eq_none h] at c0
  have own1 := own_kept (M := fun _ => False) (HO.out.1.alloc (.cells #[.int .u64 (x : Int)] 96)) (Kept.of_below hb2) (fun _ _ h => h)
  have hB2 : Below w.heap.size w w2 := ((hB1.setCell (p := ⟨w.heap.size, 0, none⟩) (Nat.le_refl _) (.int .u8 128)).alloc (by simp [World.setCell]; omega) (.cells #[.int .u64 (x : Int)] 96)).trans (hb2.mono (by simp [World.setCell]; omega))
  have R2 := Reads.of_own hown2
  clear hown2 hl1 hl2 hg2 hm2 c0 f0 HG HC hbg hB1
  have HOW := Lib.hid own1
  have HB2 := Lib.hid hB2
  have hsz2 := hB2.size
  have hap : ∀ j v, (u8s (bytesOf (downs 8) 8 x))[j]? = some v → w2.cell? ((⟨g, 0, none⟩ : Addr).add j) = some v := fun j v hj => by
    obtain ⟨hj', rfl⟩ := List.getElem?_eq_some_iff.1 hj
    obtain ⟨b, off, e, _, hc⟩ := R2 j (by simpa using hj')
    cases e
    have hadd : (⟨g, 0, none⟩ : Addr).add j = ⟨g, 0 + j, none⟩ := by unfold Addr.add; split <;> simp_all
    rw [hadd]; simpa using hc
  have HA := Lib.hid hap
  clear hap R2 own1 hB2 hb2
  go_wp2_with (at_builtin; refine wpList_append_own _ rfl (.tmp 20) (.tmp 25) 68 rfl w.heap.size 5 i0 (.int .u8 0) 1 1 Tryz.underlying68 hi hz0 hz1 hz2 rfl (by decide) _ _ _ rfl HOW.out ⟨g, 0, none⟩ 8 c' (u8s (bytesOf (downs 8) 8 x)) rfl rfl ?d1 ?d2 ?d3 ?d4 ?d5 ?_)
  case d1 => exact HA.out
  case d2 => intro u hu; simp only [u8s, List.mem_map] at hu; obtain ⟨y, _, rfl⟩ := hu; rfl
  case d3 => unfold maxLen; omega
  case d4 => omega
  case d5 => omega
  intro v' w3 hown3 hg3 _
  have hB3 : Below w.heap.size w w3 := HB2.out.grown hg3 (by omega) (fun k hk => (HOW.out.lt k hk).1)
  have e3 : (List.replicate n1 (Value.int .u8 0)).set 0 (.int .u8 128) ++ u8s (bytesOf (downs 8) 8 x) = cs (padL t) := by
    obtain ⟨e1, _⟩ := HN.out
    unfold padL
    rw [cs_bytesL _ (padN_lt t), HP.out, e1, Nat.add_comm 1 r, List.replicate_succ, List.set_cons_zero, u8s_append]
    congr 1
    simp [u8s]
  rw [e3] at hown3
  have hc := conv_text w3 hown3
  have HB3 := Lib.hid hB3
  clear hown3 hg3 e3 hB3
  go_wp2
  go_ret
  exact ⟨rfl, HB3.out⟩
end Go.Proofs.YtlifpplhinmajaaGreatDoor

/- Bytes, From and Of of package block, and the document's Bytes, by their contracts. Conditions: those typed. -/
import Derived.Test.YtpampgkhjcfeaaaDoorBb
import Derived.Test.YtpampgkhjcfeaaaDoorWb
import Derived.Test.YtpampgkhjcfeaaaDoorBf
import Derived.Laws.CopyRow
import Derived.LoopTactic
namespace Go.Proofs.YtpampgkhjcfeaaaDoor
set_option maxRecDepth 50000
open Go.RowKit Bb

theorem orTo_ups_b (f : Nat → Nat) (hf : ∀ i, f i < 256) (m : Nat) : orTo ups f (m + 1) = orTo ups f m + f m * 2 ^ (8 * m) := by
  have h : orTo ups f m < 2 ^ (8 * m) := orTo_lt ups m (fun i h => h) f hf m (Nat.le_refl _)
  rw [orTo, Nat.or_comm, show f m * 2 ^ (8 * ups m) = 2 ^ (8 * m) * f m from by rw [Nat.mul_comm]; rfl, ← Nat.two_pow_add_eq_or_of_lt h, Nat.add_comm, Nat.mul_comm]
/-- a byte of eight that are put together -/
theorem byte_of8 (f : Nat → Nat) (hf : ∀ i, f i < 256) (i : Nat) (hi : i < 8) : orTo ups f 8 / 2 ^ (8 * i) % 256 = f i := by
  have e : orTo ups f 8 = f 0 + f 1 * 256 + f 2 * 65536 + f 3 * 16777216 + f 4 * 4294967296 + f 5 * 1099511627776 + f 6 * 281474976710656 + f 7 * 72057594037927936 := by
    rw [orTo_ups_b f hf 7, orTo_ups_b f hf 6, orTo_ups_b f hf 5, orTo_ups_b f hf 4, orTo_ups_b f hf 3, orTo_ups_b f hf 2, orTo_ups_b f hf 1, orTo_ups_b f hf 0]
    simp [orTo]
  rw [e]
  have h0 := hf 0; have h1 := hf 1; have h2 := hf 2; have h3 := hf 3; have h4 := hf 4; have h5 := hf 5; have h6 := hf 6; have h7 := hf 7
  clear e hf
  rcases (show i = 0 ∨ i = 1 ∨ i = 2 ∨ i = 3 ∨ i = 4 ∨ i = 5 ∨ i = 6 ∨ i = 7 by omega) with rfl | rfl | rfl | rfl | rfl | rfl | rfl | rfl <;> (generalize f 0 = a0 at *; generalize f 1 = a1 at *; generalize f 2 = a2 at *; generalize f 3 = a3 at *; generalize f 4 = a4 at *; generalize f 5 = a5 at *; generalize f 6 = a6 at *; generalize f 7 = a7 at *; simp only [Nat.mul_zero, Nat.pow_zero, Nat.div_one, Nat.reduceMul, Nat.reducePow]; omega)
/-- the bytes of the words that are made of bytes -/
theorem bytes_words (M : Nat) (bs : List Nat) (hM : bs.length = 8 * M) (hx : ∀ x ∈ bs, x < 256) : (wordsAt ups 8 M bs (8 * M)).flatMap (bytesOf ups 8) = bs := by
  have hl : (wordsAt ups 8 M bs (8 * M)).length = M := by simp [wordsAt]
  refine List.ext_getElem (by rw [flat_length, hl, hM]) fun t h1 h2 => ?_
  have ht : t < 8 * M := by omega
  have e := flat_getD 8 (bytesOf ups 8) (fun x => bytesOf_length ups 8 x) (wordsAt ups 8 M bs (8 * M)) (t / 8) (t % 8) (by rw [hl]; omega) (by omega)
  rw [show t / 8 * 8 + t % 8 = t by omega] at e
  have e1 : ((wordsAt ups 8 M bs (8 * M)).flatMap (bytesOf ups 8)).getD t 0 = ((wordsAt ups 8 M bs (8 * M)).flatMap (bytesOf ups 8))[t] := by
    rw [List.getD_eq_getElem?_getD, List.getElem?_eq_getElem h1]; rfl
  rw [← e1, e]
  have e2 : (wordsAt ups 8 M bs (8 * M))[t / 8]'(by rw [hl]; omega) = orTo ups (fun i => bs.getD (t / 8 * 8 + i) 0) 8 := by
    simp only [wordsAt, List.getElem_map, List.getElem_range, wordAt]
    rw [show min 8 (8 * M - t / 8 * 8) = 8 by omega]
  rw [e2]
  have e3 : (bytesOf ups 8 (orTo ups (fun i => bs.getD (t / 8 * 8 + i) 0) 8)).getD (t % 8) 0 = orTo ups (fun i => bs.getD (t / 8 * 8 + i) 0) 8 / 2 ^ (8 * (t % 8)) % 256 := by
    rw [List.getD_eq_getElem?_getD, List.getElem?_eq_getElem (by rw [bytesOf_length]; omega)]
    simp [bytesOf, ups]
  rw [e3, byte_of8 _ (fun i => getD_lt bs hx _) _ (by omega), show t / 8 * 8 + t % 8 = t by omega, List.getD_eq_getElem?_getD, List.getElem?_eq_getElem h2]
  rfl

/-- a block's bytes as numbers, and the block of so many bytes -/
def byB (L : List Nat) : List Nat := L.flatMap (bytesOf ups 8)
def frB (bs : List Nat) : List Nat := wordsAt ups 8 128 bs (8 * 128)
theorem byB_length {L : List Nat} (h : okb L) : (byB L).length = 1024 := by rw [byB, flat_length, h.1]
theorem byB_lt (L : List Nat) : ∀ x ∈ byB L, x < 256 := flat_lt _ _ _
theorem frB_ok (bs : List Nat) (hx : ∀ x ∈ bs, x < 256) : okb (frB bs) := by
  refine ⟨by simp [frB, wordsAt], fun x h => ?_⟩
  simp only [frB, wordsAt, List.mem_map, List.mem_range] at h
  obtain ⟨j, _, rfl⟩ := h
  exact wordAt_lt ups 8 (fun i h => h) bs hx _ _
theorem fr_by {L : List Nat} (h : okb L) : frB (byB L) = L := by
  have := words_back ups 8 (onto_ups 8) L (fun x hx => by have := h.2 x hx; omega)
  rwa [h.1] at this
theorem by_fr (bs : List Nat) (hl : bs.length = 1024) (hx : ∀ x ∈ bs, x < 256) : byB (frB bs) = bs := bytes_words 128 bs (by omega) hx
theorem str_nb (s : ByteArray) : strOf (nb s) = s := by
  unfold strOf strOfNums nb
  rw [List.map_map, List.map_map]
  conv => rhs; rw [show s = ⟨s.data.toList.toArray⟩ by rw [Array.toArray_toList]]
  congr 2
  conv => rhs; rw [← List.map_id s.data.toList]
  exact List.map_congr_left fun b _ => by simp
theorem nb_str (l : List Nat) (h : ∀ x ∈ l, x < 256) : nb (strOf l) = l := by
  unfold nb strOf strOfNums
  simp only [List.map_map]
  conv => rhs; rw [← List.map_id l]
  exact List.map_congr_left fun x hx => by
    have := h x hx
    simp [Nat.mod_eq_of_lt this]

set_option maxHeartbeats 1600000 in
theorem bytes_any {L : List Nat} (hL : okb L) (w : World) : Calls Tryd.prog 27 #[.agg (wq L)] w fun e w' => e = .returned (.string (strOf (byB L))) ∧ Below w.heap.size w w' := by
  have hb := (Below.refl _ w).alloc (Nat.le_refl _) (.cells (wq L) 29)
  have hR := RowAt.new w 29 (wq L)
  have C := little64_any (some ⟨w.heap.size, 0, none⟩) 128 L (w.alloc (.cells (wq L) 29)) (fun k hk => ⟨_, _, rfl, hR.lt, by
    rw [Nat.zero_add, hR.cell k]; simp [wq, List.getElem?_eq_getElem hk]⟩) (by rw [hL.1]; decide) (fun x hx => hL.2 x hx)
  rw [hL.1] at C
  simp only [Nat.reduceMul] at C
  have HC := Lib.hid C
  have HBL := Lib.hid (byB_length hL)
  have HB := Lib.hid hb
  have HBY : Hid (byB L = L.flatMap (bytesOf ups 8)) := Lib.hid rfl
  clear hb hR C hL
  go_enter Tryd.func27, Tryd.ntmps27
  go_wp2_with fail
  refine HC.out.mono ?_
  rintro e w1 ⟨v, rfl, hown, hb1⟩
  rw [← HBY.out] at hown
  obtain ⟨A', c', rfl, hnl, _, _⟩ := own_form hown
  have hcv := conv_str w1 (byB L) (c := c') (Reads.of_own hown)
  rw [HBL.out] at hcv
  have HF := Lib.hid (below_step HB.out hb1)
  clear hown hb1 HC HB hnl
  go_wp2
  go_ret
  exact ⟨rfl, HF.out⟩

set_option maxHeartbeats 1600000 in
theorem rbytes_any {L : List Nat} (hL : okb L) (w : World) : Calls Tryd.prog 34 #[.agg (wq L)] w fun e w' => e = .returned (.string (strOf (byB L))) ∧ Below w.heap.size w w' := by
  obtain ⟨i0, hi, hz0, hz1, hz2⟩ := info_parts fd_info_u8
  have hb := (Below.refl _ w).alloc (Nat.le_refl _) (.cells (wq L) 29)
  have HR0 := Lib.hid (RowAt.new w 29 (wq L))
  obtain ⟨N, hN⟩ : ∃ N, N = w.heap.size + 1 := ⟨_, rfl⟩
  have hs0 : (w.alloc (.cells (wq L) 29)).heap.size = N := by rw [World.size_alloc, hN]
  have HL := Lib.hid hL
  have HB := Lib.hid hb
  have HBL := Lib.hid (byB_length hL)
  clear hL hb
  go_enter Tryd.func34, Tryd.ntmps34
  go_wp2
  generalize hW0 : World.alloc _ _ = w0
  rw [hW0] at hs0 HR0 HB
  clear hW0
  have HN : Hid (N = w.heap.size + 1) := Lib.hid hN
  have HS0 := Lib.hid hs0
  clear hN hs0
  go_loopw [3, 4] (fun v3 v4 wr => ∃ i : Nat, ∃ n c : Nat, ∃ A : Option Addr, i ≤ 128 ∧ n = 8 * i ∧ v4 = .int .i64 (i : Int) ∧ v3 = .slice A n c ∧ wr.ownsRow N 5 1 (.slice A n c) n (u8s ((L.take i).flatMap (bytesOf ups 8))) ∧ Below N w0 wr) (fun _ v4 _ => 128 - (intOf v4).toNat)
  case atStart => exact ⟨0, 0, 0, none, by omega, rfl, rfl, rfl, World.ownsRow_nil _ _ _ _, Below.refl _ _⟩
  case round =>
    obtain ⟨i, n, c, A, hi', hn, rfl, rfl, hown, hbq⟩ := hrel
    have HOW := Lib.hid hown
    have HBq := Lib.hid hbq
    have hszq : N ≤ wr.heap.size := by have := hbq.size; have := HS0.out; omega
    by_cases h : i < 128
    · have hlen : i < L.length := by rw [HL.out.1]; exact h
      have hRr : RowAt wr w.heap.size 29 (wq L) := HR0.out.below hbq (by rw [HN.out]; omega)
      have ci := (hRr.cell i).trans (wq_at L i hlen)
      have hx := ok_at HL.out i
      have hsn := flat_snoc (bytesOf ups 8) L i hlen
      have hg : L[i] = L.getD i 0 := by
        rw [List.getD_eq_getElem?_getD, List.getElem?_eq_getElem hlen]; rfl
      rw [hg] at hsn
      have HSN := Lib.hid hsn
      have HJ := Lib.hid (And.intro hi' (And.intro hn h))
      have hdj : decide ((i : Int) < 128) = true := by simp; omega
      have hi0 : (0 : Int) ≤ (i : Int) := by omega
      have hi1 : (i : Int) < 128 := by omega
      have hnb : n ≤ 1024 := by omega
      generalize L.getD i 0 = x at *
      clear hg hsn hown hbq hi' hn hRr hlen
      go_wp2_with fail
      refine (of64_own x wr hx).mono ?_
      rintro e w6 ⟨g3, c3, rfl, hown3, hb6⟩
      have HA := Lib.hid (cells_own hown3)
      have HO7 := Lib.hid (own_kept (M := fun _ => False) HOW.out (Kept.of_below hb6) (fun _ _ h => h))
      have HB7 := Lib.hid (HBq.out.trans (hb6.mono hszq))
      have hsz6 : N ≤ w6.heap.size := by have := hb6.size; omega
      clear hown3 hb6
      go_wp2_with (at_builtin; refine wpList_append_own _ rfl (.tmp 9) (.tmp 13) 80 rfl N 5 i0 (.int .u8 0) 1 1 Tryd.underlying80 hi hz0 hz1 hz2 rfl (by decide) _ _ _ rfl HO7.out ⟨g3, 0, none⟩ 8 c3 (u8s (bytesOf ups 8 x)) rfl (by rw [u8s_length, bytesOf_length]) ?d1 ?d2 ?d3 ?d4 ?d5 ?_)
      case d1 => exact HA.out
      case d2 => exact u8s_one _
      case d3 => unfold maxLen; omega
      case d4 => omega
      case d5 => omega
      intro v' w7 hown7 hg7 _
      rw [← u8s_append, ← HSN.out] at hown7
      obtain ⟨A', c', rfl, hnl, _, _⟩ := own_form hown7
      clear hnl
      have HB8 := Lib.hid (HB7.out.grown hg7 hsz6 (fun k hk => (HO7.out.lt k hk).1))
      have HO8 := Lib.hid hown7
      clear hown7 hg7 ci
      go_wp2
      go_roundw
      case measure => simp [intOf]; omega
      case rel =>
        obtain ⟨j1, j2, j3⟩ := HJ.out
        exact ⟨i + 1, n + 8, c', A', by omega, by omega, by go_num, rfl, HO8.out, HB8.out⟩
    · obtain rfl : i = 128 := by omega
      have hdj : decide (((128 : Nat) : Int) < 128) = false := by simp
      obtain rfl : n = 1024 := hn
      rw [List.take_of_length_le (by rw [HL.out.1]; exact Nat.le_refl _)] at hown
      have hcv := conv_str wr (byB L) (c := c) (Reads.of_own hown)
      rw [HBL.out] at hcv
      have HF := Lib.hid (HB.out.trans (hbq.mono (by rw [HN.out]; omega)))
      clear hown hbq HBq HOW hi'
      go_wp2
      go_ret
      exact ⟨rfl, HF.out⟩

theorem from_bad (s : ByteArray) (h : s.size ≠ 1024) (w : World) : Calls Tryd.prog 48 #[.string s] w fun e w' => e = .returned (.tuple #[.agg (wq zb), .int .i64 9]) ∧ Below w.heap.size w w' := by
  have h1 : ((s.size : Int) == 1024) = false := by simp; omega
  have h2 : ((s.size : Int) != 1024) = true := by simp; omega
  have RN := Lib.hid (RowAt.new w 29 (wq zb))
  have HB := Lib.hid ((Below.refl _ w).alloc (Nat.le_refl _) (.cells (wq zb) 29))
  have hz := zero_b
  have hb := build_b
  clear h
  go_enter Tryd.func48, Tryd.ntmps48
  go_wp2_with (first
    | refine wpList_value_want rfl _ (bbuild_run _ _ rfl) ?_
    | refine wpList_store_row rfl 29 (.tmp 2) (.tmp 9) rfl w.heap.size (wq zb) rfl rfl 29 _ RN.out (by rw [wq_size, zb_ok.1]; exact b_size) rfl (wq_one _) ?_)
  refine bodyPost_ret ?_ rfl ⟨rfl, below_setRow HB.out (Nat.le_refl _) _⟩
  exact results_row_tmp (fn := Tryd.f48) (p := 2) (u := 3) (b := w.heap.size) (t := 29) (C := wq zb) rfl _ rfl (RN.out.setRow _) Tryd.underlying29 rfl (by rw [wq_size, zb_ok.1]; exact b_size)

theorem array_at (g c : Nat) (w : World) : (Instr.arrayAt 29 (.slice (some ⟨g, 0, none⟩) 128 c)).run Tryd.prog w = .ok (.pointer (some ⟨g, 0, none⟩)) w := by
  simp [Instr.arrayAt, go_sem]

set_option maxHeartbeats 1600000 in
theorem from_any (s : ByteArray) (h : s.size = 1024) (w : World) : Calls Tryd.prog 48 #[.string s] w fun e w' => e = .returned (.tuple #[.agg (wq (frB (nb s))), .int .i64 0]) ∧ Below w.heap.size w w' := by
  have h1 : ((s.size : Int) == 1024) = true := by simp; omega
  have h2 : ((s.size : Int) != 1024) = false := by simp; omega
  have hfo := frB_ok (nb s) (nb_lt s)
  have RN := RowAt.new w 29 (wq zb)
  have hb := (Below.refl _ w).alloc (Nat.le_refl _) (.cells (wq zb) 29)
  obtain ⟨W1, c1, hcv, hbw, hbuf, hsw⟩ := bytes_of_text (w.alloc (.cells (wq zb) 29)) s
  have C := take64_any (some ⟨(w.alloc (.cells (wq zb) 29)).heap.size, 0, none⟩) c1 (nb s) 128 (by rw [nb_length, h]) W1 (hbuf.reads (by omega)) (by rw [nb_length, h]; decide) (nb_lt s)
  rw [nb_length, h, World.size_alloc] at C
  rw [h, World.size_alloc] at hcv
  have HC := Lib.hid C
  have HE : Hid (wordsAt ups 8 128 (nb s) (8 * 128) = frB (nb s)) := Lib.hid rfl
  have HFO := Lib.hid hfo
  have HR1 := Lib.hid (RN.below hbw RN.lt)
  have HB1 := Lib.hid (below_step hb hbw)
  clear C hfo hbuf hsw hbw hb RN
  have hz := zero_b
  go_enter Tryd.func48, Tryd.ntmps48
  go_wp2_with fail
  refine HC.out.mono ?_
  rintro e w3 ⟨v, rfl, hown, hb3⟩
  rw [HE.out] at hown
  have HZ : Hid ((wq (frB (nb s))).size = 128) := Lib.hid (by rw [wq_size]; exact HFO.out.1)
  obtain ⟨z, hz2⟩ : ∃ z, z = frB (nb s) := ⟨_, rfl⟩
  rw [← hz2] at hown HZ HFO
  obtain ⟨A', c', rfl, hnl, hA, _⟩ := own_form hown
  obtain ⟨g, rfl, hg⟩ := hA (by decide)
  clear hnl
  have hrd := Reads.of_own hown
  have HL := Lib.hid (load_b (w := w3) (b := g) (o := 0) HFO.out.1 (fun k hk => by
    obtain ⟨b', off', e', _, hc'⟩ := hrd k (by rw [u64s_length, HFO.out.1]; exact hk)
    cases e'
    rw [hc', u64_at, List.getD_eq_getElem?_getD, List.getElem?_eq_getElem (by rw [HFO.out.1]; exact hk)]
    rfl))
  have HR3 := Lib.hid (HR1.out.below hb3 HR1.out.lt)
  have HB3 := Lib.hid (below_step HB1.out hb3)
  have hA := array_at g c' w3
  have HZ2 := Lib.hid hz2
  clear hown hrd hb3 HR1 HB1 HC hg hz2
  go_wp2_with (first
    | refine wpList_load_of rfl 29 (.tmp 17) rfl ⟨g, 0, none⟩ _ rfl HL.out ?_
    | refine wpList_store_row rfl 29 (.tmp 2) (.tmp 18) rfl w.heap.size (wq z) rfl rfl 29 _ HR3.out (by rw [HZ.out]; exact b_size) (by rw [HZ.out]; rfl) (wq_one _) ?_)
  refine bodyPost_ret ?_ rfl ⟨by rw [← HZ2.out], below_setRow HB3.out (Nat.le_refl _) _⟩
  exact results_row_tmp (fn := Tryd.f48) (p := 2) (u := 3) (b := w.heap.size) (t := 29) (C := wq z) rfl _ rfl (HR3.out.setRow _) Tryd.underlying29 rfl (by rw [HZ.out]; exact b_size)

theorem setRow_same {w : World} {b : Nat} {t : TypeId} {C : Array Value} (h : RowAt w b t C) : w.setRow b C = w := by
  unfold RowAt at h
  have e : w.heap.modify b (fun | .cells _ elem frozen => .cells C elem frozen | o => o) = w.heap := by
    refine Array.ext_getElem? fun i => ?_
    rw [Array.getElem?_modify]
    split
    · rename_i hi
      subst hi
      rw [h]; rfl
    · rfl
  show { w with heap := w.heap.modify b (fun | .cells _ elem frozen => .cells C elem frozen | o => o) } = w
  rw [e]
/-- words, and 0 behind them -/
def ofB (xs : List Nat) : List Nat := xs ++ List.replicate (128 - xs.length) 0
theorem ofB_ok {xs : List Nat} (hl : xs.length ≤ 128) (hx : ∀ x ∈ xs, x < 18446744073709551616) : okb (ofB xs) := by
  refine ⟨by simp [ofB]; omega, fun x h => ?_⟩
  rcases List.mem_append.1 h with h | h
  · exact hx x h
  · rw [List.eq_of_mem_replicate h]; decide
theorem of_cells (xs : List Nat) : ((wq zb).toList.take 0 ++ u64s xs ++ (wq zb).toList.drop (0 + xs.length)).toArray = wq (ofB xs) := by
  have e : (wq zb).toList = List.replicate 128 (.int .u64 ((0 : Nat) : Int)) := by
    unfold wq zb u64s
    rw [List.map_replicate]
  have e2 : u64s (List.replicate (128 - xs.length) 0) = List.replicate (128 - xs.length) (.int .u64 ((0 : Nat) : Int)) := by
    unfold u64s
    rw [List.map_replicate]
  rw [e, List.take_zero, List.nil_append, Nat.zero_add, List.drop_replicate, ← e2]
  unfold wq ofB u64s
  rw [List.map_append]
end Go.Proofs.YtpampgkhjcfeaaaDoor

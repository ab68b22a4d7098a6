/- Long sums, by their contracts. Conditions: those typed. -/
import Derived.Test.YtfoodaobiknihaaGreatDoorKi
import Derived.Test.YtfoodaobiknihaaGreatDoorBld
import Derived.OneCell
import Derived.Laws.Rows
import Derived.Lib.Builder
import Derived.Lib.AppendStr
import Derived.Lib.UnsafeStr
import Derived.WalkKit
import Derived.Laws.Externs
import Derived.Test.YtfoodaobiknihaaGreatDoorBkRsum
import Derived.Test.YtfoodaobiknihaaGreatDoorBy
import Derived.Test.YtfoodaobiknihaaGreatDoorWy
import Derived.Deep.LoopGhost
import Derived.WalkMore
namespace Go.Proofs.YtfoodaobiknihaaGreatDoor
set_option maxRecDepth 50000
open Go.RowKit
theorem bld_size : (Tryz.prog.info? 176).map (·.size) = some 2 := by kernel_rfl
theorem b_lies : liesAt Tryz.prog Tryz.prog.depth 176 (2 / Tryz.prog.cellsOf 176) 0 176 1 = true := by kernel_rfl
set_option maxHeartbeats 1600000 in
theorem copycheck_new (b : Nat) (w : World) (h0 : w.cell? ⟨b, 0, none⟩ = some (.pointer none)) (hs : w.shape? b = some (176, 2)) (hf : w.frozen? ⟨b, 0, none⟩ = false) :
    Calls Tryz.prog 113 #[.pointer (some ⟨b, 0, none⟩)] w fun e w' => e = .returned (.tuple #[]) ∧ w' = w.setCell ⟨b, 0, none⟩ (.pointer (some ⟨b, 0, none⟩)) := by
  obtain ⟨j, hj, hjs⟩ := Option.map_eq_some_iff.1 bld_size
  have k1 := Lib.run_to_unsafe w ⟨b, 0, none⟩ Tryz.underlying174 Tryz.underlying221 hj (by rw [hjs]; decide) hs (Nat.zero_lt_succ 1)
  have k2 : (callFunc 126 #[.pointer (some ⟨b, 0, none⟩)]).run Tryz.prog w = .ok (.value (.pointer (some ⟨b, 0, none⟩))) w := by
    rw [run_callFunc_extern Tryz.func126 (by kernel_rfl) (by kernel_rfl) (by kernel_rfl) (e := Extern.AbiNoEscape.same) (by kernel_rfl)]
    rfl
  have k3 := Lib.run_from_unsafe (dst := 174) w ⟨b, 0, none⟩ Tryz.underlying221 Tryz.underlying174 hj hs b_lies
  go_enter Tryz.func113, Tryz.ntmps113
  go_wp2
  go_end0
  exact ⟨rfl, rfl⟩
set_option maxHeartbeats 1600000 in
theorem copycheck_old (b : Nat) (w : World) (h0 : w.cell? ⟨b, 0, none⟩ = some (.pointer (some ⟨b, 0, none⟩))) :
    Calls Tryz.prog 113 #[.pointer (some ⟨b, 0, none⟩)] w fun e w' => e = .returned (.tuple #[]) ∧ w' = w := by
  obtain ⟨j, hj, hjs⟩ := Option.map_eq_some_iff.1 bld_size
  have k1 := Lib.run_neq_ptr_same (P := Tryz.prog) w ⟨b, 0, none⟩ Tryz.underlying174 hj
  go_enter Tryz.func113, Tryz.ntmps113
  go_wp2
  go_end0
  exact ⟨rfl, rfl⟩
def BldIs (w : World) (B b : Nat) (l : List UInt8) : Prop := Lib.IsBuilder 176 5 B b (cs l) w
theorem BldIs.new (w : World) : BldIs (w.alloc (.cells #[.pointer none, .slice none 0 0] 176)) w.heap.size w.heap.size [] := Lib.fresh_isBuilder _ _ w
theorem BldIs.at_ {w : World} {B b : Nat} {l : List UInt8} (h : BldIs w B b l) : ∃ p v, (p = .pointer none ∨ p = .pointer (some ⟨b, 0, none⟩)) ∧ B ≤ b ∧ w.heap[b]? = some (.cells #[p, v] 176 (0, 0)) ∧ w.ownsRow B 5 1 v l.length (cs l) ∧ v.ownBlock ≠ some b := by
  have hl : (cs l).length = l.length := by simp [cs]
  rcases h with ⟨h1, v, h2, h3, h4⟩ | ⟨h1, v, h2, h3, h4⟩
  · rw [hl] at h3; exact ⟨_, v, .inl rfl, h1, h2, h3, h4⟩
  · rw [hl] at h3; exact ⟨_, v, .inr rfl, h1, h2, h3, h4⟩
theorem BldIs.mk_ {w : World} {B b : Nat} {l : List UInt8} {p v : Value} (hp : p = .pointer none ∨ p = .pointer (some ⟨b, 0, none⟩)) (hB : B ≤ b) (h2 : w.heap[b]? = some (.cells #[p, v] 176 (0, 0))) (h3 : w.ownsRow B 5 1 v l.length (cs l)) (h4 : v.ownBlock ≠ some b) : BldIs w B b l := by
  have hl : (cs l).length = l.length := by simp [cs]
  rw [← hl] at h3
  rcases hp with rfl | rfl
  · exact .inl ⟨hB, v, h2, h3, h4⟩
  · exact .inr ⟨hB, v, h2, h3, h4⟩
theorem BldIs.lt {w : World} {B b : Nat} {l : List UInt8} (h : BldIs w B b l) : b < w.heap.size := by
  obtain ⟨p, v, _, _, h2, _⟩ := h.at_
  exact (Array.getElem?_eq_some_iff.1 h2).1
theorem BldIs.below {w w' : World} {B b : Nat} {l : List UInt8} (h : BldIs w B b l) (hb : Below w.heap.size w w') : BldIs w' B b l := by
  obtain ⟨p, v, hp, hB, h2, h3, h4⟩ := h.at_
  exact .mk_ hp hB ((hb.block b h.lt).trans h2) (own_kept (M := fun _ => False) h3 (Kept.of_below hb) fun _ _ h => h) h4
set_option maxHeartbeats 3200000 in
theorem write_any (B b : Nat) (l : List UInt8) (s : ByteArray) (w : World) (h : BldIs w B b l) (hl : l.length ≤ 1000000) (hs : s.size ≤ 1000000) (hBw : B ≤ w.heap.size) :
    Calls Tryz.prog 100 #[.pointer (some ⟨b, 0, none⟩), .string s] w fun e w' => e = .returned (.tuple #[.int .i64 (s.size : Nat), .nilIface]) ∧ BldIs w' B b (l ++ tl s) ∧ Below B w w' := by
  obtain ⟨i0, hi, hz0, hz1, hz2⟩ := info_parts Tryz.info5
  obtain ⟨p, v, hp, hB, h2, h3, h4⟩ := h.at_
  have hlt := h.lt
  have c0 : w.cell? ⟨b, 0, none⟩ = some p := by rw [Lib.cell_of_heap h2]; rfl
  have CC : Calls Tryz.prog 113 #[.pointer (some ⟨b, 0, none⟩)] w fun e w' => e = .returned (.tuple #[]) ∧ w'.heap[b]? = some (.cells #[.pointer (some ⟨b, 0, none⟩), v] 176 (0, 0)) ∧ w'.ownsRow B 5 1 v l.length (cs l) ∧ w'.heap.size = w.heap.size ∧ Below B w w' := by
    rcases hp with rfl | rfl
    · refine (copycheck_new b w c0 (by simp [World.shape?, h2]) (Lib.frozen_of_heap h2 0)).mono ?_
      rintro e w' ⟨rfl, rfl⟩
      have hbk : (w.setCell ⟨b, 0, none⟩ (.pointer (some ⟨b, 0, none⟩))).heap[b]? = some (.cells #[.pointer (some ⟨b, 0, none⟩), v] 176 (0, 0)) := by
        rw [heap_setCell_same w b 0 _ _ _ h2]; rfl
      exact ⟨rfl, hbk, ownsRow_setCell_other h3 h4 _, by simp, (Below.refl B w).setCell (p := ⟨b, 0, none⟩) hB _⟩
    · refine (copycheck_old b w c0).mono ?_
      rintro e w' ⟨rfl, rfl⟩
      exact ⟨rfl, h2, h3, rfl, Below.refl _ _⟩
  obtain ⟨L, hL⟩ : ∃ L, L = l ++ tl s := ⟨_, rfl⟩
  rw [← hL]
  have HL := Lib.hid hL
  clear hL
  have HC := Lib.hid CC
  clear CC h3 h2 c0 hp
  go_enter Tryz.func100, Tryz.ntmps100
  go_wp2_with fail
  refine HC.out.mono ?_
  rintro e w1 ⟨rfl, g2, g3, g4, g5⟩
  have c0 : w1.cell? ⟨b, 0, none⟩ = some (.pointer (some ⟨b, 0, none⟩)) := by rw [Lib.cell_of_heap g2]; rfl
  have c1 : w1.cell? ⟨b, 1, none⟩ = some v := by rw [Lib.cell_of_heap g2]; rfl
  go_wp2_with (at_builtin; refine Lib.wpList_append_own_string _ rfl _ _ 86 9 rfl B 5 i0 Tryz.underlying86 Tryz.underlying9 hi hz0 hz1 hz2 _ _ _ rfl g3 s rfl ?c3 ?c4 ?c5 ?_)
  case c3 => unfold maxLen; omega
  case c4 => omega
  case c5 => omega
  intro v' w2 hown' hgrow _
  have hb2 : w2.heap[b]? = some (.cells #[.pointer (some ⟨b, 0, none⟩), v] 176 (0, 0)) := by
    rw [hgrow.block b (by omega) (fun e => h4 e.symm)]
    exact g2
  have d1 : w2.cell? ⟨b, 1, none⟩ = some v := by rw [Lib.cell_of_heap hb2]; rfl
  have f1 : w2.frozen? ⟨b, 1, none⟩ = false := Lib.frozen_of_heap hb2 1
  have hsc : cs l ++ Lib.strCells s = cs (l ++ tl s) := by simp [cs, Lib.strCells, tl]
  have hll : l.length + s.size = (l ++ tl s).length := by rw [List.length_append, tl_length]
  rw [hsc, hll] at hown'
  rw [← HL.out] at hown'
  obtain ⟨A', c', rfl, hnl, _, _⟩ := own_form hown'
  clear hnl
  have HO := Lib.hid hown'
  have HG := Lib.hid ((g5.grown hgrow (by omega) (fun k hk => (g3.lt k hk).1)).setCell (p := ⟨b, 1, none⟩) hB (.slice A' L.length c'))
  have HB2 := Lib.hid hb2
  have hne : (Value.slice A' L.length c').ownBlock ≠ some b := Lib.ownBlock_ne hown' hb2 (by decide)
  clear hown' hgrow g3 g5 hsc hll
  go_wp2
  go_ret2
  refine ⟨rfl, .mk_ (.inr rfl) hB ?_ (ownsRow_setCell_other HO.out hne _) hne, HG.out⟩
  rw [heap_setCell_same w2 b 1 _ _ _ HB2.out]; rfl
theorem string_any (B b : Nat) (l : List UInt8) (w : World) (h : BldIs w B b l) (hBw : B ≤ w.heap.size) :
    Calls Tryz.prog 102 #[.pointer (some ⟨b, 0, none⟩)] w fun e w' => e = .returned (.string (tx l)) ∧ Below B w w' := Builder_String_any B b l w h hBw
open Go.RowKit Bl
theorem blkL_length0 (n : Nat) (hn : n ≤ 64) (X : List UInt8) (hX : X.length ≤ 900000) : (blkL 0 n X).length = n := by
  have hz : (blkSt 0 n X).length = 8 := by
    unfold blkSt
    rw [comp_length]
    exact (stN_ok (h0_ok 0 n (by decide) hn) _ _ (by unfold lz; omega)).1
  unfold blkL
  rw [List.length_take, outL_length _ hz]
  omega
def lead (n : Nat) : List UInt8 := bytesL (bytesOf ups 4 n)
theorem lead_length (n : Nat) : (lead n).length = 4 := by unfold lead bytesL; rw [List.length_map, bytesOf_length]
theorem lead_cs (n : Nat) : u8s (bytesOf ups 4 n) = cs (lead n) := (cs_bytesL _ (bytesOf_lt _ _ _)).symm
def vN (n : Nat) (X : List UInt8) : Nat → List UInt8
  | 0 => blkL 0 (min n 64) (lead n ++ X)
  | k + 1 => blkL 0 (min (n - 32 * (k + 1)) 64) (vN n X k)
def oN (n : Nat) (X : List UInt8) : Nat → List UInt8
  | 0 => []
  | k + 1 => oN n X k ++ (vN n X k).take 32
def hN (n : Nat) : Nat := (n + 31) / 32 - 2
def longL (n : Nat) (X : List UInt8) : List UInt8 := oN n X (hN n) ++ vN n X (hN n)
theorem vN_length (n : Nat) (X : List UInt8) (hX : X.length ≤ 100000) : ∀ k, (vN n X k).length = min (n - 32 * k) 64
  | 0 => by
    rw [vN, blkL_length0 _ (Nat.min_le_right _ _) _ (by rw [List.length_append, lead_length]; omega)]
    simp
  | k + 1 => by
    have h := vN_length n X hX k
    rw [vN, blkL_length0 _ (Nat.min_le_right _ _) _ (by rw [h]; omega)]
theorem hN_more (n k : Nat) (h : k < hN n) : 64 < n - 32 * k := by unfold hN at h; omega
theorem oN_length (n : Nat) (X : List UInt8) (hX : X.length ≤ 100000) : ∀ k, k ≤ hN n → (oN n X k).length = 32 * k
  | 0, _ => rfl
  | k + 1, h => by
    have h1 := oN_length n X hX k (by omega)
    have h2 := hN_more n k h
    rw [oN, List.length_append, h1, List.length_take, vN_length n X hX k]
    omega
theorem longL_length (n : Nat) (hn : 1 ≤ n) (X : List UInt8) (hX : X.length ≤ 100000) : (longL n X).length = n := by
  unfold longL
  rw [List.length_append, oN_length n X hX _ (Nat.le_refl _), vN_length n X hX]
  unfold hN
  omega
set_option maxHeartbeats 800000 in
theorem halves_any (n : Nat) (h1 : 1 ≤ n) (h2 : n ≤ 65536) (w : World) : Calls Tryz.prog 98 #[.int .i64 (n : Int)] w fun e w' => e = .returned (.tuple #[.int .i64 (hN n : Int), .int .i64 0]) ∧ w' = w := by
  go_enter Tryz.func98, Tryz.ntmps98
  go_wp2
  go_ret2
  refine ⟨?_, rfl⟩
  have e : ((hN n : Nat) : Int) = max 0 (((n : Int) + 32 - 1) / 32 - 2) := by unfold hN; omega
  rw [e]; rfl
open Go.RowKit Bl
theorem jn_one' (s : ByteArray) : jn [s] = tl s := by simp [jn]
theorem keyL_nil : keyL ⟨#[]⟩ = [] := rfl
theorem reads_one (w : World) (s : ByteArray) : Reads (w.alloc (.cells #[.string s] 9)) (w.alloc (.cells #[.string s] 9)).heap.size (some ⟨w.heap.size, 0, none⟩) (stv [s]) := fun k hk => by
  have hk0 : k = 0 := by simp [stv] at hk; omega
  subst hk0
  exact ⟨w.heap.size, 0, rfl, by simp, by rw [cell_of_row _ _ _ _ _ (0, 0) (heap_alloc_last w _)]; rfl⟩
theorem of_one (w : World) (n : Nat) (hn1 : 1 ≤ n) (hn : n ≤ 64) (hk : QAt w) (s : ByteArray) (hs : s.size ≤ 100000) :
    Calls Tryz.prog 101 #[.int .i64 (n : Int), .string ⟨#[]⟩, .slice (some ⟨w.heap.size, 0, none⟩) 1 1] (w.alloc (.cells #[.string s] 9)) fun e w' => e = .returned (.tuple #[.string (tx (blkL 0 n (tl s))), .int .i64 0]) ∧ Below w.heap.size w w' := by
  have hb : Below w.heap.size w (w.alloc (.cells #[.string s] 9)) := (Below.refl _ w).alloc (Nat.le_refl _) _
  have h := blakeof_any (w.alloc (.cells #[.string s] 9)) n hn1 hn ⟨#[]⟩ (by decide) (hk.next hb) (some ⟨w.heap.size, 0, none⟩) 1 [s] (reads_one w s) (by rw [jn_one', tl_length]; omega) (by simp)
  rw [keyL_nil, List.nil_append, jn_one'] at h
  exact h.mono fun e w' ⟨h1, h2⟩ => ⟨h1, below_step hb h2⟩
set_option maxHeartbeats 1600000 in
theorem first_any (w : World) (n : Nat) (hn1 : 1 ≤ n) (hn : n ≤ 65536) (hk : QAt w) (A : Option Addr) (c : Nat) (ps : List ByteArray) (hr : Reads w w.heap.size A (stv ps)) (hlen : (jn ps).length ≤ 100000) (hps : ps.length ≤ 1000000) :
    Calls Tryz.prog 99 #[.int .i64 (n : Int), .slice A ps.length c] w fun e w' => e = .returned (.string (tx (vN n (jn ps) 0))) ∧ Below w.heap.size w w' := by
  obtain ⟨m, hm⟩ : ∃ m, m = min n 64 := ⟨_, rfl⟩
  have hm1 : 1 ≤ m := by omega
  have hm2 : m ≤ 64 := by omega
  have hmI : (if (n : Int) < 64 then (n : Int) else 64) = (m : Int) := by split <;> omega
  have hmJ : (if (64 : Int) < (n : Int) then (64 : Int) else (n : Int)) = (m : Int) := by split <;> omega
  have hmK : min (n : Int) 64 = (m : Int) := by omega
  have hmL : min 64 (n : Int) = (m : Int) := by omega
  have hu : IntKind.u32.wrap (n : Int) = (n : Int) := by
    have e : IntKind.u32.wrap (n : Int) = (n : Int) % 4294967296 := by simp [IntKind.wrap, IntKind.bits, IntKind.signed]
    rw [e]; omega
  obtain ⟨S, hS⟩ : ∃ S, S = vN n (jn ps) 0 := ⟨_, rfl⟩
  rw [← hS]
  have HV : Hid (S = blkL 0 m (lead n ++ jn ps)) := Lib.hid (by rw [hS, hm]; rfl)
  clear hS
  have CN := Lib.hid (newhash_any m hm1 hm2 ⟨#[]⟩ (by decide) w hk)
  have HR := Lib.hid hr
  have HK := Lib.hid hk
  have HM := Lib.hid (And.intro hm1 hm2)
  clear hr hk hm hm1 hm2
  go_enter Tryz.func99, Tryz.ntmps99
  go_wp2_with fail
  refine CN.out.mono ?_
  rintro e w1 ⟨H, rfl, h1, hb1⟩
  have h1' : HashIs w1 w.heap.size w1.heap.size H 0 m [] := h1
  have H1 := Lib.hid h1'
  have B1 := Lib.hid hb1
  have hw1 : w.heap.size ≤ w1.heap.size := hb1.size
  clear h1 h1' hb1 CN
  have b2 : Below w1.heap.size w1 (w1.alloc (.cells #[.int .u32 (n : Int)] 88)) := (Below.refl _ w1).alloc (Nat.le_refl _) _
  have CL := Lib.hid (little32_any (some ⟨w1.heap.size, 0, none⟩) 1 [n] (w1.alloc (.cells #[.int .u32 (n : Int)] 88)) (fun k hk => by
    have hk0 : k = 0 := by simp [u32s] at hk; omega
    subst hk0
    exact ⟨w1.heap.size, 0, rfl, by simp, by rw [cell_of_row _ _ _ _ _ (0, 0) (heap_alloc_last w1 _)]; rfl⟩) (by simp) (fun x hx => by simp at hx; omega))
  have B2 := Lib.hid b2
  clear b2
  go_wp2_with fail
  refine CL.out.mono ?_
  rintro e w2 ⟨v, rfl, hown, hb3⟩
  have B3 := Lib.hid (below_step B2.out hb3)
  have B3w := Lib.hid (below_step B1.out B3.out)
  have e4 : u8s ([n].flatMap (bytesOf ups 4)) = cs (lead n) := by rw [← lead_cs]; simp
  rw [e4] at hown
  obtain ⟨A', c', rfl, hl', _, _⟩ := own_form hown
  clear hl'
  have hcv : (convert 86 9 (.slice A' 4 c')).run Tryz.prog w2 = .ok (.string (tx (lead n))) w2 := conv_text _ hown
  have H2 := Lib.hid (H1.out.below B3.out)
  have K2 := Lib.hid (HK.out.next B3w.out)
  have hw2 : w.heap.size ≤ w2.heap.size := B3w.out.size
  have h0 : 1 < w.heap.size := HK.out.1
  have htl : (tx (lead n)).size = 4 := by rw [tx_size, lead_length]
  have CA := Lib.hid (add_one w2 _ _ H 0 m (by decide) HM.out.2 [] H2.out K2.out h0 (tx (lead n)) (by rw [htl]; simp))
  rw [List.nil_append, tl_tx] at CA
  clear hown hb3 CL B2 H1 htl
  generalize hTL : tx (lead n) = TL at *
  clear hTL
  go_wp2_with fail
  refine CA.out.mono ?_
  rintro e w3 ⟨rfl, h3, hb4⟩
  have H3 := Lib.hid h3
  have B4w := Lib.hid (B3w.out.trans hb4)
  have CA2 := Lib.hid (addhash_any w3 _ _ H 0 m (by decide) HM.out.2 (lead n) h3 (HK.out.next B4w.out) h0 A c ps (fun k hk => by
    obtain ⟨b, off, e, hb, hc⟩ := HR.out k hk
    exact ⟨b, off, e, Nat.lt_of_lt_of_le hb B4w.out.size, .inl hb, (B4w.out.cell hb).trans hc⟩) (by rw [lead_length]; omega) hps)
  clear h3 hb4 CA H2 K2
  go_wp2_with fail
  refine CA2.out.mono ?_
  rintro e w4 ⟨rfl, h4, hb5⟩
  have B5w := Lib.hid (B4w.out.trans hb5)
  have CS := Lib.hid (sumhash_any w4 _ _ H 0 m (by decide) HM.out.2 (lead n ++ jn ps) h4 (HK.out.next B5w.out) (by rw [List.length_append, lead_length]; omega))
  rw [← HV.out] at CS
  clear h4 hb5 CA2 H3
  go_wp2_with fail
  refine CS.out.mono ?_
  rintro e w5 ⟨rfl, hb6⟩
  have B6w := Lib.hid (below_step B5w.out hb6)
  clear hb6
  go_wp2
  go_ret
  exact ⟨rfl, B6w.out⟩
open Go.RowKit Bl
theorem tl_half (s : List UInt8) : tl ((tx s).extract 0 32) = s.take 32 := by
  unfold tl tx
  rw [ByteArray.data_extract]
  simp [List.extract_eq_take_drop]
set_option maxHeartbeats 800000 in
theorem long_any (n : Nat) (hn1 : 1 ≤ n) (hn : n ≤ 65536) (w : World) (hk : QAt w) (A : Option Addr) (c : Nat) (ps : List ByteArray) (hr : Reads w w.heap.size A (stv ps)) (hlen : (jn ps).length ≤ 100000) (hps : ps.length ≤ 1000000) :
    Calls Tryz.prog 74 #[.int .i64 (n : Int), .slice A ps.length c] w fun e w' => e = .returned (.tuple #[.string (tx (longL n (jn ps))), .int .i64 0]) ∧ Below w.heap.size w w' := by
  have CH := Lib.hid (halves_any n hn1 hn w)
  have HR := Lib.hid hr
  have HK := Lib.hid hk
  obtain ⟨R, hR⟩ : ∃ R, R = longL n (jn ps) := ⟨_, rfl⟩
  rw [← hR]
  obtain ⟨X, hX⟩ : ∃ X, X = jn ps := ⟨_, rfl⟩
  obtain ⟨N, hN⟩ : ∃ N, N = hN n := ⟨_, rfl⟩
  rw [← hN] at CH
  have HRR : Hid (R = oN n X N ++ vN n X N) := Lib.hid (by rw [hR, hX, hN]; rfl)
  have HNN := Lib.hid hN
  have hNb : N ≤ 2046 := by rw [hN]; unfold Go.Proofs.YtfoodaobiknihaaGreatDoor.hN; omega
  have CF := Lib.hid fun (w1 : World) (h1 : QAt w1) (h2 : Reads w1 w1.heap.size A (stv ps)) => first_any w1 n hn1 hn h1 A c ps h2 hlen hps
  rw [← hX] at CF hlen
  have b0 : Below w.heap.size w (w.alloc (.cells #[.pointer none, .slice none 0 0] 176)) := (Below.refl _ w).alloc (Nat.le_refl _) _
  have B0 := Lib.hid b0
  have D0 := Lib.hid (BldIs.new w)
  have VL := Lib.hid fun k => vN_length n X hlen k
  have OL := Lib.hid fun k hk => oN_length n X hlen k hk
  clear hr hk hR hX hN b0
  go_enter Tryz.func74, Tryz.ntmps74
  go_wp2_with fail
  refine CH.out.mono ?_
  rintro e w1 ⟨rfl, rfl⟩
  go_wp2_with fail
  refine (CF.out _ (HK.out.next B0.out) ((HR.out.below B0.out).more B0.out.size)).mono ?_
  rintro e w2 ⟨rfl, b2⟩
  have D2 := Lib.hid (D0.out.below b2)
  have B2 := Lib.hid (below_step B0.out b2)
  clear b2 D0 B0 CF CH
  go_wp2
  obtain ⟨B, hB⟩ : ∃ B, B = w1.heap.size := ⟨_, rfl⟩
  have hBw2 : B ≤ w2.heap.size := by rw [hB]; exact B2.out.size
  have hB0 : 1 < B := by rw [hB]; exact HK.out.1
  rw [← hB] at D2 B2 ⊢
  have HBE := Lib.hid hB
  clear hB
  go_loopg [9, 10, 24] N (fun g v9 v10 v24 wr => ∃ k m : Nat, k + g = N ∧ Hid (m = n - 32 * k) ∧ v9 = .string (tx (vN n X k)) ∧ v10 = .int .i64 (m : Int) ∧ v24 = .int .i64 (k : Int) ∧ BldIs wr B B (oN n X k) ∧ Below B w1 wr)
  case atStart => exact ⟨0, n, by omega, Lib.hid (by omega), rfl, rfl, rfl, D2.out, B2.out⟩
  case round =>
    obtain ⟨k, m, hk, HM, rfl, rfl, rfl, hd, hb⟩ := hrel
    have HD := Lib.hid hd
    have HB := Lib.hid hb
    have hsz : B ≤ wr.heap.size := (Nat.le_of_lt hd.lt)
    have hol := OL.out k (by rw [← HNN.out]; omega)
    have hvl := VL.out k
    have hm := HM.out
    have HKr := Lib.hid (HK.out.below hb hB0)
    obtain ⟨TV, hTV⟩ : ∃ TV, TV = tx (vN n X k) := ⟨_, rfl⟩
    have hts : TV.size = min (n - 32 * k) 64 := by rw [hTV, tx_size]; exact hvl
    by_cases h : k < N
    · obtain ⟨g2, rfl⟩ : ∃ g2, gk = g2 + 1 := ⟨gk - 1, by omega⟩
      have hmore := hN_more n k (by rw [← HNN.out]; exact h)
      have hts2 : TV.size = 64 := by omega
      have CW := Lib.hid (write_any B B (oN n X k) (TV.extract 0 32) wr hd (by omega) (by rw [ByteArray.size_extract]; omega) hsz)
      have e1 : oN n X k ++ tl (TV.extract 0 32) = oN n X (k + 1) := by rw [hTV, tl_half]; rfl
      rw [e1] at CW
      obtain ⟨m2, hm2⟩ : ∃ m2, m2 = n - 32 * (k + 1) := ⟨_, rfl⟩
      obtain ⟨mm, hmm⟩ : ∃ mm, mm = min m2 64 := ⟨_, rfl⟩
      have q1 : IntKind.i64.wrap ((m : Int) - 32) = (m2 : Int) := by rw [← IntWalk.i64_in (m2 : Int) (by omega)]; congr 1; omega
      have q2 : (if (m2 : Int) < 64 then (m2 : Int) else 64) = (mm : Int) := by split <;> omega
      have q3 : min (m2 : Int) 64 = (mm : Int) := by omega
      have CO := Lib.hid fun (w5 : World) (h5 : QAt w5) => of_one w5 mm (by omega) (by omega) h5 TV (by omega)
      have e2 : blkL 0 mm (tl TV) = vN n X (k + 1) := by rw [hTV, tl_tx, hmm, hm2]; rfl
      rw [e2] at CO
      rw [← hTV]
      have HJ := Lib.hid (And.intro hk (And.intro h hm2))
      have hdt : decide ((k : Int) < (N : Int)) = true := by simp; omega
      have hdt2 : decide (k < N) = true := by simp; omega
      have hdt3 : k < N := h
      have hkb : k ≤ 3000 := by omega
      clear hm hm2 hmm e1 e2 hts hTV hvl hol hd hb hk h hmore
      go_wp2_with fail
      refine CW.out.mono ?_
      rintro e w3 ⟨rfl, h3, b3⟩
      have D3 := Lib.hid h3
      have B3 := Lib.hid (HB.out.trans b3)
      have K3 := Lib.hid (HK.out.below B3.out hB0)
      clear h3 b3 CW
      go_wp2_with fail
      refine (CO.out w3 K3.out).mono ?_
      rintro e w4 ⟨rfl, b4⟩
      have D4 := Lib.hid (D3.out.below b4)
      have B4 := Lib.hid (B3.out.trans (b4.mono (Nat.le_of_lt D3.out.lt)))
      clear b4
      go_wp2
      go_roundg g2
      case measure => omega
      case rel =>
        obtain ⟨j1, j2, j3⟩ := HJ.out
        exact ⟨k + 1, m2, by omega, Lib.hid j3, rfl, by go_num, by go_num, D4.out, B4.out⟩
    · obtain rfl : k = N := by omega
      have hdt : decide ((k : Int) < (k : Int)) = false := by simp
      have CW := Lib.hid (write_any B B (oN n X k) TV wr hd (by omega) (by omega) hsz)
      have e1 : oN n X k ++ tl TV = R := by rw [hTV, tl_tx]; exact HRR.out.symm
      rw [e1] at CW
      rw [← hTV]
      clear hm e1 hts hTV hvl hol hd hb hk h
      go_wp2_with fail
      refine CW.out.mono ?_
      rintro e w3 ⟨rfl, h3, b3⟩
      have B3 := Lib.hid (HB.out.trans b3)
      have CS := Lib.hid (string_any B B R w3 h3 (Nat.le_of_lt h3.lt))
      clear h3 b3 CW
      go_wp2_with fail
      refine CS.out.mono ?_
      rintro e w4 ⟨rfl, b4⟩
      have B4 := Lib.hid (B3.out.trans b4)
      clear b4
      go_wp2
      go_ret2
      exact ⟨rfl, by rw [← HBE.out]; exact B4.out⟩
theorem longL_tx (n : Nat) (hn : 1 ≤ n) (X : List UInt8) (hX : X.length ≤ 100000) : (tx (longL n X)).size = n := by rw [tx_size, longL_length n hn X hX]
set_option maxHeartbeats 800000 in
theorem block_any (w : World) (hk : QAt w) (A : Option Addr) (c : Nat) (ps : List ByteArray) (hr : Reads w w.heap.size A (stv ps)) (hlen : (jn ps).length ≤ 100000) (hps : ps.length ≤ 1000000) :
    Calls Tryz.prog 53 #[.slice A ps.length c] w fun e w' => e = .returned (.string (tx (longL 1024 (jn ps)))) ∧ Below w.heap.size w w' := by
  have C := Lib.hid (long_any 1024 (by decide) (by decide) w hk A c ps hr hlen hps)
  obtain ⟨R, hR⟩ : ∃ R, R = longL 1024 (jn ps) := ⟨_, rfl⟩
  rw [← hR] at C ⊢
  clear hR hk hr
  go_enter Tryz.func53, Tryz.ntmps53
  go_wp2_with fail
  refine C.out.mono ?_
  rintro e w1 ⟨rfl, b1⟩
  go_wp2
  go_ret
  exact ⟨rfl, b1⟩
open Go.RowKit Bl
theorem rsum_plain (n : Nat) (hn : n ≤ 64) (text : ByteArray) (ht : text.size ≤ 15000) (w : World) :
    Calls Tryz.prog 56 #[.agg (wq iv), .int .i64 (n : Int), .string ⟨#[]⟩, .string text] w fun e w' => e = .returned (.string (tx (blkL 0 n (tl text)))) ∧ Below w.heap.size w w' := by
  have h := rsum_any n hn ⟨#[]⟩ text (by decide) ht w
  rw [keyL_nil, List.nil_append] at h
  exact h
theorem tx_app (a b : List UInt8) : tx a ++ tx b = tx (a ++ b) := tl_inj (by rw [tl_app, tl_tx, tl_tx, tl_tx])
theorem tx_half (a : List UInt8) : (tx a).extract 0 32 = tx (a.take 32) := tl_inj (by rw [tl_half, tl_tx])
set_option maxHeartbeats 1600000 in
theorem rlong_any (n : Nat) (hn1 : 1 ≤ n) (hn : n ≤ 3000) (text : ByteArray) (ht : text.size ≤ 9000) (w : World) :
    Calls Tryz.prog 35 #[.agg (wq iv), .int .i64 (n : Int), .string text] w fun e w' => e = .returned (.string (tx (longL n (tl text)))) ∧ Below w.heap.size w w' := by
  obtain ⟨R, hR⟩ : ∃ R, R = longL n (tl text) := ⟨_, rfl⟩
  rw [← hR]
  obtain ⟨X, hX⟩ : ∃ X, X = tl text := ⟨_, rfl⟩
  have hXl : X.length ≤ 100000 := by rw [hX, tl_length]; omega
  have HRR : Hid (R = oN n X (hN n) ++ vN n X (hN n)) := Lib.hid (by rw [hR, hX]; rfl)
  have HX := Lib.hid hX
  have VL := Lib.hid fun k => vN_length n X hXl k
  have OL := Lib.hid fun k hk => oN_length n X hXl k hk
  have CS := Lib.hid rsum_plain
  obtain ⟨FX, hFX⟩ : ∃ FX, FX = wq iv := ⟨_, rfl⟩
  have FX8 := Lib.hid (show FX.size = 8 from by rw [hFX, wq_size]; rfl)
  rw [← hFX] at CS ⊢
  clear hFX hR hX
  have hu : IntKind.u32.wrap (n : Int) = (n : Int) := by
    have e : IntKind.u32.wrap (n : Int) = (n : Int) % 4294967296 := by simp [IntKind.wrap, IntKind.bits, IntKind.signed]
    rw [e]; omega
  have S0 := Lib.hid (show RowAt (w.alloc (.cells FX 54)) w.heap.size 54 FX from RowAt.new _ _ _)
  have SB := Lib.hid (show Below w.heap.size w (w.alloc (.cells FX 54)) from (Below.refl _ w).alloc (Nat.le_refl _) _)
  have C4 := Lib.hid (of32_own n (w.alloc (.cells FX 54)) (by omega))
  go_enter Tryz.func35, Tryz.ntmps35
  go_wp2_with fail
  refine C4.out.mono ?_
  rintro e w1 ⟨g, c, rfl, hown, hb1⟩
  rw [lead_cs] at hown
  have hcv : (convert 86 9 (.slice (some ⟨g, 0, none⟩) 4 c)).run Tryz.prog w1 = .ok (.string (tx (lead n))) w1 := conv_text _ hown
  have S1 := Lib.hid (S0.out.below hb1 S0.out.lt)
  have B1 := Lib.hid (below_step SB.out hb1)
  have hts : (tx (lead n)).size = 4 := by rw [tx_size, lead_length]
  obtain ⟨TX, hTX⟩ : ∃ TX, TX = tx (lead n) ++ text := ⟨_, rfl⟩
  have HTX := Lib.hid hTX
  have HV0 : Hid (tl TX = lead n ++ X) := Lib.hid (by rw [hTX, tl_app, tl_tx, HX.out])
  have hTXs : TX.size ≤ 9004 := by rw [hTX, ByteArray.size_append]; omega
  clear hown hb1 C4 S0 SB hTX
  generalize tx (lead n) = TL at *
  by_cases h64 : n ≤ 64
  · have hd : decide ((n : Int) ≤ 64) = true := by simp; omega
    have e1 : blkL 0 n (tl TX) = R := by
      rw [HV0.out, HRR.out, show hN n = 0 from by unfold hN; omega]
      show _ = vN n X 0
      rw [vN, Nat.min_eq_left h64]
    have C := Lib.hid (CS.out n h64 TX (by omega) w1)
    rw [e1] at C
    clear e1
    go_wp2_with (first
      | refine wpList_load_row rfl 54 (.tmp 3) rfl w.heap.size rfl 54 FX (0, 0) _ S1.out Tryz.underlying54 rfl (by rw [FX8.out]; exact q_fixed8) ?_
      | (rw [← HTX.out]; refine C.out.mono ?_))
    rintro e w2 ⟨rfl, b2⟩
    have B2 := Lib.hid (below_step B1.out b2)
    clear b2
    go_wp2
    go_ret
    exact ⟨rfl, B2.out⟩
  · have hd : decide ((n : Int) ≤ 64) = false := by simp; omega
    have hh : 1 ≤ hN n := by unfold hN; omega
    have e1 : blkL 0 64 (tl TX) = vN n X 0 := by
      rw [HV0.out, vN, Nat.min_eq_right (by omega)]
    have C := Lib.hid (CS.out 64 (by decide) TX (by omega) w1)
    rw [e1] at C
    have HH1 : Hid (tx (oN n X 1) = (tx (vN n X 0)).extract 0 32) := Lib.hid (by rw [tx_half]; rfl)
    have hv0 : (tx (vN n X 0)).size = 64 := by rw [tx_size, VL.out]; omega
    obtain ⟨V0, hV0⟩ : ∃ V0, V0 = tx (vN n X 0) := ⟨_, rfl⟩
    rw [← hV0] at C hv0 HH1
    have HVV := Lib.hid hV0
    clear e1 hV0
    go_wp2_with (first
      | refine wpList_load_row rfl 54 (.tmp 3) rfl w.heap.size rfl 54 FX (0, 0) _ S1.out Tryz.underlying54 rfl (by rw [FX8.out]; exact q_fixed8) ?_
      | (rw [← HTX.out]; refine C.out.mono ?_))
    rintro e w2 ⟨rfl, b2⟩
    have S2 := Lib.hid (S1.out.below b2 S1.out.lt)
    have B2 := Lib.hid (below_step B1.out b2)
    clear b2 C
    go_wp2
    obtain ⟨B, hB⟩ : ∃ B, B = w.heap.size := ⟨_, rfl⟩
    have HBE := Lib.hid hB
    rw [← hB] at S2 B2 ⊢
    clear hB
    go_loopg [7, 8] (hN n - 1) (fun g v7 v8 wr => ∃ j : Nat, j + 1 + g = hN n ∧ v7 = .string (tx (vN n X j)) ∧ v8 = .string (tx (oN n X (j + 1))) ∧ RowAt wr B 54 FX ∧ Below B w wr)
    case atStart => exact ⟨0, by omega, by rw [HVV.out], by rw [← HH1.out], S2.out, B2.out⟩
    case round =>
      obtain ⟨j, hj, rfl, rfl, hr, hb⟩ := hrel
      have HR := Lib.hid hr
      have HB := Lib.hid hb
      have hol := OL.out (j + 1) (by omega)
      have hvl := VL.out j
      obtain ⟨TO, hTO⟩ : ∃ TO, TO = tx (oN n X (j + 1)) := ⟨_, rfl⟩
      obtain ⟨TV, hTV⟩ : ∃ TV, TV = tx (vN n X j) := ⟨_, rfl⟩
      have hos : TO.size = 32 * (j + 1) := by rw [hTO, tx_size]; exact hol
      have hvs : TV.size ≤ 64 := by rw [hTV, tx_size, hvl]; omega
      have hhb : hN n ≤ 100 := by unfold hN; omega
      obtain ⟨m, hm⟩ : ∃ m, m = n - 32 * (j + 1) := ⟨_, rfl⟩
      have hmb : 32 * (j + 1) ≤ n := by unfold hN at hj; omega
      have q0 : IntKind.i64.wrap ((n : Int) - (TO.size : Int)) = (m : Int) := by rw [← IntWalk.i64_in (m : Int) (by omega)]; congr 1; omega
      rw [← hTO, ← hTV]
      by_cases h : j + 1 < hN n
      · obtain ⟨g2, rfl⟩ : ∃ g2, gk = g2 + 1 := ⟨gk - 1, by omega⟩
        have hmore := hN_more n (j + 1) h
        have hdt : decide ((64 : Int) < (m : Int)) = true := by simp; omega
        have C := Lib.hid (CS.out 64 (by decide) TV (by omega) wr)
        have e1 : blkL 0 64 (tl TV) = vN n X (j + 1) := by rw [hTV, tl_tx, vN, Nat.min_eq_right (by omega)]
        rw [e1] at C
        obtain ⟨TN, hTN⟩ : ∃ TN, TN = tx (vN n X (j + 1)) := ⟨_, rfl⟩
        have hns : TN.size = 64 := by rw [hTN, tx_size, VL.out]; omega
        have HA : Hid (TO ++ TN.extract 0 32 = tx (oN n X (j + 1 + 1))) := Lib.hid (by rw [hTO, hTN, tx_half, tx_app]; rfl)
        rw [← hTN] at C
        have HTN := Lib.hid hTN
        have hob : TO.size ≤ 4000 := by omega
        have heb : (TN.extract 0 32).size = 32 := by rw [ByteArray.size_extract]; omega
        have HJ := Lib.hid hj
        clear hol hvl hTO hTV hos hm hmb hr hb hj hTN h hmore e1
        go_wp2_with (first
          | refine wpList_load_row rfl 54 (.tmp 3) rfl B rfl 54 FX (0, 0) _ HR.out Tryz.underlying54 rfl (by rw [FX8.out]; exact q_fixed8) ?_
          | refine C.out.mono ?_)
        rintro e w3 ⟨rfl, b3⟩
        have S3 := Lib.hid (HR.out.below b3 HR.out.lt)
        have B3 := Lib.hid (HB.out.trans (b3.mono (Nat.le_of_lt HR.out.lt)))
        clear b3 C
        go_wp2
        go_roundg g2
        case measure => omega
        case rel => exact ⟨j + 1, by have := HJ.out; omega, by rw [HTN.out], by rw [HA.out], S3.out, B3.out⟩
      · have hjn : j + 1 = hN n := by omega
        have hm64 : m ≤ 64 := by rw [hm, hjn]; unfold hN; omega
        have hdt : decide ((64 : Int) < (m : Int)) = false := by simp; omega
        have C := Lib.hid (CS.out m hm64 TV (by omega) wr)
        have e1 : blkL 0 m (tl TV) = vN n X (j + 1) := by rw [hTV, tl_tx, vN, ← hm, Nat.min_eq_left hm64]
        rw [e1] at C
        obtain ⟨TN, hTN⟩ : ∃ TN, TN = tx (vN n X (j + 1)) := ⟨_, rfl⟩
        have hns : TN.size ≤ 64 := by rw [hTN, tx_size, VL.out]; omega
        have HA : Hid (TO ++ TN = tx R) := Lib.hid (by rw [hTO, hTN, tx_app, HRR.out, ← hjn])
        rw [← hTN] at C
        have hob : TO.size ≤ 4000 := by omega
        clear hol hvl hTO hTV hos hm hmb hr hb hj hTN h e1 hjn hm64
        go_wp2_with (first
          | refine wpList_load_row rfl 54 (.tmp 3) rfl B rfl 54 FX (0, 0) _ HR.out Tryz.underlying54 rfl (by rw [FX8.out]; exact q_fixed8) ?_
          | refine C.out.mono ?_)
        rintro e w3 ⟨rfl, b3⟩
        have B3 := Lib.hid (HB.out.trans (b3.mono (Nat.le_of_lt HR.out.lt)))
        clear b3 C
        go_wp2
        go_ret
        exact ⟨by rw [← HA.out]; rfl, by rw [← HBE.out]; exact B3.out⟩
end Go.Proofs.YtfoodaobiknihaaGreatDoor

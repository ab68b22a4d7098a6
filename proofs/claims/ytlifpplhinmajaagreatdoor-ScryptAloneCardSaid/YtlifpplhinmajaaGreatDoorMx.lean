/- HMAC on lists of bytes: a key's block, its masks, a tag, a chain of tags; words.Xor of two texts of one length. Conditions: those typed. A Mac in memory: its two Hashes; padded, masked, New by their contracts. Conditions: those typed. With, Tag, Of of package mac by their contracts, and what a nil Mac answers. Conditions: those typed. Chain of package mac by its contract: the last tag, and all put together. Conditions: those typed. -/
import Derived.Test.YtlifpplhinmajaaGreatDoorSa
import Derived.Test.YtlifpplhinmajaaGreatDoorXo
import Derived.Test.YtlifpplhinmajaaGreatDoorLib
import Derived.Test.YtlifpplhinmajaaGreatDoorGen
namespace Go.Proofs.YtlifpplhinmajaaGreatDoor
set_option maxRecDepth 50000
open Go.RowKit Sha

theorem flat4_length : ∀ st : List Nat, (st.flatMap (bytesOf (downs 4) 4)).length = 4 * st.length
  | [] => rfl
  | x :: st => by rw [List.flatMap_cons, List.length_append, flat4_length st, bytesOf_length, List.length_cons]; omega
theorem outL_length (st : List Nat) (h : st.length = 8) : (outL st).length = 32 := by
  unfold outL bytesL
  rw [List.length_map, flat4_length, h]
theorem shaL_length (X : List UInt8) : (shaL X).length = 32 := outL_length _ (stOf_ok _).1

/-- a key, or its sum -/
def cutK (K : List UInt8) : List UInt8 := if 64 < K.length then shaL K else K
theorem cutK_le (K : List UInt8) : (cutK K).length ≤ 64 := by
  unfold cutK
  split
  · rw [shaL_length]; decide
  · omega
/-- a key's block -/
def keyL (K : List UInt8) : List UInt8 := cutK K ++ List.replicate (64 - (cutK K).length) 0
theorem keyL_length (K : List UInt8) : (keyL K).length = 64 := by
  have := cutK_le K
  unfold keyL
  rw [List.length_append, List.length_replicate]; omega
def mskL (m : UInt8) (B : List UInt8) : List UInt8 := B.map (· ^^^ m)
theorem mskL_length (m : UInt8) (B : List UInt8) : (mskL m B).length = B.length := by simp [mskL]
def inK (K : List UInt8) : List UInt8 := mskL 54 (keyL K)
def outK (K : List UInt8) : List UInt8 := mskL 92 (keyL K)
theorem inK_length (K : List UInt8) : (inK K).length = 64 := by rw [inK, mskL_length, keyL_length]
theorem outK_length (K : List UInt8) : (outK K).length = 64 := by rw [outK, mskL_length, keyL_length]
def tagL (K X : List UInt8) : List UInt8 := shaL (outK K ++ shaL (inK K ++ X))
theorem tagL_length (K X : List UInt8) : (tagL K X).length = 32 := shaL_length _
def xorB (a b : List UInt8) : List UInt8 := List.zipWith (· ^^^ ·) a b
theorem xorB_length (a b : List UInt8) (h : b.length = a.length) : (xorB a b).length = a.length := by simp [xorB, h]
/-- the last tag behind n rounds more -/
def lastL (K C X : List UInt8) : Nat → List UInt8
  | 0 => tagL K (C ++ X)
  | n + 1 => tagL K (C ++ lastL K C X n)
theorem lastL_length (K C X : List UInt8) : ∀ n, (lastL K C X n).length = 32
  | 0 => tagL_length _ _
  | _ + 1 => tagL_length _ _
/-- all of them put together -/
def allL (K C X : List UInt8) : Nat → List UInt8
  | 0 => lastL K C X 0
  | n + 1 => xorB (allL K C X n) (lastL K C X (n + 1))
theorem allL_length (K C X : List UInt8) : ∀ n, (allL K C X n).length = 32
  | 0 => lastL_length _ _ _ 0
  | n + 1 => by rw [allL, xorB_length _ _ (by rw [lastL_length, allL_length K C X n]), allL_length K C X n]

theorem mskL_xorB (m : UInt8) (B : List UInt8) : xorB B (List.replicate B.length m) = mskL m B := by
  unfold xorB mskL
  induction B with
  | nil => rfl
  | cons b B ih => rw [List.length_cons, List.replicate_succ, List.zipWith_cons_cons, ih, List.map_cons]

theorem strOf_nats (l : List UInt8) : strOf (nats l) = tx l := by
  unfold strOf tx strOfNums nats
  congr 1
  congr 1
  rw [List.map_map, List.map_map]
  conv => rhs; rw [← List.map_id l]
  exact List.map_congr_left fun b _ => by simp
theorem nb_nats (s : ByteArray) : nb s = nats (tl s) := rfl
theorem xorL_nats : ∀ a b : List UInt8, xorL (nats a) (nats b) = nats (xorB a b)
  | [], _ => rfl
  | _ :: _, [] => rfl
  | x :: a, y :: b => by
    have := xorL_nats a b
    simp only [xorL, nats, xorB, List.map_cons, List.zipWith_cons_cons] at this ⊢
    rw [this, UInt8.toNat_xor]

theorem xor_two (A : Option Addr) (c : Nat) (s t : ByteArray) (w : World) (hr : Reads w w.heap.size A (stv [s, t])) (hc : 2 ≤ c) (hst : t.size = s.size) (hs : s.size ≤ 1000) :
    Calls Tryz.prog 83 #[.slice A 2 c] w fun e w' => e = .returned (.tuple #[.string (tx (xorB (tl s) (tl t))), .int .i64 0]) ∧ Below w.heap.size w w' := by
  refine (xor_cons A c s [t] w hr (by simpa using hc) (by simp) (fun u hu => ?_)).mono ?_
  · simp only [List.mem_cons, List.not_mem_nil, or_false] at hu
    rcases hu with rfl | rfl <;> omega
  · rintro e w' ⟨rfl, hb⟩
    refine ⟨?_, hb⟩
    have e1 : xorOf [s, t] = (xorL (nb s) (nb t), 0) := by simp [xorOf, hst]
    rw [e1]
    simp only [nb_nats, xorL_nats, strOf_nats]
end Go.Proofs.YtlifpplhinmajaaGreatDoor

namespace Go.Proofs.YtlifpplhinmajaaGreatDoor
set_option maxRecDepth 50000
open Go.RowKit Sha

theorem rep_any (b : UInt8) (c : Nat) (hc : c ≤ 1000000) (w : World) : Calls Tryz.prog 82 #[.string ⟨#[b]⟩, .int .i64 (c : Int)] w fun e w' => e = .returned (.string (tx (List.replicate c b))) ∧ Below w.heap.size w w' := by
  have e : Lib.repeatL [b] c = List.replicate c b := by
    have := Lib.repeatL_replicate b 1 c
    simpa using this
  refine (strings_Repeat ⟨#[b]⟩ c w (by omega) (by show 1 * c ≤ _; omega)).mono ?_
  rintro e' w' ⟨rfl, hb⟩
  refine ⟨?_, hb⟩
  rw [← e]
  rfl

set_option maxHeartbeats 800000 in
theorem padded_any (s : ByteArray) (hs : s.size ≤ 100000) (w : World) (hk : KAt w) : Calls Tryz.prog 62 #[.string s] w fun e w' => e = .returned (.string (tx (keyL (tl s)))) ∧ Below w.heap.size w w' := by
  by_cases h64 : 64 < s.size
  · have hcut : cutK (tl s) = shaL (tl s) := by unfold cutK; rw [tl_length, if_pos h64]
    have HA : Hid (Below w.heap.size w (w.alloc (.cells #[.string s] 9))) := Lib.hid ((Below.refl _ w).alloc (Nat.le_refl _) _)
    have C := shaof_any (w.alloc (.cells #[.string s] 9)) (hk.next HA.out) (some ⟨w.heap.size, 0, none⟩) 1 [s] (fun k hk => by
      have hk0 : k = 0 := by simp [stv] at hk; omega
      subst hk0
      exact ⟨w.heap.size, 0, rfl, by simp, by rw [cell_of_row _ _ _ _ _ (0, 0) (heap_alloc_last w _)]; rfl⟩) (by rw [jn_one, tl_length]; omega) (by simp)
    rw [jn_one] at C
    have hd : (shaL (tl s)).length = 32 := shaL_length _
    have HE : Hid (keyL (tl s) = shaL (tl s) ++ List.replicate 32 0) := Lib.hid (by unfold keyL; rw [hcut, hd])
    generalize shaL (tl s) = D at *
    obtain ⟨S, hS⟩ : ∃ S, S = tx D := ⟨_, rfl⟩
    rw [← hS] at C
    have f1 : S.size = 32 := by rw [hS, tx_size, hd]
    have CC := Lib.hid C
    have HS := Lib.hid hS
    have q1 : (64 : Int) - (S.size : Int) = ((32 : Nat) : Int) := by rw [f1]; rfl
    obtain ⟨R, hR⟩ : ∃ R, R = tx (List.replicate 32 0) := ⟨_, rfl⟩
    have HR := Lib.hid hR
    have hRs : R.size = 32 := by rw [hR]; rfl
    have CR := Lib.hid fun w1 => rep_any 0 32 (by omega) w1
    rw [← hR] at CR
    clear C hS hcut hd hk hR
    go_enter Tryz.func62, Tryz.ntmps62
    go_wp2_with fail
    refine CC.out.mono ?_
    rintro e w1 ⟨rfl, hb⟩
    have HB := Lib.hid (below_step HA.out hb)
    clear hb
    go_wp2_with fail
    refine (CR.out w1).mono ?_
    rintro e w2 ⟨rfl, hb⟩
    have HB2 := Lib.hid (below_step HB.out hb)
    clear hb
    go_wp2
    go_ret
    exact ⟨by show Ending.returned (.string (S ++ R)) = _; rw [HE.out, tx_append, HS.out, HR.out], HB2.out⟩
  · have hcut : cutK (tl s) = tl s := by unfold cutK; rw [tl_length, if_neg h64]
    obtain ⟨c, hc⟩ : ∃ c, c = 64 - s.size := ⟨_, rfl⟩
    have HE : Hid (keyL (tl s) = tl s ++ List.replicate c 0) := Lib.hid (by unfold keyL; rw [hcut, tl_length, hc])
    have q1 : (64 : Int) - (s.size : Int) = (c : Int) := by omega
    have hcb : c ≤ 64 := by omega
    obtain ⟨R, hR⟩ : ∃ R, R = tx (List.replicate c 0) := ⟨_, rfl⟩
    have HR := Lib.hid hR
    have hRs : R.size = c := by rw [hR, tx_size, List.length_replicate]
    have CR := Lib.hid fun w1 => rep_any 0 c (by omega) w1
    rw [← hR] at CR
    clear hc hcut hk hR
    go_enter Tryz.func62, Tryz.ntmps62
    go_wp2_with fail
    refine (CR.out w).mono ?_
    rintro e w2 ⟨rfl, hb⟩
    have HB2 := Lib.hid hb
    clear hb
    go_wp2
    go_ret
    exact ⟨by show Ending.returned (.string (s ++ R)) = _; rw [HE.out, tx_append, tx_tl, HR.out], HB2.out⟩

set_option maxHeartbeats 800000 in
theorem masked_any (Bk : List UInt8) (hB : Bk.length ≤ 1000) (m : UInt8) (w : World) (hk : KAt w) : Calls Tryz.prog 63 #[.string (tx Bk), .string ⟨#[m]⟩] w fun e w' => ∃ H, e = .returned (.pointer (some ⟨H, 0, none⟩)) ∧ HashIs w' w.heap.size w'.heap.size H (mskL m Bk) ∧ Below w.heap.size w w' := by
  obtain ⟨S, hS⟩ : ∃ S, S = tx Bk := ⟨_, rfl⟩
  have hsz : S.size = Bk.length := by rw [hS, tx_size]
  obtain ⟨R, hR⟩ : ∃ R, R = tx (List.replicate S.size m) := ⟨_, rfl⟩
  have hRs : R.size = S.size := by rw [hR, tx_size, List.length_replicate]
  have hX : xorB (tl S) (tl R) = mskL m Bk := by rw [hR, tl_tx, hsz, hS, tl_tx, mskL_xorB]
  have CR := Lib.hid (rep_any m S.size (by omega) w)
  rw [← hR] at CR
  have hSb : S.size ≤ 1000 := by omega
  have HRS := Lib.hid hRs
  obtain ⟨Y, hY⟩ : ∃ Y, Y = mskL m Bk := ⟨_, rfl⟩
  have HM := Lib.hid (show Y.length ≤ 1000 by rw [hY, mskL_length]; exact hB)
  rw [← hY] at hX ⊢
  have HX := Lib.hid hX
  have HK := Lib.hid hk
  rw [← hS]
  have hw0 : 0 < w.heap.size := hk.1
  clear hS hsz hR hRs hX hk hB hY
  go_enter Tryz.func63, Tryz.ntmps63
  go_wp2_with fail
  refine CR.out.mono ?_
  rintro e w1 ⟨rfl, hb⟩
  have HB1 := Lib.hid hb
  clear hb
  have HA : Hid (Below w1.heap.size w1 (w1.alloc (.cells #[.string S, .string R] 9))) := Lib.hid ((Below.refl _ w1).alloc (Nat.le_refl _) _)
  have C := Lib.hid (xor_two (some ⟨w1.heap.size, 0, none⟩) 2 S R (w1.alloc (.cells #[.string S, .string R] 9)) (fun k hk => by
    have hk2 : k < 2 := by simpa [stv] using hk
    refine ⟨w1.heap.size, 0, rfl, by simp, ?_⟩
    rw [cell_of_row _ _ _ _ _ (0, 0) (heap_alloc_last w1 _)]
    rcases (by omega : k = 0 ∨ k = 1) with rfl | rfl <;> rfl) (Nat.le_refl _) HRS.out hSb)
  rw [HX.out] at C
  go_wp2_with fail
  refine C.out.mono ?_
  rintro e w2 ⟨rfl, hb⟩
  have HB2 := Lib.hid (below_step HB1.out (below_step HA.out hb))
  clear hb C HA
  go_wp2_with fail
  refine (newhash_any w2).mono ?_
  rintro e w3 ⟨H, rfl, h3, b3⟩
  have HB3 := Lib.hid (below_step HB2.out b3)
  have hw2 : 0 < w2.heap.size := by have := HB2.out.size; omega
  have C2 := Lib.hid (add_one w3 _ _ H [] h3 (HK.out.next HB3.out) hw2 (tx Y) (by have := HM.out; rw [tx_size]; simp; omega))
  have hle := HB2.out.size
  clear h3 b3 HM hw2 hw0
  go_wp2_with fail
  refine C2.out.mono ?_
  rintro e w4 ⟨rfl, h4, b4⟩
  rw [List.nil_append, tl_tx] at h4
  have H4 := Lib.hid h4
  have HB4 := Lib.hid b4
  clear h4 b4
  go_wp2
  go_ret
  have B4 := HB3.out.trans (HB4.out.mono hle)
  exact ⟨_, rfl, H4.out.mono hle (Nat.le_refl _) (Nat.le_refl _), B4⟩

/-- a Mac under the key K to which these bytes came -/
def MacIs (w : World) (M : Nat) (K X : List UInt8) : Prop := ∃ H O B T B2 T2, w.heap[M]? = some (.cells #[.pointer (some ⟨H, 0, none⟩), .pointer (some ⟨O, 0, none⟩)] 110 (0, 0)) ∧ HashIs w B T H (inK K ++ X) ∧ HashIs w B2 T2 O (outK K)
theorem MacIs.below {w w' : World} {M : Nat} {K X : List UInt8} (h : MacIs w M K X) (hb : Below w.heap.size w w') : MacIs w' M K X := by
  obtain ⟨H, O, B, T, B2, T2, h1, h2, h3⟩ := h
  exact ⟨H, O, B, T, B2, T2, (hb.block M (Array.getElem?_eq_some_iff.1 h1).1).trans h1, h2.below hb, h3.below hb⟩

set_option maxHeartbeats 800000 in
theorem newmac_any (s : ByteArray) (hs : s.size ≤ 100000) (w : World) (hk : KAt w) : Calls Tryz.prog 40 #[.string s] w fun e w' => ∃ M, e = .returned (.pointer (some ⟨M, 0, none⟩)) ∧ MacIs w' M (tl s) [] ∧ Below w.heap.size w w' := by
  have HK := Lib.hid hk
  have C := Lib.hid (padded_any s hs w hk)
  have hkl := keyL_length (tl s)
  have HI : Hid (inK (tl s) ++ [] = mskL 54 (keyL (tl s))) := Lib.hid (by rw [List.append_nil]; rfl)
  have HO : Hid (outK (tl s) = mskL 92 (keyL (tl s))) := Lib.hid rfl
  unfold MacIs
  rw [HI.out, HO.out]
  generalize keyL (tl s) = Bk at *
  clear HI HO hk
  have HL := Lib.hid (show Bk.length ≤ 1000 by omega)
  clear hkl
  go_enter Tryz.func40, Tryz.ntmps40
  go_wp2_with fail
  refine C.out.mono ?_
  rintro e w1 ⟨rfl, b1⟩
  have B1 := Lib.hid b1
  clear b1
  go_wp2_with fail
  refine (masked_any Bk HL.out 54 w1 (HK.out.next B1.out)).mono ?_
  rintro e w2 ⟨H, rfl, h2, b2⟩
  have H2 := Lib.hid h2
  have B2 := Lib.hid (below_step B1.out b2)
  clear h2 b2
  go_wp2_with fail
  refine (masked_any Bk HL.out 92 w2 (HK.out.next B2.out)).mono ?_
  rintro e w3 ⟨O, rfl, h3, b3⟩
  have H3 := Lib.hid h3
  have H2' := Lib.hid (H2.out.below b3)
  have B3 := Lib.hid (below_step B2.out b3)
  clear h3 b3
  go_wp2
  go_ret
  have B4 : Below w3.heap.size w3 (w3.alloc (.cells #[.pointer (some ⟨H, 0, none⟩), .pointer (some ⟨O, 0, none⟩)] 110)) := (Below.refl _ w3).alloc (Nat.le_refl _) _
  exact ⟨w3.heap.size, rfl, ⟨H, O, _, _, _, _, heap_alloc_last w3 _, H2'.out.below B4, H3.out.below B4⟩, below_step B3.out B4⟩
end Go.Proofs.YtlifpplhinmajaaGreatDoor

namespace Go.Proofs.YtlifpplhinmajaaGreatDoor
set_option maxRecDepth 50000
open Go.RowKit Sha

theorem macfield0_run (w : World) (M : Nat) (ev : Operand → Value) (x : Operand) (o : Oper) (hop : o.op = .fieldAddr 110 x 0) (hx : ev x = .pointer (some ⟨M, 0, none⟩)) : (execOp ev o).run Tryz.prog w = .ok (.value (.pointer (some ⟨M, 0, none⟩))) w := by
  simp [execOp, hop, hx, go_sem]
theorem macfield1_run (w : World) (M : Nat) (ev : Operand → Value) (x : Operand) (o : Oper) (hop : o.op = .fieldAddr 110 x 1) (hx : ev x = .pointer (some ⟨M, 0, none⟩)) : (execOp ev o).run Tryz.prog w = .ok (.value (.pointer (some ⟨M, 1, none⟩))) w := by
  simp [execOp, hop, hx, go_sem]
theorem loadhash_run (w : World) (ad : Addr) (v : Option Addr) (ev : Operand → Value) (x : Operand) (o : Oper) (hop : o.op = .load 107 x) (hx : ev x = .pointer (some ad)) (hc : w.cell? ad = some (.pointer v)) : (execOp ev o).run Tryz.prog w = .ok (.value (.pointer v)) w := by
  simp [execOp, hop, hx, hc, go_sem]
theorem buildmac_run (w : World) (p q : Option Addr) (ev : Operand → Value) (x y : Operand) (o : Oper) (hop : o.op = .build 110 #[(0, x), (1, y)]) (hx : ev x = .pointer p) (hy : ev y = .pointer q) : (execOp ev o).run Tryz.prog w = .ok (.value (.agg #[.pointer p, .pointer q])) w := by
  simp [execOp, hop, hx, hy, go_sem]
theorem boxmac_run (w : World) (p q : Option Addr) (ev : Operand → Value) (x : Operand) (o : Oper) (hop : o.op = .box 110 x) (hx : ev x = .agg #[.pointer p, .pointer q]) : (execOp ev o).run Tryz.prog w = .ok (.value (.pointer (some ⟨w.heap.size, 0, none⟩))) (w.alloc (.cells #[.pointer p, .pointer q] 110)) := by
  simp [execOp, hop, hx, go_sem]

/-- two Hashes, one of one's own, the other as it was -/
def MaggP (N O : Nat) (Y : List UInt8) : Value → World → Prop := fun x w => ∃ H T, x = .agg #[.pointer (some ⟨H, 0, none⟩), .pointer (some ⟨O, 0, none⟩)] ∧ HashIs w N T H Y
def MptrP (N O : Nat) (Y : List UInt8) : Value → World → Prop := fun x w => ∃ M H T, x = .pointer (some ⟨M, 0, none⟩) ∧ w.heap[M]? = some (.cells #[.pointer (some ⟨H, 0, none⟩), .pointer (some ⟨O, 0, none⟩)] 110 (0, 0)) ∧ HashIs w N T H Y
theorem stable_magg (N O : Nat) (Y : List UInt8) : Stable (MaggP N O Y) := fun _ _ _ ⟨H, T, e, h⟩ hb => ⟨H, T, e, h.below hb⟩
theorem stable_mptr (N O : Nat) (Y : List UInt8) : Stable (MptrP N O Y) := fun _ _ _ ⟨M, H, T, e, h1, h⟩ hb => ⟨M, H, T, e, (hb.block M (Array.getElem?_eq_some_iff.1 h1).1).trans h1, h.below hb⟩
theorem magg_does {N O : Nat} {Y : List UInt8} {w : World} {o : Oper} {a : Act} {Q : Exit → Act → World → Prop} {x y : Operand} (ho : o.op = .build 110 #[(0, x), (1, y)]) (hx : HashP N Y (a.eval x) w) (hy : a.eval y = .pointer (some ⟨O, 0, none⟩)) : Does Tryz.prog (MaggP N O Y) o a w Q := by
  obtain ⟨H, T, e, h⟩ := hx
  exact op_value (buildmac_run _ _ _ _ _ _ _ ho e hy) ⟨H, T, rfl, h⟩
theorem mptr_does {N O : Nat} {Y : List UInt8} {w : World} {o : Oper} {a : Act} {Q : Exit → Act → World → Prop} {x : Operand} (ho : o.op = .box 110 x) (hx : MaggP N O Y (a.eval x) w) : Does Tryz.prog (MptrP N O Y) o a w Q := by
  obtain ⟨H, T, e, h⟩ := hx
  unfold Does Oper.wp
  rw [boxmac_run w _ _ _ _ _ ho e]
  have hb : Below w.heap.size w (w.alloc (.cells #[.pointer (some ⟨H, 0, none⟩), .pointer (some ⟨O, 0, none⟩)] 110)) := (Below.refl _ _).alloc (Nat.le_refl _) _
  exact ⟨_, rfl, ⟨w.heap.size, H, T, rfl, heap_alloc_last w _, h.below hb⟩, hb⟩
theorem mac_cells {w : World} {M H O : Nat} (h : w.heap[M]? = some (.cells #[.pointer (some ⟨H, 0, none⟩), .pointer (some ⟨O, 0, none⟩)] 110 (0, 0))) : w.cell? ⟨M, 0, none⟩ = some (.pointer (some ⟨H, 0, none⟩)) ∧ w.cell? ⟨M, 1, none⟩ = some (.pointer (some ⟨O, 0, none⟩)) := by
  constructor
  · rw [cell_of_row w M 0 _ _ _ h]; rfl
  · rw [cell_of_row w M 1 _ _ _ h]; rfl

set_option maxHeartbeats 1600000 in
theorem with_any (w : World) (M : Nat) (K X : List UInt8) (h : MacIs w M K X) (hk : KAt w) (A : Option Addr) (c : Nat) (ps : List ByteArray) (hr : Reads w w.heap.size A (stv ps)) (hlen : X.length + (jn ps).length ≤ 100000) (hps : ps.length ≤ 1000000) :
    Calls Tryz.prog 86 #[.pointer (some ⟨M, 0, none⟩), .slice A ps.length c] w fun e w' => ∃ M', e = .returned (.pointer (some ⟨M', 0, none⟩)) ∧ MacIs w' M' K (X ++ jn ps) ∧ Below w.heap.size w w' := by
  obtain ⟨H, O, B, T, B2, T2, h1, h2, h3⟩ := h
  obtain ⟨N, hN⟩ : ∃ N, N = w.heap.size := ⟨_, rfl⟩
  obtain ⟨I, hI⟩ : ∃ I, I = inK K ++ X := ⟨_, rfl⟩
  obtain ⟨Y, hY⟩ : ∃ Y, Y = I ++ jn ps := ⟨_, rfl⟩
  have hIl : I.length = 64 + X.length := by rw [hI, List.length_append, inK_length]
  rw [← hI] at h2
  have KP := Lib.hid fun (w1 : World) (hb : Below w.heap.size w w1) => show (w1.cell? ⟨M, 0, none⟩ = some (.pointer (some ⟨H, 0, none⟩)) ∧ w1.cell? ⟨M, 1, none⟩ = some (.pointer (some ⟨O, 0, none⟩))) ∧
      Calls Tryz.prog 109 #[.pointer (some ⟨H, 0, none⟩)] w1 fun e w' => ∃ x, e = .returned x ∧ HashP N I x w' ∧ Below w1.heap.size w1 w' from by
    refine ⟨mac_cells ((hb.block M (Array.getElem?_eq_some_iff.1 h1).1).trans h1), (clone_any2 w1 B T H I (h2.below hb)).mono ?_⟩
    rintro e w' ⟨H', rfl, g1, g2⟩
    exact ⟨_, rfl, ⟨H', w'.heap.size, rfl, g1.mono (by rw [hN]; exact hb.size) (Nat.le_refl _) (Nat.le_refl _)⟩, g2⟩
  have CADD := Lib.hid fun (w1 : World) (hb : Below w.heap.size w w1) (H' T' : Nat) (g : HashIs w1 N T' H' I) =>
      show Calls Tryz.prog 85 #[.pointer (some ⟨H', 0, none⟩), .slice A ps.length c] w1 fun e w' => ∃ x, e = .returned x ∧ HashP N Y x w' ∧ Below w.heap.size w w' from by
    refine (addhash_any w1 N T' H' I g (hk.next hb) (by rw [hN]; exact hk.1) A c ps (fun k hk => ?_) (by omega) hps).mono ?_
    · obtain ⟨b, off, e, hbb, hc⟩ := hr k hk
      exact ⟨b, off, e, Nat.lt_of_lt_of_le hbb hb.size, .inl (by rw [hN]; exact hbb), (hb.cell hbb).trans hc⟩
    · rintro e w' ⟨rfl, g1, g2⟩
      rw [← hY] at g1
      exact ⟨_, rfl, ⟨H', w'.heap.size, rfl, g1⟩, hb.trans (by rw [← hN]; exact g2)⟩
  have HO := Lib.hid fun (w1 : World) (hb : Below w.heap.size w w1) => h3.below hb
  have HY : Hid (inK K ++ (X ++ jn ps) = Y) := Lib.hid (by rw [hY, hI, List.append_assoc])
  clear h1 h2 h3 hr hlen hps hN hI hY hIl hk
  unfold MacIs
  rw [HY.out]
  clear HY
  go_enter Tryz.func86, Tryz.ntmps86
  go_wp2
  refine wp_region_sway 6 [Is (.pointer (some ⟨M, 0, none⟩)), Is (.pointer (some ⟨M, 0, none⟩)), Is (.pointer (some ⟨M, 0, none⟩)), Is (.pointer (some ⟨H, 0, none⟩)), HashP N I, Is (.slice A ps.length c)] (HashP N Y) [.pointer (some ⟨M, 0, none⟩), .pointer (some ⟨M, 0, none⟩), .pointer (some ⟨M, 1, none⟩), .pointer (some ⟨O, 0, none⟩)] [MaggP N O Y, MptrP N O Y, MptrP N O Y] (by kernel_rfl) (by kernel_rfl) (by kernel_rfl) rfl rfl (by decide) ⟨stable_is _, stable_is _, stable_is _, stable_is _, stable_hash _ _, stable_is _, trivial⟩ (stable_hash _ _) ⟨stable_magg _ _ _, stable_mptr _ _ _, stable_mptr _ _ _, trivial⟩ ⟨?h0, ?h1, ?h2, ?h3, ?h4, ?h5, trivial⟩ ?mid ⟨?f0, ?f1, ?f2, ?f3, trivial⟩ ⟨?l0, ?l1, ?l2, ?l3, ?l4, ?l5, ?l6, trivial⟩ ?fin
  case h0 =>
    intro a w C
    exact part_on (wanted_free rfl _) (op_move (.inl rfl) (C.was 0 (by kernel_rfl)))
  case h1 =>
    intro a w C
    exact part_on (wanted_free rfl _) (op_value (nil_run _ _ _ _ _ rfl (C.on (j := 0) (by kernel_rfl) rfl rfl)) rfl)
  case h2 =>
    intro a w C
    exact part_on (wanted_free rfl _) (op_value (macfield0_run _ _ _ _ _ rfl (C.on (j := 1) (by kernel_rfl) rfl rfl)) rfl)
  case h3 =>
    intro a w C
    exact part_on (wanted_free rfl _) (op_value (loadhash_run _ _ _ _ _ _ rfl (C.on (j := 2) (by kernel_rfl) rfl rfl) ((KP.out w C.below).1.1)) rfl)
  case h4 =>
    intro a w C
    exact part_on (wanted_free rfl _) (op_call1 rfl (reg_enters Tryz.func109 (by kernel_rfl) (by kernel_rfl)) (C.on (j := 3) (by kernel_rfl) rfl rfl) ((KP.out w C.below).2))
  case h5 =>
    intro a w C
    exact part_on (wanted_free rfl _) (op_move (.inl rfl) (C.was 1 (by kernel_rfl)))
  case mid =>
    intro o ho a w C
    cases ho
    refine ⟨wanted_free rfl _, ?_⟩
    obtain ⟨H', T', e7, h7⟩ : HashP N I _ _ := C.on (j := 4) (by kernel_rfl) rfl rfl
    exact turns_call2 rfl (reg_enters Tryz.func85 (by kernel_rfl) (by kernel_rfl)) e7 (C.on (j := 5) (by kernel_rfl) rfl rfl) (CADD.out w C.below H' T' h7)
  case f0 =>
    intro a w C
    exact part_on (wanted_free rfl _) (op_move (.inl rfl) (C.was 0 (by kernel_rfl)))
  case f1 =>
    intro a w C
    exact part_on (wanted_free rfl _) (op_value (nil_run _ _ _ _ _ rfl (C.on (j := 7) (by kernel_rfl) rfl rfl)) rfl)
  case f2 =>
    intro a w C
    exact part_on (wanted_free rfl _) (op_value (macfield1_run _ _ _ _ _ rfl (C.on (j := 8) (by kernel_rfl) rfl rfl)) rfl)
  case f3 =>
    intro a w C
    exact part_on (wanted_free rfl _) (op_value (loadhash_run _ _ _ _ _ _ rfl (C.on (j := 9) (by kernel_rfl) rfl rfl) ((KP.out w C.below).1.2)) rfl)
  case l0 =>
    intro a w C
    exact part_on (wanted_free rfl _) (op_move (.inl rfl) (C.was 0 (by kernel_rfl)))
  case l1 =>
    intro a w C
    exact part_on (wanted_free rfl _) (op_value (nil_run _ _ _ _ _ rfl (C.on (j := 7) (by kernel_rfl) rfl rfl)) rfl)
  case l2 =>
    intro a w C
    exact part_on (wanted_free rfl _) (op_value (macfield1_run _ _ _ _ _ rfl (C.on (j := 8) (by kernel_rfl) rfl rfl)) rfl)
  case l3 =>
    intro a w C
    exact part_on (wanted_free rfl _) (op_value (loadhash_run _ _ _ _ _ _ rfl (C.on (j := 9) (by kernel_rfl) rfl rfl) ((KP.out w C.below).1.2)) rfl)
  case l4 =>
    intro a w C
    exact part_on (wanted_free rfl _) (magg_does rfl (C.on (j := 6) (by kernel_rfl) rfl rfl) (C.on (j := 10) (by kernel_rfl) rfl rfl))
  case l5 =>
    intro a w C
    exact part_on (wanted_free rfl _) (mptr_does rfl (C.on (j := 11) (by kernel_rfl) rfl rfl))
  case l6 =>
    intro a w C
    exact part_on (wanted_free rfl _) (op_move (.inr rfl) (C.on (j := 12) (by kernel_rfl) rfl rfl))
  case fin =>
    rintro wF hbF v0 g0 v1 g1 v2 g2 v3 g3 v4 g4 v5 g5 v6 g6 _ rfl _ rfl _ rfl _ rfl v11 g11 v12 g12 v13 ⟨M', H', T', rfl, hm, hh⟩
    clear g0 g1 g2 g3 g4 g5 g6 g11 g12
    simp only [Fin, setAt, Exit.then, List.setIfInBounds_toArray, List.set_cons_succ, List.set_cons_zero]
    go_wp2
    go_ret
    exact ⟨M', rfl, ⟨H', O, _, _, _, _, hm, hh, HO.out wF hbF⟩, hbF⟩

set_option maxHeartbeats 1600000 in
theorem tag_any (w : World) (M : Nat) (K X : List UInt8) (h : MacIs w M K X) (hk : KAt w) (hlen : X.length ≤ 100000) :
    Calls Tryz.prog 87 #[.pointer (some ⟨M, 0, none⟩)] w fun e w' => e = .returned (.string (tx (tagL K X))) ∧ Below w.heap.size w w' := by
  obtain ⟨H, O, B, T, B2, T2, h1, h2, h3⟩ := h
  obtain ⟨N, hN⟩ : ∃ N, N = w.heap.size := ⟨_, rfl⟩
  obtain ⟨I, hI⟩ : ∃ I, I = inK K ++ X := ⟨_, rfl⟩
  obtain ⟨S, hS⟩ : ∃ S, S = shaL I := ⟨_, rfl⟩
  obtain ⟨Z, hZ⟩ : ∃ Z, Z = outK K := ⟨_, rfl⟩
  obtain ⟨Y, hY⟩ : ∃ Y, Y = Z ++ S := ⟨_, rfl⟩
  have hIl : I.length = 64 + X.length := by rw [hI, List.length_append, inK_length]
  have hZl : Z.length = 64 := by rw [hZ, outK_length]
  have hSl : S.length = 32 := by rw [hS, shaL_length]
  have hYl : Y.length = 96 := by rw [hY, List.length_append, hZl, hSl]
  have HT : Hid (tagL K X = shaL Y) := Lib.hid (by rw [hY, hS, hZ, hI]; rfl)
  rw [HT.out]
  rw [← hI] at h2
  rw [← hZ] at h3
  have KP := Lib.hid fun (w1 : World) (hb : Below w.heap.size w w1) => show (w1.cell? ⟨M, 0, none⟩ = some (.pointer (some ⟨H, 0, none⟩)) ∧ w1.cell? ⟨M, 1, none⟩ = some (.pointer (some ⟨O, 0, none⟩))) ∧
      (Calls Tryz.prog 109 #[.pointer (some ⟨O, 0, none⟩)] w1 fun e w' => ∃ x, e = .returned x ∧ HashP N Z x w' ∧ Below w1.heap.size w1 w') ∧
      Calls Tryz.prog 101 #[.pointer (some ⟨H, 0, none⟩)] w1 fun e w' => ∃ x, e = .returned x ∧ Is (.string (tx S)) x w' ∧ Below w1.heap.size w1 w' from by
    refine ⟨mac_cells ((hb.block M (Array.getElem?_eq_some_iff.1 h1).1).trans h1), (clone_any2 w1 B2 T2 O Z (h3.below hb)).mono ?_, (sumhash_any w1 B T H I (h2.below hb) (hk.next hb) (by omega)).mono ?_⟩
    · rintro e w' ⟨H', rfl, g1, g2⟩
      exact ⟨_, rfl, ⟨H', w'.heap.size, rfl, g1.mono (by rw [hN]; exact hb.size) (Nat.le_refl _) (Nat.le_refl _)⟩, g2⟩
    · rintro e w' ⟨rfl, g⟩
      exact ⟨_, rfl, by rw [hS]; rfl, g⟩
  have CADD := Lib.hid fun (w1 : World) (hb : Below w.heap.size w w1) (H' T' b : Nat) (g : HashIs w1 N T' H' Z) (gb : w1.heap[b]? = some (.cells #[.string (tx S)] 9 (0, 0))) =>
      show Calls Tryz.prog 85 #[.pointer (some ⟨H', 0, none⟩), .slice (some ⟨b, 0, none⟩) 1 1] w1 fun e w' => ∃ x, e = .returned x ∧ HashP N Y x w' ∧ Below w.heap.size w w' from by
    refine (addhash_any w1 N T' H' Z g (hk.next hb) (by rw [hN]; exact hk.1) (some ⟨b, 0, none⟩) 1 [tx S] (fun k hk => ?_) (by rw [jn_one, tl_tx]; omega) (by simp)).mono ?_
    · have hk0 : k = 0 := by simp [stv] at hk; omega
      subst hk0
      exact ⟨b, 0, rfl, (Array.getElem?_eq_some_iff.1 gb).1, .inr (.inr ⟨_, _, gb⟩), by rw [cell_of_row w1 b _ _ _ _ gb]; rfl⟩
    · rintro e w' ⟨rfl, g1, g2⟩
      rw [jn_one, tl_tx, ← hY] at g1
      exact ⟨_, rfl, ⟨H', w'.heap.size, rfl, g1⟩, hb.trans (by rw [← hN]; exact g2)⟩
  have CSUM := Lib.hid fun (w1 : World) (hb : Below w.heap.size w w1) (H' T' : Nat) (g : HashIs w1 N T' H' Y) =>
      show Calls Tryz.prog 101 #[.pointer (some ⟨H', 0, none⟩)] w1 fun e w' => ∃ x, e = .returned x ∧ Is (.string (tx (shaL Y))) x w' ∧ Below w1.heap.size w1 w' from by
    refine (sumhash_any w1 N T' H' Y g (hk.next hb) (by omega)).mono ?_
    rintro e w' ⟨rfl, g⟩
    exact ⟨_, rfl, rfl, g⟩
  have HN := Lib.hid hN
  clear h1 h2 h3 hlen hN hI hY hIl hk hS hZ hZl hSl hYl HT
  generalize shaL Y = D at *
  go_enter Tryz.func87, Tryz.ntmps87
  go_wp2
  refine wp_region_sway 11 [Is (.pointer (some ⟨M, 0, none⟩)), Is (.pointer (some ⟨M, 0, none⟩)), Is (.pointer (some ⟨M, 1, none⟩)), Is (.pointer (some ⟨O, 0, none⟩)), HashP N Z, Is (.pointer (some ⟨M, 0, none⟩)), Is (.pointer (some ⟨M, 0, none⟩)), Is (.pointer (some ⟨M, 0, none⟩)), Is (.pointer (some ⟨H, 0, none⟩)), Is (.string (tx S)), PartP N (tx S)] (HashP N Y) [] [Is (.string (tx D)), Is (.string (tx D))] (by kernel_rfl) (by kernel_rfl) (by kernel_rfl) rfl rfl (by decide) ⟨stable_is _, stable_is _, stable_is _, stable_is _, stable_hash _ _, stable_is _, stable_is _, stable_is _, stable_is _, stable_is _, stable_part _ _, trivial⟩ (stable_hash _ _) ⟨stable_is _, stable_is _, trivial⟩ ⟨?h0, ?h1, ?h2, ?h3, ?h4, ?h5, ?h6, ?h7, ?h8, ?h9, ?h10, trivial⟩ ?mid trivial ⟨?l0, ?l1, trivial⟩ ?fin
  case h0 =>
    intro a w C
    exact part_on (wanted_free rfl _) (op_move (.inl rfl) (C.was 0 (by kernel_rfl)))
  case h1 =>
    intro a w C
    exact part_on (wanted_free rfl _) (op_value (nil_run _ _ _ _ _ rfl (C.on (j := 0) (by kernel_rfl) rfl rfl)) rfl)
  case h2 =>
    intro a w C
    exact part_on (wanted_free rfl _) (op_value (macfield1_run _ _ _ _ _ rfl (C.on (j := 1) (by kernel_rfl) rfl rfl)) rfl)
  case h3 =>
    intro a w C
    exact part_on (wanted_free rfl _) (op_value (loadhash_run _ _ _ _ _ _ rfl (C.on (j := 2) (by kernel_rfl) rfl rfl) ((KP.out w C.below).1.2)) rfl)
  case h4 =>
    intro a w C
    exact part_on (wanted_free rfl _) (op_call1 rfl (reg_enters Tryz.func109 (by kernel_rfl) (by kernel_rfl)) (C.on (j := 3) (by kernel_rfl) rfl rfl) ((KP.out w C.below).2.1))
  case h5 =>
    intro a w C
    exact part_on (wanted_free rfl _) (op_move (.inl rfl) (C.was 0 (by kernel_rfl)))
  case h6 =>
    intro a w C
    exact part_on (wanted_free rfl _) (op_value (nil_run _ _ _ _ _ rfl (C.on (j := 5) (by kernel_rfl) rfl rfl)) rfl)
  case h7 =>
    intro a w C
    exact part_on (wanted_free rfl _) (op_value (macfield0_run _ _ _ _ _ rfl (C.on (j := 6) (by kernel_rfl) rfl rfl)) rfl)
  case h8 =>
    intro a w C
    exact part_on (wanted_free rfl _) (op_value (loadhash_run _ _ _ _ _ _ rfl (C.on (j := 7) (by kernel_rfl) rfl rfl) ((KP.out w C.below).1.1)) rfl)
  case h9 =>
    intro a w C
    exact part_on (wanted_free rfl _) (op_call1 rfl (reg_enters Tryz.func101 (by kernel_rfl) (by kernel_rfl)) (C.on (j := 8) (by kernel_rfl) rfl rfl) ((KP.out w C.below).2.2))
  case h10 =>
    intro a w C
    exact part_on (wanted_free rfl _) (slice_does (N := N) (by rw [HN.out]; exact C.below.size) rfl (C.on (j := 9) (by kernel_rfl) rfl rfl))
  case mid =>
    intro o ho a w C
    cases ho
    refine ⟨wanted_free rfl _, ?_⟩
    obtain ⟨H', T', e7, h7⟩ : HashP N Z _ _ := C.on (j := 4) (by kernel_rfl) rfl rfl
    obtain ⟨b, e14, hb14, hr14⟩ : PartP N (tx S) _ _ := C.on (j := 10) (by kernel_rfl) rfl rfl
    exact turns_call2 rfl (reg_enters Tryz.func85 (by kernel_rfl) (by kernel_rfl)) e7 e14 (CADD.out w C.below H' T' b h7 hr14)
  case l0 =>
    intro a w C
    obtain ⟨H', T', e7, h7⟩ : HashP N Y _ _ := C.on (j := 11) (by kernel_rfl) rfl rfl
    exact part_on (wanted_free rfl _) (op_call1 rfl (reg_enters Tryz.func101 (by kernel_rfl) (by kernel_rfl)) e7 (CSUM.out w C.below H' T' h7))
  case l1 =>
    intro a w C
    exact part_on (wanted_free rfl _) (op_move (.inr rfl) (C.on (j := 12) (by kernel_rfl) rfl rfl))
  case fin =>
    rintro wF hbF v0 g0 v1 g1 v2 g2 v3 g3 v4 g4 v5 g5 v6 g6 v7 g7 v8 g8 v9 g9 v10 g10 v11 g11 _ rfl _ rfl
    clear g0 g1 g2 g3 g4 g5 g6 g7 g8 g9 g10 g11
    simp only [Fin, setAt, Exit.then, List.setIfInBounds_toArray, List.set_cons_succ, List.set_cons_zero]
    go_wp2
    go_ret
    exact ⟨rfl, hbF⟩

theorem with_nil (A : Option Addr) (n c : Nat) (w : World) : Calls Tryz.prog 86 #[.pointer none, .slice A n c] w fun e w' => e = .returned (.pointer none) ∧ w = w' := by
  go_enter Tryz.func86, Tryz.ntmps86
  go_wp2
  go_ret
  exact ⟨rfl, rfl⟩
theorem tag_nil (w : World) : Calls Tryz.prog 87 #[.pointer none] w fun e w' => e = .returned (.string ⟨#[]⟩) ∧ w = w' := by
  go_enter Tryz.func87, Tryz.ntmps87
  go_wp2
  go_ret
  exact ⟨rfl, rfl⟩
theorem chain_nil (n : Int) (A : Option Addr) (m c : Nat) (w : World) : Calls Tryz.prog 64 #[.pointer none, .int .i64 n, .slice A m c] w fun e w' => e = .returned (.tuple #[.string ⟨#[]⟩, .string ⟨#[]⟩]) ∧ w = w' := by
  go_enter Tryz.func64, Tryz.ntmps64
  go_wp2
  go_ret2
  exact ⟨rfl, rfl⟩
end Go.Proofs.YtlifpplhinmajaaGreatDoor

namespace Go.Proofs.YtlifpplhinmajaaGreatDoor
set_option maxRecDepth 50000
open Go.RowKit Sha

/-- one more text, in a list that was just made -/
theorem withone_any (w : World) (M : Nat) (K X : List UInt8) (h : MacIs w M K X) (hk : KAt w) (s : ByteArray) (hlen : X.length + s.size ≤ 100000) :
    Calls Tryz.prog 86 #[.pointer (some ⟨M, 0, none⟩), .slice (some ⟨w.heap.size, 0, none⟩) 1 1] (w.alloc (.cells #[.string s] 9)) fun e w' => ∃ M', e = .returned (.pointer (some ⟨M', 0, none⟩)) ∧ MacIs w' M' K (X ++ tl s) ∧ Below w.heap.size w w' := by
  have hb : Below w.heap.size w (w.alloc (.cells #[.string s] 9)) := (Below.refl _ w).alloc (Nat.le_refl _) _
  refine (with_any _ M K X (h.below hb) (hk.next hb) (some ⟨w.heap.size, 0, none⟩) 1 [s] (fun k hk => ?_) (by rw [jn_one, tl_length]; omega) (by simp)).mono ?_
  · have hk0 : k = 0 := by simp [stv] at hk; omega
    subst hk0
    exact ⟨w.heap.size, 0, rfl, by simp, by rw [cell_of_row _ _ _ _ _ (0, 0) (heap_alloc_last w _)]; rfl⟩
  · rintro e w' ⟨M', rfl, g1, g2⟩
    rw [jn_one] at g1
    exact ⟨M', rfl, g1, below_step hb g2⟩

set_option maxHeartbeats 800000 in
theorem chain_low (w : World) (M : Nat) (m : Int) (hm : m < 1) (A : Option Addr) (n c : Nat) :
    Calls Tryz.prog 64 #[.pointer (some ⟨M, 0, none⟩), .int .i64 m, .slice A n c] w fun e w' => e = .returned (.tuple #[.string ⟨#[]⟩, .string ⟨#[]⟩]) ∧ w = w' := by
  have hd : decide (m < 1) = true := by simp; omega
  go_enter Tryz.func64, Tryz.ntmps64
  go_wp2
  go_ret2
  exact ⟨rfl, rfl⟩

set_option maxHeartbeats 1600000 in
theorem chain_any (w : World) (M : Nat) (K C : List UInt8) (h : MacIs w M K C) (hk : KAt w) (n : Nat) (h0 : n ≠ 0) (hn : n ≤ 1000000) (A : Option Addr) (c : Nat) (ps : List ByteArray) (hr : Reads w w.heap.size A (stv ps)) (hlen : C.length + (jn ps).length ≤ 10000) (hps : ps.length ≤ 1000000) :
    Calls Tryz.prog 64 #[.pointer (some ⟨M, 0, none⟩), .int .i64 (n : Int), .slice A ps.length c] w fun e w' => e = .returned (.tuple #[.string (tx (lastL K C (jn ps) (n - 1))), .string (tx (allL K C (jn ps) (n - 1)))]) ∧ Below w.heap.size w w' := by
  obtain ⟨N, rfl⟩ : ∃ N, n = N + 1 := ⟨n - 1, by omega⟩
  obtain ⟨m, hm⟩ : ∃ m, m = N + 1 := ⟨_, rfl⟩
  rw [← hm, show m - 1 = N by omega]
  have hq : (m : Int) - 1 = (N : Int) := by omega
  have hd : decide ((m : Int) < 1) = false := by simp; omega
  have hNb : N ≤ 1000000 := by omega
  have HM := Lib.hid h
  have HK := Lib.hid hk
  have CW := Lib.hid (with_any w M K C h hk A c ps hr (by omega) hps)
  obtain ⟨X, hX⟩ : ∃ X, X = jn ps := ⟨_, rfl⟩
  rw [← hX] at CW hlen ⊢
  have HL := Lib.hid hlen
  clear h hk hr hlen hps hX hm h0 hn
  go_enter Tryz.func64, Tryz.ntmps64
  go_wp2_with fail
  refine CW.out.mono ?_
  rintro e w1 ⟨M1, rfl, h1, b1⟩
  have B1 := Lib.hid b1
  have CT := Lib.hid (tag_any w1 M1 K (C ++ X) h1 (HK.out.next b1) (by have := HL.out; rw [List.length_append]; omega))
  clear h1 b1 CW
  go_wp2_with fail
  refine CT.out.mono ?_
  rintro e w2 ⟨rfl, b2⟩
  have B2 := Lib.hid (below_step B1.out b2)
  clear b2 CT
  have HT0 : Hid (tagL K (C ++ X) = lastL K C X 0) := Lib.hid rfl
  rw [HT0.out]
  have HA0 : Hid (lastL K C X 0 = allL K C X 0) := Lib.hid rfl
  go_wp2
  go_loopw [8, 9, 23] (fun v8 v9 v23 wr => ∃ k : Nat, k ≤ N ∧ v23 = .int .i64 (k : Int) ∧ v8 = .string (tx (lastL K C X k)) ∧ v9 = .string (tx (allL K C X k)) ∧ Below w.heap.size w wr) (fun _ _ v23 _ => N - (intOf v23).toNat)
  case atStart => exact ⟨0, Nat.zero_le _, rfl, rfl, by rw [HA0.out], B2.out⟩
  case round =>
    obtain ⟨k, hk, rfl, rfl, rfl, hb⟩ := hrel
    have HB := Lib.hid hb
    clear hb
    by_cases hlt : k < N
    · have hdt : decide ((k : Int) < (N : Int)) = true := by simp; omega
      have HLT := Lib.hid hlt
      clear hlt
      obtain ⟨S, hS⟩ : ∃ S, S = tx (lastL K C X k) := ⟨_, rfl⟩
      obtain ⟨U, hU⟩ : ∃ U, U = tx (allL K C X k) := ⟨_, rfl⟩
      rw [← hS, ← hU]
      have hsS : S.size = 32 := by rw [hS, tx_size, lastL_length]
      have hsU : U.size = 32 := by rw [hU, tx_size, allL_length]
      have CW := Lib.hid (withone_any wr M K C (HM.out.below HB.out) (HK.out.next HB.out) S (by have := HL.out; omega))
      have HS := Lib.hid hS
      have HU := Lib.hid hU
      have HsS := Lib.hid hsS
      have HsU := Lib.hid hsU
      clear hS hU hsS hsU
      go_wp2_with fail
      refine CW.out.mono ?_
      rintro e w3 ⟨M3, rfl, h3, b3⟩
      have B3 := Lib.hid (below_step HB.out b3)
      have CT := tag_any w3 M3 K (C ++ tl S) h3 (HK.out.next B3.out) (by have := HL.out; have := HsS.out; rw [List.length_append, tl_length]; omega)
      rw [show tagL K (C ++ tl S) = lastL K C X (k + 1) by rw [HS.out, tl_tx]; rfl] at CT
      obtain ⟨S2, hS2⟩ : ∃ S2, S2 = tx (lastL K C X (k + 1)) := ⟨_, rfl⟩
      rw [← hS2] at CT
      have hsS2 : S2.size = 32 := by rw [hS2, tx_size, lastL_length]
      have CT := Lib.hid CT
      have HS2 := Lib.hid hS2
      have HsS2 := Lib.hid hsS2
      clear h3 b3 CW hS2 hsS2
      go_wp2_with fail
      refine CT.out.mono ?_
      rintro e w4 ⟨rfl, b4⟩
      have B4 := Lib.hid (below_step B3.out b4)
      clear b4 CT
      have HA : Hid (Below w4.heap.size w4 (w4.alloc (.cells #[.string U, .string S2] 9))) := Lib.hid ((Below.refl _ w4).alloc (Nat.le_refl _) _)
      have CX := xor_two (some ⟨w4.heap.size, 0, none⟩) 2 U S2 (w4.alloc (.cells #[.string U, .string S2] 9)) (fun k hk => by
        have hk2 : k < 2 := by simpa [stv] using hk
        refine ⟨w4.heap.size, 0, rfl, by simp, ?_⟩
        rw [cell_of_row _ _ _ _ _ (0, 0) (heap_alloc_last w4 _)]
        rcases (by omega : k = 0 ∨ k = 1) with rfl | rfl <;> rfl) (Nat.le_refl _) (by rw [HsS2.out, HsU.out]) (by rw [HsU.out]; decide)
      rw [show xorB (tl U) (tl S2) = allL K C X (k + 1) by rw [HU.out, HS2.out, tl_tx, tl_tx]; rfl] at CX
      obtain ⟨U2, hU2⟩ : ∃ U2, U2 = tx (allL K C X (k + 1)) := ⟨_, rfl⟩
      rw [← hU2] at CX
      have CX := Lib.hid CX
      have HU2 := Lib.hid hU2
      clear hU2
      go_wp2_with fail
      refine CX.out.mono ?_
      rintro e w5 ⟨rfl, b5⟩
      have B5 := Lib.hid (below_step B4.out (below_step HA.out b5))
      clear b5 CX HA
      go_wp2
      go_roundw
      case rel => exact ⟨k + 1, HLT.out, by go_num, by rw [HS2.out], by rw [HU2.out], B5.out⟩
      case measure => have := HLT.out; simp [intOf]; omega
    · obtain rfl : k = N := by omega
      have hdt : decide ((k : Int) < (k : Int)) = false := by simp
      go_wp2
      go_ret2
      exact ⟨rfl, HB.out⟩
end Go.Proofs.YtlifpplhinmajaaGreatDoor

/- The document's Key and Sum of layer 26 by their contracts. Conditions: those typed. -/
import Derived.Test.YtccpcjbffibkkaaBcSum
import Derived.LoopTactic
import Derived.Deep.LoopGhost
import Derived.WalkMore
namespace Go.Proofs.Ytccpcjbffibkkaa
set_option maxRecDepth 50000
open Go.RowKit Ci Pi16

theorem rkey26_any (s : ByteArray) (hb : s.size ≤ 1000) (w : World) : Calls Try.prog 8 #[.string s] w fun e w' => e = .returned (.string (bky s)) ∧ w' = w := by
  have hz : (s ++ ⟨#[0]⟩ : ByteArray).size = s.size + 1 := by rw [ByteArray.size_append]; rfl
  have hJ2 : ¬ 9223372036854775807 < s.size + 1 := by omega
  by_cases h : 72 ≤ s.size
  · rw [← bky_cut h]
    have S := cut72_run (s := s ++ ⟨#[0]⟩) (by omega)
    have hI : (72 : Int) < ((s ++ ⟨#[0]⟩ : ByteArray).size : Int) := by omega
    have hJ : (72 : Int) < (s.size : Int) + 1 := by omega
    go_enter Try.func8, Try.ntmps8
    go_wp2
    go_ret
    exact ⟨rfl, rfl⟩
  · rw [bky_short (by omega)]
    have hI : ((s ++ ⟨#[0]⟩ : ByteArray).size : Int) ≤ 72 := by omega
    have hJ : (s.size : Int) + 1 ≤ 72 := by omega
    go_enter Try.func8, Try.ntmps8
    go_wp2
    go_ret
    exact ⟨rfl, rfl⟩

/-- the first q bytes of the word k of the text, as a number -/
def mgP (k q : Nat) : Nat := ((mgB.drop (4 * k)).take q).foldl (fun a b => 256 * a + b) 0
theorem mgP_next : ∀ k : _root_.Fin 6, ∀ q : _root_.Fin 4, mgP k (q + 1) = 256 * mgP k q + mgB.getD (4 * k + q) 0 ∧ mgP k q < 16777216 := by decide
theorem mgP_word : ∀ k : _root_.Fin 6, mgL.getD k 0 = mgP k 4 ∧ mgP k 4 < 4294967296 ∧ mgL.take (k + 1) = mgL.take k ++ [mgP k 4] := by decide
def mgS : ByteArray := ⟨#[79, 114, 112, 104, 101, 97, 110, 66, 101, 104, 111, 108, 100, 101, 114, 83, 99, 114, 121, 68, 111, 117, 98, 116]⟩
theorem mgS_at : ∀ i : _root_.Fin 24, ∃ h : i.val < mgS.size, (mgS[i.val]'h).toNat = mgB.getD i.val 0 ∧ mgB.getD i.val 0 < 256 := fun i => ⟨i.isLt, (by decide : ∀ i : _root_.Fin 24, (mgS[i.val]'i.isLt).toNat = mgB.getD i.val 0 ∧ mgB.getD i.val 0 < 256) i⟩

set_option maxHeartbeats 3200000 in
theorem rsum26_any (n : Nat) (hn : n ≤ 2147483648) (salt word : ByteArray) (hs : salt.size ≤ 140737488351232) (hw : word.size ≤ 1000) (g : Nat → Nat) (hg : Ok g) (w : World) (d c : Nat) (hT : RTab w d g) :
    Calls Try.prog 10 #[.slice (some ⟨d, 0, none⟩) 1042 c, .int .i64 (n : Int), .string salt, .string word] w fun e w' => e = .returned (.string (bcT (ekTo (exB g salt (bky word)) salt (bky word) n))) ∧ Below w.heap.size w w' := by
  obtain ⟨iw, hiw, hzw0, hzw1, hzw2⟩ := info_parts w_info_u32
  obtain ⟨i0, hi, hz0, hz1, hz2⟩ := info_parts fd_info_u8
  have HK := Lib.hid (rkey26_any word hw w)
  have HS := Lib.hid (rsetup_any n hn salt (bky word) hs (by have := (bky_size word).2; omega) g hg w d c hT)
  have hG : Ok (ekTo (exB g salt (bky word)) salt (bky word) n) := ekTo_ok (exB_ok hg _ _) _ _ _
  generalize ekTo (exB g salt (bky word)) salt (bky word) n = G at *
  generalize bky word = ky at *
  have HG := Lib.hid hG
  clear hG hn hs hg hT hw
  go_enter Try.func10, Try.ntmps10
  go_wp2_with fail
  refine HK.out.mono ?_
  rintro e w1 ⟨rfl, rfl⟩
  go_wp2_with fail
  refine HS.out.mono ?_
  rintro e w2 ⟨d2, rfl, hT, hb⟩
  have HT := Lib.hid hT
  have HB := Lib.hid hb
  clear hT hb HS HK
  go_wp2
  generalize hMS : (⟨#[79, 114, 112, 104, 101, 97, 110, 66, 101, 104, 111, 108, 100, 101, 114, 83, 99, 114, 121, 68, 111, 117, 98, 116]⟩ : ByteArray) = M
  have hMI : (M.size : Int) = 24 := by rw [← hMS]; rfl
  have HA : Hid (∀ i : _root_.Fin 24, ∃ h : i.val < M.size, (M[i.val]'h).toNat = mgB.getD i.val 0 ∧ mgB.getD i.val 0 < 256) := Lib.hid (by rw [← hMS]; exact mgS_at)
  clear hMS
  have hsz2 := HB.out.size
  have HB2 : Hid (w1.heap.size ≤ w2.heap.size) := Lib.hid hsz2
  clear hsz2
  go_loopw [11, 12] (fun v i wr => ∃ k : Nat, k ≤ 6 ∧ i = .int .i64 (4 * (k : Int)) ∧ wr.ownsRow w2.heap.size 52 1 v k (u32s (mgL.take k)) ∧ Below w2.heap.size w2 wr) (fun _ i _ => 24 - (intOf i).toNat)
  case atStart => exact ⟨0, Nat.zero_le _, rfl, by simpa [u32s] using World.ownsRow_nil _ _ _ _, Below.refl _ _⟩
  case round =>
    obtain ⟨k, hk, rfl, hown, hb⟩ := hrel
    by_cases hlt : k < 6
    · have hsz := hb.size
      have hkI : (4 : Int) * (k : Int) < 24 := by omega
      go_wp2
      have Hown := Lib.hid hown
      have Hb := Lib.hid hb
      have Hsz := Lib.hid hsz
      clear hown hb hsz
      go_loop [13, 14] (fun v i => ∃ q : Nat, q ≤ 4 ∧ i = .int .i64 (q : Int) ∧ v = .int .u32 (mgP k q : Nat)) (fun _ i => 4 - (intOf i).toNat)
      case atStart => exact ⟨0, Nat.zero_le _, rfl, rfl⟩
      case round =>
        obtain ⟨q, hq, rfl, rfl⟩ := hrel
        by_cases hq4 : q < 4
        · obtain ⟨e1, e2⟩ := mgP_next ⟨k, hlt⟩ ⟨q, hq4⟩
          obtain ⟨h24, e3, e4⟩ := HA.out ⟨4 * k + q, by omega⟩
          simp only at e1 e2 e3 e4
          obtain ⟨p, hp⟩ : ∃ p, p = 4 * k + q := ⟨_, rfl⟩
          simp only [← hp] at h24 e1 e3 e4
          rw [← e3] at e1 e4
          have E1 := Lib.hid e1
          clear e1 e3
          have j1 : (4 : Int) * (k : Int) + (q : Int) = (p : Int) := by omega
          have hpl : (p : Int) < 24 := by omega
          have hqI : (q : Int) < 4 := by omega
          generalize mgP k q = y at *
          have hy : (256 : Int) * (y : Int) % 4294967296 = 256 * (y : Int) := by omega
          generalize hx : (M[p]'h24).toNat = x at *
          have hxI : ((M[p]'h24).toNat : Int) = (x : Int) := by rw [hx]
          have HX := Lib.hid hx
          clear hp hx
          go_wp2
          go_round
          case rel => exact ⟨q + 1, by omega, by go_num, by rw [E1.out]; go_num⟩
          case measure => simp [intOf]; omega
        · obtain rfl : q = 4 := by omega
          obtain ⟨f1, f2, f3⟩ := mgP_word ⟨k, hlt⟩
          simp only at f1 f2 f3
          have F3 := Lib.hid f3
          clear f1 f3
          have hown := Hown.out
          have hb := Hb.out
          have hsz := Hsz.out
          generalize mgP k 4 = y at *
          go_wp2_with (at_builtin; refine wpList_append_own _ rfl (.tmp 42) (.tmp 44) 29 rfl w2.heap.size 52 iw (.int .u32 0) 1 4 Try.underlying29 hiw hzw0 hzw1 hzw2 rfl (by decide) _ _ _ rfl (hown.alloc _) ⟨wr.heap.size, 0, none⟩ 1 1 [.int .u32 (y : Int)] rfl rfl ?c1 ?c2 ?c3 ?c4 ?c5 ?_)
          case c2 => rfl
          case c3 => unfold maxLen; omega
          case c4 => omega
          case c5 => omega
          intro v' w3 hown2 hg2 _
          have R := rel_step hb hsz hown hown2 hg2
          clear hown2 hg2 hown hb
          go_wp2
          go_roundw
          case rel => exact ⟨k + 1, by omega, by go_num, by rw [F3.out]; simpa [u32s] using R.1, R.2⟩
          case measure => simp [intOf]; omega
    · obtain rfl : k = 6 := by omega
      have hk24 : (24 : Int) ≤ 4 * ((6 : Nat) : Int) := by decide
      obtain ⟨A1, c1, rfl, y1, y2, y3⟩ := own_form hown
      clear y1 y2 y3
      have hR := Reads.of_own hown
      rw [show mgL.take 6 = mgL from rfl] at hR
      have HB1 := Lib.hid (HB.out.trans (hb.mono HB2.out))
      have HQ := Lib.hid (rseal_any wr d2 1042 G (HT.out.below hb HT.out.lt) HG.out 64 (by decide) A1 6 c1 3 rfl (by decide) mgL rfl mg_lt hR mg mg_at)
      clear hown hb hR
      go_wp2_with fail
      refine HQ.out.mono ?_
      rintro e w3 ⟨v3, rfl, hown, hb⟩
      obtain ⟨A3, c3, rfl, y1, y2, y3⟩ := own_form hown
      clear y1 y2 y3
      have HR3 := Lib.hid (Reads.of_own hown)
      have HB3 := Lib.hid (HB1.out.trans (hb.mono HB1.out.size))
      have hlt := sq_lt HG.out
      have hL : (sqL G mg 64 6).length = 6 := sqL_length _ _ _ _
      have hE : (sqL G mg 64 6).flatMap (bytesOf (downs 4) 4) = bcN G := rfl
      have hT : bcT G = tx ((bytesL (bcN G)).take 23) := rfl
      have hlen : (bytesL (bcN G)).length = 24 := by rw [bytesL_length, bcN_length]
      have hcs : u8s (bcN G) = cs (bytesL (bcN G)) := (cs_bytesL _ (bcN_lt G)).symm
      generalize bcN G = bn at *
      generalize sqL G mg 64 6 = st at *
      have HTX := Lib.hid hT
      have HLT := Lib.hid hlt
      have HL := Lib.hid hL
      have HE := Lib.hid hE
      have HCS := Lib.hid hcs
      have HLEN := Lib.hid hlen
      clear hlt hL hE hT hcs hlen hown hb HQ HB1 HB HB2 HT HG
      go_wp2
      obtain ⟨N, hN⟩ : ∃ N, N = w3.heap.size := ⟨_, rfl⟩
      have hBN : Below N w3 w3 := Below.refl _ _
      have hNs : N ≤ w3.heap.size := by omega
      have hwN : w1.heap.size ≤ N := by have := HB3.out.size; omega
      have HR4 : Hid (Reads w3 N A3 (u32s st)) := Lib.hid (by rw [hN]; exact HR3.out)
      clear hN
      go_loopg [15, 16] 6 (fun g v8 v9 wq => ∃ (j n c : Nat) (A : Option Addr), j + g = 6 ∧ n = 4 * j ∧ v9 = .int .i64 (j : Int) ∧ v8 = .slice A n c ∧ wq.ownsRow N 5 1 (.slice A n c) n (u8s ((st.take j).flatMap (bytesOf (downs 4) 4))) ∧ Below N w3 wq)
      case atStart => exact ⟨0, 0, 0, none, rfl, rfl, rfl, rfl, World.ownsRow_nil _ _ _ _, hBN⟩
      case round =>
        obtain ⟨j, n, c, A, hj, hn, rfl, rfl, hown, hbq⟩ := hrel
        have Rq := HR4.out.below hbq
        have HOW := Lib.hid hown
        have HBq := Lib.hid hbq
        have hszq : N ≤ wr.heap.size := by have := hbq.size; omega
        by_cases h : j < 6
        · obtain ⟨g2, rfl⟩ : ∃ g2, gk = g2 + 1 := ⟨gk - 1, by omega⟩
          have hjl : j < st.length := by rw [HL.out]; exact h
          obtain ⟨bb, off, rfl, hbB, hcell⟩ := Rq j (by simpa [u32s] using hjl)
          rw [u32_at st j] at hcell
          have hx := HLT.out st[j] (List.getElem_mem hjl)
          have hsn := flat_snoc (bytesOf (downs 4) 4) st j hjl
          have HSN := Lib.hid hsn
          have HJ := Lib.hid (And.intro hj (And.intro hn h))
          have hj6 : (j : Int) < 6 := by omega
          have hnb : n ≤ 24 := by omega
          clear hsn hown Rq hbq hj hn h
          generalize st[j] = x at *
          clear hjl
          go_wp2_with fail
          refine (of32_own x wr hx).mono ?_
          rintro e w5 ⟨g3, c4, rfl, hown2, hb5⟩
          have CT := Lib.hid (turned_own 4 (by omega) x g3 c4 w5 hown2)
          have HB5 := Lib.hid hb5
          clear hown2 hb5
          go_wp2_with fail
          refine CT.out.mono ?_
          rintro e w6 ⟨g4, c5, rfl, hown3, hb6⟩
          have HA := Lib.hid (cells_own hown3)
          have HB6 := Lib.hid (HB5.out.trans (hb6.mono HB5.out.size))
          have HO6 := Lib.hid (own_kept (M := fun _ => False) HOW.out (Kept.of_below HB6.out) (fun _ _ h => h))
          have HB7 := Lib.hid (HBq.out.trans (HB6.out.mono hszq))
          have hsz6 : N ≤ w6.heap.size := by have := HB6.out.size; omega
          clear hown3 hb6
          go_wp2_with (at_builtin; refine wpList_append_own _ rfl (.tmp 55) (.tmp 61) 48 rfl N 5 i0 (.int .u8 0) 1 1 Try.underlying48 hi hz0 hz1 hz2 rfl (by decide) _ _ _ rfl HO6.out ⟨g4, 0, none⟩ 4 c5 (u8s (bytesOf (downs 4) 4 x)) rfl (by rw [u8s_length, bytesOf_length]) ?d1 ?d2 ?d3 ?d4 ?d5 ?_)
          case d1 => exact HA.out
          case d2 => exact u8s_one _
          case d3 => unfold maxLen; omega
          case d4 => omega
          case d5 => omega
          intro v' w7 hown7 hg7 _
          rw [← u8s_append, ← HSN.out] at hown7
          obtain ⟨A', c', rfl, y1, y2, y3⟩ := own_form hown7
          have HB8 := Lib.hid (HB7.out.grown hg7 hsz6 (fun k hk => (HO6.out.lt k hk).1))
          have HO7 := Lib.hid hown7
          clear hown7 hg7 y1 y2 y3
          go_wp2
          go_roundg g2
          case measure => omega
          case rel =>
            obtain ⟨j1, j2, j3⟩ := HJ.out
            exact ⟨j + 1, n + 4, c', A', by omega, by omega, by go_num, rfl, HO7.out, HB8.out⟩
        · obtain rfl : j = 6 := by omega
          obtain rfl : n = 24 := hn
          obtain ⟨g4, rfl⟩ : ∃ g4, A = some ⟨g4, 0, none⟩ := by
            rcases hown.2 with ⟨h0, h1⟩ | ⟨g4, _, _, hv, _⟩
            · cases h1
            · injection hv with e1; exact ⟨g4, e1⟩
          have hc : (23 : Int) ≤ (c : Int) := by
            rcases hown.2 with ⟨h0, _⟩ | ⟨_, _, _, hv, _, _, h1, _⟩
            · cases h0
            · injection hv with _ _ e; omega
          rw [List.take_of_length_le (by rw [HL.out]; exact Nat.le_refl 6), HE.out, HCS.out] at hown
          have cv := conv23 wr HLEN.out hown
          have HF := Lib.hid (HB3.out.trans (hbq.mono hwN))
          clear hown Rq hbq hj h HOW HBq
          go_wp2
          go_ret
          exact ⟨congrArg (fun t => Ending.returned (.string t)) HTX.out.symm, HF.out⟩
end Go.Proofs.Ytccpcjbffibkkaa

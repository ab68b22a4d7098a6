/- The document's answers for feeds, by their contracts; and the law file's comparison of blocks with texts. Conditions: those typed. -/
import Derived.Test.YtbfnhkmehjggeaaFdRound
import Derived.Maps.AppendAt
namespace Go.Proofs.Ytbfnhkmehjggeaa
open Go.RowKit

theorem jn_le_one (l : List ByteArray) (M : Nat) (h : ∀ s ∈ l, s.size ≤ M) : ∀ k, k ≤ l.length → (jn (l.take k)).length ≤ k * M
  | 0, _ => by simp [jn]
  | k + 1, hk => by
    rw [jn_snoc l k hk, List.length_append, tl_length, Nat.succ_mul]
    have := jn_le_one l M h k (by omega)
    have := h l[k] (List.getElem_mem hk)
    omega

theorem bytes_any (A : Option Addr) (c : Nat) (ps : List ByteArray) (w : World) (hr : Reads w w.heap.size A (stv ps)) (hn : ps.length ≤ 50) (hs : ∀ s ∈ ps, s.size ≤ 140737488351232) :
    Calls Try.prog 9 #[.slice A ps.length c] w fun e w' => e = .returned (.int .i64 ((jn ps).length : Int)) ∧ w = w' := by
  have HR := Lib.hid hr
  have HB := Lib.hid fun k hk => jn_le_one ps 140737488351232 hs k hk
  have HS := Lib.hid hs
  clear hr hs
  go_enter Try.func9, Try.ntmps9
  go_wp2
  go_loop [3, 4] (fun n i => ∃ k : Nat, k ≤ ps.length ∧ i = .int .i64 k ∧ n = .int .i64 ((jn (ps.take k)).length : Int)) (fun _ i => ps.length - (intOf i).toNat)
  case atStart => exact ⟨0, Nat.zero_le _, rfl, rfl⟩
  case round =>
    obtain ⟨k, hk, rfl, rfl⟩ := hrel
    by_cases hlt : k < ps.length
    · obtain ⟨b, off, rfl, hbB, hcell⟩ := HR.out k (by rw [stv_length]; exact hlt)
      rw [stv_at] at hcell
      have h1 := HB.out k hk
      have h2 := HS.out ps[k] (List.getElem_mem hlt)
      have h3 : (jn (ps.take k)).length ≤ 50 * 140737488351232 := Nat.le_trans h1 (Nat.mul_le_mul_right _ (by omega))
      have Hsn : Hid ((jn (ps.take (k + 1))).length = (jn (ps.take k)).length + ps[k].size) := Lib.hid (by rw [jn_snoc ps k hlt, List.length_append, tl_length])
      clear h1
      generalize (jn (ps.take k)).length = J at *
      generalize ps[k] = s at *
      go_wp2
      go_round
      case rel => exact ⟨k + 1, by omega, by go_num, by rw [Hsn.out]; go_num⟩
      case measure => simp [intOf]; omega
    · obtain rfl : k = ps.length := by omega
      rw [List.take_length]
      go_wp2
      go_ret
      exact ⟨rfl, rfl⟩

theorem tx_append (a b : List UInt8) : tx (a ++ b) = tx a ++ tx b := by
  apply tl_inj
  rw [tl_tx]
  unfold tl tx
  rw [ByteArray.data_append]
  simp
theorem joined_any (A : Option Addr) (c : Nat) (ps : List ByteArray) (w : World) (hr : Reads w w.heap.size A (stv ps)) (hn : ps.length ≤ 50) (hs : (jn ps).length ≤ 1000000) :
    Calls Try.prog 15 #[.slice A ps.length c] w fun e w' => e = .returned (.string (tx (jn ps))) ∧ w = w' := by
  have HR := Lib.hid hr
  clear hr
  go_enter Try.func15, Try.ntmps15
  go_wp2
  go_loop [3, 4] (fun n i => ∃ k : Nat, k ≤ ps.length ∧ i = .int .i64 k ∧ n = .string (tx (jn (ps.take k)))) (fun _ i => ps.length - (intOf i).toNat)
  case atStart => exact ⟨0, Nat.zero_le _, rfl, rfl⟩
  case round =>
    obtain ⟨k, hk, rfl, rfl⟩ := hrel
    by_cases hlt : k < ps.length
    · obtain ⟨b, off, rfl, hbB, hcell⟩ := HR.out k (by rw [stv_length]; exact hlt)
      rw [stv_at] at hcell
      have hle := jn_take_le ps (k + 1)
      have hsn := jn_snoc ps k hlt
      rw [hsn, List.length_append, tl_length] at hle
      have Hsn := Lib.hid hsn
      have hsz : (tx (jn (ps.take k))).size + ps[k].size ≤ 1000000 := by rw [tx_size]; omega
      have hts := tx_size (jn (ps.take k))
      have Hts := Lib.hid hts
      clear hsn hts hle
      generalize hT : tx (jn (ps.take k)) = T at *
      have HT := Lib.hid hT
      clear hT
      generalize ps[k] = s at *
      go_wp2
      go_round
      case rel => exact ⟨k + 1, by omega, by go_num, by rw [Hsn.out, tx_append, HT.out, tx_tl]⟩
      case measure => simp [intOf]; omega
    · obtain rfl : k = ps.length := by omega
      rw [List.take_length]
      go_wp2
      go_ret
      exact ⟨rfl, rfl⟩

theorem fd_info_str : (Try.prog.info? 9).map (fun i => (i.zero, i.size, i.bytes)) = some (some (.string ⟨#[]⟩), 1, 16) := by kernel_rfl
def txs (l : List (List UInt8)) : List Value := l.map fun b => Value.string (tx b)
theorem txs_length (l : List (List UInt8)) : (txs l).length = l.length := by simp [txs]
theorem txs_at (l : List (List UInt8)) (k : Nat) (h : k < (txs l).length) : (txs l)[k] = .string (tx (l[k]'(by simpa [txs] using h))) := by simp [txs]
/-- what the document's Blocks has found so far -/
def Found (n : Nat) (lz : Bool) (X : List UInt8) (a : ByteArray) (bs : List (List UInt8)) : Prop := X = bs.flatten ++ tl a ∧ (∀ b ∈ bs, b.length = n) ∧ (lz = true → bs ≠ [] → tl a ≠ [])
/-- is there another block -/
def another (n : Nat) (lz : Bool) (m : Nat) : Bool := decide (n < m) || (!lz && decide (m = n))
theorem Found.on {n m : Nat} {lz : Bool} {X : List UInt8} {a : ByteArray} {bs : List (List UInt8)} (h : Found n lz X a bs) (hm : a.size = m) (hn : n ≤ m) (hw : lz = true → n < m) : Found n lz X (a.extract n a.size) (bs ++ [tl (a.extract 0 n)]) := by
  obtain ⟨h1, h2, h3⟩ := h
  refine ⟨?_, ?_, ?_⟩
  · rw [tl_back, tl_front, h1]; simp
  · intro b hb
    rcases List.mem_append.1 hb with hb | hb
    · exact h2 b hb
    · simp at hb; subst hb; rw [tl_front, List.length_take, tl_length]; omega
  · intro l _ e
    have := hw l
    have e2 := congrArg List.length e
    rw [tl_length, back_size] at e2
    simp at e2
    omega
theorem Found.cut {n m : Nat} {lz : Bool} {X : List UInt8} {a : ByteArray} {bs : List (List UInt8)} (h : Found n lz X a bs) (hm : a.size = m) (hn : ¬ n < m) (hw : m = n → lz = true) : Cut n lz X bs (tl a) :=
  ⟨h.1, h.2.1, ⟨by rw [tl_length]; omega, fun e => hw (by rw [tl_length] at e; omega)⟩, h.2.2⟩

set_option maxHeartbeats 1600000 in
theorem blocks_any (s : ByteArray) (n : Nat) (lz : Bool) (w : World) (hn : 1 ≤ n) (hn2 : n ≤ 65536) (hs : s.size ≤ 1000000) :
    Calls Try.prog 11 #[.string s, .int .i64 (n : Int), .bool lz] w fun e w' => ∃ v bs r, e = .returned (.tuple #[v, .string (tx r)]) ∧ Cut n lz (tl s) bs r ∧ w'.ownsRow w.heap.size 9 1 v bs.length (txs bs) ∧ Below w.heap.size w w' := by
  obtain ⟨i0, hi, hz0, hz1, hz2⟩ := info_parts fd_info_str
  go_enter Try.func11, Try.ntmps11
  go_wp2
  go_loopg [0, 8] s.size (fun g a v wr => ∃ (x : ByteArray) (bs : List (List UInt8)), a = .string x ∧ x.size = g ∧ Found n lz (tl s) x bs ∧ wr.ownsRow w.heap.size 9 1 v bs.length (txs bs) ∧ Below w.heap.size w wr)
  case atStart => exact ⟨s, [], rfl, rfl, ⟨by simp, by simp, fun _ h => absurd rfl h⟩, World.ownsRow_nil _ _ _ _, Below.refl _ _⟩
  case round =>
    obtain ⟨x, bs, rfl, hg, hf, ho, hb⟩ := hrel
    have hbs : bs.length ≤ 1000000 := by
      have q1 := congrArg List.length hf.1
      rw [List.length_append, flat_len hf.2.1, tl_length] at q1
      have q3 := Nat.le_mul_of_pos_right bs.length (show 0 < n by omega)
      omega
    have HF := Lib.hid hf
    have HO := Lib.hid ho
    have HG := Lib.hid hg
    have hsz := hb.size
    have hxs : x.size ≤ 1000000 := by
      have q1 := congrArg List.length hf.1
      rw [List.length_append, tl_length, tl_length] at q1
      omega
    clear hf ho hg
    by_cases h1 : n < x.size
    · have hfr := front_size x n (by omega)
      have hbk := back_size x n
      have HH := Lib.hid (And.intro hfr hbk)
      clear hfr hbk
      go_wp2_with (at_builtin; refine wpList_append_own_at _ rfl (.tmp 23) (.tmp 27) 22 rfl w.heap.size 9 i0 (.string ⟨#[]⟩) 1 16 Try.underlying22 hi hz0 hz1 hz2 rfl (by decide) _ bs.length (txs bs) rfl (HO.out.alloc _) ⟨wr.heap.size, 0, none⟩ 1 1 [.string (x.extract 0 n)] rfl rfl ?c1 ?c2 ?c3 ?c4 ?c5 ?_)
      case c1 => exact cell_one_new _ _ _
      case c2 => intro u hu; simp at hu; subst hu; rfl
      case c3 => unfold maxLen; omega
      case c4 => omega
      case c5 => simp; omega
      intro v' w2 ho2 hg2 hq2 hat2
      have hb2 : Below w.heap.size w w2 := (hb.alloc hsz _).grown hg2 (by simp; omega) (fun k hk => (HO.out.lt k hk).1)
      have HO2 := Lib.hid ho2
      clear hq2 hat2 ho2 hg2 hb
      go_wp2
      go_roundg (x.size - n)
      case measure => have := HG.out; omega
      case rel =>
        refine ⟨_, bs ++ [tl (x.extract 0 n)], rfl, HH.out.2, HF.out.on rfl (by omega) (fun _ => h1), ?_, hb2⟩
        rw [List.length_append]
        simpa [txs, tx_tl] using HO2.out
    · by_cases h2 : x.size = n
      · cases lz with
        | false =>
          have hfr := front_size x n (by omega)
          have hbk := back_size x n
          have HH := Lib.hid (And.intro hfr hbk)
          have e2 : ((x.size : Int) == (n : Int)) = true := by rw [beq_iff_eq]; omega
          have H2 := Lib.hid h2
          have h1a : n ≤ x.size := by omega
          clear hfr hbk h2
          go_wp2_with (at_builtin; refine wpList_append_own_at _ rfl (.tmp 23) (.tmp 27) 22 rfl w.heap.size 9 i0 (.string ⟨#[]⟩) 1 16 Try.underlying22 hi hz0 hz1 hz2 rfl (by decide) _ bs.length (txs bs) rfl (HO.out.alloc _) ⟨wr.heap.size, 0, none⟩ 1 1 [.string (x.extract 0 n)] rfl rfl ?d1 ?d2 ?d3 ?d4 ?d5 ?_)
          case d1 => exact cell_one_new _ _ _
          case d2 => intro u hu; simp at hu; subst hu; rfl
          case d3 => unfold maxLen; omega
          case d4 => omega
          case d5 => simp; omega
          intro v' w2 ho2 hg2 hq2 hat2
          have hb2 : Below w.heap.size w w2 := (hb.alloc hsz _).grown hg2 (by simp; omega) (fun k hk => (HO.out.lt k hk).1)
          have HO2 := Lib.hid ho2
          clear hq2 hat2 ho2 hg2 hb
          go_wp2
          go_roundg (x.size - n)
          case measure => have := HG.out; omega
          case rel =>
            refine ⟨_, bs ++ [tl (x.extract 0 n)], rfl, HH.out.2, HF.out.on rfl h1a (fun h => by cases h), ?_, hb2⟩
            rw [List.length_append]
            simpa [txs, tx_tl] using HO2.out
        | true =>
          have e2 : ((x.size : Int) == (n : Int)) = true := by rw [beq_iff_eq]; omega
          have H2 := Lib.hid h2
          clear h2
          go_wp2
          go_ret2
          exact ⟨_, bs, tl x, congrArg (fun z => Ending.returned (.tuple #[_, .string z])) (tx_tl x).symm, HF.out.cut rfl h1 (fun _ => rfl), HO.out, hb⟩
      · have e2 : ((x.size : Int) == (n : Int)) = false := by rw [beq_eq_false_iff_ne]; omega
        go_wp2
        all_goals
          go_ret2
          exact ⟨_, bs, tl x, congrArg (fun z => Ending.returned (.tuple #[_, .string z])) (tx_tl x).symm, HF.out.cut rfl h1 (fun e => absurd e h2), HO.out, hb⟩

theorem sls_length (n : Nat) (gs : List Nat) : (sls n gs).length = gs.length := by simp [sls]
theorem sls_at (n : Nat) (gs : List Nat) (k : Nat) (h : k < (sls n gs).length) : (sls n gs)[k] = .slice (some ⟨gs[k]'(by simpa [sls] using h), 0, none⟩) n n := by simp [sls]
theorem conv_row {w : World} {g n c : Nat} {b : List UInt8} (h : Row w g b) (hn : b.length = n) : (convert 35 9 (.slice (some ⟨g, 0, none⟩) n c)).run Try.prog w = .ok (.string (tx b)) w := by
  subst hn
  have e : tx b = strOfNums (b.map fun b => (b.toNat : Int)) := by
    unfold tx strOfNums
    congr 1
    congr 1
    rw [List.map_map]
    conv => lhs; rw [← List.map_id b]
    exact List.map_congr_left fun b _ => by simp
  rw [e]
  refine run_convert_bytes_arg w 35 5 Try.underlying35 Try.underlying5 g 0 _ c _ (by simp) (fun i hi => ?_) 9 Try.underlying9
  obtain ⟨b', off', hb', _, hc⟩ := h.reads i (by rw [cs_length]; omega)
  injection hb' with hb'
  injection hb' with e1 e2
  subst e1; subst e2
  rw [hc, cs_at]
  simp [List.getD, List.getElem?_eq_getElem hi]

set_option maxHeartbeats 1600000 in
theorem same_any (A : Option Addr) (c : Nat) (A2 : Option Addr) (c2 n : Nat) (gs : List Nat) (bs : List (List UInt8)) (w : World) (h1 : Reads w w.heap.size A (sls n gs)) (h2 : Reads w w.heap.size A2 (txs bs)) (ho : Outs w gs bs) (hb : ∀ b ∈ bs, b.length = n) (hlen : bs.length ≤ 1100000) :
    Calls Try.prog 12 #[.slice A bs.length c, .slice A2 bs.length c2] w fun e w' => e = .returned (.bool true) ∧ Below w.heap.size w w' := by
  have HR := Lib.hid h1
  have HT := Lib.hid h2
  have HO := Lib.hid ho
  have HB := Lib.hid hb
  clear h1 h2 ho hb
  go_enter Try.func12, Try.ntmps12
  go_wp2
  go_loopw [13] (fun i wr => ∃ k : Nat, k ≤ bs.length ∧ i = .int .i64 k ∧ Below w.heap.size w wr) (fun i _ => bs.length - (intOf i).toNat)
  case atStart => exact ⟨0, Nat.zero_le _, rfl, Below.refl _ _⟩
  case round =>
    obtain ⟨k, hk, rfl, hb⟩ := hrel
    by_cases hlt : k < bs.length
    · have hgl : k < gs.length := by rw [HO.out.1]; exact hlt
      obtain ⟨b, off, rfl, hbB, hcell⟩ := HR.out k (by rw [sls_length]; exact hgl)
      obtain ⟨b2, off2, rfl, hbB2, hcell2⟩ := HT.out k (by rw [txs_length]; exact hlt)
      rw [sls_at] at hcell
      rw [txs_at] at hcell2
      have hrow := HO.out.2 k hgl hlt
      have hcv := conv_row (c := n) ((hrow.of_eq (hb.block _ hrow.lt)) : Row wr.drew _ _) (HB.out _ (List.getElem_mem hlt))
      have x1 := (hb.cell (p := ⟨b, off + k, none⟩) hbB).trans hcell
      have x2 := (hb.cell (p := ⟨b2, off2 + k, none⟩) hbB2).trans hcell2
      clear hcell hcell2 hrow
      generalize gs[k] = g at *
      generalize bs[k] = t at *
      have hbd := hb.drew
      clear hb
      go_wp2
      go_region
      go_wp2
      go_roundw
      case rel => exact ⟨k + 1, by omega, by go_num, hbd⟩
      case measure => simp [intOf]; omega
    · obtain rfl : k = bs.length := by omega
      go_wp2
      go_ret
      exact ⟨rfl, hb⟩
end Go.Proofs.Ytbfnhkmehjggeaa

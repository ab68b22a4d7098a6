/- The law FeedBlocks, for every int, bool and list of texts. Condition: each text is no longer than what may come in. -/
import Derived.Test.YtbfnhkmehjggeaaFdAwake
namespace Go.Proofs.Ytbfnhkmehjggeaa
open Go.RowKit

theorem fblocks_bad (x : Int) (lz : Bool) (A : Option Addr) (m c : Nat) (hx : x < 1 ∨ 1 ≤ x ∧ 65536 < x) (w : World) : Calls Try.prog 3 #[.int .i64 x, .bool lz, .slice A m c] w fun e w' => e = .returned (.bool true) ∧ Below w.heap.size w w' := by
  rcases hx with hx | ⟨hx, hx2⟩
  all_goals
    go_enter Try.func3, Try.ntmps3
    go_wp2_with fail
    refine (awake_any w).mono ?_
    rintro e w1 ⟨rfl, b1⟩
    go_wp2_with fail
    refine (new_bad x lz (by omega) w1).mono ?_
    rintro e w2 ⟨rfl, rfl⟩
    go_wp2
    go_ret
    exact ⟨rfl, b1⟩

/-- between two parts of the law's loop -/
def BlocksAt (w wr : World) (F n : Nat) (lz : Bool) (J : List UInt8) (g : Nat) : Prop := ∃ v h bs, FeedRow wr F n lz v J.length ∧ wr.ownsRow w.heap.size 5 1 v h.length (cs h) ∧ (∀ k, v.ownBlock = some k → k ≠ F) ∧ Cut n lz J bs h ∧ g = bs.length ∧ Below w.heap.size w wr

theorem tail_reads {w : World} {B c k : Nat} {A : Option Addr} {xs ys : List Value} {e : TypeId} (h : w.ownsRow B e 1 (.slice A (xs.length + ys.length) c) (xs.length + ys.length) (xs ++ ys)) (hk : k = xs.length) :
    (c = k → Reads w w.heap.size A ys) ∧ (¬ c = k → Reads w w.heap.size (A.map (fun a => a.add k)) ys) := by
  have hR := Reads.of_own h
  rcases h.2 with ⟨e, e2⟩ | ⟨g, cap, cur, e, hb, hg, h1, _⟩
  · exact ⟨fun _ j hj => by omega, fun _ j hj => by omega⟩
  · injection e with e1 e2 e3
    subst e1; subst e3
    refine ⟨fun _ j hj => by omega, fun _ j hj => ?_⟩
    obtain ⟨b, off, e4, hlt, hc⟩ := hR (k + j) (by rw [List.length_append]; omega)
    injection e4 with e4
    injection e4 with e4 e5
    subst e4; subst e5
    refine ⟨g, k, by simp [Addr.add]; omega, hlt, ?_⟩
    rw [Nat.zero_add] at hc
    rw [hc]
    simp [hk, List.getElem_append_right]

set_option maxHeartbeats 3200000 in
theorem fblocks_good (n : Nat) (lz : Bool) (A : Option Addr) (c : Nat) (ps : List ByteArray) (w : World) (hn : 1 ≤ n) (hn2 : n ≤ 65536) (hr : Reads w w.heap.size A (stv ps)) (hps : ps.length ≤ 50) (hj : (jn ps).length ≤ 3000) (hsz : ∀ s ∈ ps, s.size ≤ 140737488351232) :
    Calls Try.prog 3 #[.int .i64 (n : Int), .bool lz, .slice A ps.length c] w fun e w' => e = .returned (.bool true) ∧ Below w.heap.size w w' := by
  have HR := Lib.hid hr
  have HS := Lib.hid hsz
  clear hr hsz
  go_enter Try.func3, Try.ntmps3
  go_wp2_with fail
  refine (awake_any w).mono ?_
  rintro e w1 ⟨rfl, b1⟩
  go_wp2_with fail
  refine (new_good n lz hn hn2 w1).mono ?_
  rintro e w2 ⟨rfl, r2, b2⟩
  go_wp2_with fail
  refine (size_any w2 r2).mono ?_
  rintro e w3 ⟨rfl, rfl⟩
  have hb2 := below_step b1 b2
  have hl := r2.lt
  have hsz1 := b1.size
  have HI : Hid (BlocksAt w w2 w1.heap.size n lz [] 0) := Lib.hid ⟨.slice none 0 0, [], [], r2, World.ownsRow_nil _ _ _ _, by simp [Value.ownBlock], ⟨by simp, by simp, ⟨by simp, fun e => by simp at e; omega⟩, by simp⟩, rfl, hb2⟩
  clear r2
  go_wp2_with fail
  refine (bytes_any A c ps w2 ((HR.out.below hb2).more hb2.size) hps HS.out).mono ?_
  rintro e w4 ⟨rfl, rfl⟩
  go_wp2_with fail
  go_loopw [9, 10, 64] (fun a g i wr => ∃ k q : Nat, k ≤ ps.length ∧ i = .int .i64 k ∧ a = .string (tx (jn (ps.take k))) ∧ g = .int .i64 q ∧ BlocksAt w wr w1.heap.size n lz (jn (ps.take k)) q) (fun _ _ i _ => ps.length - (intOf i).toNat)
  case atStart => exact ⟨0, 0, Nat.zero_le _, rfl, rfl, rfl, HI.out⟩
  case round =>
    obtain ⟨k, q, hk, rfl, rfl, rfl, hat⟩ := hrel
    clear HI b1 b2 hb2 hl
    obtain ⟨v, h, bs, hrow, hown, hvF, hcut, rfl, hb⟩ := hat
    by_cases hlt : k < ps.length
    · obtain ⟨b, off, rfl, hbB, hcell⟩ := (HR.out.below hb) k (by rw [stv_length]; exact hlt)
      rw [stv_at] at hcell
      have hle := jn_take_le ps (k + 1)
      have hsn := jn_snoc ps k hlt
      rw [hsn, List.length_append, tl_length] at hle
      have Hsn := Lib.hid hsn
      have HT := tx_append (jn (ps.take k)) (tl ps[k])
      rw [tx_tl] at HT
      have hts : (tx (jn (ps.take k) ++ tl ps[k])).size = (jn (ps.take k)).length + ps[k].size := by rw [tx_size, List.length_append, tl_length]
      have hts2 := tx_size (jn (ps.take k))
      clear hsn
      generalize ps[k] = s at *
      generalize jn (ps.take k) = J at *
      generalize hT1 : tx J = T1 at *
      generalize hT2 : tx (J ++ tl s) = T2 at *
      have HC := Lib.hid (And.intro hT1 (And.intro hT2 (And.intro hts hts2)))
      have hcat : T1 ++ s = T2 := HT.symm
      have hsum : T1.size + s.size ≤ 3000 := by omega
      clear hT1 hT2 hts hts2 HT
      have hwB := hb.size
      have P := put_any w1.heap.size n J.length lz v (B := w.heap.size) h (some ⟨wr.heap.size, 0, none⟩) 1 [s] (wr.alloc (.cells #[.string s] 9)) (hrow.alloc _) (own_kept hown ((Kept.refl (fun _ => False) _).alloc _) (fun _ _ => id)) (by simp; omega) hvF hn hn2 hcut.held
        (one_part wr _ (fun hm => by
          rcases hm with hm | hm
          · have := hrow.lt; omega
          · have := (hown.lt _ hm).2; omega) s) (by rw [jn_one, tl_length]; omega) (by simp)
      rw [jn_one] at P
      have P1 := Lib.hid P
      have HK := Lib.hid hcut
      have HV := Lib.hid hown
      clear P hcut hrow
      go_wp2_with fail
      refine (P1.out).mono ?_
      rintro e w4 ⟨vb, rfl, hp⟩
      obtain ⟨bs4, h4, hc4⟩ := hp.some
      obtain ⟨v4, gs4, A4, c4, rfl, q4⟩ := hp.known hc4
      clear hp P1
      have hall := HK.out.more_parts hc4
      have hb4 : Below w.heap.size w w4 := (hb.alloc (by omega) _).trans (q4.kept.below (by simp; omega) (fun x hx => by
        rcases hx with hx | hx
        · omega
        · exact (HV.out.lt _ hx).1))
      have H4 := Lib.hid (And.intro hc4 hall)
      have Q4 := Lib.hid q4
      clear hc4 hall q4 hb
      go_wp2_with fail
      refine (blocks_any T2 n lz w4 hn hn2 (by have := HC.out.2.2.1; omega)).mono ?_
      rintro e w5 ⟨v5, bs5, r5, rfl, hc5, ho5, hb5⟩
      rw [← HC.out.2.1, tl_tx] at hc5
      obtain ⟨rfl, rfl⟩ := cut_one H4.out.2 hc5
      have Q5 := Lib.hid (Q4.out.step hb5)
      have b5 := hb4.trans (hb5.mono hb4.size)
      obtain ⟨A5, c5, rfl, e1, e2, e3⟩ := own_form ho5
      have hall : (bs ++ bs4).length ≤ 1100000 := by
        have q1 := congrArg List.length H4.out.2.whole
        rw [List.length_append, List.length_append, flat_len H4.out.2.each, tl_length] at q1
        have q3 := Nat.le_mul_of_pos_right (bs ++ bs4).length (show 0 < n by omega)
        have := HC.out.2.2
        omega
      rw [List.length_append] at ho5 hall
      have htr := tail_reads (xs := txs bs) (ys := txs bs4) (k := bs.length) (by rw [txs_length, txs_length]; simpa [txs] using ho5) (by rw [txs_length])
      have HTR := Lib.hid htr
      have HTS := Lib.hid (tx_size h4)
      clear htr hc5 hb5 hb4 e1 e2 e3 ho5
      go_wp2_with fail
      all_goals
        refine (same_any A4 c4 _ _ n gs4 bs4 w5 Q5.out.reads (by first | exact HTR.out.1 (by assumption) | exact HTR.out.2 (by assumption)) Q5.out.outs H4.out.1.each (by omega)).mono ?_
        rintro e w6 ⟨rfl, b6⟩
        have Q6 := Q5.out.step b6
        have P6 := Lib.hid Q6
        go_wp2_with fail
        refine (rest_any w6 Q6.row _ h4 Q6.held ?_).mono ?_
        · have := H4.out.1.held.1; omega
        rintro e w7 ⟨v7, rfl, ho7, b7⟩
        have hcv := conv_text w7 ho7
        have Q7 := P6.out.step b7
        have P7 := Lib.hid Q7
        have hrow8 : FeedRow w7 w1.heap.size n lz v4 T2.size := by
          have := Q7.row
          rw [← HC.out.2.1, tx_size, List.length_append]
          exact this
        have b8 := (b5.trans (b6.mono b5.size)).trans (b7.mono (b5.trans (b6.mono b5.size)).size)
        have HR8 := Lib.hid hrow8
        clear Q6 ho7 Q7 hrow8
        go_wp2_with fail
        refine (total_any w7 HR8.out).mono ?_
        rintro e w8 ⟨rfl, rfl⟩
        go_wp2
        go_roundw
        case rel =>
          refine ⟨k + 1, bs.length + bs4.length, by omega, by go_num, by rw [Hsn.out, HC.out.2.1], by simp, v4, h4, bs ++ bs4, ?_, P7.out.held, P7.out.vF, ?_, by rw [List.length_append], b8⟩
          · rw [Hsn.out]
            have := HR8.out
            rwa [← HC.out.2.1, tx_size] at this
          · rw [Hsn.out]; exact H4.out.2
        case measure => simp [intOf]; omega
    · obtain rfl : k = ps.length := by omega
      go_wp2
      go_ret
      exact ⟨rfl, hb⟩

theorem fblocks_long (n : Nat) (lz : Bool) (A : Option Addr) (c : Nat) (ps : List ByteArray) (w : World) (hn : 1 ≤ n) (hn2 : n ≤ 65536) (hr : Reads w w.heap.size A (stv ps)) (hps : ps.length ≤ 50) (hj : 3000 < (jn ps).length) (hsz : ∀ s ∈ ps, s.size ≤ 140737488351232) :
    Calls Try.prog 3 #[.int .i64 (n : Int), .bool lz, .slice A ps.length c] w fun e w' => e = .returned (.bool true) ∧ Below w.heap.size w w' := by
  have HR := Lib.hid hr
  have HS := Lib.hid hsz
  clear hr hsz
  go_enter Try.func3, Try.ntmps3
  go_wp2_with fail
  refine (awake_any w).mono ?_
  rintro e w1 ⟨rfl, b1⟩
  go_wp2_with fail
  refine (new_good n lz hn hn2 w1).mono ?_
  rintro e w2 ⟨rfl, r2, b2⟩
  go_wp2_with fail
  refine (size_any w2 r2).mono ?_
  rintro e w3 ⟨rfl, rfl⟩
  have hb2 := below_step b1 b2
  go_wp2_with fail
  refine (bytes_any A c ps w2 ((HR.out.below hb2).more hb2.size) hps HS.out).mono ?_
  rintro e w4 ⟨rfl, rfl⟩
  go_wp2_with fail
  refine (size_any w2 r2).mono ?_
  rintro e w3 ⟨rfl, rfl⟩
  go_wp2
  go_ret
  exact ⟨rfl, hb2⟩
theorem fblocks_many (n : Nat) (lz : Bool) (A : Option Addr) (m c : Nat) (w : World) (hn : 1 ≤ n) (hn2 : n ≤ 65536) (hm : 50 < m) (hm2 : m ≤ maxLen) :
    Calls Try.prog 3 #[.int .i64 (n : Int), .bool lz, .slice A m c] w fun e w' => e = .returned (.bool true) ∧ Below w.heap.size w w' := by
  unfold maxLen at hm2
  go_enter Try.func3, Try.ntmps3
  go_wp2_with fail
  refine (awake_any w).mono ?_
  rintro e w1 ⟨rfl, b1⟩
  go_wp2_with fail
  refine (new_good n lz hn hn2 w1).mono ?_
  rintro e w2 ⟨rfl, r2, b2⟩
  go_wp2_with fail
  refine (size_any w2 r2).mono ?_
  rintro e w3 ⟨rfl, rfl⟩
  have hb2 := below_step b1 b2
  go_wp2_with fail
  refine (size_any w2 r2).mono ?_
  rintro e w3 ⟨rfl, rfl⟩
  go_wp2
  go_ret
  exact ⟨rfl, hb2⟩
theorem fblocks_any (x : Int) (lz : Bool) (A : Option Addr) (c : Nat) (ps : List ByteArray) (w : World) (hr : Reads w w.heap.size A (stv ps)) (hps : ps.length ≤ maxLen) (hsz : ∀ s ∈ ps, s.size ≤ 140737488351232) :
    Calls Try.prog 3 #[.int .i64 x, .bool lz, .slice A ps.length c] w fun e w' => e = .returned (.bool true) ∧ Below w.heap.size w w' := by
  by_cases h1 : x < 1 ∨ 1 ≤ x ∧ 65536 < x
  · exact fblocks_bad x lz A _ c h1 w
  · obtain ⟨n, rfl⟩ : ∃ n : Nat, x = (n : Int) := ⟨x.toNat, by omega⟩
    by_cases h2 : 50 < ps.length
    · exact fblocks_many n lz A _ c w (by omega) (by omega) h2 hps
    · by_cases h3 : 3000 < (jn ps).length
      · exact fblocks_long n lz A c ps w (by omega) (by omega) hr (by omega) h3 hsz
      · exact fblocks_good n lz A c ps w (by omega) (by omega) hr (by omega) (by omega) hsz
end Go.Proofs.Ytbfnhkmehjggeaa

/- The law FeedCopies, for every int, bool, list of texts and text. Condition: each text is no longer than what may come in. -/
import Derived.Test.YtbfnhkmehjggeaaFdAwake
namespace Go.Proofs.Ytbfnhkmehjggeaa
open Go.RowKit

/-- of a nil feed there is nothing -/
theorem none_part (w : World) (s : ByteArray) : Calls Try.prog 10 #[.pointer none, .slice (some ⟨w.heap.size, 0, none⟩) 1 1] (w.alloc (.cells #[.string s] 9)) fun e w' => e = .returned (.slice none 0 0) ∧ w.alloc (.cells #[.string s] 9) = w' := put_nil _ 1 1 _

/-- a row of bytes that may have been turned, all else being as it was -/
def Bumped (w0 w : World) (B : Nat) (v : Value) (n : Nat) : Prop := ∃ zs : List Int, zs.length = n ∧ w.ownsRow B 5 1 v n (zs.map (Value.int .u8)) ∧ Kept (fun k => v.ownBlock = some k) w0 w
theorem Bumped.cell {w0 w : World} {B n g c : Nat} (h : Bumped w0 w B (.slice (some ⟨g, 0, none⟩) n c) n) {j : Nat} (hj : j < n) : ∃ z : Int, w.cell? ⟨g, j, none⟩ = some (.int .u8 z) ∧ w.frozen? ⟨g, j, none⟩ = false := by
  obtain ⟨zs, h1, h2, h3⟩ := h
  refine ⟨zs[j]'(by omega), ?_, h2.frozenAt j⟩
  rw [h2.cellAt j (by omega), List.getElem?_eq_getElem (by simp; omega)]
  simp
theorem Bumped.set {w0 w : World} {B n g c : Nat} (h : Bumped w0 w B (.slice (some ⟨g, 0, none⟩) n c) n) (j : Nat) (z : Int) : Bumped w0 (w.setCell ⟨g, j, none⟩ (.int .u8 z)) B (.slice (some ⟨g, 0, none⟩) n c) n := by
  obtain ⟨zs, h1, h2, h3⟩ := h
  refine ⟨zs.set j z, by simp [h1], ?_, h3.set (p := ⟨g, j, none⟩) (.inl rfl) _⟩
  rw [List.map_set]
  exact (h2.stored j (.int .u8 z)).1

theorem fcopies_bad (x : Int) (lz : Bool) (A : Option Addr) (m c : Nat) (s : ByteArray) (hx : x < 1 ∨ 1 ≤ x ∧ 65536 < x) (w : World) : Calls Try.prog 5 #[.int .i64 x, .bool lz, .slice A m c, .string s] w fun e w' => e = .returned (.bool true) ∧ Below w.heap.size w w' := by
  go_enter Try.func5, Try.ntmps5
  go_wp2_with fail
  refine (awake_any w).mono ?_
  rintro e w1 ⟨rfl, b1⟩
  go_wp2_with fail
  refine (size_nil w1).mono ?_
  rintro e w2 ⟨rfl, rfl⟩
  go_wp2_with fail
  refine (total_nil w1).mono ?_
  rintro e w2 ⟨rfl, rfl⟩
  go_wp2_with fail
  refine (rest_nil w1).mono ?_
  rintro e w2 ⟨rfl, rfl⟩
  go_wp2_with fail
  refine (none_part w1 s).mono ?_
  rintro e w2 ⟨rfl, rfl⟩
  go_wp2_with fail
  refine (copy_nil _).mono ?_
  rintro e w2 ⟨rfl, rfl⟩
  have b2 : Below w.heap.size w (w1.alloc (.cells #[.string s] 9)) := b1.alloc b1.size _
  go_wp2_with fail
  refine (new_bad x lz hx _).mono ?_
  rintro e w3 ⟨rfl, rfl⟩
  go_wp2
  go_ret
  exact ⟨rfl, b2⟩

set_option maxHeartbeats 3200000 in
theorem fcopies_good (n : Nat) (lz : Bool) (A : Option Addr) (c : Nat) (ps : List ByteArray) (s : ByteArray) (w : World) (hn : 1 ≤ n) (hn2 : n ≤ 65536) (hr : Reads w w.heap.size A (stv ps)) (hps : ps.length ≤ 50) (hj : (jn ps).length ≤ 3000) (hsz : ∀ s ∈ ps, s.size ≤ 140737488351232) (hs : s.size ≤ 1000) :
    Calls Try.prog 5 #[.int .i64 (n : Int), .bool lz, .slice A ps.length c, .string s] w fun e w' => e = .returned (.bool true) ∧ Below w.heap.size w w' := by
  have HR := Lib.hid hr
  have HS := Lib.hid hsz
  clear hr hsz
  go_enter Try.func5, Try.ntmps5
  go_wp2_with fail
  refine (awake_any w).mono ?_
  rintro e w1 ⟨rfl, b1⟩
  go_wp2_with fail
  refine (size_nil w1).mono ?_
  rintro e w2 ⟨rfl, rfl⟩
  go_wp2_with fail
  refine (total_nil w1).mono ?_
  rintro e w2 ⟨rfl, rfl⟩
  go_wp2_with fail
  refine (rest_nil w1).mono ?_
  rintro e w2 ⟨rfl, rfl⟩
  go_wp2_with fail
  refine (none_part w1 s).mono ?_
  rintro e w2 ⟨rfl, rfl⟩
  go_wp2_with fail
  refine (copy_nil _).mono ?_
  rintro e w2 ⟨rfl, rfl⟩
  have b2 : Below w.heap.size w (w1.alloc (.cells #[.string s] 9)) := b1.alloc b1.size _
  generalize hw2 : w1.alloc (.cells #[.string s] 9) = w2 at *
  clear hw2 b1
  go_wp2_with fail
  refine (new_good n lz hn hn2 w2).mono ?_
  rintro e w3 ⟨rfl, r3, b3⟩
  have bb3 := below_step b2 b3
  have l2 := b2.size
  have l3 := r3.lt
  have hnil : Held n lz [] := ⟨by simp, fun e => by simp at e; omega⟩
  have P := put_any w2.heap.size n 0 lz (.slice none 0 0) (B := w.heap.size) [] A c ps w3 r3 (World.ownsRow_nil _ _ _ _) bb3.size (by simp [Value.ownBlock]) hn hn2 hnil
    (fun k hk => by
      obtain ⟨b, off, e, hb, hc⟩ := HR.out k hk
      exact ⟨b, off, e, by have := bb3.size; omega, fun hm => by have := mine_nil hm; omega, (bb3.cell (p := ⟨b, off + k, none⟩) hb).trans hc⟩) (by omega) (by omega)
  rw [List.nil_append, Nat.zero_add] at P
  have P1 := Lib.hid P
  have HB3 := Lib.hid bb3
  have hbt := Lib.hid (bytes_any A c ps w3 ((HR.out.below bb3).more bb3.size) hps HS.out)
  clear P r3 b2 b3 bb3 hnil
  go_wp2_with fail
  refine (hbt.out).mono ?_
  rintro e w3' ⟨rfl, rfl⟩
  go_wp2_with fail
  refine (P1.out).mono ?_
  rintro e w4 ⟨vb, rfl, hp⟩
  obtain ⟨v4, h, gs, bs, q, hc⟩ := hp
  have hh := hc.held.1
  have hb4 : Below w.heap.size w w4 := HB3.out.trans (q.kept.below HB3.out.size fun x hx => by have := mine_nil hx; omega)
  have l4 := q.kept.size
  have HQ := Lib.hid (And.intro q.row (And.intro q.held (And.intro q.vF hc.held)))
  clear P1 HB3 hbt q hc
  go_wp2_with fail
  refine (rest_any w4 HQ.out.1 _ h HQ.out.2.1 (by omega)).mono ?_
  rintro e w5 ⟨v5, rfl, ho5, hb5⟩
  have hcv5 := conv_text w5 ho5
  have H5 := Lib.hid (And.intro (HQ.out.1.below hb5) (own_kept HQ.out.2.1 (Kept.of_below (M := fun _ => False) hb5) (fun _ _ => id)))
  have l5 := hb5.size
  have b5 := hb4.trans (hb5.mono hb4.size)
  clear ho5 hb5 hb4
  go_wp2_with fail
  refine (copy_any w5 H5.out.1 _ h H5.out.2 (by omega)).mono ?_
  rintro e w6 ⟨v6, rfl, r6, ho6, hb6⟩
  have H6 := Lib.hid (And.intro (H5.out.1.below hb6) (own_kept H5.out.2 (Kept.of_below (M := fun _ => False) hb6) (fun _ _ => id)))
  have l6 := r6.lt
  have hv6 : ∀ k, v6.ownBlock = some k → w5.heap.size + 1 ≤ k ∧ k < w6.heap.size := fun k hk => ho6.lt k hk
  have hv4 : ∀ k, v4.ownBlock = some k → k < w5.heap.size := fun k hk => (H5.out.2.lt k hk).2
  have b6 := b5.trans (hb6.mono b5.size)
  have P := put_any w5.heap.size n (jn ps).length lz v6 (B := w.heap.size) h (some ⟨w6.heap.size, 0, none⟩) 1 [s] (w6.alloc (.cells #[.string s] 9)) (r6.alloc _) (own_kept (own_base ho6 (fun k hk => by have := hv6 k hk; have := b5.size; omega)) ((Kept.refl (fun _ => False) _).alloc _) (fun _ _ => id)) (by have := b6.size; simp; omega) (fun k hk => by have := hv6 k hk; omega) hn hn2 HQ.out.2.2.2
    (one_part w6 _ (fun hm => by
      rcases hm with hm | hm
      · omega
      · have := hv6 _ hm; omega) s) (by rw [jn_one, tl_length]; omega) (by simp)
  rw [jn_one, tl_length] at P
  have P1 := Lib.hid P
  clear P hcv5 r6 ho6 hb6 b5 H5
  go_wp2_with fail
  refine (P1.out).mono ?_
  rintro e w7 ⟨vb7, rfl, hp7⟩
  obtain ⟨v7, h7, gs7, bs7, q7, _⟩ := hp7
  have hk7 : Kept (Mine w5.heap.size v6) w6 w7 := ((Kept.refl _ w6).alloc _).trans q7.kept (fun _ _ h => h)
  have hMine : ∀ k, Mine w5.heap.size v6 k → w5.heap.size ≤ k := fun k hm => by
    rcases hm with hm | hm
    · omega
    · have := hv6 _ hm; omega
  have rF : FeedRow w7 w2.heap.size n lz v4 (jn ps).length := H6.out.1.keep hk7 (fun hm => by have := hMine _ hm; omega)
  have oF := own_kept H6.out.2 hk7 (fun k hk hm => by have := hMine _ hm; have := hv4 k hk; omega)
  have rG := q7.row
  have b7 : Below w.heap.size w w7 := b6.trans (hk7.below b6.size (fun x hx => by have := hMine x hx; omega))
  have l7 := rG.lt
  have H7 := Lib.hid (And.intro rF (And.intro oF rG))
  clear P1 q7 hk7 hMine rF oF rG b6 H6 l6 hv6
  go_wp2_with fail
  refine (rest_any w7 H7.out.1 _ h H7.out.2.1 (by omega)).mono ?_
  rintro e w8 ⟨v8, rfl, ho8, hb8⟩
  have H8 := Lib.hid (And.intro (H7.out.1.below hb8) (And.intro (own_kept H7.out.2.1 (Kept.of_below (M := fun _ => False) hb8) (fun _ _ => id)) (H7.out.2.2.below hb8)))
  have l8 := hb8.size
  have b8 := b7.trans (hb8.mono b7.size)
  have l7w := b7.size
  obtain ⟨A8, c8, rfl, e1, e2, e3⟩ := own_form ho8
  have HO8 := Lib.hid ho8
  clear ho8 hb8 b7 e1 e2 e3
  go_wp2_with fail
  have HBU : Hid (Bumped (w8.alloc (.cells #[.slice A8 h.length c8] 35)) (w8.alloc (.cells #[.slice A8 h.length c8] 35)) w7.heap.size (.slice A8 h.length c8) h.length) := Lib.hid
    ⟨h.map fun b => (b.toNat : Int), by simp, by simpa [cs, Function.comp_def] using HO8.out.alloc _, Kept.refl _ _⟩
  go_loopw [79] (fun i wr => ∃ k : Nat, k ≤ 1 ∧ i = .int .i64 k ∧ Bumped (w8.alloc (.cells #[.slice A8 h.length c8] 35)) wr w7.heap.size (.slice A8 h.length c8) h.length) (fun i _ => 1 - (intOf i).toNat)
  case atStart => exact ⟨0, by omega, rfl, HBU.out⟩
  case round =>
    clear HBU
    obtain ⟨k, hk, rfl, hbu⟩ := hrel
    have hlist : wr.cell? ⟨w8.heap.size, 0, none⟩ = some (.slice A8 h.length c8) := by
      obtain ⟨zs, z1, z2, z3⟩ := hbu
      rw [World.cell?_of_block (w := w8.alloc (.cells #[.slice A8 h.length c8] 35)) (z3.block w8.heap.size (by simp) (fun hm => by have := (HO8.out.lt _ hm).2; omega))]
      rw [cell_of_row _ w8.heap.size 0 _ _ _ (heap_alloc_new w8 _)]
      rfl
    by_cases hlt : k < 1
    · obtain rfl : k = 0 := by omega
      go_wp2
      obtain ⟨wo, rfl⟩ : ∃ wo : World, wo = wr := ⟨_, rfl⟩
      go_loopw [85] (fun i wr => ∃ j : Nat, j ≤ h.length ∧ i = .int .i64 j ∧ Bumped (w8.alloc (.cells #[.slice A8 h.length c8] 35)) wr w7.heap.size (.slice A8 h.length c8) h.length) (fun i _ => h.length - (intOf i).toNat)
      case atStart => exact ⟨0, by omega, rfl, hbu⟩
      case round =>
        clear hlist hbu
        obtain ⟨j, hj, rfl, hbu⟩ := hrel
        by_cases hjl : j < h.length
        · obtain ⟨g8, rfl⟩ : ∃ g, A8 = some ⟨g, 0, none⟩ := (own_cap HO8.out (by omega)).2.2
          obtain ⟨z, x1, x2⟩ := hbu.cell hjl
          go_wp2
          go_roundw
          case rel => exact ⟨j + 1, by omega, by go_num, hbu.set j _⟩
          case measure => simp [intOf]; omega
        · obtain rfl : j = h.length := by omega
          go_wp2
          go_roundw
          case rel => exact ⟨1, by omega, rfl, hbu⟩
          case measure => simp [intOf]
    · obtain rfl : k = 1 := by omega
      obtain ⟨zs, z1, z2, z3⟩ := hbu
      have hM : ∀ k, (Value.slice A8 h.length c8).ownBlock = some k → w7.heap.size ≤ k := fun k hk => (HO8.out.lt k hk).1
      have rF : FeedRow wr w2.heap.size n lz v4 (jn ps).length := (H8.out.1.alloc _).keep z3 (fun hm => by have := hM _ hm; have := H7.out.1.lt; omega)
      have oF := own_kept (H8.out.2.1.alloc _) z3 (fun k hk hm => by have := hM _ hm; have := hv4 k hk; omega)
      have rG := (H8.out.2.2.alloc (.cells #[.slice A8 h.length c8] 35)).keep z3 (fun hm => by have := hM _ hm; omega)
      have bE : Below w.heap.size w wr := (b8.alloc b8.size _).trans (z3.below (by have := b8.size; simp; omega) (fun x hx => by have := hM x hx; omega))
      have HE := Lib.hid (And.intro rF (And.intro oF rG))
      clear hlist z1 z2 z3 rF oF rG hM
      go_wp2_with fail
      refine (rest_any wr HE.out.1 _ h HE.out.2.1 (by omega)).mono ?_
      rintro e w9 ⟨v9, rfl, ho9, hb9⟩
      have hcv9 := conv_text w9 ho9
      have H9 := Lib.hid (And.intro (HE.out.1.below hb9) (HE.out.2.2.below hb9))
      have b9 := bE.trans (hb9.mono bE.size)
      clear ho9 hb9 bE
      go_wp2_with fail
      refine (total_any w9 H9.out.1).mono ?_
      rintro e w10 ⟨rfl, rfl⟩
      go_wp2_with fail
      refine (bytes_any A c ps w9 ((HR.out.below b9).more b9.size) hps HS.out).mono ?_
      rintro e w10 ⟨rfl, rfl⟩
      go_wp2_with fail
      refine (total_any w9 H9.out.2).mono ?_
      rintro e w10 ⟨rfl, rfl⟩
      go_wp2_with fail
      refine (total_any w9 H9.out.1).mono ?_
      rintro e w10 ⟨rfl, rfl⟩
      go_wp2_with fail
      refine (size_any w9 H9.out.2).mono ?_
      rintro e w10 ⟨rfl, rfl⟩
      go_wp2
      go_ret
      exact ⟨rfl, b9⟩
theorem fcopies_many (n : Nat) (lz : Bool) (A : Option Addr) (m c : Nat) (s : ByteArray) (w : World) (hn : 1 ≤ n) (hn2 : n ≤ 65536) (hm : 50 < m) (hm2 : m ≤ maxLen) :
    Calls Try.prog 5 #[.int .i64 (n : Int), .bool lz, .slice A m c, .string s] w fun e w' => e = .returned (.bool true) ∧ Below w.heap.size w w' := by
  unfold maxLen at hm2
  go_enter Try.func5, Try.ntmps5
  go_wp2_with fail
  refine (awake_any w).mono ?_
  rintro e w1 ⟨rfl, b1⟩
  go_wp2_with fail
  refine (size_nil w1).mono ?_
  rintro e w2 ⟨rfl, rfl⟩
  go_wp2_with fail
  refine (total_nil w1).mono ?_
  rintro e w2 ⟨rfl, rfl⟩
  go_wp2_with fail
  refine (rest_nil w1).mono ?_
  rintro e w2 ⟨rfl, rfl⟩
  go_wp2_with fail
  refine (none_part w1 s).mono ?_
  rintro e w2 ⟨rfl, rfl⟩
  go_wp2_with fail
  refine (copy_nil _).mono ?_
  rintro e w2 ⟨rfl, rfl⟩
  have b2 : Below w.heap.size w (w1.alloc (.cells #[.string s] 9)) := b1.alloc b1.size _
  generalize hw2 : w1.alloc (.cells #[.string s] 9) = w2 at *
  clear hw2 b1
  go_wp2_with fail
  refine (new_good n lz hn hn2 w2).mono ?_
  rintro e w3 ⟨rfl, r3, b3⟩
  have bb3 := below_step b2 b3
  go_wp2
  go_ret
  exact ⟨rfl, bb3⟩
theorem fcopies_long (n : Nat) (lz : Bool) (A : Option Addr) (c : Nat) (ps : List ByteArray) (s : ByteArray) (w : World) (hn : 1 ≤ n) (hn2 : n ≤ 65536) (hr : Reads w w.heap.size A (stv ps)) (hps : ps.length ≤ 50) (hj : 3000 < (jn ps).length ∨ (jn ps).length ≤ 3000 ∧ 1000 < s.size) (hsz : ∀ s ∈ ps, s.size ≤ 140737488351232) (hs : s.size ≤ 140737488351232) :
    Calls Try.prog 5 #[.int .i64 (n : Int), .bool lz, .slice A ps.length c, .string s] w fun e w' => e = .returned (.bool true) ∧ Below w.heap.size w w' := by
  have HR := Lib.hid hr
  have HS := Lib.hid hsz
  clear hr hsz
  go_enter Try.func5, Try.ntmps5
  go_wp2_with fail
  refine (awake_any w).mono ?_
  rintro e w1 ⟨rfl, b1⟩
  go_wp2_with fail
  refine (size_nil w1).mono ?_
  rintro e w2 ⟨rfl, rfl⟩
  go_wp2_with fail
  refine (total_nil w1).mono ?_
  rintro e w2 ⟨rfl, rfl⟩
  go_wp2_with fail
  refine (rest_nil w1).mono ?_
  rintro e w2 ⟨rfl, rfl⟩
  go_wp2_with fail
  refine (none_part w1 s).mono ?_
  rintro e w2 ⟨rfl, rfl⟩
  go_wp2_with fail
  refine (copy_nil _).mono ?_
  rintro e w2 ⟨rfl, rfl⟩
  have b2 : Below w.heap.size w (w1.alloc (.cells #[.string s] 9)) := b1.alloc b1.size _
  generalize hw2 : w1.alloc (.cells #[.string s] 9) = w2 at *
  clear hw2 b1
  go_wp2_with fail
  refine (new_good n lz hn hn2 w2).mono ?_
  rintro e w3 ⟨rfl, r3, b3⟩
  have bb3 := below_step b2 b3
  have hbt := Lib.hid (bytes_any A c ps w3 ((HR.out.below bb3).more bb3.size) hps HS.out)
  go_wp2_with fail
  refine (hbt.out).mono ?_
  rintro e w3' ⟨rfl, rfl⟩
  rcases hj with hj | ⟨hj, hj2⟩
  all_goals
    go_wp2
    go_ret
    exact ⟨rfl, bb3⟩
theorem fcopies_any (x : Int) (lz : Bool) (A : Option Addr) (c : Nat) (ps : List ByteArray) (s : ByteArray) (w : World) (hr : Reads w w.heap.size A (stv ps)) (hps : ps.length ≤ maxLen) (hsz : ∀ s ∈ ps, s.size ≤ 140737488351232) (hs : s.size ≤ 140737488351232) :
    Calls Try.prog 5 #[.int .i64 x, .bool lz, .slice A ps.length c, .string s] w fun e w' => e = .returned (.bool true) ∧ Below w.heap.size w w' := by
  by_cases h1 : x < 1 ∨ 1 ≤ x ∧ 65536 < x
  · exact fcopies_bad x lz A _ c s h1 w
  · obtain ⟨n, rfl⟩ : ∃ n : Nat, x = (n : Int) := ⟨x.toNat, by omega⟩
    by_cases h2 : 50 < ps.length
    · exact fcopies_many n lz A _ c s w (by omega) (by omega) h2 hps
    · by_cases h3 : (jn ps).length ≤ 3000 ∧ s.size ≤ 1000
      · exact fcopies_good n lz A c ps s w (by omega) (by omega) hr (by omega) h3.1 hsz h3.2
      · exact fcopies_long n lz A c ps s w (by omega) (by omega) hr (by omega) (by omega) hsz hs
end Go.Proofs.Ytbfnhkmehjggeaa

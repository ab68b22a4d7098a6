/- Check, Key and Sum of package bcrypt by their contracts. Conditions: those typed. -/
import Derived.Test.YtccpcjbffibkkaaBcPure
import Derived.Test.YtccpcjbffibkkaaEk
import Derived.Test.YtccpcjbffibkkaaEks
import Derived.Lib.ConvBytes
import Derived.Lib.SlBytesConst
namespace Go.Proofs.Ytccpcjbffibkkaa
set_option maxRecDepth 50000
open Go.RowKit Ci Pi16

theorem bcheck_any (c : Int) (salt word : ByteArray) (w : World) : Calls Try.prog 6 #[.int .i64 c, .string salt, .string word] w fun e w' => e = .returned (.int .i64 (bcE c salt word)) ∧ w' = w := by
  rcases bc_ways c salt word with ⟨h, hE⟩ | h
  · have C := Lib.hid (rounds_bad c h w)
    rw [hE]
    clear h hE
    go_enter Try.func6, Try.ntmps6
    go_wp2_with fail
    refine C.out.mono ?_
    rintro e w1 ⟨rfl, rfl⟩
    go_wp2
    go_ret
    exact ⟨rfl, rfl⟩
  · obtain ⟨n, E, hc, hn4, hn31, hE, hw⟩ : ∃ (n : Nat) (E : Int), c = (n : Int) ∧ 4 ≤ n ∧ n ≤ 31 ∧ bcE c salt word = E ∧ ((salt.size : Int) ≠ 16 ∧ E = 9 ∨ (salt.size : Int) = 16 ∧ (72 : Int) < (word.size : Int) ∧ E = 3 ∨ (salt.size : Int) = 16 ∧ (word.size : Int) ≤ 72 ∧ E = 0) := by
      rcases h with ⟨h1, h2, h3⟩ | ⟨h1, h2, h3, h4⟩ | ⟨n, h1, h2, h3, h4, h5, h6⟩
      · exact ⟨c.toNat, 9, by omega, by omega, by omega, h3, .inl ⟨by omega, rfl⟩⟩
      · exact ⟨c.toNat, 3, by omega, by omega, by omega, h4, .inr (.inl ⟨by omega, by omega, rfl⟩)⟩
      · exact ⟨n, 0, h1, h2, h3, h6, .inr (.inr ⟨by omega, by omega, rfl⟩)⟩
    rw [hE, hc]
    have C := Lib.hid (rounds_any n hn4 hn31 w)
    clear hE hc
    generalize ((2 ^ n : Nat) : Int) = P at *
    rcases hw with ⟨h1, rfl⟩ | ⟨h1, h2, rfl⟩ | ⟨h1, h2, rfl⟩
    all_goals
      go_enter Try.func6, Try.ntmps6
      go_wp2_with fail
      refine C.out.mono ?_
      rintro e w1 ⟨rfl, rfl⟩
      go_wp2
      go_ret
      exact ⟨rfl, rfl⟩

theorem cut72_run {s : ByteArray} (h : 72 ≤ s.size) (w : World) : (Instr.sliceAt 9 (.string s) none (some (.int .i64 72)) none).run Try.prog w = .ok (.string (s.extract 0 72)) w := by
  simp [Instr.sliceAt, Instr.slice, Instr.sliceBounds, Instr.sliceBound, asIntOf, run_underlying Try.underlying9, show ¬ ((s.size : Int) < 72) by omega]
theorem bkey_any (s : ByteArray) (w : World) : Calls Try.prog 7 #[.string s] w fun e w' => e = .returned (.string (bky s)) ∧ w' = w := by
  by_cases h : 72 ≤ s.size
  · rw [bky_long h]
    have S := cut72_run h
    have hI : (72 : Int) ≤ (s.size : Int) := by omega
    go_enter Try.func7, Try.ntmps7
    go_wp2
    go_ret
    exact ⟨rfl, rfl⟩
  · rw [bky_short (by omega)]
    have hI : (s.size : Int) < 72 := by omega
    go_enter Try.func7, Try.ntmps7
    go_wp2
    go_ret
    exact ⟨rfl, rfl⟩

/-- words in a row of their own are read as a list -/
theorem NRow.reads {w : World} {d n : Nat} {f : Nat → Nat} (h : NRow w d n f) (xs : List Nat) (hl : xs.length = n) (hx : ∀ i, i < n → xs[i]? = some (f i)) : Reads w w.heap.size (some ⟨d, 0, none⟩) (u32s xs) := fun k hk => by
  have hk2 : k < xs.length := by simpa [u32s] using hk
  have hc := h.cell k (by omega)
  have hv := hx k (by omega)
  rw [List.getElem?_eq_getElem hk2] at hv
  injection hv with hv
  refine ⟨d, 0, rfl, h.lt, ?_⟩
  rw [Nat.zero_add, hc]
  simp [u32s, hv]
/-- the first 23 bytes of a row of 24 of one's own, as a text -/
theorem conv23 (w : World) {B g c : Nat} {l : List UInt8} (hl : l.length = 24) (h : w.ownsRow B 5 1 (.slice (some ⟨g, 0, none⟩) 24 c) 24 (cs l)) :
    (convert 48 9 (.slice (some ⟨g, 0, none⟩) 23 c)).run Try.prog w = .ok (.string (tx (l.take 23))) w := by
  have hR := Reads.of_own h
  have e : tx (l.take 23) = strOfNums ((l.take 23).map fun b => (b.toNat : Int)) := by
    unfold tx strOfNums
    congr 1
    congr 1
    rw [List.map_map]
    conv => lhs; rw [← List.map_id (l.take 23)]
    exact List.map_congr_left fun b _ => by simp
  rw [e]
  refine run_convert_bytes_arg w 48 5 Try.underlying48 Try.underlying5 g 0 23 c _ (by simp [hl]) (fun i hi => ?_) 9 Try.underlying9
  obtain ⟨b', off', hb', _, hc⟩ := hR i (by rw [cs_length]; omega)
  injection hb' with hb'
  injection hb' with e1 e2
  subst e1; subst e2
  rw [hc, cs_at]
  simp [List.getD, show i < 23 by omega, List.getElem?_eq_getElem (show i < l.length by omega)]

/-- a row just made, with its mark behind it -/
theorem reads_mark (w : World) (C : Array Value) (t : TypeId) (fr : Nat × Nat) (l : List Value) (h : C.toList = l) : Reads (w.alloc (.cells C t fr)) (w.alloc (.cells C t fr)).heap.size (some ⟨w.heap.size, 0, none⟩) l := fun k hk => by
  subst h
  refine ⟨w.heap.size, 0, rfl, by simp, ?_⟩
  rw [Nat.zero_add, World.cell?_alloc_mark]
  have hk2 : k < C.size := by simpa using hk
  simp [hk2]
theorem take_magic (w : World) (C : Array Value) (fr : Nat × Nat) (h : C.toList = u8s mgB) : Calls Try.prog 17 #[.slice (some ⟨w.heap.size, 0, none⟩) 24 24] (w.alloc (.cells C 5 fr)) fun e w' => ∃ A c, e = .returned (.tuple #[.slice A 6 c, .int .i64 0]) ∧ Reads w' w'.heap.size A (u32s mgL) ∧ Below w.heap.size w w' := by
  refine (takebig32_any (some ⟨w.heap.size, 0, none⟩) 24 mgB 6 rfl (w.alloc (.cells C 5 fr)) (reads_mark w C _ fr _ h) (by decide) mgB_lt).mono ?_
  rintro e w' ⟨v, rfl, hown, hb⟩
  rw [mg_words] at hown
  obtain ⟨A, c, rfl, _, _, _⟩ := own_form hown
  exact ⟨A, c, rfl, Reads.of_own hown, ((Below.refl w.heap.size w).alloc (Nat.le_refl _) _).trans (hb.mono (by simp))⟩
theorem big_sum (G : Nat → Nat) (hG : Ok G) (w : World) (d : Nat) (h : NRow w d 6 (sq G mg 64)) : Calls Try.prog 19 #[.slice (some ⟨d, 0, none⟩) 6 6] w fun e w' => ∃ g c, e = .returned (.slice (some ⟨g, 0, none⟩) 24 c) ∧ w'.ownsRow w.heap.size 5 1 (.slice (some ⟨g, 0, none⟩) 24 c) 24 (cs (bytesL (bcN G))) ∧ (23 : Int) ≤ (c : Int) ∧ Below w.heap.size w w' := by
  have hR := h.reads (sqL G mg 64 6) (sqL_length _ _ _ _) fun i hi => sqL_at _ _ _ _ i hi
  refine (big32_any (some ⟨d, 0, none⟩) 6 (sqL G mg 64 6) w hR (by rw [sqL_length]; decide) (sq_lt hG)).mono ?_
  rintro e w' ⟨v, rfl, hown, hb⟩
  rw [sqL_length] at hown
  obtain ⟨A, c, rfl, _, hA, _⟩ := own_form hown
  obtain ⟨g, rfl, _⟩ := hA (by decide)
  have hc : 24 ≤ c := by
    rcases hown.2 with ⟨h0, _⟩ | ⟨_, _, _, hv, _, _, h1, _⟩
    · cases h0
    · injection hv with _ _ e; omega
  exact ⟨g, c, rfl, by rw [cs_bytesL _ (bcN_lt G)]; exact hown, by omega, hb⟩

theorem bsum_bad (c : Int) (salt word : ByteArray) (h : bcE c salt word ≠ 0) (w : World) : Calls Try.prog 9 #[.int .i64 c, .string salt, .string word] w fun e w' => e = .returned (.tuple #[.string ⟨#[]⟩, .int .i64 (bcE c salt word)]) ∧ w' = w := by
  have C := Lib.hid (bcheck_any c salt word w)
  generalize bcE c salt word = E at *
  go_enter Try.func9, Try.ntmps9
  go_wp2_with fail
  refine C.out.mono ?_
  rintro e w1 ⟨rfl, rfl⟩
  go_wp2
  go_ret2
  exact ⟨rfl, rfl⟩
set_option maxHeartbeats 1600000 in
theorem bsum_any (c : Nat) (salt word : ByteArray) (h4 : 4 ≤ c) (h31 : c ≤ 31) (hs : salt.size = 16) (hw : word.size ≤ 72) (w : World) : Calls Try.prog 9 #[.int .i64 (c : Int), .string salt, .string word] w fun e w' => e = .returned (.tuple #[.string (bcS c salt word), .int .i64 0]) ∧ Below w.heap.size w w' := by
  have C := bcheck_any (c : Int) salt word w
  rw [show bcE (c : Int) salt word = 0 from by unfold bcE; rw [if_neg (by omega), if_neg (by omega), if_neg (by omega)]] at C
  have HC := Lib.hid C
  have HK := Lib.hid (bkey_any word w)
  have hG := bcG_ok c salt word
  have HS : Hid (∀ w0, Calls Try.prog 16 #[.int .i64 (c : Int), .string salt, .string (bky word)] w0 fun e w' => ∃ b, e = .returned (.tuple #[.pointer (some ⟨b, 0, none⟩), .int .i64 0]) ∧ Tab w' b 91 (bcG c salt word) ∧ w0.heap.size ≤ b ∧ Below w0.heap.size w0 w') :=
    Lib.hid fun w0 => setup_any c h4 h31 salt (bky word) hs (bky_size word).1 (bky_size word).2 w0
  have hT : bcS c salt word = bcT (bcG c salt word) := rfl
  rw [hT]
  generalize bcG c salt word = G at *
  generalize bky word = ky at *
  have HG := Lib.hid hG
  clear C hG hT h4 h31 hs hw
  have kc := fun (w : World) (C : Array Value) (n c : Nat) => Lib.run_convert_bytes_const (P := Try.prog) w 48 5 C n c Try.underlying48 Try.underlying5
  go_enter Try.func9, Try.ntmps9
  go_wp2_with fail
  refine HC.out.mono ?_
  rintro e w1 ⟨rfl, rfl⟩
  go_wp2_with fail
  refine HK.out.mono ?_
  rintro e w2 ⟨rfl, rfl⟩
  go_wp2_with fail
  refine (HS.out _).mono ?_
  rintro e w3 ⟨b, rfl, hT, hb, hB⟩
  have HT := Lib.hid hT
  have HB := Lib.hid hB
  clear hT hb hB
  go_wp2_with fail
  refine (take_magic w3 _ _ rfl).mono ?_
  rintro e w4 ⟨A, cc, rfl, hR, hb⟩
  have HT4 := Lib.hid (RowAt.below HT.out hb (RowAt.lt HT.out))
  have HB4 := Lib.hid (HB.out.trans (hb.mono HB.out.size))
  clear HT HB
  have HS := Lib.hid (seal_any w4 b G HT4.out HG.out 64 (by decide) A 6 cc 3 rfl (by decide) mgL rfl mg_lt hR mg mg_at)
  clear hR hb
  go_wp2_with fail
  refine HS.out.mono ?_
  rintro e w5 ⟨d, rfl, hN, hb⟩
  have HB5 := Lib.hid (HB4.out.trans (hb.mono HB4.out.size))
  have HN := Lib.hid (big_sum G HG.out w5 d hN)
  clear hN hb HB4 HT4
  go_wp2_with fail
  refine HN.out.mono ?_
  rintro e w6 ⟨g, c6, rfl, hown, hc6, hb⟩
  have HB6 := Lib.hid (HB5.out.trans (hb.mono HB5.out.size))
  have cv := conv23 w6 (by rw [bytesL_length, bcN_length]) hown
  clear hown hb
  go_wp2
  go_ret2
  exact ⟨rfl, HB6.out⟩
end Go.Proofs.Ytccpcjbffibkkaa

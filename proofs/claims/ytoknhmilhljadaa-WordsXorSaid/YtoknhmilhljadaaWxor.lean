/- The statement WordsXor: for every list of texts: texts of one length are put together bit by bit; twice the same is gone. No condition. -/
import Derived.Test.YtoknhmilhljadaaXlaw
namespace Go.Proofs.Ytoknhmilhljadaa
open Go.ChangeShapes Go.WideShapes Go.ChangeAt Go.RowKit

theorem make_zeros (n : Nat) (hn : n ≤ 1000) (W : World) : (Instr.makeSlice 25 (.int .i64 (n : Int)) (.int .i64 (n : Int))).run Try.prog W = .ok (.slice (some ⟨W.heap.size, 0, none⟩) n n) (W.alloc (.cells (madeCells #[.int .u8 0] n) 5)) := by
  obtain ⟨i0, hi, hz0, hz1, hz2⟩ := info_parts Try.info5
  have h := run_make (P := Try.prog) W 25 5 i0 (.int .u8 0) Try.underlying25 hi hz0 .i64 .i64 (n : Int) (n : Int) (by omega) (by omega) (by rw [hz2]; omega) (by omega)
  rw [hz1] at h
  simp only [Int.toNat_natCast, Nat.mul_one] at h
  exact h
theorem own_cap {w : World} {base : Nat} {e : TypeId} {n c : Nat} {A : Option Addr} {xs : List Value} (h : w.ownsRow base e 1 (.slice A n c) n xs) : n ≤ c := by
  rcases h.2 with ⟨h1, h2⟩ | ⟨g, cap, cur, h1, _, _, h2, _⟩
  · omega
  · injection h1; omega

set_option maxHeartbeats 4000000 in
set_option maxRecDepth 100000 in
theorem wxor_any (A : Option Addr) (c : Nat) (ss : List ByteArray) (w : World) (hr : Reads w w.heap.size A (sv ss)) (hc : ss.length ≤ c) (m1 : ss.length ≤ maxLen) (m2 : ∀ s ∈ ss, s.size ≤ maxLen) :
    Calls Try.prog 6 #[.slice A ss.length c] w fun e w' => e = .returned (.bool true) ∧ Below w.heap.size w w' := by
  obtain ⟨i0, hi, hz0, hz1, hz2⟩ := info_parts Try.info9
  unfold maxLen at m1 m2
  have n1 : ss.length ≤ 9223372036854775807 := m1
  have n2 : ∀ s ∈ ss, s.size ≤ 9223372036854775807 := m2
  have N2 := Lib.hid n2
  have Hr := Lib.hid hr
  clear m1 m2 n2 hr
  by_cases ha : 20 < ss.length
  · go_enter Try.func6, Try.ntmps6
    go_wp2_with (go_at_call 8; refine (awake_any _).mono ?_; rintro e w1 ⟨rfl, hb⟩)
    go_ret
    exact ⟨rfl, hb⟩
  have l1 : ss.length ≤ 20 := by omega
  clear ha
  go_enter Try.func6, Try.ntmps6
  go_wp2_with (go_at_call 8; refine (awake_any _).mono ?_; rintro e w1 ⟨rfl, hb1⟩)
  go_loopw [18] (fun i wr => ∃ k : Nat, k ≤ ss.length ∧ i = .int .i64 k ∧ wr = w1 ∧ ∀ s ∈ ss.take k, s.size ≤ 200) (fun i _ => ss.length - (intOf i).toNat)
  case atStart => exact ⟨0, Nat.zero_le _, rfl, rfl, by simp⟩
  case round =>
    obtain ⟨k, hk, rfl, rfl, hall⟩ := hrel
    have Hall := Lib.hid hall
    clear hall
    by_cases hlt : k < ss.length
    · obtain ⟨b, off, rfl, _, h0⟩ := (Hr.out.step hb1) k (by rw [sv_length]; exact hlt)
      rw [sv_at] at h0
      have hs63 := N2.out ss[k] (List.getElem_mem hlt)
      have hmem : ss.take (k + 1) = ss.take k ++ [ss[k]] := List.take_succ_eq_append_getElem hlt
      have Hmem := Lib.hid hmem
      clear hmem
      generalize ss[k] = s at *
      by_cases hs : 200 < s.size
      · go_wp2_with fail
        go_ret
        exact ⟨rfl, hb1⟩
      · have hnew : ∀ u ∈ ss.take (k + 1), u.size ≤ 200 := by
          rw [Hmem.out]
          intro u hu
          rcases List.mem_append.1 hu with h | h
          · exact Hall.out u h
          · rw [List.mem_singleton.1 h]; omega
        have Hnew := Lib.hid hnew
        clear hnew
        go_wp2_with fail
        go_roundw
        case rel => exact ⟨k + 1, by omega, by go_num, trivial, Hnew.out⟩
        case measure => simp [intOf]; omega
    · obtain rfl : k = ss.length := by omega
      have hall : ∀ s ∈ ss, s.size ≤ 1000 := fun s hs => by
        have := Hall.out s (by rw [List.take_length]; exact hs)
        omega
      have HA := Lib.hid hall
      clear hall Hall
      have C1 := Lib.hid fun W hW => xorw_any A c ss W ((Hr.out.step hb1).step hW) hc (by omega) HA.out
      have C2 := Lib.hid fun W hW => xorr_any A c ss W ((Hr.out.step hb1).step hW) hc (by omega) HA.out
      rcases xorOf_cases ss with ⟨he, hX⟩ | he
      · by_cases hnil : ss = []
        · subst hnil
          have C1' : Hid (∀ W, Below wr.heap.size wr W → Calls Try.prog 26 #[.slice A 0 c] W fun e w' => e = .returned (.tuple #[.string ⟨#[]⟩, .int .i64 0]) ∧ Below W.heap.size W w') := C1
          have C2' : Hid (∀ W, Below wr.heap.size wr W → Calls Try.prog 27 #[.slice A 0 c] W fun e w' => e = .returned (.tuple #[.string ⟨#[]⟩, .bool true]) ∧ Below W.heap.size W w') := C2
          simp only [List.length_nil] at *
          clear he hX C1 C2
          go_wp2_with fail
          refine (C1'.out _ (Below.refl _ _)).mono ?_
          rintro e w2 ⟨rfl, hb2⟩
          go_wp2_with fail
          refine (C2'.out _ hb2).mono ?_
          rintro e w3 ⟨rfl, hb3⟩
          go_wp2_with fail
          go_ret
          exact ⟨rfl, step_trans (step_trans hb1 hb2) hb3⟩
        · obtain ⟨hX1, s0, hs0, hsz⟩ := hX hnil
          have hpos : 0 < ss.length := List.length_pos_iff.2 hnil
          obtain ⟨b, off, rfl, _, _⟩ := Hr.out 0 (by rw [sv_length]; exact hpos)
          have hts : (strOf (xorOf ss).1).size ≤ 1000 := by rw [hsz]; exact HA.out s0 hs0
          rw [he] at C1 C2
          generalize strOf (xorOf ss).1 = txt at *
          have HX := Lib.hid hX1
          have hd : (((ss.length : Int)) == 0) = false := by rw [beq_eq_false_iff_ne]; omega
          have hmk := make_zeros txt.size hts
          have hcz := fun W => conv_zeros W txt.size
          have ht63 : txt.size ≤ 9223372036854775807 := by omega
          clear hX1 hs0 hsz he hX
          go_wp2_with fail
          refine (C1.out _ (Below.refl _ _)).mono ?_
          rintro e w2 ⟨rfl, hb2⟩
          go_wp2_with fail
          refine (C2.out _ hb2).mono ?_
          rintro e w3 ⟨rfl, hb3⟩
          have hb13 := step_trans hb2 hb3
          have hR := (Hr.out.step hb1).step hb13
          have HR := Lib.hid hR
          have Hb3 := step_trans hb1 hb13
          clear hb2 hb3 hR
          have hcell1 : ∀ j u, (sv ss)[j]? = some u → (w3.alloc (.cells #[] 9)).cell? ((⟨b, off, none⟩ : Addr).add j) = some u := by
            intro j u hu
            obtain ⟨hj, rfl⟩ := List.getElem?_eq_some_iff.1 hu
            obtain ⟨b', off', e, hb', hk⟩ := HR.out j hj
            injection e with e
            injection e with e1 e2
            subst e1; subst e2
            rw [add_plain, World.cell?_alloc_past _ _ _ (by exact hb'), hk]
          have Hc1 := Lib.hid hcell1
          clear hcell1
          go_wp2_with (at_builtin; refine wpList_append_own _ rfl (.tmp 61) (.tmp 62) 46 rfl w3.heap.size 9 i0 (.string ⟨#[]⟩) 1 16 Try.underlying46 hi hz0 hz1 hz2 rfl (by decide) _ _ _ rfl (World.ownsRow_made w3 #[] 0 (Nat.le_refl _) (Nat.zero_le _) rfl) ⟨b, off, none⟩ ss.length c (sv ss) rfl (by simp [sv]) Hc1.out (by intro u hu; obtain ⟨x, _, rfl⟩ := List.mem_map.1 hu; rfl) (by unfold maxLen; omega) (by omega) (by simp) ?_)
          intro v4 w4 own4 hg4 _
          have hb4 : Below w3.heap.size w3 w4 := ((Below.refl _ _).alloc (Nat.le_refl _) _).grown hg4 (by simp) (fun k hk => by simp [Value.ownBlock] at hk; omega)
          have hs4 := hb4.size
          have own4 : w4.ownsRow w3.heap.size 9 1 v4 ss.length (sv ss) := by simpa using own4
          go_wp2_with (at_builtin; refine wpList_append_own _ rfl (.tmp 63) (.tmp 65) 46 rfl w3.heap.size 9 i0 (.string ⟨#[]⟩) 1 16 Try.underlying46 hi hz0 hz1 hz2 rfl (by decide) _ _ _ rfl (own4.alloc _) ⟨w4.heap.size, 0, none⟩ 1 1 [.string txt] rfl rfl (one_new _ _ _) (one_cell _ rfl) (by unfold maxLen; omega) (by omega) (by simp; omega) ?_)
          intro v5 w5 own5 hg5 _
          have hb5 : Below w3.heap.size w3 w5 := (hb4.alloc hs4 _).grown hg5 (by simp; omega) (fun k hk => (own4.lt k hk).1)
          obtain ⟨A5, c5, rfl, R5⟩ := own_reads own5
          have hcap := own_cap own5
          have hsv : sv ss ++ [.string txt] = sv (ss ++ [txt]) := by simp [sv]
          rw [hsv] at R5
          have hl5 : (ss ++ [txt]).length = ss.length + 1 := by simp
          have C5 := xorw_any A5 c5 (ss ++ [txt]) w5 R5 (by rw [hl5]; exact hcap) (by rw [hl5]; omega) (by
            intro t ht
            rcases List.mem_append.1 ht with h | h
            · exact HA.out t h
            · rw [List.mem_singleton.1 h]; exact hts)
          rw [HX.out, hl5] at C5
          have HC5 := Lib.hid C5
          have Hb5 := step_trans Hb3 hb5
          clear own4 hg4 own5 hg5 hb4 hb5 R5 hsv hl5 C5 hcap hs4
          go_wp2_with fail
          refine HC5.out.mono ?_
          rintro e w6 ⟨rfl, hb6⟩
          have Hb6 := step_trans Hb5 hb6
          clear Hb5 hb6
          go_wp2_with fail
          go_ret
          exact ⟨rfl, Hb6.alloc Hb6.size _⟩
      · have hnil : ss ≠ [] := fun h => by subst h; exact absurd he (by decide)
        have hpos : 0 < ss.length := List.length_pos_iff.2 hnil
        have hd : (((ss.length : Int)) == 0) = false := by rw [beq_eq_false_iff_ne]; omega
        rw [he] at C1 C2
        have hee : (strOf (xorOf ss).1) = (strOf (xorOf ss).1) := rfl
        generalize strOf (xorOf ss).1 = txt at *
        clear he hnil hee
        go_wp2_with fail
        refine (C1.out _ (Below.refl _ _)).mono ?_
        rintro e w2 ⟨rfl, hb2⟩
        go_wp2_with fail
        refine (C2.out _ hb2).mono ?_
        rintro e w3 ⟨rfl, hb3⟩
        go_wp2_with fail
        go_ret
        exact ⟨rfl, step_trans (step_trans hb1 hb2) hb3⟩
end Go.Proofs.Ytoknhmilhljadaa

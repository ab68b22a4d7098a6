/- Grow of a strings.Builder. Conditions: those typed. -/
import Derived.Test.YtjknpbaegnkdnaaHxBld
import Derived.Test.YtjknpbaegnkdnaaArr
namespace Go.Proofs.Ytjknpbaegnkdnaa
set_option maxRecDepth 50000
open Go.RowKit

theorem size_u8 : (Try.prog.info? 5).map (·.size) = some 1 := by kernel_rfl
/-- an owned row copied into the front of a new block -/
theorem copy_front {w : World} {base g n cap' : Nat} {v : Value} {xs : List Value} {C : Array Value} (ty : TypeId) (hg : w.heap[g]? = some (.cells C 5 (0, 0))) (hn : n ≤ C.size) (hown : w.ownsRow base 5 1 v n xs) (h1 : ∀ u ∈ xs, u.oneCell' = true) :
    (Builtin.copy_ #[35, 35] ty #[.slice (some ⟨g, 0, none⟩) n cap', v]).run Try.prog w = .ok (goInt (n : Int)) (w.setRow g (xs ++ C.toList.drop n).toArray) := by
  have hxl : xs.length = n := by simpa using hown.1
  by_cases h0 : n = 0
  · subst h0
    have hx : xs = [] := List.eq_nil_of_length_eq_zero hxl
    subst hx
    have e : (([] : List Value) ++ C.toList.drop 0).toArray = C := by simp
    rw [e, setRow_self w g C _ _ hg]
    rcases hown.2 with ⟨rfl, _⟩ | ⟨g', cap, cur, rfl, _⟩
    · exact run_copy_none w _ _ _ 5 _ _ 0 cap' 0 0 Try.underlying35 size_u8 rfl
    · exact run_copy_none w _ _ _ 5 _ _ 0 cap' 0 cap Try.underlying35 size_u8 rfl
  · rcases hown.2 with ⟨_, e⟩ | ⟨g', cap, cur, rfl, _⟩
    · exact absurd e h0
    · have hr := run_copy_row (P := Try.prog) w 35 35 ty 5 g 0 n cap' ⟨g', 0, none⟩ n cap C 5 xs Try.underlying35 size_u8 hg (by rw [hxl]; exact (Nat.min_self n).symm) (hown.cells rfl) (by omega) h1
      rw [hxl] at hr
      simpa using hr

set_option maxHeartbeats 3200000 in
theorem grow_any {B b n k cap : Nat} {A : Option Addr} {l : List UInt8} {w : World} (hB : B ≤ b) (h2 : w.heap[b]? = some (.cells #[.pointer (some ⟨b, 0, none⟩), .slice A n cap] 53 (0, 0))) (h3 : w.ownsRow B 5 1 (.slice A n cap) n (cs l)) (hnc : n ≤ cap) (hk : 2 * cap + k ≤ 281474976710656) (hBw : B ≤ w.heap.size) :
    Calls Try.prog 26 #[.pointer (some ⟨b, 0, none⟩), .int .i64 (k : Int)] w fun e w' => e = .returned (.tuple #[]) ∧ (∃ v, w'.heap[b]? = some (.cells #[.pointer (some ⟨b, 0, none⟩), v] 53 (0, 0)) ∧ w'.ownsRow B 5 1 v n (cs l) ∧ v.ownBlock ≠ some b ∧ Room v n (2 * cap + k - n)) ∧ Below B w w' := by
  obtain ⟨C, hrun, hle, hmax⟩ := Lib.run_makeNoZero (P := Try.prog) w.drew #[3] 35 5 Try.underlying35 (2 * cap + k) hk
  have hlt : b < w.heap.size := (Array.getElem?_eq_some_iff.1 h2).1
  have hcall : (callFunc 28 #[.int .i64 (2 * (cap : Int) + (k : Int))]).run Try.prog w.drew = .ok (.value (.slice (some ⟨w.drew.heap.size, 0, none⟩) (2 * cap + k) C.size)) (w.drew.drew.drew.alloc (.cells C 5)) := by
    rw [show (2 * (cap : Int) + (k : Int)) = ((2 * cap + k : Nat) : Int) by omega, run_callFunc_extern Try.func28 (by kernel_rfl) (by kernel_rfl) (by kernel_rfl) (e := Extern.BytealgMakeNoZero.makeNoZero #[3] #[35]) (by kernel_rfl), hrun]
    rfl
  have hwm : IntKind.i64.wrap (2 * (cap : Int)) = 2 * (cap : Int) := by rw [IntKind.wrap_i64]; omega
  have hwa : IntKind.i64.wrap (2 * (cap : Int) + (k : Int)) = 2 * (cap : Int) + (k : Int) := by rw [IntKind.wrap_i64]; omega
  have c1 : w.drew.cell? ⟨b, 1, none⟩ = some (.slice A n cap) := by
    have : w.drew.heap[b]? = _ := h2
    rw [Lib.cell_of_heap this]; rfl
  have c2 : (w.alloc (.cells C 5)).cell? ⟨b, 1, none⟩ = some (.slice A n cap) := by
    have : (w.alloc (.cells C 5)).heap[b]? = _ := (Lib.alloc_old w _ b hlt).trans h2
    rw [Lib.cell_of_heap this]; rfl
  have f2 : (w.alloc (.cells C 5)).frozen? ⟨b, 1, none⟩ = false := Lib.frozen_of_heap ((Lib.alloc_old w _ b hlt).trans h2) 1
  have hnC : n ≤ C.size := by omega
  have H2 := Lib.hid h2
  have H3 := Lib.hid h3
  clear hrun h2 h3
  go_enter Try.func26, Try.ntmps26
  go_wp2
  go_region
  obtain ⟨w3, hw3⟩ : ∃ w3, w3 = (w.alloc (.cells C 5)).drew.drew.drew := ⟨_, rfl⟩
  have e0 : w3.heap = (w.alloc (.cells C 5)).heap := by rw [hw3]; rfl
  rw [← hw3]
  have g0 : w3.heap[w.heap.size]? = some (.cells C 5 (0, 0)) := by rw [e0]; exact heap_alloc_new w _
  have g1 : w3.heap[b]? = some (.cells #[.pointer (some ⟨b, 0, none⟩), .slice A n cap] 53 (0, 0)) := by rw [e0]; exact (heap_alloc_old w _ hlt).trans H2.out
  have g2 : w3.ownsRow B 5 1 (.slice A n cap) n (cs l) := by rw [hw3]; exact H3.out.alloc _
  have HB3 : Hid (Below B w w3) := Lib.hid (by rw [hw3]; exact (((((Below.refl B w).alloc hBw _).drew).drew).drew))
  clear c1 c2 f2 hcall hwm hwa hw3 e0
  have hcp := copy_front (cap' := C.size) 3 g0 hnC g2 (cs_one l)
  obtain ⟨w4, hw4⟩ : ∃ w4, w4 = w3.setRow w.heap.size (cs l ++ C.toList.drop n).toArray := ⟨_, rfl⟩
  rw [← hw4] at hcp
  have c1 : w3.cell? ⟨b, 1, none⟩ = some (.slice A n cap) := by rw [Lib.cell_of_heap g1]; rfl
  have k0 : w4.heap[w.heap.size]? = some (.cells (cs l ++ C.toList.drop n).toArray 5 (0, 0)) := by rw [hw4]; exact setRow_heap w3 _ _ _ _ _ g0
  have k1 : w4.heap[b]? = some (.cells #[.pointer (some ⟨b, 0, none⟩), .slice A n cap] 53 (0, 0)) := by rw [hw4, setRow_other w3 _ b _ (by omega)]; exact g1
  have HB4 : Hid (Below B w w4) := Lib.hid (by rw [hw4]; exact below_setRow HB3.out hBw _)
  have c2 : w4.cell? ⟨b, 1, none⟩ = some (.slice A n cap) := by rw [Lib.cell_of_heap k1]; rfl
  have f2 : w4.frozen? ⟨b, 1, none⟩ = false := Lib.frozen_of_heap k1 1
  have hcl : (cs l).length = n := by have := g2.1; omega
  have HO : Hid (w4.ownsRow B 5 1 (.slice (some ⟨w.heap.size, 0, none⟩) n C.size) n (cs l)) := Lib.hid ⟨g2.1, .inr ⟨w.heap.size, C.size, _, rfl, hBw, k0, hnC, hmax (by unfold maxLen; omega), by simp; omega, by
    rw [Nat.mul_one, ← hcl]; exact List.take_left⟩⟩
  have K1 := Lib.hid k1
  have HL := Lib.hid hle
  have HLT := Lib.hid hlt
  clear hw4 g0 g1 g2 k0 k1 hcl hle hmax H2 H3 HB3 hlt
  go_wp2
  go_end0
  have hne : (Value.slice (some ⟨w.heap.size, 0, none⟩) n C.size).ownBlock ≠ some b := by simp only [Value.ownBlock]; intro e; injection e with e; have := HLT.out; omega
  refine ⟨rfl, ⟨_, ?_, ownsRow_setCell_other HO.out hne _, hne, .inr ⟨_, _, rfl, ?_⟩⟩, HB4.out.setCell (p := ⟨b, 1, none⟩) hB _⟩
  · rw [heap_setCell_same w4 b 1 _ _ _ K1.out]; rfl
  · have := HL.out; omega

theorem below_undrawn {B q : Nat} {w w' : World} (h : Below B (w.drewN q) w') : Below B w w' := ⟨h.os, h.tape, h.output, h.size, h.block⟩
set_option maxHeartbeats 3200000 in
theorem ggrow_any {B b n k cap : Nat} {A : Option Addr} {p : Value} {l : List UInt8} {w : World} (hp : Self b p) (hB : B ≤ b) (h2 : w.heap[b]? = some (.cells #[p, .slice A n cap] 53 (0, 0))) (h3 : w.ownsRow B 5 1 (.slice A n cap) n (cs l)) (h4 : (Value.slice A n cap).ownBlock ≠ some b) (hnc : n ≤ cap) (hcm : cap ≤ maxLen) (hk : cap < n + k → 2 * cap + k ≤ 281474976710656) (hBw : B ≤ w.heap.size) :
    Calls Try.prog 18 #[.pointer (some ⟨b, 0, none⟩), .int .i64 (k : Int)] w fun e w' => e = .returned (.tuple #[]) ∧ (∃ v, w'.heap[b]? = some (.cells #[.pointer (some ⟨b, 0, none⟩), v] 53 (0, 0)) ∧ w'.ownsRow B 5 1 v n (cs l) ∧ v.ownBlock ≠ some b ∧ Room v n k ∧ (n + k ≤ cap → v = .slice A n cap)) ∧ Below B w w' := by
  have HC := Lib.hid (copycheck_any hp hB h2 h3 h4)
  have H4 := Lib.hid h4
  have hsub : IntKind.i64.wrap ((cap : Int) - (n : Int)) = (cap : Int) - (n : Int) := by rw [IntKind.wrap_i64]; unfold maxLen at hcm; omega
  have hk0 : decide ((k : Int) < 0) = false := by simp
  clear h2 h3 hp h4
  by_cases hroom : cap < n + k
  · have hd : decide ((cap : Int) - (n : Int) < (k : Int)) = true := by simp; omega
    have HK := Lib.hid (hk hroom)
    have HNR := Lib.hid hroom
    clear hk
    go_enter Try.func18, Try.ntmps18
    go_wp2_with fail
    refine HC.out.mono ?_
    rintro e w1 ⟨rfl, g2, g3, g5⟩
    have c1 : w1.cell? ⟨b, 1, none⟩ = some (.slice A n cap) := by rw [Lib.cell_of_heap g2]; rfl
    have hBw1 : B ≤ w1.heap.size := Nat.le_trans hBw g5.size
    have G := Lib.hid (fun q => grow_any (w := w1.drewN q) hB g2 g3 hnc HK.out hBw1)
    have G5 := Lib.hid g5
    clear g2 g3 g5 HC
    go_wp2
    go_quiet (fail)
    go_wp2_with fail
    refine (G.out _).mono ?_
    rintro e w2 ⟨rfl, ⟨v, k1, k2, k3, k4⟩, k5⟩
    have K5 := Lib.hid (G5.out.trans (below_undrawn k5))
    have K1 := Lib.hid k1
    have K2 := Lib.hid k2
    clear k1 k2 k5
    go_wp2
    go_end0
    exact ⟨rfl, ⟨v, K1.out, K2.out, k3, k4.less (by omega), fun h => by have := HNR.out; omega⟩, K5.out⟩
  · have hd : decide ((cap : Int) - (n : Int) < (k : Int)) = false := by simp; omega
    have HR := Lib.hid hroom
    clear hk hroom
    go_enter Try.func18, Try.ntmps18
    go_wp2_with fail
    refine HC.out.mono ?_
    rintro e w1 ⟨rfl, g2, g3, g5⟩
    have c1 : w1.cell? ⟨b, 1, none⟩ = some (.slice A n cap) := by rw [Lib.cell_of_heap g2]; rfl
    have G2 := Lib.hid g2
    have G3 := Lib.hid g3
    have G5 := Lib.hid g5
    clear g2 g3 g5 HC
    go_wp2
    go_quiet (fail)
    go_wp2
    go_end0
    exact ⟨rfl, ⟨_, G2.out, G3.out, H4.out, .inr ⟨_, _, rfl, by have := HR.out; omega⟩, fun _ => rfl⟩, below_drewN G5.out _⟩
/-- Grow of one that nothing was written to, nor grown: room for so many -/
theorem grow_new {B b k : Nat} {w : World} (h : BldN w B b) (hk : k ≤ 281474976710656) (hBw : B ≤ w.heap.size) :
    Calls Try.prog 18 #[.pointer (some ⟨b, 0, none⟩), .int .i64 (k : Int)] w fun e w' => e = .returned (.tuple #[]) ∧ BldR w' B b [] k ∧ (k = 0 → BldN w' B b) ∧ Below B w w' := by
  obtain ⟨p, h1, h2, h3⟩ := h
  refine (ggrow_any (n := 0) (cap := 0) (A := none) (l := []) h1 h2 h3 (World.ownsRow_nil _ _ _ _) (by simp [Value.ownBlock]) (Nat.le_refl _) (Nat.zero_le _) (fun _ => by omega) hBw).mono ?_
  rintro e w' ⟨rfl, ⟨v, k1, k2, k3, k4, k5⟩, k6⟩
  refine ⟨rfl, ⟨_, v, .inr rfl, h2, k1, k2, k3, k4⟩, fun h0 => ?_, k6⟩
  subst h0
  rw [k5 (Nat.le_refl _)] at k1
  exact ⟨_, .inr rfl, h2, k1⟩
/-- .. of any one -/
theorem grow_more {B b k m : Nat} {l : List UInt8} {w : World} (h : BldR w B b l m) (hk : 3 * (l.length + k) ≤ 281474976710656) (hBw : B ≤ w.heap.size) :
    Calls Try.prog 18 #[.pointer (some ⟨b, 0, none⟩), .int .i64 (k : Int)] w fun e w' => e = .returned (.tuple #[]) ∧ BldR w' B b l k ∧ Below B w w' := by
  obtain ⟨p, v, h1, h2, h3, h4, h5, h6⟩ := h
  obtain ⟨A, c, rfl, _, _, _⟩ := own_form h4
  have hc : l.length ≤ c ∧ c ≤ maxLen := by
    rcases h4.2 with ⟨e, e2⟩ | ⟨g, cap, cur, e, _, _, e1, e2, _⟩
    · injection e with _ _ e3; unfold maxLen; omega
    · injection e with _ _ e3; omega
  refine (ggrow_any h1 h2 h3 h4 h5 hc.1 hc.2 (fun hr => by omega) hBw).mono ?_
  rintro e w' ⟨rfl, ⟨v, k1, k2, k3, k4, _⟩, k6⟩
  exact ⟨rfl, ⟨_, v, .inr rfl, h2, k1, k2, k3, k4⟩, k6⟩
end Go.Proofs.Ytjknpbaegnkdnaa

/- A strings.Builder that a call has made: what WriteString does to it. Conditions: the texts together are of at most 2^40 bytes. -/
import Derived.Test.YtpampgkhjcfeaaaDoorFh
import Derived.Test.YtpampgkhjcfeaaaDoorBld
import Derived.Test.YtpampgkhjcfeaaaDoorLaid
import Derived.OneCell
import Derived.Laws.Rows
import Derived.Lib.Builder
import Derived.Lib.AppendStr
import Derived.Lib.UnsafeStr
import Derived.WalkKit
import Derived.Laws.Externs
namespace Go.Proofs.YtpampgkhjcfeaaaDoor
set_option maxRecDepth 50000
open Go.RowKit

theorem bld_size : (Tryd.prog.info? 101).map (·.size) = some 2 := by kernel_rfl
theorem b_lies : liesAt Tryd.prog Tryd.prog.depth 101 (2 / Tryd.prog.cellsOf 101) 0 101 1 = true := by kernel_rfl
set_option maxHeartbeats 1600000 in
theorem copycheck_new (b : Nat) (w : World) (h0 : w.cell? ⟨b, 0, none⟩ = some (.pointer none)) (hs : w.shape? b = some (101, 2)) (hf : w.frozen? ⟨b, 0, none⟩ = false) :
    Calls Tryd.prog 60 #[.pointer (some ⟨b, 0, none⟩)] w fun e w' => e = .returned (.tuple #[]) ∧ w' = w.setCell ⟨b, 0, none⟩ (.pointer (some ⟨b, 0, none⟩)) := by
  obtain ⟨j, hj, hjs⟩ := Option.map_eq_some_iff.1 bld_size
  have k1 := Lib.run_to_unsafe w ⟨b, 0, none⟩ Tryd.underlying99 Tryd.underlying149 hj (by rw [hjs]; decide) hs (Nat.zero_lt_succ 1)
  have k2 : (callFunc 75 #[.pointer (some ⟨b, 0, none⟩)]).run Tryd.prog w = .ok (.value (.pointer (some ⟨b, 0, none⟩))) w := by
    rw [run_callFunc_extern Tryd.func75 (by kernel_rfl) (by kernel_rfl) (by kernel_rfl) (e := Extern.AbiNoEscape.same) (by kernel_rfl)]
    rfl
  have k3 := Lib.run_from_unsafe (dst := 99) w ⟨b, 0, none⟩ Tryd.underlying149 Tryd.underlying99 hj hs b_lies
  go_enter Tryd.func60, Tryd.ntmps60
  go_wp2
  go_end0
  exact ⟨rfl, rfl⟩
set_option maxHeartbeats 1600000 in
theorem copycheck_old (b : Nat) (w : World) (h0 : w.cell? ⟨b, 0, none⟩ = some (.pointer (some ⟨b, 0, none⟩))) :
    Calls Tryd.prog 60 #[.pointer (some ⟨b, 0, none⟩)] w fun e w' => e = .returned (.tuple #[]) ∧ w' = w := by
  obtain ⟨j, hj, hjs⟩ := Option.map_eq_some_iff.1 bld_size
  have k1 := Lib.run_neq_ptr_same (P := Tryd.prog) w ⟨b, 0, none⟩ Tryd.underlying99 hj
  go_enter Tryd.func60, Tryd.ntmps60
  go_wp2
  go_end0
  exact ⟨rfl, rfl⟩

/-- a builder in a block of its own, from B on, and the bytes that it holds -/
def BldIs (w : World) (B b : Nat) (l : List UInt8) : Prop := Lib.IsBuilder 101 5 B b (cs l) w
theorem BldIs.new (w : World) : BldIs (w.alloc (.cells #[.pointer none, .slice none 0 0] 101)) w.heap.size w.heap.size [] := Lib.fresh_isBuilder _ _ w
theorem BldIs.at_ {w : World} {B b : Nat} {l : List UInt8} (h : BldIs w B b l) : ∃ p v, (p = .pointer none ∨ p = .pointer (some ⟨b, 0, none⟩)) ∧ B ≤ b ∧ w.heap[b]? = some (.cells #[p, v] 101 (0, 0)) ∧ w.ownsRow B 5 1 v l.length (cs l) ∧ v.ownBlock ≠ some b := by
  have hl : (cs l).length = l.length := by simp [cs]
  rcases h with ⟨h1, v, h2, h3, h4⟩ | ⟨h1, v, h2, h3, h4⟩
  · rw [hl] at h3; exact ⟨_, v, .inl rfl, h1, h2, h3, h4⟩
  · rw [hl] at h3; exact ⟨_, v, .inr rfl, h1, h2, h3, h4⟩
theorem BldIs.mk_ {w : World} {B b : Nat} {l : List UInt8} {p v : Value} (hp : p = .pointer none ∨ p = .pointer (some ⟨b, 0, none⟩)) (hB : B ≤ b) (h2 : w.heap[b]? = some (.cells #[p, v] 101 (0, 0))) (h3 : w.ownsRow B 5 1 v l.length (cs l)) (h4 : v.ownBlock ≠ some b) : BldIs w B b l := by
  have hl : (cs l).length = l.length := by simp [cs]
  rw [← hl] at h3
  rcases hp with rfl | rfl
  · exact .inl ⟨hB, v, h2, h3, h4⟩
  · exact .inr ⟨hB, v, h2, h3, h4⟩
theorem BldIs.lt {w : World} {B b : Nat} {l : List UInt8} (h : BldIs w B b l) : b < w.heap.size := by
  obtain ⟨p, v, _, _, h2, _⟩ := h.at_
  exact (Array.getElem?_eq_some_iff.1 h2).1
theorem BldIs.below {w w' : World} {B b : Nat} {l : List UInt8} (h : BldIs w B b l) (hb : Below w.heap.size w w') : BldIs w' B b l := by
  obtain ⟨p, v, hp, hB, h2, h3, h4⟩ := h.at_
  exact .mk_ hp hB ((hb.block b h.lt).trans h2) (own_kept (M := fun _ => False) h3 (Kept.of_below hb) fun _ _ h => h) h4

set_option maxHeartbeats 3200000 in
theorem write_any (B b : Nat) (l : List UInt8) (s : ByteArray) (w : World) (h : BldIs w B b l) (hl : l.length ≤ 1000000) (hs : s.size ≤ 1000000) (hBw : B ≤ w.heap.size) :
    Calls Tryd.prog 44 #[.pointer (some ⟨b, 0, none⟩), .string s] w fun e w' => e = .returned (.tuple #[.int .i64 (s.size : Nat), .nilIface]) ∧ BldIs w' B b (l ++ tl s) ∧ Below B w w' := by
  obtain ⟨i0, hi, hz0, hz1, hz2⟩ := info_parts Tryd.info5
  obtain ⟨p, v, hp, hB, h2, h3, h4⟩ := h.at_
  have hlt := h.lt
  have c0 : w.cell? ⟨b, 0, none⟩ = some p := by rw [Lib.cell_of_heap h2]; rfl
  have CC : Calls Tryd.prog 60 #[.pointer (some ⟨b, 0, none⟩)] w fun e w' => e = .returned (.tuple #[]) ∧ w'.heap[b]? = some (.cells #[.pointer (some ⟨b, 0, none⟩), v] 101 (0, 0)) ∧ w'.ownsRow B 5 1 v l.length (cs l) ∧ w'.heap.size = w.heap.size ∧ Below B w w' := by
    rcases hp with rfl | rfl
    · refine (copycheck_new b w c0 (by simp [World.shape?, h2]) (Lib.frozen_of_heap h2 0)).mono ?_
      rintro e w' ⟨rfl, rfl⟩
      have hbk : (w.setCell ⟨b, 0, none⟩ (.pointer (some ⟨b, 0, none⟩))).heap[b]? = some (.cells #[.pointer (some ⟨b, 0, none⟩), v] 101 (0, 0)) := by
        rw [heap_setCell_same w b 0 _ _ _ h2]; rfl
      exact ⟨rfl, hbk, ownsRow_setCell_other h3 h4 _, by simp, (Below.refl B w).setCell (p := ⟨b, 0, none⟩) hB _⟩
    · refine (copycheck_old b w c0).mono ?_
      rintro e w' ⟨rfl, rfl⟩
      exact ⟨rfl, h2, h3, rfl, Below.refl _ _⟩
  obtain ⟨L, hL⟩ : ∃ L, L = l ++ tl s := ⟨_, rfl⟩
  rw [← hL]
  have HL := Lib.hid hL
  clear hL
  have HC := Lib.hid CC
  clear CC h3 h2 c0 hp
  go_enter Tryd.func44, Tryd.ntmps44
  go_wp2_with fail
  refine HC.out.mono ?_
  rintro e w1 ⟨rfl, g2, g3, g4, g5⟩
  have c0 : w1.cell? ⟨b, 0, none⟩ = some (.pointer (some ⟨b, 0, none⟩)) := by rw [Lib.cell_of_heap g2]; rfl
  have c1 : w1.cell? ⟨b, 1, none⟩ = some v := by rw [Lib.cell_of_heap g2]; rfl
  go_wp2_with (at_builtin; refine Lib.wpList_append_own_string _ rfl _ _ 80 9 rfl B 5 i0 Tryd.underlying80 Tryd.underlying9 hi hz0 hz1 hz2 _ _ _ rfl g3 s rfl ?c3 ?c4 ?c5 ?_)
  case c3 => unfold maxLen; omega
  case c4 => omega
  case c5 => omega
  intro v' w2 hown' hgrow _
  have hb2 : w2.heap[b]? = some (.cells #[.pointer (some ⟨b, 0, none⟩), v] 101 (0, 0)) := by
    rw [hgrow.block b (by omega) (fun e => h4 e.symm)]
    exact g2
  have d1 : w2.cell? ⟨b, 1, none⟩ = some v := by rw [Lib.cell_of_heap hb2]; rfl
  have f1 : w2.frozen? ⟨b, 1, none⟩ = false := Lib.frozen_of_heap hb2 1
  have hsc : cs l ++ Lib.strCells s = cs (l ++ tl s) := by simp [cs, Lib.strCells, tl]
  have hll : l.length + s.size = (l ++ tl s).length := by rw [List.length_append, tl_length]
  rw [hsc, hll] at hown'
  rw [← HL.out] at hown'
  obtain ⟨A', c', rfl, hnl, _, _⟩ := own_form hown'
  clear hnl
  have HO := Lib.hid hown'
  have HG := Lib.hid ((g5.grown hgrow (by omega) (fun k hk => (g3.lt k hk).1)).setCell (p := ⟨b, 1, none⟩) hB (.slice A' L.length c'))
  have HB2 := Lib.hid hb2
  have hne : (Value.slice A' L.length c').ownBlock ≠ some b := Lib.ownBlock_ne hown' hb2 (by decide)
  clear hown' hgrow g3 g5 hsc hll
  go_wp2
  go_ret2
  refine ⟨rfl, .mk_ (.inr rfl) hB ?_ (ownsRow_setCell_other HO.out hne _) hne, HG.out⟩
  rw [heap_setCell_same w2 b 1 _ _ _ HB2.out]; rfl
theorem string_any (B b : Nat) (l : List UInt8) (w : World) (h : BldIs w B b l) (hBw : B ≤ w.heap.size) :
    Calls Tryd.prog 46 #[.pointer (some ⟨b, 0, none⟩)] w fun e w' => e = .returned (.string (tx l)) ∧ Below B w w' := Builder_String_any B b l w h hBw
end Go.Proofs.YtpampgkhjcfeaaaDoor

/- Put of package feed, by its contract. Conditions: those typed. -/
import Derived.Test.YtebocfbnamcnoaaDoorFdPut
import Derived.Deep.LoopGhost
import Derived.WalkMore
import Derived.Lib.IndexBytes
namespace Go.Proofs.YtebocfbnamcnoaaDoor
set_option maxRecDepth 50000
open Go.RowKit

def stv (l : List ByteArray) : List Value := l.map Value.string
theorem stv_length (l : List ByteArray) : (stv l).length = l.length := by simp [stv]
theorem stv_at (l : List ByteArray) (k : Nat) (h : k < (stv l).length) : (stv l)[k] = .string (l[k]'(by simpa [stv] using h)) := by simp [stv]
/-- all texts' bytes, one text behind the other -/
def jn (l : List ByteArray) : List UInt8 := l.flatMap tl
theorem jn_snoc (l : List ByteArray) (k : Nat) (h : k < l.length) : jn (l.take (k + 1)) = jn (l.take k) ++ tl l[k] := by
  unfold jn; rw [List.take_succ_eq_append_getElem h, List.flatMap_append]; simp
theorem jn_take_le (l : List ByteArray) (k : Nat) : (jn (l.take k)).length ≤ (jn l).length := by
  have e : jn l = jn (l.take k) ++ jn (l.drop k) := by unfold jn; rw [← List.flatMap_append, List.take_append_drop]
  rw [e, List.length_append]; omega
/-- the parts lie in a block of memory that the feed does not turn -/
def Parts (w : World) (M : Nat → Prop) (A : Option Addr) (xs : List Value) : Prop := ∀ k, (h : k < xs.length) → ∃ b off, A = some ⟨b, off, none⟩ ∧ b < w.heap.size ∧ ¬ M b ∧ w.cell? ⟨b, off + k, none⟩ = some xs[k]
theorem Parts.keep {w w' : World} {M : Nat → Prop} {A : Option Addr} {xs : List Value} (h : Parts w M A xs) (hk : Kept M w w') : ∀ k, (h : k < xs.length) → ∃ b off, A = some ⟨b, off, none⟩ ∧ w'.cell? ⟨b, off + k, none⟩ = some xs[k] := fun k hl => by
  obtain ⟨b, off, e, hb, hm, hc⟩ := h k hl
  exact ⟨b, off, e, (World.cell?_of_block (w := w) (hk.block b hb hm)).trans hc⟩

theorem tl_front (s : ByteArray) (m : Nat) : tl (s.extract 0 m) = (tl s).take m := by
  unfold tl; rw [ByteArray.data_extract]; simp [Array.toList_extract]
theorem tl_back (s : ByteArray) (m : Nat) : tl (s.extract m s.size) = (tl s).drop m := Lib.extract_to_end s m
theorem front_size (s : ByteArray) (m : Nat) (h : m ≤ s.size) : (s.extract 0 m).size = m := by
  rw [← tl_length, tl_front, List.length_take, tl_length]; omega
theorem back_size (s : ByteArray) (m : Nat) : (s.extract m s.size).size = s.size - m := by
  rw [← tl_length, tl_back, List.length_drop, tl_length]
theorem own_cap {w : World} {base : Nat} {e : TypeId} {n m c : Nat} {A : Option Addr} {xs : List Value} (h : w.ownsRow base e 1 (.slice A n c) m xs) (hm : 0 < m) : n ≤ c ∧ n = m ∧ ∃ g, A = some ⟨g, 0, none⟩ := by
  rcases h.2 with ⟨_, e⟩ | ⟨g, cap, cur, e, _, _, h1, _⟩
  · omega
  · injection e with e1 e2 e3
    exact ⟨by omega, e2, g, e1⟩
theorem whole_yes {n m k : Nat} {lz : Bool} (h : wholeB n lz m k = true) : m = n ∧ (lz = true → 0 < k) := by
  simp [wholeB] at h
  exact ⟨h.1, fun l => by rcases h.2 with h | h; rw [l] at h; cases h; exact h⟩
theorem whole_no {n m k : Nat} {lz : Bool} (h : wholeB n lz m k = false) : ¬ (m = n ∧ (lz = true → 0 < k)) := by
  rintro ⟨rfl, h2⟩
  cases lz with
  | true => simp [wholeB, h2 rfl] at h
  | false => simp [wholeB] at h
/-- between two parts; within one -/
def PutAt (w0 w : World) (B F n : Nat) (lz : Bool) (v0 : Value) (t : Nat) (X : List UInt8) (vb : Value) : Prop := ∃ v h gs bs, Put1 w0 w B F n lz v0 vb v h t gs bs ∧ Cut n lz X bs h
def PutIn (w0 w : World) (B F n : Nat) (lz : Bool) (v0 : Value) (t : Nat) (Y : List UInt8) (s : ByteArray) (g : Nat) (vb : Value) : Prop := ∃ v h gs bs X, Put1 w0 w B F n lz v0 vb v h t gs bs ∧ Mid n lz X bs h (tl s) ∧ X ++ tl s = Y ∧ g = 2 * s.size + if h.length = n then 1 else 0

theorem fd_info_row : (Tryd.prog.info? 48).map (fun i => (i.zero, i.size, i.bytes)) = some (some (.slice none 0 0), 1, 24) := by kernel_rfl

theorem put_nil (A : Option Addr) (m c : Nat) (w : World) : Calls Tryd.prog 49 #[.pointer none, .slice A m c] w fun e w' => e = .returned (.slice none 0 0) ∧ w = w' := by
  go_enter Tryd.func49, Tryd.ntmps49
  go_wp2
  go_ret
  exact ⟨rfl, rfl⟩

set_option maxHeartbeats 1600000 in
theorem put_any (F n t : Nat) (lz : Bool) (v0 : Value) {B : Nat} (l : List UInt8) (A : Option Addr) (c : Nat) (ps : List ByteArray) (w : World) (hr : FeedRow w F n lz v0 t) (hh : w.ownsRow B 5 1 v0 l.length (cs l)) (hB : B ≤ w.heap.size) (hv : ∀ k, v0.ownBlock = some k → k ≠ F)
    (hn : 1 ≤ n) (hn2 : n ≤ 65536) (hl : Held n lz l) (hp : Parts w (Mine F v0) A (stv ps)) (ht : t + (jn ps).length ≤ 1000000) (hps : ps.length ≤ 1000000) :
    Calls Tryd.prog 49 #[.pointer (some ⟨F, 0, none⟩), .slice A ps.length c] w fun e w' => ∃ vb, e = .returned vb ∧ PutAt w w' B F n lz v0 (t + (jn ps).length) (l ++ jn ps) vb := by
  obtain ⟨i0, hi, hz0, hz1, hz2⟩ := info_parts fd_info_row
  have HP := Lib.hid hp
  have HI := Lib.hid (Put1.start hr hh hv)
  obtain ⟨x0, x1, x2, x3, x4, x5⟩ := hr.at_
  have hlt := hr.lt
  have HL := Lib.hid hl
  clear hp hr hh hl hv x1 x2 x3 x4 x5
  go_enter Tryd.func49, Tryd.ntmps49
  go_wp2
  go_loopg [5, 20] ps.length (fun g vb i wr => ∃ k : Nat, k + g = ps.length ∧ i = .int .i64 k ∧ PutAt w wr B F n lz v0 (t + (jn (ps.take k)).length) (l ++ jn (ps.take k)) vb)
  case atStart => exact ⟨0, by omega, rfl, v0, l, [], [], by simpa [jn] using HI.out, by simpa [jn] using Cut.nothing HL.out⟩
  case round =>
    obtain ⟨k, hkg, rfl, hput⟩ := hrel
    clear HI x0
    obtain ⟨v, h, gs, bs, p, hc⟩ := hput
    by_cases hlt2 : k < ps.length
    · obtain ⟨g, rfl⟩ : ∃ g, gk = g + 1 := ⟨gk - 1, by omega⟩
      obtain ⟨b, off, rfl, hcell⟩ := HP.out.keep p.kept k (by rw [stv_length]; exact hlt2)
      rw [stv_at] at hcell
      have hsn := jn_snoc ps k hlt2
      have hle := jn_take_le ps (k + 1)
      have Hsn := Lib.hid hsn
      rw [hsn, List.length_append, tl_length] at hle
      have Hsl : Hid ((jn (ps.take (k + 1))).length = (jn (ps.take k)).length + ps[k].size) := Lib.hid (by rw [hsn, List.length_append, tl_length])
      clear hsn
      have HT : Hid (t + (jn (ps.take (k + 1))).length = t + (jn (ps.take k)).length + ps[k].size) := Lib.hid (by rw [Hsl.out]; omega)
      have hTb : t + (jn (ps.take k)).length ≤ 1000000 := by omega
      have hTc : t + (jn (ps.take k)).length + ps[k].size ≤ 1000000 := by omega
      generalize t + (jn (ps.take k)).length = T0 at *
      obtain ⟨T1, hT1⟩ : ∃ T1 : Nat, (T0 : Int) + (ps[k].size : Int) = (T1 : Int) := ⟨T0 + ps[k].size, by simp⟩
      have hT2 : T1 = T0 + ps[k].size := by omega
      have HT2 := Lib.hid hT2
      clear hT2
      generalize ps[k] = s at *
      generalize jn (ps.take k) = J at *
      obtain ⟨x0, x1, x2, x3, x4, x5⟩ := p.row.at_
      have P1 := Lib.hid p
      have HC := Lib.hid hc
      clear p hc
      go_wp2
      have Q1 := Lib.hid (P1.out.total T1)
      go_loopg [5, 7] (2 * s.size + if h.length = n then 1 else 0) (fun g vb x wy => ∃ s1 : ByteArray, x = .string s1 ∧ PutIn w wy B F n lz v0 T1 (l ++ (J ++ tl s)) s1 g vb)
      case atStart => exact ⟨s, rfl, v, h, gs, bs, l ++ J, Q1.out, Mid.of_cut HC.out, by rw [List.append_assoc], rfl⟩
      case round =>
        obtain ⟨s1, rfl, hput⟩ := hrel
        clear P1 HC Q1 x0 x1 x2 x3 x4 x5 hcell
        obtain ⟨v1, h1, gs1, bs1, X1, p, hm, hX, hg⟩ := hput
        by_cases hs0 : s1.size = 0
        · have hnil : tl s1 = [] := List.eq_nil_of_length_eq_zero (by rw [tl_length]; exact hs0)
          have e1 : s1.toList = [] := by rw [ByteArray.toList_eq]; exact hnil
          rw [hnil] at hm
          rw [hnil, List.append_nil] at hX
          have HX := Lib.hid hX
          have Hm := Lib.hid hm.cut
          have P1 := Lib.hid p
          clear hX hm p hg hnil hT1
          go_wp2
          go_roundg g
          case measure => omega
          case rel => exact ⟨k + 1, by omega, by go_num, v1, h1, gs1, bs1, by rw [HT.out, ← HT2.out]; exact P1.out, by rw [Hsn.out, ← HX.out]; exact Hm.out⟩
        · obtain ⟨x0, x1, x2, x3, x4, x5⟩ := p.row.at_
          obtain ⟨A1, c1, rfl, hq1, hq2, hq3⟩ := own_form p.held
          clear hq1 hq2 hq3
          have hne : s1.toList = [] → False := fun e => by
            have := congrArg List.length e
            rw [ByteArray.toList_eq] at this
            have e2 := tl_length s1
            unfold tl at e2
            simp [e2] at this
            exact hs0 (by simpa using this)
          have hne1 : s1.toList.isEmpty = false := by
            cases hc : s1.toList with
            | nil => exact (hne hc).elim
            | cons _ _ => rfl
          have hne2 : (s1.toList == []) = false := by
            cases hc : s1.toList with
            | nil => exact (hne hc).elim
            | cons _ _ => rfl
          have hh1 := hm.held.1
          obtain ⟨q, hq⟩ : ∃ q : Nat, (n : Int) - (h1.length : Int) = (q : Int) := ⟨n - h1.length, by omega⟩
          obtain ⟨m, hm1⟩ : ∃ m : Nat, (if q < s1.size then (q : Int) else (s1.size : Int)) = (m : Int) := ⟨min s1.size q, by split <;> omega⟩
          have hm2 : m = min s1.size (n - h1.length) := by split at hm1 <;> omega
          have hms : m ≤ s1.size := by omega
          have hmn : h1.length + m ≤ n := by omega
          have HM2 := Lib.hid hm2
          have hgb : gs1.length ≤ 1100000 := by
            have q1 := congrArg List.length hX
            have q2 := congrArg List.length hm.whole
            have q3 := Nat.le_mul_of_pos_right bs1.length (show 0 < n by omega)
            have q4 := p.outs.1
            have q5 := HL.out.1
            simp only [List.length_append, tl_length] at q1
            rw [List.length_append, flat_len hm.each] at q2
            omega
          have HG := Lib.hid hg
          have HX := Lib.hid hX
          have Hm := Lib.hid hm
          clear hg hX hm
          have P1 := Lib.hid p
          clear p hne hm2
          go_wp2
          go_region
          go_wp2
          have HF := Lib.hid (front_size s1 m hms)
          go_region_law ((refine step_append_text rfl (.tmp 52) (.tmp 55) rfl B (by simp [Act.eval]) P1.drew.drew.held (s1.extract 0 m) (by simp [Act.eval]) (by rw [HF.out]; omega) (by have := P1.out.kept.size; simp; omega) ?_; intro v2 w2 ho2 hg2 hat2; rw [HF.out, tl_front] at ho2; obtain ⟨A2, c2, rfl, hq1, hq2, hq3⟩ := own_form ho2; clear hq1 hq2 hq3; obtain ⟨y0, y1, y2, y3, y4, y5⟩ := ((P1.out.drew.drew.row).grown hg2 (fun e => P1.out.vF F e rfl)).at_))
          have hmt : ((tl s1).take m).length = m := by rw [List.length_take, tl_length]; omega
          have hmd : ((tl s1).drop m).length = s1.size - m := by rw [List.length_drop, tl_length]
          have hlen2 : (h1 ++ (tl s1).take m).length = h1.length + m := by rw [List.length_append, hmt]
          have Q := P1.out.drew.drew.more (m := (tl s1).take m) (by rw [hlen2, cs_append]; exact ho2) hg2 hat2
          have HM := Lib.hid (And.intro hmt (And.intro hmd hlen2))
          have W := Lib.hid (whole_any _ Q.row (s1.size - m))
          have Q2 := Lib.hid Q
          clear ho2 hg2 hat2 Q hmt hmd hlen2
          go_wp2_with fail
          refine (W.out).mono ?_
          rintro e w3 ⟨rfl, hb3⟩
          have Q3 := Lib.hid (Q2.out.step hb3)
          clear hb3 y0 y1 y2 y3 y4 y5 W Q2 x0 x1 x2 x3 x4 x5
          obtain ⟨x0, x1, x2, x3, x4, x5⟩ := Q3.out.row.at_
          by_cases hw : wholeB n lz (h1.length + m) (s1.size - m) = true
          · obtain ⟨hwn, hwk⟩ := whole_yes hw
            have HW := Lib.hid hwk
            have ho := Q3.out.held
            obtain ⟨hcap, hc9, g2, rfl⟩ := own_cap ho (by rw [HM.out.2.2]; omega)
            clear ho hwk hc9
            generalize h1.length + m = L2 at *
            obtain rfl : n = L2 := hwn.symm
            have hlist := Lib.hid Q3.out.list
            go_wp2_with fail
            refine (clip_any _ _ _ hcap _).mono ?_
            rintro e w4 ⟨rfl, rfl⟩
            go_wp2_with (at_builtin; refine wpList_append_own_at _ rfl (.tmp 66) (.tmp 72) 93 rfl w.heap.size 48 i0 (.slice none 0 0) 1 24 Tryd.underlying93 hi hz0 hz1 hz2 rfl (by decide) u5 gs1.length (sls n gs1) rfl (hlist.out.alloc _) ⟨w3.heap.size, 0, none⟩ 1 1 [.slice (some ⟨g2, 0, none⟩) n n] rfl rfl ?c1 ?c2 ?c3 ?c4 ?c5 ?_)
            case c1 => exact cell_one_new _ _ _
            case c2 => intro u hu; simp at hu; subst hu; rfl
            case c3 => unfold maxLen; omega
            case c4 => omega
            case c5 => have := Q3.out.kept.size; simp; omega
            intro v5 w5 ho5 hg5 hq5 hat5
            have hrow5 := (Q3.out.row.alloc (.cells #[.slice (some ⟨g2, 0, none⟩) n n] 48)).grown hg5 (fun e => by have := (hlist.out.lt F e).1; omega)
            have R := Lib.hid (Q3.out.on HM.out.2.2 ho5 hg5 (by simpa using hat5))
            clear hq5 ho5 hg5 hat5 x0 x1 x2 x3 x4 x5 hlist
            obtain ⟨x0, x1, x2, x3, x4, x5⟩ := hrow5.at_
            clear hrow5
            go_wp2
            have hsum : h1.length + m = n := by have := HM.out.2.2; rw [List.length_append, HM.out.1] at this; exact this
            have HS := Lib.hid hsum
            have hgk := HG.out
            have hmm := HM2.out
            go_roundg (2 * (s1.size - m))
            case measure =>
              split at hgk <;> omega
            case rel => 
              refine ⟨s1.extract m s1.size, rfl, .slice none 0 0, [], gs1 ++ [g2], bs1 ++ [h1 ++ (tl s1).take m], X1 ++ (tl s1).take m, R.out, ?_, ?_, ?_⟩
              · rw [tl_back]
                exact Hm.out.on (by omega) (by rw [HM.out.1]; exact hsum) (fun h => by rw [HM.out.2.1]; exact HW.out h)
              · rw [tl_back, List.append_assoc, List.take_append_drop]; exact HX.out
              · rw [back_size, if_neg (by simp; omega)]; rfl
          · have hw2 : wholeB n lz (h1.length + m) (s1.size - m) = false := by simpa using hw
            clear hw
            go_wp2
            have hgk := HG.out
            have hmm := HM2.out
            have hno := whole_no hw2
            go_roundg (2 * (s1.size - m) + if h1.length + m = n then 1 else 0)
            case measure =>
              have hno2 : h1.length + m = n → ¬ 0 < s1.size - m := fun e h => hno ⟨e, fun _ => h⟩
              split at hgk <;> split <;> omega
            case rel =>
              refine ⟨s1.extract m s1.size, rfl, _, h1 ++ (tl s1).take m, gs1, bs1, X1 ++ (tl s1).take m, Q3.out, ?_, ?_, ?_⟩
              · rw [tl_back]
                exact Hm.out.off (by intro e; exact hs0 (by rw [← tl_length, e]; rfl)) (by rw [tl_length]; exact hmm) (by rw [HM.out.1, HM.out.2.1]; exact hno)
              · rw [tl_back, List.append_assoc, List.take_append_drop]; exact HX.out
              · rw [back_size, HM.out.2.2]
    · obtain rfl : k = ps.length := by omega
      rw [List.take_length] at hc p
      have P1 := Lib.hid p
      have HC := Lib.hid hc
      clear p hc
      go_wp2
      go_ret
      exact ⟨_, rfl, v, h, gs, bs, P1.out, HC.out⟩
end Go.Proofs.YtebocfbnamcnoaaDoor

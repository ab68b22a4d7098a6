/- The document's Mixed: two bytes put together by exclusive or; and words.Xor's and the document's Xor's plain mathematics. Condition: both are bytes. A row of bytes, told as numbers, as a text. No condition. words.Xor and the document's Xor, by their contracts. Conditions: the list is of at most 1000 texts, each of at most 1000 bytes. words.Xor by its contract. Conditions: the list is of at most 1000 texts, each of at most 1000 bytes. -/
import Derived.Test.YtlifpplhinmajaaGreatDoorLaid
import Derived.Laws.BytesArg
import Derived.Lib.BufferRead
import Derived.Lib.ConvBytes
import Derived.StillTailTactics
import Derived.Outline
namespace Go.Proofs.YtlifpplhinmajaaGreatDoor
set_option maxRecDepth 50000
open Go.RowKit

def mixTo (a b : Nat) : Nat → Nat
  | 0 => 0
  | i + 1 => mixTo a b i + (if a / 2 ^ i % 2 ≠ b / 2 ^ i % 2 then 2 ^ i else 0)
theorem mixTo_eq (a b : Nat) : ∀ i, mixTo a b i = (a ^^^ b) % 2 ^ i
  | 0 => by simp [mixTo, Nat.mod_one]
  | i + 1 => by
    rw [mixTo, mixTo_eq a b i, Nat.mod_pow_succ, Nat.xor_div_two_pow]
    congr 1
    have h := Nat.xor_mod_two_pow (a := a / 2 ^ i) (b := b / 2 ^ i) (n := 1)
    rw [show (2 : Nat) ^ 1 = 2 from rfl] at h
    rw [h]
    have h1 : a / 2 ^ i % 2 = 0 ∨ a / 2 ^ i % 2 = 1 := by omega
    have h2 : b / 2 ^ i % 2 = 0 ∨ b / 2 ^ i % 2 = 1 := by omega
    rcases h1 with h1 | h1 <;> rcases h2 with h2 | h2 <;> simp [h1, h2]
theorem mixTo_le (a b i : Nat) : mixTo a b i < 2 ^ i := by rw [mixTo_eq]; exact Nat.mod_lt _ (Nat.two_pow_pos _)
theorem xor_lt (a b : Nat) (ha : a < 256) (hb : b < 256) : a ^^^ b < 256 := Nat.xor_lt_two_pow (n := 8) ha hb
theorem mix8 (a b : Nat) (ha : a < 256) (hb : b < 256) : mixTo a b 8 = a ^^^ b := by rw [mixTo_eq]; exact Nat.mod_eq_of_lt (xor_lt a b ha hb)

end Go.Proofs.YtlifpplhinmajaaGreatDoor

namespace Go.Proofs.YtlifpplhinmajaaGreatDoor
set_option maxRecDepth 50000
open Go.RowKit

/-- a text of numbers below 256 -/
def strOf (l : List Nat) : ByteArray := strOfNums (l.map fun x : Nat => (x : Int))
theorem conv_str (w : World) {B : Nat} {A : Option Addr} {c : Nat} (l : List Nat) (hr : Reads w B A (u8s l)) : (convert 68 9 (.slice A l.length c)).run Tryz.prog w = .ok (.string (strOf l)) w := by
  rcases A with _ | ad
  · have hl : l = [] := by
      cases l with
      | nil => rfl
      | cons x l => obtain ⟨b, off, h, _⟩ := hr 0 (by simp [u8s]); cases h
    subst hl
    exact Lib.run_convert_nil_bytes w 68 9 5 c Tryz.underlying68 Tryz.underlying5 Tryz.underlying9
  · cases l with
    | nil =>
      rw [run_convert_bytes_string w 68 9 5 _ _ c Tryz.underlying68 Tryz.underlying5 Tryz.underlying9, run_bytesToString w _ _ c [] (by simpa using run_loadCells_list (P := Tryz.prog) w ad [] (by simp))]
      rfl
    | cons x l =>
      obtain ⟨b, off, h, _⟩ := hr 0 (by simp [u8s])
      injection h with h
      subst h
      have hl : ((x :: l).map fun x : Nat => (x : Int)).length = (x :: l).length := by simp
      refine run_convert_bytes_arg w 68 5 Tryz.underlying68 Tryz.underlying5 b off _ c _ hl (fun i hi => ?_) 9 Tryz.underlying9
      obtain ⟨b', off', h', _, hc⟩ := hr i (by simpa [u8s] using hi)
      injection h' with h'
      injection h' with h1 h2
      subst h1; subst h2
      have e : ((x :: l).map fun x : Nat => (x : Int)).getD i 0 = (((x :: l)[i] : Nat) : Int) := by
        rw [List.getD, List.getElem?_map, List.getElem?_eq_getElem hi]; rfl
      rw [hc, u8_at, e]
end Go.Proofs.YtlifpplhinmajaaGreatDoor

namespace Go.Proofs.YtlifpplhinmajaaGreatDoor
set_option maxRecDepth 50000
open Go.RowKit

def nb (s : ByteArray) : List Nat := s.data.toList.map UInt8.toNat
theorem nb_length (s : ByteArray) : (nb s).length = s.size := by unfold nb; rw [List.length_map, Array.length_toList]; rfl
theorem nb_lt (s : ByteArray) : ∀ x ∈ nb s, x < 256 := by
  intro x hx
  obtain ⟨u, _, rfl⟩ := List.mem_map.1 hx
  exact u.toNat_lt
def xorL (xs ys : List Nat) : List Nat := List.zipWith (· ^^^ ·) xs ys
theorem xorL_length (xs ys : List Nat) (h : ys.length = xs.length) : (xorL xs ys).length = xs.length := by simp [xorL, h]
theorem xorL_lt (xs ys : List Nat) (hx : ∀ x ∈ xs, x < 256) (hy : ∀ y ∈ ys, y < 256) : ∀ z ∈ xorL xs ys, z < 256 := by
  intro z hz
  obtain ⟨i, hi⟩ := List.getElem?_of_mem hz
  unfold xorL at hi
  rw [List.getElem?_zipWith] at hi
  cases h1 : xs[i]? with
  | none => rw [h1] at hi; simp at hi
  | some x =>
    cases h2 : ys[i]? with
    | none => rw [h1, h2] at hi; simp at hi
    | some y =>
      rw [h1, h2] at hi
      simp at hi
      rw [← hi]
      exact xor_lt x y (hx x (List.mem_of_getElem? h1)) (hy y (List.mem_of_getElem? h2))
/-- what the list of texts comes to -/
def xorOf : List ByteArray → List Nat × Int
  | [] => ([], 0)
  | s :: rest => if rest.all (fun t => t.size == s.size) then (rest.foldl (fun a t => xorL a (nb t)) (nb s), 0) else ([], 9)

/-- block g begins with the bytes xs, and may be written there -/
structure Buf (w : World) (g : Nat) (xs : List Nat) : Prop where
  cell : ∀ j, (h : j < xs.length) → w.cell? ⟨g, j, none⟩ = some (.int .u8 (xs[j] : Int))
  free : ∀ j, j < xs.length → w.frozen? ⟨g, j, none⟩ = false
theorem Buf.set {w : World} {g : Nat} {xs : List Nat} (h : Buf w g xs) (j v : Nat) (hj : j < xs.length) : Buf (w.setCell ⟨g, j, none⟩ (.int .u8 (v : Int))) g (xs.set j v) := by
  refine ⟨fun i hi => ?_, fun i hi => ?_⟩
  · rw [List.getElem_set]
    by_cases e : j = i
    · subst e
      rw [World.cell?_setCell_same _ _ _ (h.cell j hj)]; simp
    · rw [World.cell?_setCell_other _ _ _ _ (fun h => e (by injection h))]
      simp only [e, if_false]
      exact h.cell i (by simpa using hi)
  · rw [World.frozen?_setCell]
    exact h.free i (by simpa using hi)
theorem Buf.drew {w : World} {g : Nat} {xs : List Nat} (h : Buf w g xs) : Buf w.drew g xs := ⟨fun j hj => h.cell j hj, fun j hj => h.free j hj⟩
theorem Buf.reads {w : World} {g B : Nat} {xs : List Nat} (h : Buf w g xs) (hg : g < B) : Reads w B (some ⟨g, 0, none⟩) (u8s xs) := fun k hk => by
  rw [u8s_length] at hk
  exact ⟨g, 0, rfl, hg, by rw [Nat.zero_add, h.cell k hk, u8_at]⟩

theorem bytes_of_text (w : World) (s : ByteArray) : ∃ W c, (convert 9 68 (.string s)).run Tryz.prog w = .ok (.slice (some ⟨w.heap.size, 0, none⟩) s.size c) W ∧ Below w.heap.size w W ∧ Buf W w.heap.size (nb s) ∧ W.heap.size = w.heap.size + 1 := by
  refine ⟨_, _, Lib.run_convert_string_bytes w 9 68 5 s Tryz.underlying9 Tryz.underlying68 Tryz.underlying5, ⟨rfl, rfl, rfl, by rw [Lib.bytesWorld_size]; omega, fun k hk => Lib.bytesWorld_at_old w 5 s k hk⟩, ⟨fun j hj => ?_, fun j hj => ?_⟩, Lib.bytesWorld_size w 5 s⟩
  · rw [nb_length] at hj
    rw [Lib.bytesWorld_cell w 5 s j hj]
    have hj2 : j < s.data.toList.length := by rw [Array.length_toList]; exact hj
    simp [nb, List.getD, List.getElem?_eq_getElem hj2]
  · rw [nb_length] at hj
    have h := Lib.bytesWorld_at_new w 5 s
    have hsz : j < (Lib.bytesCells w 5 s).size := by simp [Lib.bytesCells]; omega
    simp [World.frozen?, h]
    omega
def sv (l : List ByteArray) : List Value := l.map Value.string
theorem sv_length (l : List ByteArray) : (sv l).length = l.length := by simp [sv]
theorem sv_at (l : List ByteArray) (k : Nat) (h : k < (sv l).length) : (sv l)[k] = .string (l[k]'(by simpa [sv] using h)) := by simp [sv]
end Go.Proofs.YtlifpplhinmajaaGreatDoor

namespace Go.Proofs.YtlifpplhinmajaaGreatDoor
set_option maxRecDepth 50000
open Go.RowKit

def foldX (s : ByteArray) (l : List ByteArray) : List Nat := l.foldl (fun a t => xorL a (nb t)) (nb s)
theorem foldX_snoc (s : ByteArray) (rest : List ByteArray) (k : Nat) (h : k < rest.length) : foldX s (rest.take (k + 1)) = xorL (foldX s (rest.take k)) (nb rest[k]) := by
  unfold foldX; rw [List.take_succ_eq_append_getElem h, List.foldl_append]; rfl
theorem foldX_length (s : ByteArray) : ∀ (l : List ByteArray) (a : List Nat), a.length = s.size → (∀ t ∈ l, t.size = s.size) → (l.foldl (fun a t => xorL a (nb t)) a).length = s.size
  | [], _, ha, _ => ha
  | t :: l, a, ha, h => by
    rw [List.foldl_cons]
    exact foldX_length s l _ (by rw [xorL_length _ _ (by rw [nb_length, ha, h t (by simp)]), ha]) (fun u hu => h u (by simp [hu]))
theorem foldX_lt (l : List ByteArray) : ∀ (a : List Nat), (∀ x ∈ a, x < 256) → ∀ x ∈ l.foldl (fun a t => xorL a (nb t)) a, x < 256 := by
  induction l with
  | nil => intro a ha; exact ha
  | cons t l ih => intro a ha; rw [List.foldl_cons]; exact ih _ (xorL_lt _ _ ha (nb_lt t))
def partX (xs ys : List Nat) (j : Nat) : List Nat := (xorL xs ys).take j ++ xs.drop j
theorem partX_zero (xs ys : List Nat) : partX xs ys 0 = xs := by simp [partX]
theorem partX_all (xs ys : List Nat) (h : ys.length = xs.length) : partX xs ys xs.length = xorL xs ys := by
  unfold partX; rw [List.take_of_length_le (by rw [xorL_length xs ys h]; exact Nat.le_refl _)]; simp
theorem partX_length (xs ys : List Nat) (j : Nat) (h : ys.length = xs.length) (hj : j ≤ xs.length) : (partX xs ys j).length = xs.length := by
  unfold partX; rw [List.length_append, List.length_take, List.length_drop, xorL_length xs ys h]; omega
theorem partX_at (xs ys : List Nat) (j : Nat) (h : ys.length = xs.length) (hj : j < xs.length) : (partX xs ys j)[j]'(by rw [partX_length xs ys j h (by omega)]; exact hj) = xs[j] := by
  have hl : ((xorL xs ys).take j).length = j := by rw [List.length_take, xorL_length xs ys h]; omega
  unfold partX
  rw [List.getElem_append_right (by omega)]
  simp [hl]
theorem partX_set (xs ys : List Nat) (j : Nat) (h : ys.length = xs.length) (hj : j < xs.length) : (partX xs ys j).set j (xs[j] ^^^ ys[j]) = partX xs ys (j + 1) := by
  have hl : ((xorL xs ys).take j).length = j := by rw [List.length_take, xorL_length xs ys h]; omega
  unfold partX
  rw [List.set_append_right _ _ (by omega), hl, Nat.sub_self, List.drop_eq_getElem_cons hj, List.set_cons_zero, List.take_succ_eq_append_getElem (by rw [xorL_length xs ys h]; exact hj)]
  simp [xorL]
theorem nb_at (t : ByteArray) (j : Nat) (h : j < t.size) : (nb t)[j]'(by rw [nb_length]; exact h) = t[j].toNat := by
  unfold nb; rw [List.getElem_map]; rfl
theorem u8_xor_of (x : Nat) (u : UInt8) (hx : x < 256) : bits .xor .u8 (x : Int) (u.toNat : Int) = ((x ^^^ u.toNat : Nat) : Int) := u8_xor_nat x u.toNat hx u.toNat_lt

set_option maxHeartbeats 4000000 in
set_option maxRecDepth 100000 in
theorem xor_cons (A : Option Addr) (c : Nat) (s : ByteArray) (rest : List ByteArray) (w : World) (hr : Reads w w.heap.size A (sv (s :: rest))) (hc : rest.length + 1 ≤ c) (hlen : rest.length ≤ 1000) (hsz : ∀ t ∈ s :: rest, t.size ≤ 1000) :
    Calls Tryz.prog 83 #[.slice A (rest.length + 1) c] w fun e w' => e = .returned (.tuple #[.string (strOf (xorOf (s :: rest)).1), .int .i64 (xorOf (s :: rest)).2]) ∧ Below w.heap.size w w' := by
  obtain ⟨b, off, rfl, hbB, h0⟩ := hr 0 (by simp [sv])
  rw [sv_at] at h0
  simp only [Nat.add_zero, List.getElem_cons_zero] at h0
  have hcells : ∀ k, (h : k < rest.length) → w.cell? ⟨b, off + 1 + k, none⟩ = some (.string rest[k]) := fun k h => by
    obtain ⟨b', off', e, _, hk⟩ := hr (k + 1) (by rw [sv_length, List.length_cons]; omega)
    injection e with e
    injection e with e1 e2
    subst e1; subst e2
    rw [show off + 1 + k = off + (k + 1) from by omega, hk, sv_at]
    simp
  have Hc := Lib.hid hcells
  have hs1 : s.size ≤ 1000 := hsz s (by simp)
  have Hsz := Lib.hid fun t ht => hsz t (List.mem_cons_of_mem _ ht)
  have hxo : xorOf (s :: rest) = if rest.all (fun t => t.size == s.size) then (foldX s rest, 0) else ([], 9) := rfl
  have Hxo := Lib.hid hxo
  clear hr hcells hsz hxo
  obtain ⟨W, cap, hcv, hbW, hBuf, hWs⟩ := bytes_of_text w s
  have HB := Lib.hid hBuf
  have HW := Lib.hid hWs
  clear hBuf hWs
  by_cases hc1 : c = 1
  · subst hc1
    obtain rfl : rest = [] := List.eq_nil_of_length_eq_zero (by omega)
    simp only [List.length_nil] at *
    have hcs := conv_str W (c := cap) (nb s) (HB.out.reads (B := W.heap.size) (by rw [HW.out]; omega))
    rw [nb_length] at hcs
    go_enter Tryz.func83, Tryz.ntmps83
    go_wp2_with fail
    refine wp_loop_rounds 1 ?_
    rw [rounds_succ]
    go_wp2_with fail
    go_ret2
    exact ⟨by rw [Hxo.out]; rfl, hbW⟩
  · have hc2 : 1 < c := by omega
    have hz : ((rest.length : Int) + 1 == 0) = false := by rw [beq_eq_false_iff_ne]; omega
    go_enter Tryz.func83, Tryz.ntmps83
    go_wp2_with fail
    have Hb0 := Lib.hid (And.intro hbW HW.out)
    clear hbW h0
    go_loopw [18] (fun i wr => ∃ k : Nat, k ≤ rest.length ∧ i = .int .i64 k ∧ Buf wr w.heap.size (foldX s (rest.take k)) ∧ (∀ t ∈ rest.take k, t.size = s.size) ∧ Below w.heap.size w wr ∧ w.heap.size < wr.heap.size) (fun i _ => rest.length - (intOf i).toNat)
    case atStart => exact ⟨0, Nat.zero_le _, rfl, HB.out, by simp, Hb0.out.1, by rw [Hb0.out.2]; omega⟩
    case round =>
      obtain ⟨k, hk, rfl, hB, hall, hb, hgs⟩ := hrel
      have Hall := Lib.hid hall
      clear hall
      have hL := foldX_length s (rest.take k) (nb s) (nb_length s) Hall.out
      have hLt := foldX_lt (rest.take k) (nb s) (nb_lt s)
      by_cases hlt : k < rest.length
      · have hcell := (hb.cell (p := ⟨b, off + 1 + k, none⟩) hbB).trans (Hc.out k hlt)
        have hsn := foldX_snoc s rest k hlt
        have htk := Hsz.out rest[k] (List.getElem_mem hlt)
        have Hsn := Lib.hid hsn
        have hmem : rest.take (k + 1) = rest.take k ++ [rest[k]] := List.take_succ_eq_append_getElem hlt
        have Hmem := Lib.hid hmem
        have hin := List.getElem_mem hlt
        have Hin := Lib.hid hin
        clear hsn hmem hin
        generalize rest[k] = t at *
        change (foldX s (rest.take k)).length = s.size at hL
        change ∀ x ∈ foldX s (rest.take k), x < 256 at hLt
        generalize foldX s (rest.take k) = L at *
        have HL := Lib.hid hL
        have HLt := Lib.hid hLt
        clear hL hLt
        by_cases hts : t.size = s.size
        · have Hts := Lib.hid hts
          have hnew : ∀ u ∈ rest.take (k + 1), u.size = s.size := by
            rw [Hmem.out]
            intro u hu
            rcases List.mem_append.1 hu with h | h
            · exact Hall.out u h
            · rw [List.mem_singleton.1 h]; exact hts
          have Hnew := Lib.hid hnew
          clear hnew
          have hn : (nb t).length = L.length := by rw [nb_length, HL.out, hts]
          have Hn := Lib.hid hn
          have ht63 : t.size ≤ 9223372036854775807 := by omega
          have hq : ((t.size : Int) != (s.size : Int)) = false := by rw [bne_eq_false_iff_eq]; omega
          clear hts hn
          go_wp2_with fail
          obtain ⟨wo, rfl⟩ : ∃ wo : World, wo = wr := ⟨_, rfl⟩
          go_loopw [29] (fun i wr => ∃ j : Nat, j ≤ s.size ∧ i = .int .i64 j ∧ Buf wr w.heap.size (partX L (nb t) j) ∧ Below w.heap.size w wr ∧ w.heap.size < wr.heap.size) (fun i _ => s.size - (intOf i).toNat)
          case atStart => exact ⟨0, Nat.zero_le _, rfl, by rw [partX_zero]; exact hB, hb, hgs⟩
          case round =>
            obtain ⟨j, hj, rfl, hB, hb, hgs⟩ := hrel
            by_cases hlj : j < s.size
            · have hjL : j < L.length := by rw [HL.out]; exact hlj
              have hjt : j < t.size := by rw [Hts.out]; exact hlj
              have hjn : j < (nb t).length := by rw [nb_length]; exact hjt
              have hpl : j < (partX L (nb t) j).length := by rw [partX_length L (nb t) j Hn.out (by omega)]; exact hjL
              have hc := hB.cell j hpl
              have hf := hB.free j hpl
              rw [partX_at L (nb t) j Hn.out hjL] at hc
              have hset := partX_set L (nb t) j Hn.out hjL
              have hxl := HLt.out L[j] (List.getElem_mem hjL)
              rw [nb_at t j hjt] at hset
              generalize L[j] = x at *
              have hor := u8_xor_of x t[j] hxl
              have Hor := Lib.hid hor
              have Hset := Lib.hid hset
              have i0 : (0 : Int) ≤ (j : Int) := by omega
              have i1 : (j : Int) < (s.size : Int) := by omega
              have i2 : (j : Int) < (t.size : Int) := by omega
              clear hor hset hpl
              go_wp2_with fail
              refine wp_region_still_tail 9 (by kernel_rfl) (by kernel_rfl) ?_
              simp only [List.take_succ_cons, List.take_zero, List.drop_succ_cons, List.drop_zero]
              repeat still_step
              refine wpStill_nil ?_
              change wpList _ _ _ _ _ wr.drew
              go_wp2_with fail
              go_roundw
              case rel =>
                refine ⟨j + 1, by omega, by go_num, ?_, (hb.setCell (Nat.le_refl _) _).drew, by simp [World.setCell, World.drew]; exact hgs⟩
                rw [Hor.out, ← Hset.out]
                exact (hB.set j _ (by rw [partX_length L (nb t) j Hn.out (by omega)]; exact hjL)).drew
              case measure => simp [intOf]; omega
            · obtain rfl : j = s.size := by omega
              have hpa := partX_all L (nb t) Hn.out
              rw [HL.out] at hpa
              rw [hpa] at hB
              clear hpa
              go_wp2_with fail
              go_roundw
              case rel => exact ⟨k + 1, by omega, by go_num, by rw [Hsn.out]; exact hB, Hnew.out, hb, hgs⟩
              case measure => simp [intOf]; omega
        · have hq : ((t.size : Int) != (s.size : Int)) = true := by rw [bne_iff_ne]; omega
          have hno : rest.all (fun t => t.size == s.size) = false := by
            rw [List.all_eq_false]
            exact ⟨t, Hin.out, by simpa using hts⟩
          have Hno := Lib.hid hno
          have ht63 : t.size ≤ 9223372036854775807 := by omega
          clear hno
          go_wp2_with fail
          go_ret2
          exact ⟨by rw [Hxo.out, Hno.out]; rfl, hb⟩
      · obtain rfl : k = rest.length := by omega
        rw [List.take_length] at hB hL hLt
        have hyes : rest.all (fun t => t.size == s.size) = true := by
          rw [List.all_eq_true]
          intro t ht
          have := Hall.out t (by rw [List.take_length]; exact ht)
          simpa using this
        have Hyes := Lib.hid hyes
        change (foldX s rest).length = s.size at hL
        have hcs := conv_str wr (c := cap) (foldX s rest) (hB.reads hgs)
        rw [hL] at hcs
        clear hyes hL hLt
        go_wp2_with fail
        go_ret2
        exact ⟨by rw [Hxo.out, Hyes.out]; rfl, hb⟩
end Go.Proofs.YtlifpplhinmajaaGreatDoor

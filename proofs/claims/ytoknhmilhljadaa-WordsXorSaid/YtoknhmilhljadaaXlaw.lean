/- The statement WordsXor: for every list of texts: texts of one length are put together bit by bit; twice the same is gone. No condition. -/
import Derived.Test.YtoknhmilhljadaaXref
import Derived.Test.YtoknhmilhljadaaOpen
namespace Go.Proofs.Ytoknhmilhljadaa
open Go.ChangeShapes Go.WideShapes Go.ChangeAt Go.RowKit

theorem Try.info9 : (Try.prog.info? 9).map (fun i => (i.zero, i.size, i.bytes)) = some (some (.string ⟨#[]⟩), 1, 16) := by kernel_rfl
theorem Try.cells9 : Try.prog.cellsOf 9 = 1 := by kernel_rfl

theorem nb_strOf (l : List Nat) (h : ∀ x ∈ l, x < 256) : nb (strOf l) = l := by
  unfold nb strOf strOfNums
  simp only [List.map_map]
  conv => rhs; rw [← List.map_id l]
  exact List.map_congr_left fun x hx => by
    simp only [Function.comp_apply, id_eq, Int.toNat_natCast, UInt8.toNat_ofNat']
    exact Nat.mod_eq_of_lt (h x hx)
theorem strOf_size (l : List Nat) (h : ∀ x ∈ l, x < 256) : (strOf l).size = l.length := by rw [← nb_length, nb_strOf l h]
theorem xorL_self (l : List Nat) : xorL l l = List.replicate l.length 0 := by
  refine List.ext_getElem (by simp [xorL]) fun i h1 h2 => ?_
  simp [xorL]
theorem xorOf_cases (ss : List ByteArray) : ((xorOf ss).2 = 0 ∧ (ss ≠ [] → xorOf (ss ++ [strOf (xorOf ss).1]) = (List.replicate (strOf (xorOf ss).1).size 0, 0) ∧ ∃ s ∈ ss, (strOf (xorOf ss).1).size = s.size)) ∨ (xorOf ss).2 = 9 := by
  cases ss with
  | nil => left; exact ⟨rfl, fun h => absurd rfl h⟩
  | cons s rest =>
    cases h : rest.all (fun t => t.size == s.size) with
    | false => right; simp [xorOf, h]
    | true =>
      left
      have e : xorOf (s :: rest) = (foldX s rest, 0) := by simp [xorOf, h, foldX]
      have hlt : ∀ x ∈ foldX s rest, x < 256 := foldX_lt rest (nb s) (nb_lt s)
      have hl : (foldX s rest).length = s.size := foldX_length s rest (nb s) (nb_length s) fun t ht => by simpa using (List.all_eq_true.1 h) t ht
      rw [e]
      have hsz : (strOf (foldX s rest)).size = s.size := by rw [strOf_size _ hlt, hl]
      refine ⟨rfl, fun _ => ⟨?_, s, by simp, hsz⟩⟩
      have hall : (rest ++ [strOf (foldX s rest)]).all (fun t => t.size == s.size) = true := by
        rw [List.all_append, h]; simp [hsz]
      have hf : (rest ++ [strOf (foldX s rest)]).foldl (fun a t => xorL a (nb t)) (nb s) = xorL (foldX s rest) (nb (strOf (foldX s rest))) := by
        rw [List.foldl_append]; rfl
      show xorOf (s :: (rest ++ [strOf (foldX s rest)])) = _
      simp only [xorOf, hall, if_true, hf]
      rw [nb_strOf _ hlt, xorL_self, hsz, hl]
theorem xorw_any (A : Option Addr) (c : Nat) (ss : List ByteArray) (w : World) (hr : Reads w w.heap.size A (sv ss)) (hc : ss.length ≤ c) (hlen : ss.length ≤ 1000) (hsz : ∀ t ∈ ss, t.size ≤ 1000) :
    Calls Try.prog 26 #[.slice A ss.length c] w fun e w' => e = .returned (.tuple #[.string (strOf (xorOf ss).1), .int .i64 (xorOf ss).2]) ∧ Below w.heap.size w w' := by
  cases ss with
  | nil => exact xor_nil A c w
  | cons s rest => exact xor_cons A c s rest w hr (by simpa using hc) (by simp at hlen; omega) hsz
theorem xorr_any (A : Option Addr) (c : Nat) (ss : List ByteArray) (w : World) (hr : Reads w w.heap.size A (sv ss)) (hc : ss.length ≤ c) (hlen : ss.length ≤ 1000) (hsz : ∀ t ∈ ss, t.size ≤ 1000) :
    Calls Try.prog 27 #[.slice A ss.length c] w fun e w' => e = .returned (.tuple #[.string (strOf (xorOf ss).1), .bool ((xorOf ss).2 == 0)]) ∧ Below w.heap.size w w' := by
  cases ss with
  | nil => exact rxor_nil A c w
  | cons s rest => exact rxor_cons A c s rest w hr (by simpa using hc) (by simp at hlen; omega) hsz
/-- new bytes, all 0, as a text -/
theorem conv_zeros (W : World) (n : Nat) : (convert 25 9 (.slice (some ⟨W.heap.size, 0, none⟩) n n)).run Try.prog (W.alloc (.cells (madeCells #[.int .u8 0] n) 5)) = .ok (.string (strOf (List.replicate n 0))) (W.alloc (.cells (madeCells #[.int .u8 0] n) 5)) := by
  have hsz : (madeCells #[Value.int .u8 0] n).size = n := by
    have := congrArg List.length (made_one (.int .u8 0) n)
    simpa using this
  have h := conv_str (W.alloc (.cells (madeCells #[.int .u8 0] n) 5)) (B := W.heap.size + 1) (A := some ⟨W.heap.size, 0, none⟩) (c := n) (List.replicate n 0) (fun k hk => ⟨W.heap.size, 0, rfl, by omega, by
    rw [World.cell?_alloc_at _ _ _ _ rfl, u8_at]
    have hk2 : k < n := by simpa [u8s] using hk
    have h2 := made_one (.int .u8 0) n
    have h3 : (madeCells #[Value.int .u8 0] n)[k]? = some (.int .u8 0) := by
      rw [← Array.getElem?_toList, h2]; simp [hk2]
    simpa using h3⟩)
  rw [List.length_replicate] at h
  exact h
end Go.Proofs.Ytoknhmilhljadaa

/- A lease in memory; Open, Held, Peak, and Take and Close where nothing is done, by their contracts. Conditions: those typed. -/
import Derived.Test.YtcleekhdijiefaaLsGen
namespace Go.Proofs.Ytcleekhdijiefaa
set_option maxRecDepth 50000
open Go.RowKit Bb

/-- a lease at block b, of the arena at block a -/
def lcs (a : Nat) (v : Value) (held peak : Nat) (closed : Bool) : Array Value := #[.pointer (some ⟨a, 0, none⟩), v, .int .i64 (held : Int), .int .i64 (peak : Int), .bool closed]
def LRow (w : World) (b a : Nat) (v : Value) (held peak : Nat) (closed : Bool) : Prop := RowAt w b 48 (lcs a v held peak closed)
section
variable {w : World} {a b held peak : Nat} {v : Value} {closed : Bool}
theorem LRow.at_ (h' : LRow w b a v held peak closed) : w.cell? ⟨b, 0, none⟩ = some (.pointer (some ⟨a, 0, none⟩)) ∧ w.cell? ⟨b, 1, none⟩ = some v ∧ w.cell? ⟨b, 2, none⟩ = some (.int .i64 (held : Int)) ∧ w.cell? ⟨b, 3, none⟩ = some (.int .i64 (peak : Int)) ∧ w.cell? ⟨b, 4, none⟩ = some (.bool closed) ∧
    w.frozen? ⟨b, 1, none⟩ = false ∧ w.frozen? ⟨b, 2, none⟩ = false ∧ w.frozen? ⟨b, 3, none⟩ = false ∧ w.frozen? ⟨b, 4, none⟩ = false :=
  ⟨by rw [RowAt.cell h' 0]; rfl, by rw [RowAt.cell h' 1]; rfl, by rw [RowAt.cell h' 2]; rfl, by rw [RowAt.cell h' 3]; rfl, by rw [RowAt.cell h' 4]; rfl, RowAt.frozen h' 1, RowAt.frozen h' 2, RowAt.frozen h' 3, RowAt.frozen h' 4⟩
theorem LRow.setV (h' : LRow w b a v held peak closed) (v' : Value) : LRow (w.setCell ⟨b, 1, none⟩ v') b a v' held peak closed := RowAt.setCell h' 1 _
theorem LRow.setH (h' : LRow w b a v held peak closed) (x : Nat) : LRow (w.setCell ⟨b, 2, none⟩ (.int .i64 (x : Int))) b a v x peak closed := RowAt.setCell h' 2 _
theorem LRow.setP (h' : LRow w b a v held peak closed) (x : Nat) : LRow (w.setCell ⟨b, 3, none⟩ (.int .i64 (x : Int))) b a v held x closed := RowAt.setCell h' 3 _
theorem LRow.setC (h' : LRow w b a v held peak closed) (x : Bool) : LRow (w.setCell ⟨b, 4, none⟩ (.bool x)) b a v held peak x := RowAt.setCell h' 4 _
end

theorem lopen_nil (w : World) : Calls Try.prog 7 #[.pointer none] w fun e w' => e = .returned (.tuple #[.pointer none, .int .i64 11]) ∧ w' = w := by
  go_enter Try.func7, Try.ntmps7
  go_wp2
  go_ret2
  exact ⟨rfl, rfl⟩
theorem lopen_any (a : Nat) (w : World) : Calls Try.prog 7 #[.pointer (some ⟨a, 0, none⟩)] w fun e w' => e = .returned (.tuple #[.pointer (some ⟨w.heap.size, 0, none⟩), .int .i64 0]) ∧ w' = w.alloc (.cells (lcs a (.slice none 0 0) 0 0 false) 48) := by
  go_enter Try.func7, Try.ntmps7
  go_wp2
  go_ret2
  exact ⟨rfl, rfl⟩

theorem lfault_nil (w : World) : Calls Try.prog 22 #[.pointer none] w fun e w' => e = .returned (.int .i64 11) ∧ w' = w := by
  go_enter Try.func22, Try.ntmps22
  go_wp2
  go_ret
  exact ⟨rfl, rfl⟩
theorem lfault_closed {w : World} {b a held peak : Nat} {v : Value} (h : LRow w b a v held peak true) : Calls Try.prog 22 #[.pointer (some ⟨b, 0, none⟩)] w fun e w' => e = .returned (.int .i64 12) ∧ w' = w := by
  obtain ⟨x0, x1, x2, x3, x4, f1, f2, f3, f4⟩ := h.at_
  clear h
  go_enter Try.func22, Try.ntmps22
  go_wp2
  go_ret
  exact ⟨rfl, rfl⟩
theorem lfault_open {w : World} {b a held peak : Nat} {v : Value} (h : LRow w b a v held peak false) : Calls Try.prog 22 #[.pointer (some ⟨b, 0, none⟩)] w fun e w' => e = .returned (.int .i64 0) ∧ w' = w := by
  obtain ⟨x0, x1, x2, x3, x4, f1, f2, f3, f4⟩ := h.at_
  clear h
  go_enter Try.func22, Try.ntmps22
  go_wp2
  go_ret
  exact ⟨rfl, rfl⟩

theorem lheld_nil (w : World) : Calls Try.prog 13 #[.pointer none] w fun e w' => e = .returned (.int .i64 0) ∧ w' = w := by
  go_enter Try.func13, Try.ntmps13
  go_wp2
  go_ret
  exact ⟨rfl, rfl⟩
theorem lheld_any {w : World} {b a held peak : Nat} {v : Value} {closed : Bool} (h : LRow w b a v held peak closed) : Calls Try.prog 13 #[.pointer (some ⟨b, 0, none⟩)] w fun e w' => e = .returned (.int .i64 (held : Int)) ∧ w' = w := by
  obtain ⟨x0, x1, x2, x3, x4, f1, f2, f3, f4⟩ := h.at_
  clear h
  go_enter Try.func13, Try.ntmps13
  go_wp2
  go_ret
  exact ⟨rfl, rfl⟩
theorem lpeak_nil (w : World) : Calls Try.prog 14 #[.pointer none] w fun e w' => e = .returned (.int .i64 0) ∧ w' = w := by
  go_enter Try.func14, Try.ntmps14
  go_wp2
  go_ret
  exact ⟨rfl, rfl⟩
theorem lpeak_any {w : World} {b a held peak : Nat} {v : Value} {closed : Bool} (h : LRow w b a v held peak closed) : Calls Try.prog 14 #[.pointer (some ⟨b, 0, none⟩)] w fun e w' => e = .returned (.int .i64 (peak : Int)) ∧ w' = w := by
  obtain ⟨x0, x1, x2, x3, x4, f1, f2, f3, f4⟩ := h.at_
  clear h
  go_enter Try.func14, Try.ntmps14
  go_wp2
  go_ret
  exact ⟨rfl, rfl⟩

theorem ltake_nil (n : Int) (w : World) : Calls Try.prog 10 #[.pointer none, .int .i64 n] w fun e w' => e = .returned (.tuple #[.pointer none, .int .i64 11]) ∧ w' = w := by
  have C := Lib.hid (lfault_nil w)
  go_enter Try.func10, Try.ntmps10
  go_wp2_with fail
  refine C.out.mono ?_; rintro e w' ⟨rfl, hw⟩; obtain rfl := hw.symm
  go_wp2
  go_ret2
  exact ⟨rfl, rfl⟩
theorem ltake_closed {w : World} {b a held peak : Nat} {v : Value} (h : LRow w b a v held peak true) (n : Int) : Calls Try.prog 10 #[.pointer (some ⟨b, 0, none⟩), .int .i64 n] w fun e w' => e = .returned (.tuple #[.pointer none, .int .i64 12]) ∧ w' = w := by
  have C := Lib.hid (lfault_closed h)
  clear h
  go_enter Try.func10, Try.ntmps10
  go_wp2_with fail
  refine C.out.mono ?_; rintro e w' ⟨rfl, hw⟩; obtain rfl := hw.symm
  go_wp2
  go_ret2
  exact ⟨rfl, rfl⟩
theorem ltake_neg {w : World} {b a held peak : Nat} {v : Value} (h : LRow w b a v held peak false) (n : Int) (hn : n < 0) : Calls Try.prog 10 #[.pointer (some ⟨b, 0, none⟩), .int .i64 n] w fun e w' => e = .returned (.tuple #[.pointer none, .int .i64 1]) ∧ w' = w := by
  have C := Lib.hid (lfault_open h)
  have CR := Lib.hid (ares_neg ⟨a, 0, none⟩ n hn w)
  obtain ⟨x0, x1, x2, x3, x4, f1, f2, f3, f4⟩ := h.at_
  clear h
  go_enter Try.func10, Try.ntmps10
  go_wp2_with fail
  refine C.out.mono ?_; rintro e w' ⟨rfl, hw⟩; obtain rfl := hw.symm
  go_wp2_with fail
  refine CR.out.mono ?_; rintro e w' ⟨rfl, hw⟩; obtain rfl := hw.symm
  go_wp2
  go_ret2
  exact ⟨rfl, rfl⟩
theorem ltake_full {w : World} {b a held peak B u h c : Nat} {v : Value} (hL : LRow w b a v held peak false) (hA : AreAt w a B u h c) (n : Int) (hn0 : 0 ≤ n) (hn : (B : Int) - u < n) (hB : B ≤ 4194304) (hu : u ≤ B) :
    Calls Try.prog 10 #[.pointer (some ⟨b, 0, none⟩), .int .i64 n] w fun e w' => e = .returned (.tuple #[.pointer none, .int .i64 4]) ∧ ∃ q, w' = w.drewN q := by
  have C := Lib.hid (lfault_open hL)
  have CR := Lib.hid (ares_full hA n hn0 hn hB hu)
  obtain ⟨x0, x1, x2, x3, x4, f1, f2, f3, f4⟩ := hL.at_
  clear hL hA
  go_enter Try.func10, Try.ntmps10
  go_wp2_with fail
  refine C.out.mono ?_; rintro e w' ⟨rfl, hw⟩; obtain rfl := hw.symm
  go_wp2_with fail
  refine CR.out.mono ?_; rintro e w' ⟨rfl, q, rfl⟩
  go_wp2
  go_ret2
  exact ⟨rfl, q, rfl⟩

theorem lclose_nil (w : World) : Calls Try.prog 12 #[.pointer none] w fun e w' => e = .returned (.int .i64 11) ∧ w' = w := by
  have C := Lib.hid (lfault_nil w)
  go_enter Try.func12, Try.ntmps12
  go_wp2_with fail
  refine C.out.mono ?_; rintro e w' ⟨rfl, hw⟩; obtain rfl := hw.symm
  go_wp2
  go_ret
  exact ⟨rfl, rfl⟩
theorem lclose_closed {w : World} {b a held peak : Nat} {v : Value} (h : LRow w b a v held peak true) : Calls Try.prog 12 #[.pointer (some ⟨b, 0, none⟩)] w fun e w' => e = .returned (.int .i64 12) ∧ w' = w := by
  have C := Lib.hid (lfault_closed h)
  clear h
  go_enter Try.func12, Try.ntmps12
  go_wp2_with fail
  refine C.out.mono ?_; rintro e w' ⟨rfl, hw⟩; obtain rfl := hw.symm
  go_wp2
  go_ret
  exact ⟨rfl, rfl⟩
end Go.Proofs.Ytcleekhdijiefaa

/- first of package long by its contract: the sum that all others come from. Conditions: those typed. -/
import Derived.Test.YtljijgihnoloeaaDoorLgPure
namespace Go.Proofs.YtljijgihnoloeaaDoor
set_option maxRecDepth 50000
open Go.RowKit Bl

theorem jn_one' (s : ByteArray) : jn [s] = tl s := by simp [jn]
theorem keyL_nil : keyL ⟨#[]⟩ = [] := rfl
theorem reads_one (w : World) (s : ByteArray) : Reads (w.alloc (.cells #[.string s] 9)) (w.alloc (.cells #[.string s] 9)).heap.size (some ⟨w.heap.size, 0, none⟩) (stv [s]) := fun k hk => by
  have hk0 : k = 0 := by simp [stv] at hk; omega
  subst hk0
  exact ⟨w.heap.size, 0, rfl, by simp, by rw [cell_of_row _ _ _ _ _ (0, 0) (heap_alloc_last w _)]; rfl⟩
/-- a sum of one text without a key -/
theorem of_one (w : World) (n : Nat) (hn1 : 1 ≤ n) (hn : n ≤ 64) (hk : QAt w) (s : ByteArray) (hs : s.size ≤ 100000) :
    Calls Tryd.prog 8 #[.int .i64 (n : Int), .string ⟨#[]⟩, .slice (some ⟨w.heap.size, 0, none⟩) 1 1] (w.alloc (.cells #[.string s] 9)) fun e w' => e = .returned (.tuple #[.string (tx (blkL 0 n (tl s))), .int .i64 0]) ∧ Below w.heap.size w w' := by
  have hb : Below w.heap.size w (w.alloc (.cells #[.string s] 9)) := (Below.refl _ w).alloc (Nat.le_refl _) _
  have h := blakeof_any (w.alloc (.cells #[.string s] 9)) n hn1 hn ⟨#[]⟩ (by decide) (hk.next hb) (some ⟨w.heap.size, 0, none⟩) 1 [s] (reads_one w s) (by rw [jn_one', tl_length]; omega) (by simp)
  rw [keyL_nil, List.nil_append, jn_one'] at h
  exact h.mono fun e w' ⟨h1, h2⟩ => ⟨h1, below_step hb h2⟩

set_option maxHeartbeats 1600000 in
theorem first_any (w : World) (n : Nat) (hn1 : 1 ≤ n) (hn : n ≤ 65536) (hk : QAt w) (A : Option Addr) (c : Nat) (ps : List ByteArray) (hr : Reads w w.heap.size A (stv ps)) (hlen : (jn ps).length ≤ 100000) (hps : ps.length ≤ 1000000) :
    Calls Tryd.prog 24 #[.int .i64 (n : Int), .slice A ps.length c] w fun e w' => e = .returned (.string (tx (vN n (jn ps) 0))) ∧ Below w.heap.size w w' := by
  obtain ⟨m, hm⟩ : ∃ m, m = min n 64 := ⟨_, rfl⟩
  have hm1 : 1 ≤ m := by omega
  have hm2 : m ≤ 64 := by omega
  have hmI : (if (n : Int) < 64 then (n : Int) else 64) = (m : Int) := by split <;> omega
  have hmJ : (if (64 : Int) < (n : Int) then (64 : Int) else (n : Int)) = (m : Int) := by split <;> omega
  have hu : IntKind.u32.wrap (n : Int) = (n : Int) := by
    have e : IntKind.u32.wrap (n : Int) = (n : Int) % 4294967296 := by simp [IntKind.wrap, IntKind.bits, IntKind.signed]
    rw [e]; omega
  obtain ⟨S, hS⟩ : ∃ S, S = vN n (jn ps) 0 := ⟨_, rfl⟩
  rw [← hS]
  have HV : Hid (S = blkL 0 m (lead n ++ jn ps)) := Lib.hid (by rw [hS, hm]; rfl)
  clear hS
  have CN := Lib.hid (newhash_any m hm1 hm2 ⟨#[]⟩ (by decide) w hk)
  have HR := Lib.hid hr
  have HK := Lib.hid hk
  have HM := Lib.hid (And.intro hm1 hm2)
  clear hr hk hm hm1 hm2
  go_enter Tryd.func24, Tryd.ntmps24
  go_wp2_with fail
  refine CN.out.mono ?_
  rintro e w1 ⟨H, rfl, h1, hb1⟩
  have h1' : HashIs w1 w.heap.size w1.heap.size H 0 m [] := h1
  have H1 := Lib.hid h1'
  have B1 := Lib.hid hb1
  have hw1 : w.heap.size ≤ w1.heap.size := hb1.size
  clear h1 h1' hb1 CN
  have b2 : Below w1.heap.size w1 (w1.alloc (.cells #[.int .u32 (n : Int)] 60)) := (Below.refl _ w1).alloc (Nat.le_refl _) _
  have CL := Lib.hid (little32_any (some ⟨w1.heap.size, 0, none⟩) 1 [n] (w1.alloc (.cells #[.int .u32 (n : Int)] 60)) (fun k hk => by
    have hk0 : k = 0 := by simp [u32s] at hk; omega
    subst hk0
    exact ⟨w1.heap.size, 0, rfl, by simp, by rw [cell_of_row _ _ _ _ _ (0, 0) (heap_alloc_last w1 _)]; rfl⟩) (by simp) (fun x hx => by simp at hx; omega))
  have B2 := Lib.hid b2
  clear b2
  go_wp2_with fail
  refine CL.out.mono ?_
  rintro e w2 ⟨v, rfl, hown, hb3⟩
  have B3 := Lib.hid (below_step B2.out hb3)
  have B3w := Lib.hid (below_step B1.out B3.out)
  have e4 : u8s ([n].flatMap (bytesOf ups 4)) = cs (lead n) := by rw [← lead_cs]; simp
  rw [e4] at hown
  obtain ⟨A', c', rfl, hl', _, _⟩ := own_form hown
  clear hl'
  have hcv : (convert 48 9 (.slice A' 4 c')).run Tryd.prog w2 = .ok (.string (tx (lead n))) w2 := conv_text _ hown
  have H2 := Lib.hid (H1.out.below B3.out)
  have K2 := Lib.hid (HK.out.next B3w.out)
  have hw2 : w.heap.size ≤ w2.heap.size := B3w.out.size
  have h0 : 0 < w.heap.size := HK.out.1
  have htl : (tx (lead n)).size = 4 := by rw [tx_size, lead_length]
  have CA := Lib.hid (add_one w2 _ _ H 0 m (by decide) HM.out.2 [] H2.out K2.out h0 (tx (lead n)) (by rw [htl]; simp))
  rw [List.nil_append, tl_tx] at CA
  clear hown hb3 CL B2 H1 htl
  generalize hTL : tx (lead n) = TL at *
  clear hTL
  go_wp2_with fail
  refine CA.out.mono ?_
  rintro e w3 ⟨rfl, h3, hb4⟩
  have H3 := Lib.hid h3
  have B4w := Lib.hid (B3w.out.trans hb4)
  have CA2 := Lib.hid (addhash_any w3 _ _ H 0 m (by decide) HM.out.2 (lead n) h3 (HK.out.next B4w.out) h0 A c ps (fun k hk => by
    obtain ⟨b, off, e, hb, hc⟩ := HR.out k hk
    exact ⟨b, off, e, Nat.lt_of_lt_of_le hb B4w.out.size, .inl hb, (B4w.out.cell hb).trans hc⟩) (by rw [lead_length]; omega) hps)
  clear h3 hb4 CA H2 K2
  go_wp2_with fail
  refine CA2.out.mono ?_
  rintro e w4 ⟨rfl, h4, hb5⟩
  have B5w := Lib.hid (B4w.out.trans hb5)
  have CS := Lib.hid (sumhash_any w4 _ _ H 0 m (by decide) HM.out.2 (lead n ++ jn ps) h4 (HK.out.next B5w.out) (by rw [List.length_append, lead_length]; omega))
  rw [← HV.out] at CS
  clear h4 hb5 CA2 H3
  go_wp2_with fail
  refine CS.out.mono ?_
  rintro e w5 ⟨rfl, hb6⟩
  have B6w := Lib.hid (below_step B5w.out hb6)
  clear hb6
  go_wp2
  go_ret
  exact ⟨rfl, B6w.out⟩
end Go.Proofs.YtljijgihnoloeaaDoor

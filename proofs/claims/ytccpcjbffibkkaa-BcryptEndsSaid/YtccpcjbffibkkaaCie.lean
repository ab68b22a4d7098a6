/- Expand of package cipher by its contract. Conditions: those typed. Plain of package cipher by its contract. Conditions: those typed. New, Clone of package cipher, and what it answers of nil, by their contracts. Conditions: those typed. -/
import Derived.Test.YtccpcjbffibkkaaCiEx1
import Derived.Test.YtccpcjbffibkkaaCia
import Derived.Test.YtccpcjbffibkkaaPi
import Derived.Test.YtccpcjbffibkkaaGen
import Derived.Laws.CopyRow
namespace Go.Proofs.Ytccpcjbffibkkaa
set_option maxRecDepth 50000
open Go.RowKit Ci

/-- next, c in their blocks; the text that next reads, and its place; the words -/
structure KyIs (N C T P b : Nat) (w : World) (s : ByteArray) (g : Nat → Nat) (i : Nat) : Prop where
  hn : RowAt w N 94 #[.func (.func 54) #[] #[.pointer (some ⟨T, 0, none⟩), .pointer (some ⟨P, 0, none⟩)]]
  hc : RowAt w C 43 #[.pointer (some ⟨b, 0, none⟩)]
  nx : NextIs w T P s i
  tb : Tab w b 91 g
section
variable {N C T P b : Nat} {w w' : World} {s : ByteArray} {g : Nat → Nat} {i : Nat}
theorem KyIs.drewN (h : KyIs N C T P b w s g i) (q : Nat) : KyIs N C T P b (w.drewN q) s g i := by
  obtain ⟨p, h1, h2⟩ := h.nx.place
  exact ⟨h.hn, h.hc, ⟨h.nx.text, p, h1, h2⟩, h.tb⟩
theorem KyIs.below (h : KyIs N C T P b w s g i) (hb : Below w.heap.size w w') : KyIs N C T P b w' s g i := by
  have hk : Kept (fun _ => False) w w' := Kept.of_below hb
  exact ⟨h.hn.kept hk id, h.hc.kept hk id, h.nx.kept hk id id, RowAt.kept h.tb hk id⟩
theorem KyIs.next (h : KyIs N C T P b w s g i) (hn : NextIs w' T P s (i + 1)) (hk : Kept (fun x => x = P) w w') : KyIs N C T P b w' s g (i + 1) := by
  obtain ⟨p, h1, h2⟩ := h.nx.place
  exact ⟨h.hn.kept hk (RowAt.apart h.hn h1 rfl), h.hc.kept hk (RowAt.apart h.hc h1 rfl), hn, RowAt.kept h.tb hk (RowAt.apart h.tb h1 rfl)⟩
theorem KyIs.setT (h : KyIs N C T P b w s g i) (j v : Nat) (hj : j < 1042) : KyIs N C T P b (w.setCell ⟨b, j, none⟩ (.int .u32 (v : Int))) s (upd g j v) i := by
  have hk : Kept (fun x => x = b) w (w.setCell ⟨b, j, none⟩ (.int .u32 (v : Int))) := Kept.set (M := fun x => x = b) (Kept.refl _ w) (p := ⟨b, j, none⟩) (.inl rfl) _
  obtain ⟨p, h1, h2⟩ := h.nx.place
  exact ⟨h.hn.kept hk (RowAt.apart h.hn h.tb rfl), h.hc.kept hk (RowAt.apart h.hc h.tb rfl), h.nx.kept hk (RowAt.apart h.nx.text h.tb rfl) (RowAt.apart h1 h.tb rfl), h.tb.set j v hj⟩
end
/-- how the worlds stand in one round -/
def KyW (N C T P b B : Nat) (w0 : World) (s : ByteArray) (S : Nat → (Nat → Nat) × Nat) (k : Nat) (w : World) : Prop :=
  KyIs N C T P b w s (S k).1 (S k).2 ∧ Kept (fun x => x = b ∨ B ≤ x) w0 w
theorem KyW.stable {N C T P b B : Nat} {w0 w w' : World} {s : ByteArray} {S : Nat → (Nat → Nat) × Nat} {k : Nat} (h : KyW N C T P b B w0 s S k w) (hb : Below w.heap.size w w') : KyW N C T P b B w0 s S k w' :=
  ⟨h.1.below hb, h.2.trans (Kept.of_below (M := fun _ => False) hb) fun _ _ x => x.elim⟩
/-- how many of the chain's steps are done ahead of part k -/
def mk5 (k : Nat) : Nat := if k = 0 then 0 else 9 + 128 * (k - 1)
theorem mk5_off (k : Nat) (h : k < 5) : pOff k = 2 * mk5 k ∧ ∃ h, pLen k = 2 * h ∧ mk5 (k + 1) = mk5 k + h ∧ 2 * mk5 k + 2 * h ≤ 1042 := by
  match k, h with
  | 0, _ => exact ⟨rfl, 9, rfl, rfl, by decide⟩
  | 1, _ => exact ⟨rfl, 128, rfl, rfl, by decide⟩
  | 2, _ => exact ⟨rfl, 128, rfl, rfl, by decide⟩
  | 3, _ => exact ⟨rfl, 128, rfl, rfl, by decide⟩
  | 4, _ => exact ⟨rfl, 128, rfl, rfl, by decide⟩
theorem keyTo_next (g : Nat → Nat) (s : ByteArray) (k : Nat) : keyTo g s (k + 1) = upd (keyTo g s k) k (g k ^^^ wd s k) := rfl
theorem keyTo_own (g : Nat → Nat) (s : ByteArray) (k : Nat) : keyTo g s k k = g k := by rw [keyTo_at, if_neg (Nat.lt_irrefl _)]

set_option maxHeartbeats 4000000 in
theorem expand_any (w : World) (b : Nat) (g : Nat → Nat) (hT : Tab w b 91 g) (hg : Ok g) (salt key : ByteArray) (hs : salt.size ≤ 140737488351232) (hk : key.size ≤ 140737488351232) :
    Calls Try.prog 34 #[.pointer (some ⟨b, 0, none⟩), .string salt, .string key] w fun e w' => e = .returned (.pointer (some ⟨b, 0, none⟩)) ∧ Tab w' b 91 (exB g salt key) ∧ Kept (fun x => x = b) w w' := by
  have hbl := hT.lt
  have HT := Lib.hid hT
  have HG := Lib.hid hg
  clear hT hg
  go_enter Try.func34, Try.ntmps34
  go_wp2_with fail
  obtain ⟨w1, hw1⟩ : ∃ w1, w1 = w.alloc (.cells #[.pointer (some ⟨b, 0, none⟩)] 43) := ⟨_, rfl⟩
  rw [← hw1]
  have h1C : RowAt w1 w.heap.size 43 #[.pointer (some ⟨b, 0, none⟩)] := by rw [hw1]; exact RowAt.new _ _ _
  have h1T : Tab w1 b 91 g := by rw [hw1]; exact HT.out.alloc _
  have h1K : Kept (fun x => x = b ∨ w.heap.size ≤ x) w w1 := by rw [hw1]; exact (Kept.refl _ _).alloc _
  have h1s : w1.heap.size = w.heap.size + 1 := by rw [hw1]; exact alloc_size _ _
  clear hw1
  refine (around_any w1 key).mono ?_
  rintro e w2 ⟨T, P, rfl, hN, hT1, hP1, hb2⟩
  have h2C : RowAt w2 w.heap.size 43 #[.pointer (some ⟨b, 0, none⟩)] := h1C.below hb2 (by omega)
  have h2T : Tab w2 b 91 g := h1T.below hb2 (by omega)
  have h2K : Kept (fun x => x = b ∨ w.heap.size ≤ x) w w2 := h1K.trans (Kept.of_below (M := fun _ => False) hb2) fun _ _ x => x.elim
  have h2s := hb2.size
  have H2 := Lib.hid (And.intro h2C (And.intro h2T (And.intro h2K hN)))
  clear h1C h1T h1K h2C h2T h2K hN hb2
  go_wp2
  obtain ⟨N, hNn⟩ : ∃ N, N = w2.heap.size := ⟨_, rfl⟩
  obtain ⟨C, hCn⟩ : ∃ C, C = w.heap.size := ⟨_, rfl⟩
  obtain ⟨w3, hw3⟩ : ∃ w3, w3 = w2.alloc (.cells #[.func (.func 54) #[] #[.pointer (some ⟨T, 0, none⟩), .pointer (some ⟨P, 0, none⟩)]] 94) := ⟨_, rfl⟩
  rw [← hw3, ← hNn, ← hCn]
  have h3s : w3.heap.size = w2.heap.size + 1 := by rw [hw3]; exact alloc_size _ _
  have HK3 : Hid (KyIs N C T P b w3 key g 0 ∧ Kept (fun x => x = b ∨ w.heap.size ≤ x) w w3) := by
    obtain ⟨q1, q2, q3, q4⟩ := H2.out
    have hkb : Below w2.heap.size w2 w3 := by rw [hw3]; exact (Below.refl _ _).alloc (Nat.le_refl _) _
    have hk0 : Kept (fun _ => False) w2 w3 := Kept.of_below hkb
    refine Lib.hid ⟨⟨?_, ?_, q4.kept hk0 id id, RowAt.kept q2 hk0 id⟩, q3.trans hk0 fun _ _ x => x.elim⟩
    · rw [hw3, hNn]; exact RowAt.new _ _ _
    · rw [hCn]; exact q1.kept hk0 id
  have hNw : w.heap.size ≤ N := by omega
  have hPw : w.heap.size ≤ P := by omega
  clear hw3 H2 hT1
  have HPW := Lib.hid hPw
  have HNW := Lib.hid hNw
  have HCW := Lib.hid hCn
  clear hNn hCn hP1 h2s h3s h1s
  go_loopw [15] (fun v wr => ∃ k : Nat, k ≤ 18 ∧ v = .int .i64 (k : Int) ∧ Hid (KyIs N C T P b wr key (keyTo g key k) k ∧ Kept (fun x => x = b ∨ w.heap.size ≤ x) w wr)) (fun v _ => 18 - (intOf v).toNat)
  case atStart => exact ⟨0, by omega, rfl, HK3⟩
  case round =>
    obtain ⟨k, hk18, rfl, HS⟩ := hrel
    by_cases h : k < 18
    · have hkI : (k : Int) < 18 := by omega
      obtain ⟨x, hx⟩ : ∃ x, x = wd key k := ⟨_, rfl⟩
      obtain ⟨gk, hgk⟩ : ∃ gk, gk = g k := ⟨_, rfl⟩
      have hxb : x < 4294967296 := by rw [hx]; exact wd_lt _ _
      have hgb : gk < 4294967296 := by rw [hgk]; exact HG.out k (by omega)
      have hxo := u32_xor_nat gk x hgb hxb
      obtain ⟨y, hy⟩ : ∃ y, y = gk ^^^ x := ⟨_, rfl⟩
      rw [← hy] at hxo
      have HKN : Hid (keyTo g key (k + 1) = upd (keyTo g key k) k y) := Lib.hid (by rw [keyTo_next, hy, hgk, hx])
      have HKO : Hid (keyTo g key k k = gk) := Lib.hid (by rw [keyTo_own, hgk])
      obtain ⟨G, hG⟩ : ∃ G, G = keyTo g key k := ⟨_, rfl⟩
      rw [← hG] at HS HKN HKO
      have HX := Lib.hid hx
      have HNX := Lib.hid (fun (w1 : World) (hj : NextIs w1 T P key k) => next_any w1 T P key k hk hj)
      clear hx hgk hy hG
      go_wp2
      refine wp_region_seq [7, 12] [.pointer (some ⟨b, 0, none⟩), .int .i64 (k : Int), .pointer (some ⟨b, 0, none⟩), .pointer (some ⟨b, 0, none⟩), .pointer (some ⟨b, k, none⟩), .int .u32 (gk : Int), .func (.func 54) #[] #[.pointer (some ⟨T, 0, none⟩), .pointer (some ⟨P, 0, none⟩)], .int .u32 (x : Int), .int .u32 (y : Int), .pointer (some ⟨b, 0, none⟩), .pointer (some ⟨b, 0, none⟩), .pointer (some ⟨b, k, none⟩), undef] (KyW N C T P b w.heap.size w key fun j => if j = 0 then (G, k) else if j = 1 then (G, k + 1) else (upd G k y, k + 1)) (by kernel_rfl) (by kernel_rfl) rfl ?_ ⟨?_, ?_, ?_, ?_, ?_, ?_, ?_, ?_, ?_, ?_, ?_, ?_, ?_, trivial⟩ ?_
      · exact ⟨HS.out.1.drewN 1, HS.out.2.drew⟩
      · exact seq_early 1 (by kernel_rfl) (by kernel_rfl) (by kernel_rfl) (fun _ _ _ _ h hb => h.stable hb) fun a w j hj C hW => op_value (ldc_run rfl (C.was 3 (by kernel_rfl)) ((hW.1.hc.cell 0).trans rfl)) rfl
      · exact seq_early 1 (by kernel_rfl) (by kernel_rfl) (by kernel_rfl) (fun _ _ _ _ h hb => h.stable hb) fun a w j hj C hW => op_move (.inl rfl) (C.was 8 (by kernel_rfl))
      · exact seq_early 1 (by kernel_rfl) (by kernel_rfl) (by kernel_rfl) (fun _ _ _ _ h hb => h.stable hb) fun a w j hj C hW => op_value (nil_run rfl (C.on (j := 0) (by kernel_rfl) rfl rfl)) rfl
      · exact seq_early 1 (by kernel_rfl) (by kernel_rfl) (by kernel_rfl) (fun _ _ _ _ h hb => h.stable hb) fun a w j hj C hW => op_value (fld0_run rfl (C.on (j := 2) (by kernel_rfl) rfl rfl)) rfl
      · exact seq_early 1 (by kernel_rfl) (by kernel_rfl) (by kernel_rfl) (fun _ _ _ _ h hb => h.stable hb) fun a w j hj C hW => op_value (ix18_run rfl (C.on (j := 3) (by kernel_rfl) rfl rfl) (C.on (j := 1) (by kernel_rfl) rfl rfl) h) rfl
      · exact seq_early 1 (by kernel_rfl) (by kernel_rfl) (by kernel_rfl) (fun _ _ _ _ h hb => h.stable hb) fun a w j hj C hW => op_value (ldu_run rfl (C.on (j := 4) (by kernel_rfl) rfl rfl) (by
          rcases (show j = 0 ∨ j = 1 by omega) with rfl | rfl
          · exact (hW.1.tb.cell k (by omega)).trans (by rw [show (if (0:Nat) = 0 then (G, k) else if (0:Nat) = 1 then (G, k + 1) else (upd G k y, k + 1)).1 = G from rfl, HKO.out]; rfl)
          · exact (hW.1.tb.cell k (by omega)).trans (by rw [show (if (1:Nat) = 0 then (G, k) else if (1:Nat) = 1 then (G, k + 1) else (upd G k y, k + 1)).1 = G from rfl, HKO.out]; rfl))) rfl
      · exact seq_head (by kernel_rfl) (fun _ _ h hb => h.stable hb) fun a w C hW => op_value (ldf_run rfl (C.was 7 (by kernel_rfl)) ((hW.1.hn.cell 0).trans rfl)) rfl
      · exact seq_turn 0 (by kernel_rfl) fun a w C hW => turn_enter (callv_run rfl around_enters (C.on (j := 6) (by kernel_rfl) rfl rfl)) ((HNX.out w hW.1.nx).mono fun e w' ⟨e1, e2, e3⟩ => ⟨by rw [e1, ← HX.out]; rfl, hW.1.next e2 e3, hW.2.trans e3 fun _ _ z => .inr (by rw [z]; exact HPW.out)⟩)
      · exact seq_early 1 (by kernel_rfl) (by kernel_rfl) (by kernel_rfl) (fun _ _ _ _ h hb => h.stable hb) fun a w j hj C hW => op_bin rfl (C.on (j := 5) (by kernel_rfl) rfl rfl) (C.on (j := 7) (by kernel_rfl) rfl rfl) rfl (by simp [go_sem, hxo]) rfl
      · exact seq_early 1 (by kernel_rfl) (by kernel_rfl) (by kernel_rfl) (fun _ _ _ _ h hb => h.stable hb) fun a w j hj C hW => op_value (nil_run rfl (C.on (j := 0) (by kernel_rfl) rfl rfl)) rfl
      · exact seq_early 1 (by kernel_rfl) (by kernel_rfl) (by kernel_rfl) (fun _ _ _ _ h hb => h.stable hb) fun a w j hj C hW => op_value (fld0_run rfl (C.on (j := 9) (by kernel_rfl) rfl rfl)) rfl
      · exact seq_early 1 (by kernel_rfl) (by kernel_rfl) (by kernel_rfl) (fun _ _ _ _ h hb => h.stable hb) fun a w j hj C hW => op_value (ix18_run rfl (C.on (j := 10) (by kernel_rfl) rfl rfl) (C.on (j := 1) (by kernel_rfl) rfl rfl) h) rfl
      · exact seq_turn 1 (by kernel_rfl) fun a w C hW => st_does rfl (C.on (j := 11) (by kernel_rfl) rfl rfl) (C.on (j := 8) (by kernel_rfl) rfl rfl) (hW.1.tb.cell k (by omega)) (hW.1.tb.free k) ⟨hW.1.setT k _ (by omega), hW.2.set (.inl (.inl rfl)) _⟩
      intro wu hz
      have HZ : Hid (KyIs N C T P b wu key (upd G k y) (k + 1) ∧ Kept (fun x => x = b ∨ w.heap.size ≤ x) w wu) := Lib.hid hz
      clear hz HS
      simp only [setAll, setAt, List.setIfInBounds_toArray, List.set_cons_succ, List.set_cons_zero]
      go_wp2
      go_roundw
      case rel => exact ⟨k + 1, by omega, by go_num, Lib.hid (by rw [HKN.out]; exact HZ.out)⟩
      case measure => simp [intOf]; omega
    · obtain rfl : k = 18 := by omega
      obtain ⟨G, hG⟩ : ∃ G, G = keyTo g key 18 := ⟨_, rfl⟩
      rw [← hG] at HS
      have hGok : Ok G := by rw [hG]; exact keyTo_ok key HG.out 18
      have HGE : Hid (exB g salt key = (chTo salt G 521).g) := Lib.hid (by rw [hG]; rfl)
      have HGO := Lib.hid hGok
      clear hG hGok HK3
      go_wp2_with fail
      refine (around_any wr salt).mono ?_
      rintro e w4 ⟨T2, P2, rfl, hN, hT1, hP1, hb4⟩
      have HK4 : Hid (KyIs N C T P b w4 key G 18 ∧ Kept (fun x => x = b ∨ w.heap.size ≤ x) w w4 ∧ NextIs w4 T2 P2 salt 0 ∧ wr.heap.size ≤ T2 ∧ wr.heap.size ≤ P2 ∧ wr.heap.size ≤ w4.heap.size ∧ N < wr.heap.size ∧ C < wr.heap.size ∧ b < wr.heap.size) := Lib.hid ⟨HS.out.1.below hb4, HS.out.2.trans (Kept.of_below (M := fun _ => False) hb4) fun _ _ x => x.elim, hN, hT1, hP1, hb4.size, HS.out.1.hn.lt, HS.out.1.hc.lt, HS.out.1.tb.lt⟩
      have cN : w4.cell? ⟨N, 0, none⟩ = some (.func (.func 54) #[] #[.pointer (some ⟨T, 0, none⟩), .pointer (some ⟨P, 0, none⟩)]) := (HK4.out.1.hn.cell 0).trans rfl
      have fN := HK4.out.1.hn.frozen 0
      have cC : w4.cell? ⟨C, 0, none⟩ = some (.pointer (some ⟨b, 0, none⟩)) := (HK4.out.1.hc.cell 0).trans rfl
      have hNC : N ≠ C := RowAt.apart HK4.out.1.hn HK4.out.1.hc rfl
      have hNs := HK4.out.1.hn.lt
      have hCs := HK4.out.1.hc.lt
      clear hN hT1 hP1 hb4 HS
      go_wp2_with fail
      clear cN fN hNC hNs hCs
      obtain ⟨wc, hwc⟩ : ∃ wc, wc = ((w4.setCell ⟨N, 0, none⟩ (.func (.func 54) #[] #[.pointer (some ⟨T2, 0, none⟩), .pointer (some ⟨P2, 0, none⟩)])).alloc (.cells #[.int .u32 0] 52)).alloc (.cells #[.int .u32 0] 52) := ⟨_, rfl⟩
      rw [← hwc]
      have HKC : Hid (ExIs w4.heap.size N (w4.heap.size + 1) C T2 P2 b wc salt (chTo salt G 0).g (chTo salt G 0).l (chTo salt G 0).r (2 * 0) ∧ Kept (fun x => x = b ∨ w.heap.size ≤ x) w wc) := by
        obtain ⟨q1, q2, q3, q4, q5, q6, q7, q8, q9⟩ := HK4.out
        have hka : Kept (fun x => x = N) w4 (w4.setCell ⟨N, 0, none⟩ (.func (.func 54) #[] #[.pointer (some ⟨T2, 0, none⟩), .pointer (some ⟨P2, 0, none⟩)])) := Kept.set (M := fun x => x = N) (Kept.refl _ w4) (p := ⟨N, 0, none⟩) (.inl rfl) _
        obtain ⟨wa, hwa⟩ : ∃ wa, wa = w4.setCell ⟨N, 0, none⟩ (.func (.func 54) #[] #[.pointer (some ⟨T2, 0, none⟩), .pointer (some ⟨P2, 0, none⟩)]) := ⟨_, rfl⟩
        have hsz : wa.heap.size = w4.heap.size := by rw [hwa]; exact World.size_setCell _ _ _
        have hra : RowAt wa N 94 #[.func (.func 54) #[] #[.pointer (some ⟨T2, 0, none⟩), .pointer (some ⟨P2, 0, none⟩)]] := by rw [hwa]; exact row_set q1.hn
        rw [← hwa] at hka hwc
        have hr1 := RowAt.new wa 52 #[.int .u32 0]
        have hr2 := RowAt.new (wa.alloc (.cells #[.int .u32 0] 52)) 52 #[.int .u32 0]
        rw [← hwc] at hr2
        have hkc : Kept (fun _ => False) wa wc := by rw [hwc]; exact ((Kept.refl _ _).alloc _).alloc _
        have hkd : Kept (fun x => x = N) w4 wc := hka.trans hkc fun _ _ x => x.elim
        refine Lib.hid ⟨⟨?_, hra.kept hkc id, ?_, q1.hc.kept hkd (RowAt.apart q1.hc q1.hn rfl), q3.kept hkd (fun e => by omega) (fun e => by omega), RowAt.kept q1.tb hkd (RowAt.apart q1.tb q1.hn rfl), by omega⟩, q2.trans hkd fun _ _ x => .inr (by rw [x]; exact HNW.out)⟩
        · rw [← hsz, hwc]; exact hr1.alloc _
        · rw [alloc_size, hsz] at hr2; exact hr2
      clear hwc
      have hpl : ∀ k, k < 5 → pOff k = 2 * mk5 k ∧ ∃ h, pLen k = 2 * h ∧ mk5 (k + 1) = mk5 k + h ∧ 2 * mk5 k + 2 * h ≤ 1042 := mk5_off
      refine (each_any wc b 47 #[.pointer (some ⟨w4.heap.size, 0, none⟩), .pointer (some ⟨N, 0, none⟩), .pointer (some ⟨w4.heap.size + 1, 0, none⟩), .pointer (some ⟨C, 0, none⟩)] (reg_enters Try.func47 (by kernel_rfl) (by kernel_rfl))
        (fun k wk => ExIs w4.heap.size N (w4.heap.size + 1) C T2 P2 b wk salt (chTo salt G (mk5 k)).g (chTo salt G (mk5 k)).l (chTo salt G (mk5 k)).r (2 * mk5 k) ∧ Kept (exM w4.heap.size (w4.heap.size + 1) P2 b) wc wk) ⟨HKC.out.1, Kept.refl _ _⟩ ?_).mono ?_
      · intro k wk hk5 hI
        obtain ⟨e1, h, e2, e3, e4⟩ := hpl k hk5
        rw [e1, e2, e3]
        exact (ex1_any _ _ _ _ _ _ _ wk salt hs G HGO.out (mk5 k) h e4 hI.1).mono fun e w' ⟨a1, a2, a3⟩ => ⟨a1, a2, hI.2.trans a3 fun _ _ x => x⟩
      · rintro e we ⟨rfl, hE, hKE⟩
        have cC2 : we.cell? ⟨C, 0, none⟩ = some (.pointer (some ⟨b, 0, none⟩)) := (hE.hc.cell 0).trans rfl
        have HF : Hid (Tab we b 91 (exB g salt key) ∧ Kept (fun x => x = b) w we) := by
          refine Lib.hid ⟨by rw [HGE.out]; exact hE.tb, ?_⟩
          have hall := HKC.out.2.trans (M := fun x => x = b ∨ w.heap.size ≤ x) hKE fun x _ h => by
            have h4 := HK4.out
            have : w.heap.size ≤ w4.heap.size := h4.2.1.size
            rcases h with h | h | h | h
            · exact .inl h
            · right; omega
            · right; omega
            · right
              have := h4.2.2.2.2.1
              have := HNW.out
              have := h4.2.2.2.2.2.2.1
              omega
          exact hall.mono fun x hx h => by
            rcases h with h | h
            · exact h
            · omega
        clear hE hKE cC
        go_wp2
        go_ret
        exact ⟨rfl, HF.out⟩
end Go.Proofs.Ytccpcjbffibkkaa

namespace Go.Proofs.Ytccpcjbffibkkaa
set_option maxRecDepth 50000
open Go.RowKit Ci

theorem zero_cipher : (Try.prog.info? 91).map (·.zero) = some (some (.agg (ta fun _ => 0))) := by kernel_rfl
theorem zero_run (w : World) : (zeroValue 91).run Try.prog w = .ok (.agg (ta fun _ => 0)) w := by
  have hz := zero_cipher
  cases hq : Try.prog.info? 91 with
  | none => rw [hq] at hz; simp at hz
  | some i =>
    rw [hq] at hz
    have hz2 : i.zero = some (.agg (ta fun _ => 0)) := by simpa using hz
    simp [zeroValue, typeInfo, Sem.run_bind, hq, hz2]
/-- the first words of pi, and 0 behind them -/
def plTo (a : Nat) : Nat → Nat := fun i => if i < a then wordN i else 0
theorem ta_list (g : Nat → Nat) : (ta g).toList = (List.range 1042).map fun i => Value.int .u32 (g i : Int) := by simp [ta]
theorem plTo_next (o n : Nat) (h : o + n ≤ 1042) : ((ta (plTo o)).toList.take o ++ u32s (wordsL o n) ++ (ta (plTo o)).toList.drop (o + n)).toArray = ta (plTo (o + n)) := by
  apply Array.toList_inj.1
  rw [ta_list, ta_list]
  have hl : (u32s (wordsL o n)).length = n := by rw [u32s_length, wordsL_length]
  apply List.ext_getElem
  · simp [hl]; omega
  · intro i h1 h2
    have hi : i < 1042 := by simpa using h2
    rw [List.getElem_map, List.getElem_range]
    by_cases c1 : i < o
    · rw [List.getElem_append_left (by simp [hl]; omega), List.getElem_append_left (by simp; omega), List.getElem_take, List.getElem_map, List.getElem_range]
      unfold plTo
      rw [if_pos c1, if_pos (by omega)]
    · by_cases c2 : i < o + n
      · rw [List.getElem_append_left (by simp [hl]; omega), List.getElem_append_right (by simp; omega)]
        rw [u32_at, wordsL_at o _ n (by simp; omega)]
        unfold plTo
        rw [if_pos c2]
        congr 3
        simp; omega
      · rw [List.getElem_append_right (by simp [hl]; omega), List.getElem_drop, List.getElem_map, List.getElem_range]
        unfold plTo
        rw [if_neg c2, if_neg]
        simp [hl]; omega
theorem plTo_all : ta (plTo 1042) = ta wordN := ta_congr _ _ fun i hi => by unfold plTo; rw [if_pos hi]
theorem plTo_none : ta (plTo 0) = ta fun _ => 0 := ta_congr _ _ fun i hi => by unfold plTo; rw [if_neg (by omega)]

set_option maxHeartbeats 1600000 in
theorem plain1_any (w : World) (b F a n : Nat) (hF : RowAt w F 3 #[.int .i64 (a : Int)]) (hT : Tab w b 91 (plTo a)) (han : a + n ≤ 1042) (hn : 0 < n) :
    Calls Try.prog 45 #[.slice (some ⟨b, a, none⟩) n n, .pointer (some ⟨F, 0, none⟩)] w fun e w' => e = .returned (.tuple #[]) ∧ RowAt w' F 3 #[.int .i64 ((a + n : Nat) : Int)] ∧ Tab w' b 91 (plTo (a + n)) ∧ Kept (fun x => x = b ∨ x = F) w w' := by
  have cF : w.cell? ⟨F, 0, none⟩ = some (.int .i64 (a : Int)) := by rw [hF.cell 0]; rfl
  have hbl := hT.lt
  have hFl := hF.lt
  have HF := Lib.hid hF
  have HT := Lib.hid hT
  clear hF hT
  obtain ⟨z, hz⟩ : ∃ z, z = a + n := ⟨_, rfl⟩
  rw [← hz]
  go_enter Try.func45, Try.ntmps45
  go_wp2_with fail
  refine (wordsOk a n han w).mono ?_
  rintro e w1 ⟨v, rfl, hown, hb1⟩
  obtain ⟨A, c, rfl, hnl, hpos, _⟩ := own_form hown
  clear hnl
  obtain ⟨gb, rfl, hgb⟩ := hpos hn
  have hrd := Reads.of_own hown
  have hT1 : Tab w1 b 91 (plTo a) := HT.out.below hb1 hbl
  have hF1 : RowAt w1 F 3 #[.int .i64 (a : Int)] := HF.out.below hb1 hFl
  have hl : (u32s (wordsL a n)).length = n := by rw [u32s_length, wordsL_length]
  have hcp := fun (ty : TypeId) => run_copy_row (P := Try.prog) w1 29 29 ty 52 b a n n ⟨gb, 0, none⟩ n c (ta (plTo a)) 91 (u32s (wordsL a n)) Try.underlying29 size_u32 hT1 (by rw [hl]; exact (Nat.min_self n).symm)
    (fun j u hj => by
      obtain ⟨hj', rfl⟩ := List.getElem?_eq_some_iff.1 hj
      obtain ⟨b', off', e, _, hc⟩ := hrd j hj'
      cases e
      have hadd : (⟨gb, 0, none⟩ : Addr).add j = ⟨gb, 0 + j, none⟩ := by unfold Addr.add; split <;> simp_all
      rw [hadd]; exact hc) (by rw [hl, ta_size]; exact han) (fun u hu => by simp only [u32s, List.mem_map] at hu; obtain ⟨x, _, rfl⟩ := hu; rfl)
  rw [hl, plTo_next a n han] at hcp
  have hbF : F ≠ b := RowAt.apart hF1 hT1 rfl
  have hF2 := hF1.setRowOther b (Ne.symm hbF) (ta (plTo (a + n)))
  have hT2 : Tab (w1.setRow b (ta (plTo (a + n)))) b 91 (plTo (a + n)) := hT1.setRow _
  have c2 : (w1.setRow b (ta (plTo (a + n)))).cell? ⟨F, 0, none⟩ = some (.int .i64 (a : Int)) := by rw [hF2.cell 0]; rfl
  have f2 := hF2.frozen 0
  have HH := Lib.hid (And.intro hF2 (And.intro hT2 hb1))
  have han2 : (a : Int) + (n : Int) = ((a + n : Nat) : Int) := by omega
  rw [← hz] at hcp HH c2 f2 han2
  have hzb : z ≤ 1042 := by omega
  clear hrd hown hT1 hF1 hl hF2 hT2 hb1 cF han hz
  go_wp2
  go_end0
  obtain ⟨e1, e2, e3⟩ := HH.out
  have hk1 : Kept (fun x => x = b ∨ x = F) w (w1.setRow b (ta (plTo z))) := by
    have h1 : Below b w (w1.setRow b (ta (plTo z))) := below_setRow (e3.mono (by omega)) (Nat.le_refl _) _
    exact ⟨h1.os, h1.tape, h1.output, h1.size, fun k hk hM => (by
      have : (w1.setRow b (ta (plTo z))).heap[k]? = w1.heap[k]? := setRow_other _ _ _ _ (fun e => hM (.inl e))
      rw [this]; exact e3.block k hk)⟩
  exact ⟨rfl, row_set e1, RowAt.setOther e2 _ hbF _, hk1.set (.inl (.inr rfl)) _⟩
theorem plain_any (w : World) : Calls Try.prog 33 #[] w fun e w' => ∃ b, e = .returned (.pointer (some ⟨b, 0, none⟩)) ∧ Tab w' b 91 wordN ∧ w.heap.size ≤ b ∧ Below w.heap.size w w' := by
  have hz := zero_run
  go_enter Try.func33, Try.ntmps33
  go_wp2_with fail
  obtain ⟨wc, hwc⟩ : ∃ wc, wc = (w.alloc (.cells (ta fun _ => 0) 91)).alloc (.cells #[.int .i64 0] 3) := ⟨_, rfl⟩
  have hr1 : Tab wc w.heap.size 91 (plTo 0) := by
    unfold Tab; rw [plTo_none, hwc]; exact (RowAt.new _ _ _).alloc _
  have hr2 : RowAt wc (w.heap.size + 1) 3 #[.int .i64 0] := by
    have h := RowAt.new (w.alloc (.cells (ta fun _ => 0) 91)) 3 #[.int .i64 0]
    rw [alloc_size, ← hwc] at h; exact h
  have hkc : Below w.heap.size w wc := by rw [hwc]; exact ((Below.refl _ w).alloc (Nat.le_refl _) _).alloc (by rw [alloc_size]; omega) _
  have hne : w.heap.size + 1 ≠ w.heap.size := by omega
  rw [← hwc]
  have hp : ∀ k, k < 5 → pOff (k + 1) = pOff k + pLen k ∧ pOff k + pLen k ≤ 1042 ∧ 0 < pLen k := fun k hk => by
    match k, hk with
    | 0, _ => decide
    | 1, _ => decide
    | 2, _ => decide
    | 3, _ => decide
    | 4, _ => decide
  have HI := Lib.hid (And.intro hr1 (And.intro hr2 hkc))
  clear hwc hr1 hr2 hkc hz
  refine (each_any wc w.heap.size 45 #[.pointer (some ⟨w.heap.size + 1, 0, none⟩)] (reg_enters Try.func45 (by kernel_rfl) (by kernel_rfl))
    (fun k wk => RowAt wk (w.heap.size + 1) 3 #[.int .i64 (pOff k : Int)] ∧ Tab wk w.heap.size 91 (plTo (pOff k)) ∧ Kept (fun x => x = w.heap.size ∨ x = w.heap.size + 1) wc wk) ⟨HI.out.2.1, HI.out.1, Kept.refl _ _⟩ ?_).mono ?_
  · intro k wk hk5 hI
    obtain ⟨e1, e2, e3⟩ := hp k hk5
    rw [e1]
    exact (plain1_any wk w.heap.size (w.heap.size + 1) (pOff k) (pLen k) hI.1 hI.2.1 e2 e3).mono fun e w' ⟨a1, a2, a3, a4⟩ => ⟨a1, a2, a3, hI.2.2.trans a4 fun _ _ x => x⟩
  · rintro e we ⟨rfl, h1, h2, h3⟩
    have HF : Hid (Tab we w.heap.size 91 wordN ∧ Below w.heap.size w we) := by
      refine Lib.hid ⟨?_, HI.out.2.2.trans (h3.below HI.out.2.2.size fun x hx => by omega)⟩
      have h2' : RowAt we w.heap.size 91 (ta (plTo 1042)) := h2
      rw [plTo_all] at h2'
      exact h2'
    clear h1 h2 h3 HI
    go_wp2
    go_ret
    exact ⟨_, rfl, HF.out.1, Nat.le_refl _, HF.out.2⟩
end Go.Proofs.Ytccpcjbffibkkaa

namespace Go.Proofs.Ytccpcjbffibkkaa
set_option maxRecDepth 50000
open Go.RowKit Ci

theorem wordN_ok : Ok wordN := fun i _ => wordN_lt i
theorem enc_nil (l r : Nat) (w : World) : Calls Try.prog 48 #[.pointer none, .int .u32 (l : Int), .int .u32 (r : Int)] w fun e w' => e = .returned (.tuple #[.int .u32 0, .int .u32 0]) ∧ w' = w := by
  go_enter Try.func48, Try.ntmps48
  go_wp2
  go_ret2
  exact ⟨rfl, rfl⟩
theorem expand_nil (salt key : ByteArray) (w : World) : Calls Try.prog 34 #[.pointer none, .string salt, .string key] w fun e w' => e = .returned (.pointer none) ∧ Below w.heap.size w w' := by
  go_enter Try.func34, Try.ntmps34
  go_wp2
  go_ret
  exact ⟨rfl, (Below.refl _ w).alloc (Nat.le_refl _) _⟩

theorem size_cipher : (Try.prog.info? 91).map (·.size) = some 1042 := by kernel_rfl
theorem load_cipher {w : World} {b : Nat} {g : Nat → Nat} (h : Tab w b 91 g) : (loadVar 91 ⟨b, 0, none⟩).run Try.prog w = .ok (.agg (ta g)) w := by
  have hl := RowAt.cells (P := Try.prog) h (ta_size g)
  cases hq : Try.prog.info? 91 with
  | none => have hz := size_cipher; rw [hq] at hz; simp at hz
  | some i =>
    have hi : i.size = 1042 := by have hz := size_cipher; rw [hq] at hz; simpa using hz
    simp [loadVar, Sem.run_bind, sizeOf, typeInfo, hq, hi, loadCells, hl]
end Go.Proofs.Ytccpcjbffibkkaa

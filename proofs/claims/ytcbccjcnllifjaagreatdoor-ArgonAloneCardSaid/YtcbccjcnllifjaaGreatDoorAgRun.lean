/- Argon2's memory filled, and the tag, run forward on numbers, so that the kernel may reckon them. Conditions: those typed. -/
import Derived.Test.YtcbccjcnllifjaaGreatDoorAgP
import Derived.Test.YtcbccjcnllifjaaGreatDoorFlSeg
import Derived.Test.YtcbccjcnllifjaaGreatDoorGdT
namespace Go.Proofs.YtcbccjcnllifjaaGreatDoor
set_option maxRecDepth 50000
open Go.RowKit Bb
def foL : List Nat → (List Nat → Bool) → Bool
  | [], k => k []
  | x :: l, k => fo x fun x => foL l fun l => k (x :: l)
theorem foL_eq : ∀ (l : List Nat) (k : List Nat → Bool), foL l k = k l
  | [], _ => rfl
  | x :: l, k => by rw [foL, fo_eq, foL_eq l]
theorem pk_at (L : List (List Nat)) (j : Nat) : (L.map pk).getD j 0 = pk (L.getD j []) := by
  simp only [List.getD_eq_getElem?_getD, List.getElem?_map]
  cases L[j]? <;> rfl
theorem pk_zb : pk zb = 0 := by kernel_rfl
theorem nats_nb (X : List UInt8) : nb (tx X) = nats X := by simp [nb, tx, nats]
theorem pk_fB (s : ByteArray) (hs : s.size ≤ 1000) (i k : Nat) : pk (fB s i k) = nm (fS s i k) := by
  have hl : (fS s i k).length = 1024 := longL_length 1024 (by decide) _ (by simp only [List.length_append, lead_length, tl_length]; omega)
  unfold fB
  rw [pk_frB (by rw [nats_nb, nats_length, hl]) (nb_lt _), nats_nb, nm]
def inC (H c i : Nat) (P : List Nat) (k : List Nat → Bool) : Nat → Bool
  | 0 => k P
  | j + 1 => inC H c i P (fun P => loC 1024 72 (H + 256 ^ 64 * (j + 4294967296 * i)) fun B => foL (P.set (i * c + j) B) k) j
theorem inC_eq {s : ByteArray} (hs : s.size = 64) (c : Nat) {i : Nat} (hi : i < 4294967296) (M : List (List Nat)) : ∀ j, j < 4294967296 → ∀ k, inC (nm (tl s)) c i (M.map pk) k j = k ((begIn s c M i j).map pk)
  | 0, _, _ => rfl
  | j + 1, hj, k => by
    have h := fun K => loC_eq (n := 1024) (by decide) (tl s ++ (lead j ++ lead i)) (by simp only [List.length_append, lead_length, tl_length]; omega) K
    rw [nm_append, nm_append, tl_length, hs, nm_lead (by omega), nm_lead hi, lead_length, show (256 : Nat) ^ 4 = 4294967296 from rfl, show (tl s ++ (lead j ++ lead i)).length = 72 by simp only [List.length_append, lead_length, tl_length]; omega] at h
    rw [inC, inC_eq hs c hi M j (by omega), h, foL_eq, begIn, List.map_set, pk_fB s (by omega)]
    rfl
def bgC (H c : Nat) (P : List Nat) (k : List Nat → Bool) : Nat → Bool
  | 0 => k P
  | i + 1 => bgC H c P (fun P => inC H c i P k 2) i
theorem bgC_eq {s : ByteArray} (hs : s.size = 64) (c : Nat) (M : List (List Nat)) : ∀ i, i < 4294967296 → ∀ k, bgC (nm (tl s)) c (M.map pk) k i = k ((begTo s c M i).map pk)
  | 0, _, _ => rfl
  | i + 1, hi, k => by rw [bgC, bgC_eq hs c M i (by omega), inC_eq hs c (by omega) _ 2 (by decide), begTo]
def nuC (a t b c g : Nat) (P : List Nat) (p s k i : Nat) (K : Nat → Bool) : Bool :=
  if freeB a p s = true then fo (pk (seedL p k s b t ((a : Int) - 1) ((i / 128 + 1 : Nat) : Int))) fun S => mixC 0 S fun X => mixC 0 X fun Y => fo (gw Y (i % 128)) K
  else fo (gw (P.getD (k * c + bfN c (s * g + i)) 0) 0) K
def stpC (a t l b c g : Nat) (P : List Nat) (p s k i : Nat) (K : List Nat → Bool) : Bool :=
  nuC a t b c g P p s k i fun W => mixC (P.getD (k * c + bfN c (s * g + i)) 0) (P.getD (ofL l p s k W * c + ofC l c g p s k i W) 0) fun Z => foL (P.set (k * c + (s * g + i)) (if p = 0 then Z else Z ^^^ P.getD (k * c + (s * g + i)) 0)) K
def sgC (a t l b c g : Nat) (P : List Nat) (p s k F : Nat) (K : List Nat → Bool) : Nat → Bool
  | 0 => K P
  | n + 1 => sgC a t l b c g P p s k F (fun P => stpC a t l b c g P p s k (F + n) K) n
def tuC (a t l b c g : Nat) (P : List Nat) (p s : Nat) (K : List Nat → Bool) : Nat → Bool
  | 0 => K P
  | n + 1 => tuC a t l b c g P p s (fun P => sgC a t l b c g P p s n (fiN p s) K (g - fiN p s)) n
def alC (a t l b c g : Nat) (P : List Nat) (K : List Nat → Bool) : Nat → Bool
  | 0 => K P
  | n + 1 => alC a t l b c g P (fun P => tuC a t l b c g P (n / 4) (n % 4) K l) n
section
variable {a t l b c g p s k i : Nat} {L : List (List Nat)}
theorem mix0_eq {y : List Nat} (hy : okb y) (K : Nat → Bool) : mixC 0 (pk y) K = K (pk (Bn.mix zb y)) := by
  have h := mixC_eq zb_ok hy K
  rwa [pk_zb] at h
theorem nuC_eq (S : Sh a t l b c g) (R : Fl t l c g p s k i) (hL : L.length = l * c) (h : ∀ x ∈ L, okb x) (K : Nat → Bool) : nuC a t b c g (L.map pk) p s k i K = K (numW a t b c g L p s k i) := by
  unfold nuC numW
  split
  · rw [fo_eq, mix0_eq (seed_ok _ _ _ _ _ _ _), mix0_eq (Bn.mix_ok zb_ok (seed_ok _ _ _ _ _ _ _)), fo_eq]
    exact congrArg K (gw_pk (add_ok _ _ _ _ _ _ _).2 _)
  · have hb := block_ok h _ (by rw [hL]; exact place_lt S R.kl (bfN_lt (R.col S)))
    rw [fo_eq, pk_at, gw_pk hb.2]
theorem stpC_eq (S : Sh a t l b c g) (R : Fl t l c g p s k i) (hL : L.length = l * c) (h : ∀ x ∈ L, okb x) (K : List Nat → Bool) : stpC a t l b c g (L.map pk) p s k i K = K ((stepL a t l b c g L p s k i).map pk) := by
  unfold stpC
  rw [nuC_eq S R hL h]
  have C := chosen_of S R (numW a t b c g L p s k i)
  unfold stepL newB
  generalize numW a t b c g L p s k i = W at *
  have h1 := block_ok h _ (by rw [hL]; exact place_lt S R.kl (bfN_lt (R.col S)))
  have h2 := block_ok h _ (by rw [hL]; exact place_lt S C.lane C.col)
  have h3 := block_ok h _ (by rw [hL]; exact place_lt S R.kl (R.col S))
  have e : (if p = 0 then pk (Bn.mix (L.getD (k * c + bfN c (s * g + i)) []) (L.getD (ofL l p s k W * c + ofC l c g p s k i W) [])) else pk (Bn.mix (L.getD (k * c + bfN c (s * g + i)) []) (L.getD (ofL l p s k W * c + ofC l c g p s k i W) [])) ^^^ pk (L.getD (k * c + (s * g + i)) [])) = pk (newW l c g L p s k i W) := by
    unfold newW
    by_cases hp : p = 0
    · rw [if_pos hp, if_pos hp, Bn.xB_one (Bn.mix_ok h1 h2)]
    · rw [if_neg hp, if_neg hp, pk_two (Bn.mix_ok h1 h2) h3]
  rw [pk_at, pk_at, mixC_eq h1 h2, foL_eq, List.map_set, pk_at, e]
theorem sgC_eq (S : Sh a t l b c g) (hp : p < t) (hs : s ≤ 3) (hk : k < l) (hL : L.length = l * c) (h : ∀ x ∈ L, okb x) : ∀ n, fiN p s + n ≤ g → ∀ K, sgC a t l b c g (L.map pk) p s k (fiN p s) K n = K ((segTo a t l b c g L p s k (fiN p s) n).map pk)
  | 0, _, _ => rfl
  | n + 1, hn, K => by
    rw [sgC, sgC_eq S hp hs hk hL h n (by omega), stpC_eq S ⟨hp, hs, hk, by omega, by omega⟩ (by rw [segTo_len]; exact hL) (segTo_ok S hp hs hk hL h n (by omega))]
    rfl
theorem seg_okA (S : Sh a t l b c g) (hp : p < t) (hs : s ≤ 3) (hk : k < l) (hL : L.length = l * c) (h : ∀ x ∈ L, okb x) : ∀ x ∈ segL a t l b c g L p s k, okb x := by
  have := fiN_le p s
  have := S.g2
  exact segTo_ok S hp hs hk hL h _ (by omega)
theorem turn_okA (S : Sh a t l b c g) (hp : p < t) (hs : s ≤ 3) (hL : L.length = l * c) (h : ∀ x ∈ L, okb x) : ∀ n, n ≤ l → ∀ x ∈ turnTo a t l b c g L p s n, okb x
  | 0, _ => h
  | n + 1, hn => seg_okA S hp hs (by omega) (by rw [turnTo_len]; exact hL) (turn_okA S hp hs hL h n (by omega))
theorem tuC_eq (S : Sh a t l b c g) (hp : p < t) (hs : s ≤ 3) (hL : L.length = l * c) (h : ∀ x ∈ L, okb x) : ∀ n, n ≤ l → ∀ K, tuC a t l b c g (L.map pk) p s K n = K ((turnTo a t l b c g L p s n).map pk)
  | 0, _, _ => rfl
  | n + 1, hn, K => by
    have h1 := fiN_le p s
    have h2 := S.g2
    rw [tuC, tuC_eq S hp hs hL h n (by omega), sgC_eq S hp hs (by omega) (by rw [turnTo_len]; exact hL) (turn_okA S hp hs hL h n (by omega)) _ (by omega)]
    rfl
theorem all_okA (S : Sh a t l b c g) (hL : L.length = l * c) (h : ∀ x ∈ L, okb x) : ∀ n, n ≤ 4 * t → ∀ x ∈ allTo a t l b c g L n, okb x
  | 0, _ => h
  | n + 1, hn => turn_okA S (by omega) (by omega) (by rw [allTo_len]; exact hL) (all_okA S hL h n (by omega)) l (Nat.le_refl _)
theorem alC_eq (S : Sh a t l b c g) (hL : L.length = l * c) (h : ∀ x ∈ L, okb x) : ∀ n, n ≤ 4 * t → ∀ K, alC a t l b c g (L.map pk) K n = K ((allTo a t l b c g L n).map pk)
  | 0, _, _ => rfl
  | n + 1, hn, K => by
    rw [alC, alC_eq S hL h n (by omega), tuC_eq S (by omega) (by omega) (by rw [allTo_len]; exact hL) (all_okA S hL h n (by omega)) l (Nat.le_refl _)]
    rfl
end
def xrL (P : List Nat) (c : Nat) : Nat → Nat
  | 0 => 0
  | n + 1 => xrL P c n ^^^ P.getD (n * c + (c - 1)) 0
theorem xrL_eq {c l : Nat} {L : List (List Nat)} (h : ∀ b ∈ L, okb b) (hL : L.length = l * c) (hc : 0 < c) : ∀ n, n ≤ l → xrL (L.map pk) c n = pk (xB (lastL c L n))
  | 0, _ => by
    show 0 = pk (xB [])
    rw [xB_nil, pk_zb]
  | n + 1, hn => by
    rw [xrL, xrL_eq h hL hc n (by omega), pk_at, last_next, ← xB_step, pk_two (xB_ok _ (last_ok h hL hc (by omega))) (block_ok h _ (last_in hL hc (by omega)))]
theorem beg_okA (s : ByteArray) (c : Nat) {M : List (List Nat)} (h : ∀ x ∈ M, okb x) : ∀ n, ∀ x ∈ begTo s c M n, okb x
  | 0 => h
  | n + 1 => okl_set (okl_set (beg_okA s c h n) _ (fB_ok _ _ _)) _ (fB_ok _ _ _)
def agL (a t l b c g z : Nat) (s : ByteArray) : List UInt8 := longL z (tl (strOf (byB (xB (lastL c (allTo a t l b c g (begTo s c (List.replicate b zb) l) (4 * t)) l)))))
def agC (H a t l b c g z : Nat) (k : Nat → Bool) : Bool :=
  bgC H c (List.replicate b 0) (fun P => alC a t l b c g P (fun P => fo (xrL P c l) fun Y => loC z 1024 Y k) (4 * t)) l
theorem nm_strB {y : List Nat} (hy : okb y) : nm (tl (strOf (byB y))) = pk y := by
  have h : nats (tl (strOf (byB y))) = byB y := nb_str (byB y) (byB_lt y)
  unfold nm
  rw [h]
  exact nmN_flat hy.2
theorem agC_eq {a t l b c g z : Nat} (S : Sh a t l b c g) (hz : z < 4294967296) {s : ByteArray} (hs : s.size = 64) (k : Nat → Bool) : agC (nm (tl s)) a t l b c g z k = k (nm (agL a t l b c g z s)) := by
  have h0 : ∀ x ∈ List.replicate b zb, okb x := fun x hx => by rw [List.eq_of_mem_replicate hx]; exact zb_ok
  have e0 : List.replicate b 0 = (List.replicate b zb).map pk := by rw [List.map_replicate, pk_zb]
  have h1 := beg_okA s c h0 l
  have l1 : (begTo s c (List.replicate b zb) l).length = l * c := by rw [begTo_len, List.length_replicate]; exact S.bl
  have hl := S.lm
  have hc : 0 < c := by have := S.cg; have := S.g2; omega
  unfold agC agL
  rw [e0, bgC_eq hs c _ l (by omega), alC_eq S l1 h1 _ (Nat.le_refl _), fo_eq]
  have h2 := all_okA S l1 h1 (4 * t) (Nat.le_refl _)
  have l2 : (allTo a t l b c g (begTo s c (List.replicate b zb) l) (4 * t)).length = l * c := by rw [allTo_len, l1]
  generalize allTo a t l b c g (begTo s c (List.replicate b zb) l) (4 * t) = M at *
  have hy := xB_ok _ (last_ok h2 l2 hc (Nat.le_refl l))
  rw [xrL_eq h2 l2 hc l (Nat.le_refl _), ← nm_strB hy]
  have hsz := bytes_size hy
  have := loC_eq hz (tl (strOf (byB (xB (lastL c M l))))) (by rw [hsz]; decide) k
  rwa [hsz] at this
theorem agL_length {a t l b c g z : Nat} (S : Sh a t l b c g) (hz : 1 ≤ z) {s : ByteArray} : (agL a t l b c g z s).length = z := by
  have h0 : ∀ x ∈ List.replicate b zb, okb x := fun x hx => by rw [List.eq_of_mem_replicate hx]; exact zb_ok
  have h1 := beg_okA s c h0 l
  have l1 : (begTo s c (List.replicate b zb) l).length = l * c := by rw [begTo_len, List.length_replicate]; exact S.bl
  have h2 := all_okA S l1 h1 (4 * t) (Nat.le_refl _)
  have l2 : (allTo a t l b c g (begTo s c (List.replicate b zb) l) (4 * t)).length = l * c := by rw [allTo_len, l1]
  exact longL_length z hz _ (by rw [bytes_size (xB_ok _ (last_ok h2 l2 (by have := S.cg; have := S.g2; omega) (Nat.le_refl l)))]; decide)
end Go.Proofs.YtcbccjcnllifjaaGreatDoor

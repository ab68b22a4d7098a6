/- What a bound on the bulk gives of texts: each is no longer. No condition. -/
import Derived.Test.YticjndlgjbbemaaKit
import Derived.JoinedCond
namespace Go.Proofs.Yticjndlgjbbemaa
set_option maxRecDepth 50000

theorem size_list (s : ByteArray) : s.data.toList.length = s.size := by rw [Array.length_toList]; rfl
theorem short2 {H : Type} {s t : ByteArray} (hk : Rows.uptoSmall H [.lit (.string s.data.toList), .lit (.string t.data.toList)] = true) : s.size ≤ 1048576 ∧ t.size ≤ 1048576 := by
  have h : Rows.uptoBulkAll [DataW.lit (H := H) (.string s.data.toList), .lit (.string t.data.toList)] ≤ 1048576 := of_decide_eq_true hk
  simp only [Rows.uptoBulkAll, Rows.uptoBulk, size_list] at h
  omega
theorem short4 {H : Type} {s t u v : ByteArray} (hk : Rows.uptoSmall H [.lit (.string s.data.toList), .lit (.string t.data.toList), .lit (.string u.data.toList), .lit (.string v.data.toList)] = true) : s.size ≤ 1048576 ∧ t.size ≤ 1048576 ∧ u.size ≤ 1048576 ∧ v.size ≤ 1048576 := by
  have h : Rows.uptoBulkAll [DataW.lit (H := H) (.string s.data.toList), .lit (.string t.data.toList), .lit (.string u.data.toList), .lit (.string v.data.toList)] ≤ 1048576 := of_decide_eq_true hk
  simp only [Rows.uptoBulkAll, Rows.uptoBulk, size_list] at h
  omega
end Go.Proofs.Yticjndlgjbbemaa

/-
  The statement on spectra, their undoing and powers.
-/
import Derived.Test.YtlmfmfbnbbooaaaWhRef3
namespace Go.Proofs.Ytlmfmfbnbbooaaa
open Go.ChangeShapes Go.WideShapes Go.ChangeAt Go.RowKit
set_option maxRecDepth 100000

theorem WhL.taf {n : Nat} {l : List Nat} (h : WhL n l) : natI (tabN n (ofL l)) = natI l := by rw [tab_ofL h.len]
theorem tab_max {n : Nat} (h : Circ n) (f : Nat → Nat) : (natI (tabN n f)).length ≤ maxLen := by rw [natI_len, tabN_length]; have := h.2; unfold maxLen; omega

end Go.Proofs.Ytlmfmfbnbbooaaa

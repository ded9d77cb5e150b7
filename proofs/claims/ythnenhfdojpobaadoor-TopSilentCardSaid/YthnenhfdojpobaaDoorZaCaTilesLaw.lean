/-
  The reference's Tiles and Enter; the walks of the statements on tilings and entries.
-/
import Derived.Test.YthnenhfdojpobaaDoorZaLeafA
import Derived.Test.YthnenhfdojpobaaDoorZaCaEnter
namespace Go.Proofs.YthnenhfdojpobaaDoor.Za
open Go.RowKit Go.Shelf
attribute [local go_sem] Oper.semAt_some
set_option maxRecDepth 100000

theorem two_pow_sub (n : Nat) : (2 : Int) ^ n - 1 = ((2 ^ n - 1 : Nat) : Int) := by have := Nat.two_pow_pos n; simp [Int.ofNat_sub this]

/-- Where the two rhythms fill the circle: the entry of a beat. -/
theorem entry_of {n a b beat : Nat} (ht : tileB n a b = true) (hbt : beat < n) : ∃ y0, y0 < n ∧ comes n a b beat y0 = true ∧ (∀ z, z < n → comes n a b beat z = true → z = y0) ∧ lastE n a beat (tonesB n b) = y0 := by
  obtain ⟨y, h1, h2, h3⟩ := tile_entry (tileB_true.1 ht) hbt
  refine ⟨y, h1, h2, h3, ?_⟩
  have h2' := h2
  unfold comes at h2'
  rw [Bool.and_eq_true] at h2'
  have hm : ∀ z, z ∈ tonesB n b ↔ z < n ∧ b.testBit z = true := fun z => by unfold tonesB; rw [List.mem_filter, List.mem_range]
  refine lastE_only n a beat y _ ((hm y).2 ⟨h1, h2'.1⟩) h2'.2 (fun z hz hz2 => h3 z ((hm z).1 hz).1 ?_)
  unfold comes
  rw [((hm z).1 hz).2, hz2]; rfl

theorem vldB_split {n a b : Int} (h : (vldB n a && vldB n b) = true) : vldB n a = true ∧ vldB n b = true := Bool.and_eq_true_iff.1 h

end Go.Proofs.YthnenhfdojpobaaDoor.Za

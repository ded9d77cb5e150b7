/-
  The reference's rules at a place, all of them.
-/
import Derived.Test.YtlmfmfbnbbooaaaDuBroken
import Derived.Test.YtlmfmfbnbbooaaaDuBrk2
import Derived.Test.YtlmfmfbnbbooaaaDuBrk3
import Derived.Test.YtlmfmfbnbbooaaaDuBrk4
namespace Go.Proofs.Ytlmfmfbnbbooaaa
open Go.ChangeShapes Go.WideShapes Go.ChangeAt Go.RowKit
set_option maxRecDepth 100000

theorem RBroken_any (gs ss : List Int) (g s : Value) (i : Nat) (w : World) (g8 : gs.length ≤ 8) (hgn : notesB gs = true) (hsn : notesB ss = true) (hi : i < ss.length) (hig : i < gs.length) (h : IntsV w g gs) (k : IntsV w s ss) :
    Calls Try.prog 85 #[g, s, .int .i64 (i : Int)] w fun e w' => e = .returned (.int .i64 (brokenN gs ss i : Nat)) ∧ ∃ q, w' = w.drewN q := by
  rw [broken_brk]
  obtain ⟨b1, o1, c1, rfl, hg0⟩ := d_cells h (by omega)
  obtain ⟨b2, o2, c2, rfl, hs0⟩ := d_cells k (by omega)
  have m1 := note_at hgn hig
  have m2 := note_at hsn hi
  have m3 := note_at hgn (show i - 1 < gs.length by omega)
  have m4 := note_at hsn (show i - 1 < ss.length by omega)
  have m5 := note_at hsn (show i - 1 - 1 < ss.length by omega)
  have a1 := hg0 i hig
  have a2 := hs0 i hi
  have a3 := hg0 (i - 1) (by omega)
  have a4 := hs0 (i - 1) (by omega)
  have a5 := hs0 (i - 1 - 1) (by omega)
  unfold ivA mvA
  generalize nAt gs i = x at *
  generalize nAt ss i = y at *
  generalize nAt gs (i - 1) = x1 at *
  generalize nAt ss (i - 1) = y1 at *
  generalize nAt ss (i - 1 - 1) = y2 at *
  clear hg0 hs0 h k hgn hsn
  generalize gs.length = Lg at *
  generalize ss.length = Ls at *
  generalize hv : y - x = v
  generalize hrv : v % 7 = rv
  generalize hru : (y1 - x1) % 7 = ru
  generalize hm : y - y1 = m
  generalize ham : absI m = am
  generalize hgm : x - x1 = gm
  generalize hp : y1 - y2 = p
  by_cases n1 : v < 0 ∨ 14 < v
  · exact RBr_1 i Lg Ls x y x1 y1 y2 v rv ru m am p gm b1 o1 c1 b2 o2 c2 w hi hig g8 m1 m2 m3 m4 m5 a1 a2 a3 a4 a5 hv hrv hru hm ham hgm hp n1
  by_cases n2 : ¬ (rv = 0 ∨ rv = 4) ∧ rv ≠ 2 ∧ rv ≠ 5
  · exact RBr_2 i Lg Ls x y x1 y1 y2 v rv ru m am p gm b1 o1 c1 b2 o2 c2 w hi hig g8 m1 m2 m3 m4 m5 a1 a2 a3 a4 a5 hv hrv hru hm ham hgm hp ⟨n1, n2⟩
  by_cases n3 : (i + 1 = Lg ∧ rv ≠ 0) ∨ (i = 0 ∧ rv ≠ 0 ∧ rv ≠ 4)
  · exact RBr_3 i Lg Ls x y x1 y1 y2 v rv ru m am p gm b1 o1 c1 b2 o2 c2 w hi hig g8 m1 m2 m3 m4 m5 a1 a2 a3 a4 a5 hv hrv hru hm ham hgm hp ⟨n1, n2, n3⟩
  by_cases n0 : i = 0
  · exact RBr_0 i Lg Ls x y x1 y1 y2 v rv ru m am p gm b1 o1 c1 b2 o2 c2 w hi hig g8 m1 m2 m3 m4 m5 a1 a2 a3 a4 a5 hv hrv hru hm ham hgm hp ⟨n1, n2, n3, n0⟩
  by_cases n4 : 4 < am ∧ am ≠ 7
  · exact RBr_4 i Lg Ls x y x1 y1 y2 v rv ru m am p gm b1 o1 c1 b2 o2 c2 w hi hig g8 m1 m2 m3 m4 m5 a1 a2 a3 a4 a5 hv hrv hru hm ham hgm hp ⟨n1, n2, n3, n0, n4⟩
  have ne : (¬ (v < 0 ∨ 14 < v)) ∧ (¬ (¬ (rv = 0 ∨ rv = 4) ∧ rv ≠ 2 ∧ rv ≠ 5)) ∧ (¬ ((i + 1 = Lg ∧ rv ≠ 0) ∨ (i = 0 ∧ rv ≠ 0 ∧ rv ≠ 4))) ∧ (¬ (i = 0)) ∧ (¬ (4 < am ∧ am ≠ 7)) := ⟨n1, n2, n3, n0, n4⟩
  by_cases n5 : (ru = 0 ∨ ru = 4) ∧ (rv = 0 ∨ rv = 4) ∧ ru = rv ∧ m ≠ 0
  · exact RBr_5 i Lg Ls x y x1 y1 y2 v rv ru m am p gm b1 o1 c1 b2 o2 c2 w hi hig g8 m1 m2 m3 m4 m5 a1 a2 a3 a4 a5 hv hrv hru hm ham hgm hp ⟨ne, n5⟩
  by_cases n6 : (rv = 0 ∨ rv = 4) ∧ ((0 < m ∧ 0 < gm) ∨ (m < 0 ∧ gm < 0)) ∧ am ≠ 1
  · exact RBr_6 i Lg Ls x y x1 y1 y2 v rv ru m am p gm b1 o1 c1 b2 o2 c2 w hi hig g8 m1 m2 m3 m4 m5 a1 a2 a3 a4 a5 hv hrv hru hm ham hgm hp ⟨ne, n5, n6⟩
  have nb : ((¬ (v < 0 ∨ 14 < v)) ∧ (¬ (¬ (rv = 0 ∨ rv = 4) ∧ rv ≠ 2 ∧ rv ≠ 5)) ∧ (¬ ((i + 1 = Lg ∧ rv ≠ 0) ∨ (i = 0 ∧ rv ≠ 0 ∧ rv ≠ 4))) ∧ (¬ (i = 0)) ∧ (¬ (4 < am ∧ am ≠ 7))) ∧ (¬ ((ru = 0 ∨ ru = 4) ∧ (rv = 0 ∨ rv = 4) ∧ ru = rv ∧ m ≠ 0)) ∧ (¬ ((rv = 0 ∨ rv = 4) ∧ ((0 < m ∧ 0 < gm) ∨ (m < 0 ∧ gm < 0)) ∧ am ≠ 1)) := ⟨ne, n5, n6⟩
  by_cases n9 : i = 1
  · exact RBr_9 i Lg Ls x y x1 y1 y2 v rv ru m am p gm b1 o1 c1 b2 o2 c2 w hi hig g8 m1 m2 m3 m4 m5 a1 a2 a3 a4 a5 hv hrv hru hm ham hgm hp ⟨nb, n9⟩
  by_cases no : rv = 0 ∨ rv = 4
  · by_cases n7 : (2 < p ∧ m ≠ -1 ∧ m ≠ -2) ∨ (p < -2 ∧ m ≠ 1 ∧ m ≠ 2)
    · exact RBr_7a i Lg Ls x y x1 y1 y2 v rv ru m am p gm b1 o1 c1 b2 o2 c2 w hi hig g8 m1 m2 m3 m4 m5 a1 a2 a3 a4 a5 hv hrv hru hm ham hgm hp ⟨nb, n9, n7, no⟩
    have n8 : (((¬ (v < 0 ∨ 14 < v)) ∧ (¬ (¬ (rv = 0 ∨ rv = 4) ∧ rv ≠ 2 ∧ rv ≠ 5)) ∧ (¬ ((i + 1 = Lg ∧ rv ≠ 0) ∨ (i = 0 ∧ rv ≠ 0 ∧ rv ≠ 4))) ∧ (¬ (i = 0)) ∧ (¬ (4 < am ∧ am ≠ 7))) ∧ (¬ ((ru = 0 ∨ ru = 4) ∧ (rv = 0 ∨ rv = 4) ∧ ru = rv ∧ m ≠ 0)) ∧ (¬ ((rv = 0 ∨ rv = 4) ∧ ((0 < m ∧ 0 < gm) ∨ (m < 0 ∧ gm < 0)) ∧ am ≠ 1))) ∧ (¬ (i = 1)) ∧ (¬ ((2 < p ∧ m ≠ -1 ∧ m ≠ -2) ∨ (p < -2 ∧ m ≠ 1 ∧ m ≠ 2))) := ⟨nb, n9, n7⟩
    by_cases k1 : 2 < p
    · exact RBr_8a i Lg Ls x y x1 y1 y2 v rv ru m am p gm b1 o1 c1 b2 o2 c2 w hi hig g8 m1 m2 m3 m4 m5 a1 a2 a3 a4 a5 hv hrv hru hm ham hgm hp ⟨n8, no, k1⟩
    by_cases k2 : p < -2
    · exact RBr_8b i Lg Ls x y x1 y1 y2 v rv ru m am p gm b1 o1 c1 b2 o2 c2 w hi hig g8 m1 m2 m3 m4 m5 a1 a2 a3 a4 a5 hv hrv hru hm ham hgm hp ⟨n8, no, k2⟩
    exact RBr_8c i Lg Ls x y x1 y1 y2 v rv ru m am p gm b1 o1 c1 b2 o2 c2 w hi hig g8 m1 m2 m3 m4 m5 a1 a2 a3 a4 a5 hv hrv hru hm ham hgm hp ⟨n8, no, by omega, by omega⟩
  · by_cases n7 : (2 < p ∧ m ≠ -1 ∧ m ≠ -2) ∨ (p < -2 ∧ m ≠ 1 ∧ m ≠ 2)
    · exact RBr_7b i Lg Ls x y x1 y1 y2 v rv ru m am p gm b1 o1 c1 b2 o2 c2 w hi hig g8 m1 m2 m3 m4 m5 a1 a2 a3 a4 a5 hv hrv hru hm ham hgm hp ⟨nb, n9, n7, no⟩
    have n8 : (((¬ (v < 0 ∨ 14 < v)) ∧ (¬ (¬ (rv = 0 ∨ rv = 4) ∧ rv ≠ 2 ∧ rv ≠ 5)) ∧ (¬ ((i + 1 = Lg ∧ rv ≠ 0) ∨ (i = 0 ∧ rv ≠ 0 ∧ rv ≠ 4))) ∧ (¬ (i = 0)) ∧ (¬ (4 < am ∧ am ≠ 7))) ∧ (¬ ((ru = 0 ∨ ru = 4) ∧ (rv = 0 ∨ rv = 4) ∧ ru = rv ∧ m ≠ 0)) ∧ (¬ ((rv = 0 ∨ rv = 4) ∧ ((0 < m ∧ 0 < gm) ∨ (m < 0 ∧ gm < 0)) ∧ am ≠ 1))) ∧ (¬ (i = 1)) ∧ (¬ ((2 < p ∧ m ≠ -1 ∧ m ≠ -2) ∨ (p < -2 ∧ m ≠ 1 ∧ m ≠ 2))) := ⟨nb, n9, n7⟩
    exact RBr_8d i Lg Ls x y x1 y1 y2 v rv ru m am p gm b1 o1 c1 b2 o2 c2 w hi hig g8 m1 m2 m3 m4 m5 a1 a2 a3 a4 a5 hv hrv hru hm ham hgm hp ⟨n8, no⟩
end Go.Proofs.Ytlmfmfbnbbooaaa

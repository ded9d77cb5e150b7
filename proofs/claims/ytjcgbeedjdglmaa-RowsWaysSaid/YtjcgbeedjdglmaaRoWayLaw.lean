/-
  The statement on Way.
-/
import Derived.Test.YtjcgbeedjdglmaaRoWay3
import Derived.Test.YtjcgbeedjdglmaaRoPair
namespace Go.Proofs.Ytjcgbeedjdglmaa
open Go.ChangeShapes Go.WideShapes Go.ChangeAt Go.RowKit
set_option maxRecDepth 100000

set_option maxHeartbeats 4000000 in
theorem RowsWays_walk (xs zs : List Int) (v u : Value) (w : World) (hl : xs.length ≤ maxLen) (h : IntsV w v xs) (hm : zs.length ≤ maxLen) (k : IntsV w u zs) :
    Calls Try.prog 5 #[v, u] w fun e w' => e = .returned (.bool true) ∧ Below w.heap.size w w' := by
  have HAw := Lib.hid (fun W => awake_any W)
  have HL := Lib.hid (fun W hW => list_any xs v W hl hW)
  have HM := Lib.hid (fun W hW => list_any zs u W hm hW)
  have HRx := Lib.hid (fun W hW => RRow_any xs v W hl hW)
  have HRz := Lib.hid (fun W hW => RRow_any zs u W hm hW)
  have H := Lib.hid h
  have K := Lib.hid k
  obtain ⟨ao, cap, hv, _⟩ := h
  obtain ⟨bo, cap', hu, _⟩ := k
  by_cases hg : rowB xs = true ∧ rowB zs = true ∧ xs.length = zs.length
  · obtain ⟨hr, hs, hlen⟩ := hg
    obtain ⟨ys, rfl, hR⟩ := row_nat hr
    obtain ⟨bs, rfl, hS⟩ := row_nat hs
    rw [natI_length, natI_length] at hlen
    rw [natI_length] at hv hu
    rw [row_take13 hR] at HL
    rw [row_take13 hS] at HM
    rw [hr] at HRx
    rw [hs] at HRz
    rw [← hlen] at hS hu
    have HW := Lib.hid (fun a b W ha hb => Way_ok _ ys bs hR hS a b W ha hb)
    have HRW := Lib.hid (fun a b W ha hb => RWay_any _ ys bs hR hS a b W ha hb)
    obtain ⟨a, b, c, e⟩ := wayV_ex ys.length (wayT ys.length ys bs)
    rw [e] at HW HRW
    clear hr hs hl hm hR hS hlen e
    generalize natI ys = xs at *
    generalize natI bs = zs at *
    generalize ys.length = n at *
    subst hv hu
    go_enter Try.func5, Try.ntmps5
    go_wp2_with fail
    refine (HL.out _ H.out).mono ?_
    rintro e w1 ⟨v1, rfl, i1, b1⟩
    have I1 := Lib.hid i1
    have K1 := Lib.hid (K.out.later b1)
    have B1 := Lib.hid b1
    clear i1 b1
    go_wp2_with fail
    refine (HM.out _ K1.out).mono ?_
    rintro e w2 ⟨v2, rfl, i2, b2⟩
    have J2 := Lib.hid (HW.out v1 v2 w2 (I1.out.later b2) i2)
    have B2 := Lib.hid (below_nx B1.out b2)
    clear i2 b2
    go_wp2_with fail
    refine J2.out.mono ?_
    rintro e w3 ⟨rfl, b3⟩
    have B3 := Lib.hid (below_nx B2.out b3)
    clear b3
    obtain ⟨w4, hw4⟩ : ∃ w4, w3.alloc (.cells #[.int .i64 a, .int .i64 b] 42) = w4 := ⟨_, rfl⟩
    have R4 : Row w4 w3.heap.size 42 [.int .i64 a, .int .i64 b] := by rw [← hw4]; exact Row.new w3 _ _
    have B4 := Lib.hid (show Below w.heap.size w w4 by rw [← hw4]; exact B3.out.alloc B3.out.size _)
    have H4 := Lib.hid (H.out.later B4.out)
    have K4 := Lib.hid (K.out.later B4.out)
    have HW4 := Lib.hid hw4
    have HR4 := Lib.hid R4
    clear hw4 R4
    go_wp2_with fail
    rw [HW4.out]
    refine (HRx.out _ H4.out).mono ?_
    rintro e w5 ⟨rfl, rfl⟩
    go_wp2_with fail
    refine (HRz.out _ K4.out).mono ?_
    rintro e w5 ⟨rfl, rfl⟩
    go_wp2_with fail
    refine (HRW.out _ _ _ H4.out K4.out).mono ?_
    rintro e w5 ⟨rfl, b5⟩
    have B5 := Lib.hid (below_nx B4.out b5)
    have R5 := HR4.out.later b5
    have R5' := R5.alloc (.cells #[.int .i64 a, .int .i64 b] 42)
    have c0 : (w5.alloc (.cells #[.int .i64 a, .int .i64 b] 42)).cell? ⟨w3.heap.size, 0, none⟩ = some (.int .i64 a) := R5'.cell 0
    have c1 : (w5.alloc (.cells #[.int .i64 a, .int .i64 b] 42)).cell? ⟨w3.heap.size, 1, none⟩ = some (.int .i64 b) := R5'.cell 1
    clear b5 R5 R5'
    have hpe := fun W => pairEq10 a b a b W
    rw [decide_eq_true (show a = a ∧ b = b from ⟨rfl, rfl⟩)] at hpe
    have B6 := Lib.hid (B5.out.alloc B5.out.size (.cells #[.int .i64 a, .int .i64 b] 42))
    go_wp2_with fail
    refine (HAw.out _).mono ?_
    rintro e w6 ⟨rfl, b6⟩
    go_wp2
    go_ret
    exact ⟨rfl, below_nx B6.out b6⟩
  · have hb : rowB (xs.take 13) = false ∨ rowB (zs.take 13) = false ∨ (xs.take 13).length ≠ (zs.take 13).length := by
      rw [row_take, row_take]
      cases h1 : rowB xs
      · left; rfl
      · cases h2 : rowB zs
        · right; left; rfl
        · right; right
          have l1 := row_len10 h1
          have l2 := row_len10 h2
          rw [List.length_take, List.length_take]
          intro e
          exact hg ⟨h1, h2, by omega⟩
    have HW := Lib.hid (fun a b W ha hb' => Way_bad (xs.take 13) (zs.take 13) (take_len xs) (take_len zs) hb a b W ha hb')
    have hpe := fun W => pairEq10 0 0 0 0 W
    rw [decide_eq_true (show (0 : Int) = 0 ∧ (0 : Int) = 0 from ⟨rfl, rfl⟩)] at hpe
    have HG := Lib.hid hg
    have hx63 : xs.length ≤ 9223372036854775807 := by unfold maxLen at hl; omega
    have hz63 : zs.length ≤ 9223372036854775807 := by unfold maxLen at hm; omega
    clear hb hg hl hm
    subst hv hu
    go_enter Try.func5, Try.ntmps5
    go_wp2_with fail
    refine (HL.out _ H.out).mono ?_
    rintro e w1 ⟨v1, rfl, i1, b1⟩
    have I1 := Lib.hid i1
    have K1 := Lib.hid (K.out.later b1)
    have B1 := Lib.hid b1
    clear i1 b1
    go_wp2_with fail
    refine (HM.out _ K1.out).mono ?_
    rintro e w2 ⟨v2, rfl, i2, b2⟩
    have J2 := Lib.hid (HW.out v1 v2 w2 (I1.out.later b2) i2)
    have B2 := Lib.hid (below_nx B1.out b2)
    clear i2 b2
    go_wp2_with fail
    refine J2.out.mono ?_
    rintro e w3 ⟨rfl, b3⟩
    have B3 := Lib.hid (below_nx B2.out b3)
    clear b3
    obtain ⟨w4, hw4⟩ : ∃ w4, w3.alloc (.cells #[.int .i64 0, .int .i64 0] 42) = w4 := ⟨_, rfl⟩
    have R4 : Row w4 w3.heap.size 42 [.int .i64 0, .int .i64 0] := by rw [← hw4]; exact Row.new w3 _ _
    have B4 := Lib.hid (show Below w.heap.size w w4 by rw [← hw4]; exact B3.out.alloc B3.out.size _)
    have H4 := Lib.hid (H.out.later B4.out)
    have K4 := Lib.hid (K.out.later B4.out)
    have HW4 := Lib.hid hw4
    have c0 : w4.cell? ⟨w3.heap.size, 0, none⟩ = some (.int .i64 0) := R4.cell 0
    have c1 : w4.cell? ⟨w3.heap.size, 1, none⟩ = some (.int .i64 0) := R4.cell 1
    clear hw4 R4
    cases h1 : rowB xs
    · rw [h1] at HRx
      clear h1
      go_wp2_with fail
      rw [HW4.out]
      refine (HRx.out _ H4.out).mono ?_
      rintro e w5 ⟨rfl, rfl⟩
      go_wp2_with fail
      refine (HAw.out _).mono ?_
      rintro e w6 ⟨rfl, b6⟩
      go_wp2
      go_ret
      exact ⟨rfl, below_nx B4.out b6⟩
    · cases h2 : rowB zs
      · rw [h1] at HRx
        rw [h2] at HRz
        clear h1 h2
        go_wp2_with fail
        rw [HW4.out]
        refine (HRx.out _ H4.out).mono ?_
        rintro e w5 ⟨rfl, rfl⟩
        go_wp2_with fail
        refine (HRz.out _ K4.out).mono ?_
        rintro e w5 ⟨rfl, rfl⟩
        go_wp2_with fail
        refine (HAw.out _).mono ?_
        rintro e w6 ⟨rfl, b6⟩
        go_wp2
        go_ret
        exact ⟨rfl, below_nx B4.out b6⟩
      · have q : ((xs.length : Int) != (zs.length : Int)) = true := by
          rw [bne_iff_ne]
          intro e
          exact HG.out ⟨h1, h2, by omega⟩
        rw [h1] at HRx
        rw [h2] at HRz
        clear h1 h2
        go_wp2_with fail
        rw [HW4.out]
        refine (HRx.out _ H4.out).mono ?_
        rintro e w5 ⟨rfl, rfl⟩
        go_wp2_with fail
        refine (HRz.out _ K4.out).mono ?_
        rintro e w5 ⟨rfl, rfl⟩
        go_wp2_with fail
        refine (HAw.out _).mono ?_
        rintro e w6 ⟨rfl, b6⟩
        go_wp2
        go_ret
        exact ⟨rfl, below_nx B4.out b6⟩
end Go.Proofs.Ytjcgbeedjdglmaa

/-
  The statement on With.
-/
import Derived.Test.YtjcgbeedjdglmaaRoWith2
import Derived.Test.YtjcgbeedjdglmaaRoPair
namespace Go.Proofs.Ytjcgbeedjdglmaa
open Go.ChangeShapes Go.WideShapes Go.ChangeAt Go.RowKit
set_option maxRecDepth 100000

theorem pairs_at : ∀ (L : List (Nat × Nat)) (i : Nat), i < L.length → (pairsV L)[i * 2]? = some (.int .i64 (((L[i]?.getD (0, 0)).1 : Nat) : Int)) ∧ (pairsV L)[i * 2 + 1]? = some (.int .i64 (((L[i]?.getD (0, 0)).2 : Nat) : Int))
  | [], i, h => (Nat.not_lt_zero _ h).elim
  | p :: L, 0, _ => ⟨rfl, rfl⟩
  | p :: L, i + 1, h => by
    have h1 := pairs_at L i (by simpa using h)
    rw [show pairsV (p :: L) = .int .i64 (p.1 : Int) :: .int .i64 (p.2 : Int) :: pairsV L from rfl, show (i + 1) * 2 = i * 2 + 1 + 1 by omega, List.getElem?_cons_succ, List.getElem?_cons_succ, List.getElem?_cons_succ, List.getElem?_cons_succ, List.getElem?_cons_succ]
    exact h1

/-- A slice of pairs. -/
def PairsAt (W : World) (v : Value) (L : List (Nat × Nat)) : Prop :=
  ∃ (ao : Option Addr) (cap : Nat), v = .slice ao L.length cap ∧ (0 < L.length → ∃ g, ao = some ⟨g, 0, none⟩ ∧ ∀ i, i < L.length → W.cell? ⟨g, i * 2, none⟩ = some (.int .i64 (((L[i]?.getD (0, 0)).1 : Nat) : Int)) ∧ W.cell? ⟨g, i * 2 + 1, none⟩ = some (.int .i64 (((L[i]?.getD (0, 0)).2 : Nat) : Int)))

theorem PairsAt.of_own {W : World} {base : Nat} {e : TypeId} {v : Value} {L : List (Nat × Nat)} (h : W.ownsRow base e 2 v L.length (pairsV L)) : PairsAt W v L := by
  obtain ⟨_, ⟨rfl, h0⟩ | ⟨g, cap, cur, rfl, _, hg, _, _, _, ht⟩⟩ := h
  · exact ⟨none, 0, by rw [h0], fun h => by omega⟩
  · refine ⟨_, cap, rfl, fun _ => ⟨g, rfl, fun i hi => ?_⟩⟩
    have hc : ∀ j, j < L.length * 2 → W.cell? ⟨g, j, none⟩ = (pairsV L)[j]? := fun j hj => by
      rw [← ht, List.getElem?_take_of_lt hj]
      simp [World.cell?, hg]
    obtain ⟨h1, h2⟩ := pairs_at L i hi
    exact ⟨(hc _ (by omega)).trans h1, (hc _ (by omega)).trans h2⟩
theorem PairsAt.later {W W' : World} {v : Value} {L : List (Nat × Nat)} (h : PairsAt W v L) (hb : Below W.heap.size W W') : PairsAt W' v L := by
  obtain ⟨ao, cap, rfl, hc⟩ := h
  refine ⟨ao, cap, rfl, fun h0 => ?_⟩
  obtain ⟨g, e, hd⟩ := hc h0
  exact ⟨g, e, fun i hi => ⟨cell_later hb (hd i hi).1, cell_later hb (hd i hi).2⟩⟩

set_option maxHeartbeats 2000000 in
theorem EqPair_any (L : List (Nat × Nat)) (hl : L.length ≤ 64) (v u : Value) (w : World) (h : PairsAt w v L) (k : PairsAt w u L) :
    Calls Try.prog 47 #[v, u] w fun e w' => e = .returned (.bool true) ∧ ∃ q, w' = w.drewN q := by
  obtain ⟨ao, cap, rfl, hc⟩ := h
  obtain ⟨bo, cap', rfl, hd⟩ := k
  have hmx : Try.prog.follows .mixedOrders = true := by kernel_rfl
  have hlen : L.length ≤ maxLen := by unfold maxLen; omega
  have hgt := pairGuard
  have hpe : ∀ (a b : Int) (W : World), (Op.equalIn 10000 42 (.agg #[.int .i64 a, .int .i64 b]) (.agg #[.int .i64 a, .int .i64 b])).run Try.prog W = .ok true W := fun a b W => by rw [pairEq10]; simp
  have HC := Lib.hid hc
  have HD := Lib.hid hd
  clear hc hd
  generalize hL : L.length = n at *
  go_enter Try.func47, Try.ntmps47
  go_wp2
  go_loopw [13] (fun i wr => ∃ (k q : Nat), k ≤ n ∧ i = .int .i64 k ∧ wr = w.drewN q) (fun i _ => n - (intOf i).toNat)
  case atStart => exact ⟨0, 0, Nat.zero_le _, rfl, rfl⟩
  case round =>
    obtain ⟨k, q, hk, rfl, rfl⟩ := hrel
    by_cases hkn : k < n
    · obtain ⟨g, rfl, h1⟩ := HC.out (by omega)
      obtain ⟨g', rfl, h2⟩ := HD.out (by omega)
      obtain ⟨a1, a2⟩ := h1 k hkn
      obtain ⟨b1, b2⟩ := h2 k hkn
      generalize (L[k]?.getD (0, 0)).1 = x at *
      generalize (L[k]?.getD (0, 0)).2 = y at *
      have hpe2 := hpe (x : Int) (y : Int)
      have k0 : (0 : Int) ≤ (k : Int) := by omega
      have k1 : (k : Int) < (n : Int) := by omega
      have c1 : (w.drewN q).cell? ⟨g, k * 2, none⟩ = some (.int .i64 (x : Int)) := a1
      have c2 : (w.drewN q).cell? ⟨g, k * 2 + 1, none⟩ = some (.int .i64 (y : Int)) := a2
      have c3 : (w.drewN q).cell? ⟨g', k * 2, none⟩ = some (.int .i64 (x : Int)) := b1
      have c4 : (w.drewN q).cell? ⟨g', k * 2 + 1, none⟩ = some (.int .i64 (y : Int)) := b2
      clear h1 h2 a1 a2 b1 b2 hpe
      obtain ⟨wq, hwq⟩ : ∃ wq, w.drewN q = wq := ⟨_, rfl⟩
      rw [hwq] at c1 c2 c3 c4 ⊢
      have HQ := Lib.hid hwq
      clear hwq
      go_wp2
      go_quiet (fail)
      go_wp2
      go_roundw
      case rel => exact ⟨k + 1, q + nq, by omega, by go_num, by rw [← HQ.out]; simp [World.drewN, Nat.add_assoc]⟩
      case measure => simp only [intOf]; omega
    · obtain rfl : k = n := by omega
      go_wp2
      go_ret
      exact ⟨rfl, q, rfl⟩

set_option maxHeartbeats 4000000 in
theorem RowsWith_walk (xs : List Int) (v : Value) (w : World) (hl : xs.length ≤ maxLen) (h : IntsV w v xs) :
    Calls Try.prog 9 #[v] w fun e w' => e = .returned (.bool true) ∧ Below w.heap.size w w' := by
  have HAw := Lib.hid (fun W => awake_any W)
  have HL := Lib.hid (fun W hW => list_any xs v W hl hW)
  have HRo := Lib.hid (fun W hW => RRow_any xs v W hl hW)
  have H := Lib.hid h
  obtain ⟨ao, cap, hv, _⟩ := h
  cases hr : rowB xs
  · have HF := Lib.hid (fun u W hu => With_bad (xs.take 13) (take_len xs) (by rw [row_take]; exact hr) u W hu)
    rw [hr] at HRo
    clear hr
    subst hv
    go_enter Try.func9, Try.ntmps9
    go_wp2_with fail
    refine (HL.out _ H.out).mono ?_
    rintro e w1 ⟨v1, rfl, i1, b1⟩
    have J1 := Lib.hid (HF.out v1 w1 i1)
    clear i1
    go_wp2_with fail
    refine J1.out.mono ?_
    rintro e w2 ⟨rfl, b2⟩
    have B2 := Lib.hid (below_nx b1 b2)
    have K2 := Lib.hid (H.out.later B2.out)
    clear b1 b2
    go_wp2_with fail
    refine (HRo.out _ K2.out).mono ?_
    rintro e w3 ⟨rfl, rfl⟩
    go_wp2_with fail
    refine (HAw.out _).mono ?_
    rintro e w5 ⟨rfl, b5⟩
    go_wp2
    go_ret
    exact ⟨rfl, below_nx B2.out b5⟩
  · obtain ⟨ys, rfl, hR⟩ := row_nat hr
    rw [row_take13 hR] at HL
    rw [hr] at HRo
    rw [natI_length] at hv
    by_cases ho : ys.length % 2 = 1
    · have HF := Lib.hid (fun u W hu => With_odd _ ys hR ho u W hu)
      have hq : (((ys.length : Nat) : Int) % 2 == 1) = true := by rw [beq_iff_eq]; omega
      clear hr hl hR ho
      generalize natI ys = xs at *
      generalize ys.length = n at *
      subst hv
      go_enter Try.func9, Try.ntmps9
      go_wp2_with fail
      refine (HL.out _ H.out).mono ?_
      rintro e w1 ⟨v1, rfl, i1, b1⟩
      have J1 := Lib.hid (HF.out v1 w1 i1)
      clear i1
      go_wp2_with fail
      refine J1.out.mono ?_
      rintro e w2 ⟨rfl, b2⟩
      have B2 := Lib.hid (below_nx b1 b2)
      have K2 := Lib.hid (H.out.later B2.out)
      clear b1 b2
      go_wp2_with fail
      refine (HRo.out _ K2.out).mono ?_
      rintro e w3 ⟨rfl, rfl⟩
      go_wp2_with fail
      refine (HAw.out _).mono ?_
      rintro e w5 ⟨rfl, b5⟩
      go_wp2
      go_ret
      exact ⟨rfl, below_nx B2.out b5⟩
    · have HF := Lib.hid (fun u W hu => With_ok _ ys hR (by omega) u W hu)
      have HRH := Lib.hid (fun u W hu => RWith_any _ ys hR (by omega) u W hu)
      have hq : (((ys.length : Nat) : Int) % 2 == 1) = false := by rw [beq_eq_false_iff_ne]; omega
      have hlw : (withL ys.length ys).length ≤ 64 := by
        have h1 := List.length_filter_le (goesB ys.length ys) (namesL ys.length (4 * ys.length))
        rw [namesL_length] at h1
        have := hR.hi
        unfold withL withN
        omega
      have HEq := Lib.hid (fun a b W ha hb => EqPair_any (withL ys.length ys) hlw a b W ha hb)
      clear hr hl hR hlw ho
      generalize withL ys.length ys = hs at *
      generalize natI ys = xs at *
      generalize ys.length = n at *
      subst hv
      go_enter Try.func9, Try.ntmps9
      go_wp2_with fail
      refine (HL.out _ H.out).mono ?_
      rintro e w1 ⟨v1, rfl, i1, b1⟩
      have J1 := Lib.hid (HF.out v1 w1 i1)
      clear i1
      go_wp2_with fail
      refine J1.out.mono ?_
      rintro e w2 ⟨v2, rfl, i2, b2⟩
      have B2 := Lib.hid (below_nx b1 b2)
      have I2 := Lib.hid (PairsAt.of_own i2)
      have K2 := Lib.hid (H.out.later B2.out)
      clear b1 b2 i2
      go_wp2_with fail
      refine (HRo.out _ K2.out).mono ?_
      rintro e w3 ⟨rfl, rfl⟩
      go_wp2_with fail
      refine (HRH.out _ _ K2.out).mono ?_
      rintro e w5 ⟨v5, rfl, i5, b5⟩
      have J5 := Lib.hid (HEq.out _ _ _ (I2.out.later b5) (PairsAt.of_own i5))
      have B5 := Lib.hid (below_nx B2.out b5)
      clear i5 b5
      go_wp2_with fail
      refine J5.out.mono ?_
      rintro e w6 ⟨rfl, q, rfl⟩
      have B6 := Lib.hid (below_drewN B5.out q)
      generalize w5.drewN q = w6 at *
      go_wp2_with fail
      refine (HAw.out _).mono ?_
      rintro e w7 ⟨rfl, b7⟩
      go_wp2
      go_ret
      exact ⟨rfl, below_nx B6.out b7⟩
end Go.Proofs.Ytjcgbeedjdglmaa

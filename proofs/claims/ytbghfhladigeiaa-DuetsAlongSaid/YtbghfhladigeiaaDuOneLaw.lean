/-
  The statement on parts of one note.
-/
import Derived.Test.YtbghfhladigeiaaDuNext
import Derived.Test.YtbghfhladigeiaaDuLiftsLaw
namespace Go.Proofs.Ytbghfhladigeiaa
open Go.ChangeShapes Go.WideShapes Go.ChangeAt Go.RowKit
set_option maxRecDepth 100000

/-- The number in a value. -/
def valI : Value → Int
  | .int _ x => x
  | _ => 0
/-- The notes that may lie above one. -/
def wantL (k : Nat) : List Int := ((List.range 3).map fun i => ((k + 7 * i : Nat) : Int)).filter fun x => decide (x ≤ 20)
theorem one_all : ∀ k : Nat, k < 21 → dpartB [(k : Int)] = true ∧ (rightL [(k : Int)]).length = (wantL k).length ∧ (rightL [(k : Int)]).head? = some [(k : Int)] ∧ ((nextL [(k : Int)] []).map fun (x : Nat) => (x : Int)) = wantL k := by decide +kernel

theorem want_all : ∀ k : Nat, k < 21 → (1 ≤ (wantL k).length ∧ (wantL k).length ≤ 3) ∧ ∀ j : Nat, j < 4 → ((j < (wantL k).length → (wantL k).take (j + 1) = (wantL k).take j ++ [((k + 7 * j : Nat) : Int)]) ∧ (j ≤ (wantL k).length → (j < (wantL k).length ↔ k + 7 * j ≤ min 20 (k + 14)))) := by decide +kernel
theorem u64_nn (x : Int) : 0 ≤ IntKind.u64.wrap x := by
  unfold IntKind.wrap
  simp [IntKind.bits, IntKind.signed]
  omega

set_option maxHeartbeats 4000000 in
theorem DuetsOne_walk (n : Int) (w : World) (wk : (Lit.int .i64 n).wf = true) :
    Calls Try.prog 14 #[.int .i64 n] w fun e w' => e = .returned (.bool true) ∧ Below w.heap.size w w' := by
  have HAw := Lib.hid (fun W => dawake_any W)
  obtain ⟨k, hk, hke⟩ : ∃ k : Nat, k < 21 ∧ wrap64 ((IntKind.u64.wrap n).tmod 21) = k := by
    have h0 : 0 ≤ IntKind.u64.wrap n := u64_nn n
    have h1 := Int.tmod_lt_of_pos (IntKind.u64.wrap n) (show (0 : Int) < 21 by omega)
    have h2 := Int.tmod_nonneg 21 h0
    refine ⟨((IntKind.u64.wrap n).tmod 21).toNat, by omega, ?_⟩
    rw [IntWalk.wrap64_in _ (by omega)]
    omega
  obtain ⟨o1, o2, o3, o4⟩ := one_all k hk
  obtain ⟨m1, m2⟩ := want_all k hk
  obtain ⟨rest, hrest⟩ : ∃ rest, rightL [(k : Int)] = [(k : Int)] :: rest := by
    cases e : rightL [(k : Int)] with
    | nil => rw [e] at o3; cases o3
    | cons a r => rw [e] at o3; exact ⟨r, by simpa using o3⟩
  have HC := Lib.hid (fun u W hu => Count_ok [(k : Int)] u W o1 hu)
  rw [o2] at HC
  have HF := Lib.hid (fun u W hu => First_ok [(k : Int)] [(k : Int)] rest u W o1 hrest hu)
  have HN := Lib.hid (fun u W hu => Next_ok [(k : Int)] [] u (.slice none 0 0) W o1 rfl (by simp) rfl hu (IntsV.nilD W))
  rw [o4] at HN
  have HQ1 := Lib.hid (fun a b W ha hb => Equal_any [(k : Int)] [(k : Int)] a b W (by unfold maxLen; simp) (by unfold maxLen; simp) ha hb)
  rw [show (([(k : Int)] : List Int) == [(k : Int)]) = true from beq_self_eq_true _] at HQ1
  have HQ2 := Lib.hid (fun a b W ha hb => Equal_any (wantL k) (wantL k) a b W (by unfold maxLen; omega) (by unfold maxLen; omega) ha hb)
  rw [show (wantL k == wantL k) = true from beq_self_eq_true _] at HQ2
  have HM := Lib.hid m2
  have HOne := Lib.hid (fun W => IntsV.oneD W (k : Int))
  obtain ⟨L, hL⟩ : ∃ L, (wantL k).length = L := ⟨_, rfl⟩
  rw [hL] at HC HM m1
  have HL := Lib.hid hL
  obtain ⟨i0, hi, hz0, hz1, hz2⟩ := info_partsD info_intD
  clear wk o1 o2 o3 o4 hrest m2 hL
  go_enter Try.func14, Try.ntmps14
  go_wp2_with fail
  rw [hke]
  refine (HC.out _ _ (HOne.out _)).mono ?_
  rintro e w1 ⟨rfl, b1⟩
  have B1 := Lib.hid (below_nx ((Below.refl w.heap.size w).alloc (Nat.le_refl _) _) b1)
  clear b1
  go_wp2_with fail
  refine (HF.out _ _ (HOne.out _)).mono ?_
  rintro e w2 ⟨v2, rfl, i2, b2⟩
  have B2 := Lib.hid (below_nx (B1.out.alloc B1.out.size _) b2)
  have I2 := Lib.hid i2
  clear b2 i2
  go_wp2_with fail
  refine (HN.out _ _ (HOne.out _)).mono ?_
  rintro e w3 ⟨v3, rfl, i3, b3⟩
  have B3 := Lib.hid (below_nx (B2.out.alloc B2.out.size _) b3)
  have I23 := Lib.hid ((I2.out.later ((Below.refl _ w2).alloc (Nat.le_refl _) (.cells #[.int .i64 (k : Int)] 3))).later b3)
  have I3 := Lib.hid i3
  clear b3 i3
  go_wp2_with fail
  obtain ⟨B, hB⟩ : ∃ B, w3.heap.size = B := ⟨_, rfl⟩
  have HB := Lib.hid hB
  clear hB
  go_loopw [9, 10, 34] (fun o t _ wr => ∃ j : Nat, j ≤ L ∧ t = .int .i64 ((k + 7 * j : Nat) : Int) ∧ wr.ownsRow B 3 1 o j (ivals ((wantL k).take j)) ∧ Below B w3 wr) (fun _ t _ _ => 100 - (valI t).toNat)
  case atStart => exact ⟨0, Nat.zero_le _, by simp, World.ownsRow_nil _ _ _ _, by rw [← HB.out]; exact Below.refl _ _⟩
  case round =>
    obtain ⟨j, hj, rfl, hown, hb⟩ := hrel
    obtain ⟨n1, n2⟩ := HM.out j (by omega)
    have n2 := n2 hj
    have HO := Lib.hid hown
    have HBe := Lib.hid hb
    have hsz : B ≤ wr.heap.size := by have h1 := hb.size; have h2 := HB.out; omega
    clear hown hb
    by_cases hlt : j < L
    · have n1 := n1 hlt
      have HN1 := Lib.hid n1
      have n2 := n2.1 hlt
      clear n1
      obtain ⟨y, hy⟩ : ∃ y, k + 7 * j = y := ⟨_, rfl⟩
      rw [hy] at n2 HN1 ⊢
      have HY := Lib.hid hy
      clear hy
      have hj3 : j < 3 := by omega
      go_wp2_with (at_builtin; refine wpList_append_own_at _ rfl _ _ 22 rfl B 3 i0 (.int .i64 0) 1 8 Try.underlying22 hi hz0 hz1 hz2 rfl (by decide) _ _ _ rfl (HO.out.alloc _) ⟨wr.heap.size, 0, none⟩ 1 1 [.int .i64 (y : Int)] rfl rfl (cell_one_new _ _ _) (by simp [Value.oneCell']) (by unfold maxLen; omega) (by omega) (by simp; omega) ?_; intro v' w4 hown' hgrow _ hob; obtain ⟨g', cap', rfl⟩ := ownsRow_succ hown'; have HOW := Lib.hid hown'; have HB2 := Lib.hid ((HBe.out.alloc hsz _).grown hgrow (Nat.le_trans hsz (by rw [World.size_alloc]; exact Nat.le_succ _)) (fun k e => (HO.out.lt k e).1)); clear hown' hgrow hob)
      go_roundw
      case rel => exact ⟨j + 1, by omega, by have := HY.out; go_num, by rw [HN1.out]; unfold ivals at *; rw [List.map_append]; exact HOW.out, HB2.out⟩
      case measure => simp only [valI]; omega
    · obtain rfl : j = L := by omega
      have n2 : ¬ (k + 7 * j ≤ min 20 (k + 14)) := fun h => by have := n2.2 h; omega
      have HT := Lib.hid (show (wantL k).take j = wantL k from List.take_of_length_le (by rw [HL.out]; exact Nat.le_refl _))
      rw [HT.out] at HO
      have HWant := Lib.hid (IntsV.of_own (by rw [HL.out]; exact HO.out))
      have HBw := Lib.hid (B3.out.trans ((show Below w3.heap.size w3 wr by rw [HB.out]; exact HBe.out).mono B3.out.size))
      have J2 := Lib.hid (I23.out.later (show Below w3.heap.size w3 wr by rw [HB.out]; exact HBe.out))
      have J3 := Lib.hid (I3.out.later (show Below w3.heap.size w3 wr by rw [HB.out]; exact HBe.out))
      obtain ⟨ao, ac, rfl⟩ := own_formD HO.out
      obtain ⟨y, hy⟩ : ∃ y, k + 7 * j = y := ⟨_, rfl⟩
      rw [hy] at n2 ⊢
      clear hy
      have hjj : ((j : Int) == (j : Int)) = true := beq_self_eq_true _
      go_wp2_with fail
      have BA := Lib.hid ((Below.refl _ wr).alloc (Nat.le_refl _) (.cells #[.int .i64 (k : Int)] 3))
      refine (HQ1.out _ _ _ (J2.out.later BA.out) (HOne.out _)).mono ?_
      rintro e w5 ⟨rfl, q, rfl⟩
      have BQ := Lib.hid (below_drewN BA.out q)
      have J3' := Lib.hid (J3.out.later BQ.out)
      have JW' := Lib.hid (HWant.out.later BQ.out)
      have HB5 := Lib.hid (below_nx HBw.out BQ.out)
      clear BA BQ
      generalize (wr.alloc (.cells #[.int .i64 (k : Int)] 3)).drewN q = w5 at *
      go_wp2_with fail
      refine (HQ2.out _ _ _ J3'.out JW'.out).mono ?_
      rintro e w6 ⟨rfl, q2, rfl⟩
      have HB6 := Lib.hid (below_drewN HB5.out q2)
      generalize w5.drewN q2 = w6 at *
      go_wp2_with fail
      refine (HAw.out _).mono ?_
      rintro e w7 ⟨rfl, b7⟩
      go_wp2
      go_ret
      exact ⟨rfl, below_nx HB6.out b7⟩
end Go.Proofs.Ytbghfhladigeiaa

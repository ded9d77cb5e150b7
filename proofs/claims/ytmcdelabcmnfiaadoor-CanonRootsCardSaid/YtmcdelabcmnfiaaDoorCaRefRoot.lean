/-
  The reference's IsRoot and Roots.
-/
import Derived.Test.YtmcdelabcmnfiaaDoorCaRootEq2
namespace Go.Proofs.YtmcdelabcmnfiaaDoor
open Go.RowKit Go.Shelf
attribute [local go_sem] Oper.semAt_some
set_option maxRecDepth 100000

theorem bitF_bd (a j : Nat) : -64 ≤ bitF a j ∧ bitF a j ≤ 64 := by unfold bitF; split <;> omega

set_option maxHeartbeats 1000000 in
theorem RIsRoot_any (n a s : Nat) (h1 : 2 ≤ s) (hn : n ≤ 24) (hsn : s ≤ n) (ha : a < 2 ^ n) (w : World) :
    Calls Tryd.prog 54 #[.int .i64 n, .int .i64 a, .int .i64 s] w fun e w' => e = .returned (.bool (rootB a s)) ∧ Below w.heap.size w w' := by
  have h2 : s ≤ 24 := by omega
  have ha24 : a < 16777216 := Nat.lt_of_lt_of_le ha (Nat.pow_le_pow_right (by omega : 0 < 2) hn)
  obtain ⟨a1, a2, a3, _⟩ := rem_all h1 h2
  obtain ⟨c1, c2, c3, c4, c5⟩ := cyc_all (s := s) (by omega) h2
  have HCy : Hid (∀ V : World, Calls Tryd.prog 81 #[.int .i64 s] V fun e w' => ∃ g cap : Nat, e = .returned (.slice (some ⟨g, 0, none⟩) (cycT s).length cap) ∧ V.heap.size ≤ g ∧ (∀ j, j < (cycT s).length → w'.cell? ⟨g, j, none⟩ = some (.int .i64 (cycF s j))) ∧ Below V.heap.size V w') := Lib.hid (cyclotomic_any s (by omega) h2)
  have HRe := Lib.hid (root_eq (a := a) h1 hn hsn ha)
  have HLc := Lib.hid (show topC s + 1 = (cycT s).length by unfold topC; omega)
  obtain ⟨H, hH⟩ : ∃ H, w.heap.size = H := ⟨_, rfl⟩
  have hHle : H ≤ w.heap.size := by omega
  obtain ⟨W1, hW1⟩ : ∃ W1, w.alloc (.cells (zrow (fun _ => 0) n).toArray 3) = W1 := ⟨_, rfl⟩
  have hB1 : Below H w W1 := by rw [← hW1, ← hH]; exact (Below.refl _ w).alloc (Nat.le_refl _) _
  have hr0 : Row W1 H 3 (zrow (fun _ => 0) n) := by rw [← hW1, ← hH]; exact Row.new w _ _
  have hr1 : RowP W1 H n (fun j => if j < 0 then bitF a j else 0) := (RowP.of_row hr0).congr (fun j hj => by simp)
  have hmk := run_make_zeros n (by omega) w
  rw [hW1, hH] at hmk
  have HR1 := Lib.hid hr1
  have HB1 := Lib.hid hB1
  have HDv : Hid (∀ gC capC (V : World), (∀ j, j < n → V.cell? ⟨H, j, none⟩ = some (.int .i64 (bitF a j))) → (∀ j, j < (cycT s).length → V.cell? ⟨gC, j, none⟩ = some (.int .i64 (cycF s j))) →
      Calls Tryd.prog 80 #[.slice (some ⟨H, 0, none⟩) n n, .slice (some ⟨gC, 0, none⟩) (cycT s).length capC] V fun e w' => (∃ v, e = .returned (.tuple #[v, .bool (rootB a s)])) ∧ Below V.heap.size V w') := Lib.hid (fun gC capC V hf hgc => by
    have := divide_any (bitF a) (cycF s) n (topC s) H gC n capC (by omega) a1 (by omega) (bitF_bd a) c4 V hf (fun j hj => hgc j (by rw [← HLc.out]; exact hj))
    rw [HLc.out] at this
    refine this.mono ?_
    rintro e w' ⟨⟨hz, g', cap', rfl, _, _⟩ | ⟨hz, rfl⟩, hb⟩
    · exact ⟨⟨_, by rw [HRe.out.1 hz]⟩, hb⟩
    · refine ⟨⟨.slice none 0 0, ?_⟩, hb⟩
      cases h : rootB a s
      · rfl
      · exact absurd (HRe.out.2 h) hz)
  clear hW1 hr1 hB1 a1 a2 a3 c1 c2 c3 c4 c5
  rw [hH]
  go_enter Tryd.func54, Tryd.ntmps54
  go_wp2
  clear hmk hH
  go_loopw [15] (fun i wr => ∃ k : Nat, k ≤ n ∧ i = .int .i64 k ∧ RowP wr H n (fun j => if j < k then bitF a j else 0) ∧ Below H w wr) (fun i _ => n - (intOf i).toNat)
  case atStart => exact ⟨0, Nat.zero_le _, rfl, HR1.out, HB1.out⟩
  case round =>
    obtain ⟨k, hk, rfl, hr, hB⟩ := hrel
    by_cases hkl : k < n
    · have hc := hr.cell hkl
      have hfz := hr.frozen k
      have hbit := bit_int a k (by omega)
      have hb : bits .and .i64 ((a : Int) / 2 ^ k) 1 = bitF a k := hbit
      have HPut := Lib.hid (hr.set (G := fun j => if j < k + 1 then bitF a j else 0) (v := bitF a k) hkl (by rw [if_pos (Nat.lt_succ_self _)]) (fun j hj hne => by
        by_cases h : j < k
        · rw [if_pos h, if_pos (by omega)]
        · rw [if_neg h, if_neg (by omega)]))
      have HB := Lib.hid (hB.setCell (p := ⟨H, k, none⟩) (Nat.le_refl H) (.int .i64 (bitF a k)))
      clear hr hB hbit
      generalize bitF a k = x at *
      go_wp2
      go_roundw
      case rel => exact ⟨k + 1, by omega, by go_num, HPut.out, HB.out⟩
      case measure => simp only [intOf]; omega
    · obtain rfl : k = n := by omega
      have hsz : H ≤ wr.heap.size := Nat.le_trans hHle hB.size
      have HC := Lib.hid (fun j (hj : j < k) => (show wr.cell? ⟨H, j, none⟩ = some (.int .i64 (bitF a j)) by rw [hr.cell hj, if_pos hj]))
      have HB := Lib.hid hB
      clear hr hB
      go_wp2_with fail
      refine (HCy.out _).mono ?_
      rintro e w1 ⟨gC, capC, rfl, hgC, hcc, b1⟩
      have HD1 := Lib.hid (HDv.out gC capC w1 (fun j hj => cell_later b1 (HC.out j hj)) hcc)
      have HB1 := Lib.hid (HB.out.trans (b1.mono hsz))
      have hsz1 : H ≤ w1.heap.size := Nat.le_trans hsz b1.size
      clear b1 hcc
      go_wp2_with fail
      refine HD1.out.mono ?_
      rintro e w3 ⟨⟨v, rfl⟩, b3⟩
      have HB3 := Lib.hid (HB1.out.trans (b3.mono hsz1))
      clear b3
      go_wp2
      go_ret
      exact ⟨rfl, HB3.out⟩

theorem RRoots_any (n a : Nat) (h1 : 2 ≤ n) (hn : n ≤ 24) (ha : a < 2 ^ n) (w : World) :
    Calls Tryd.prog 27 #[.int .i64 n, .int .i64 a] w fun e w' => ∃ v, e = .returned v ∧ IntsAt w' w.heap.size v (rootsL n a) ∧ Below w.heap.size w w' := by
  obtain ⟨i0, hi, hz0, hz1, hz2⟩ := info_parts info_intR
  have HR := Lib.hid (fun s (hs : 2 ≤ s) (hs2 : s ≤ n) W => RIsRoot_any n a s hs hn hs2 ha W)
  obtain ⟨H, hH⟩ : ∃ H, w.heap.size = H := ⟨_, rfl⟩
  have hHle : H ≤ w.heap.size := by omega
  have HSu := Lib.hid (rootsTo_succ n a)
  have HLe := Lib.hid (rootsTo_le n a)
  have h20 : rootsTo n a 2 = [] := by
    have e0 : rootsTo n a 0 = [] := rfl
    rw [rootsTo_succ, rootsTo_succ, e0]; simp
  rw [hH]
  clear hH ha
  go_enter Tryd.func27, Tryd.ntmps27
  go_wp2
  go_loopw [5, 6] (fun v i wr => ∃ k : Nat, 2 ≤ k ∧ k ≤ n + 1 ∧ i = .int .i64 k ∧ wr.ownsRow H 3 1 v (rootsTo n a k).length (ints (rootsTo n a k)) ∧ Below H w wr) (fun _ i _ => n + 1 - (intOf i).toNat)
  case atStart => exact ⟨2, Nat.le_refl _, by omega, rfl, by rw [h20]; exact World.ownsRow_nil _ _ _ _, Below.refl _ _⟩
  case round =>
    obtain ⟨k, hk2, hk, rfl, hown, hB⟩ := hrel
    have hsz : H ≤ wr.heap.size := Nat.le_trans hHle hB.size
    clear h20
    by_cases hkl : k < n + 1
    · have hsu := HSu.out k
      have hle := HLe.out k
      have HO := Lib.hid hown
      have HB := Lib.hid hB
      have hkz : ((k : Int) == 0) = false := by rw [beq_eq_false_iff_ne]; omega
      by_cases h0 : n % k = 0
      · have q0 : ((n : Int) % (k : Int) == 0) = true := by rw [beq_iff_eq]; omega
        have HRk := Lib.hid (HR.out k hk2 (by omega) wr)
        cases hr : rootB a k
        · rw [hr] at HRk
          have hs' := Lib.hid (show rootsTo n a (k + 1) = rootsTo n a k by rw [hsu, hr]; simp)
          clear hsu hr h0 hown hB
          go_wp2_with fail
          refine HRk.out.mono ?_
          rintro e w2 ⟨rfl, b2⟩
          go_wp2
          go_roundw
          case rel => exact ⟨k + 1, by omega, by omega, by go_num, by rw [hs'.out]; exact owns_later HO.out b2, HB.out.trans (b2.mono hsz)⟩
          case measure => simp only [intOf]; omega
        · rw [hr] at HRk
          have hs' := Lib.hid (show rootsTo n a (k + 1) = rootsTo n a k ++ [k] by rw [hsu, hr, h0]; simp [hk2])
          clear hsu hr h0 hown hB
          go_wp2_with fail
          refine HRk.out.mono ?_
          rintro e w2 ⟨rfl, b2⟩
          have hO2 := Lib.hid (owns_later HO.out b2)
          have hB2 := Lib.hid (HB.out.trans (b2.mono hsz))
          have hs2 := b2.size
          clear b2
          go_wp2_with (first | (at_builtin; refine wpList_append_own _ rfl _ _ 22 rfl H 3 i0 (.int .i64 0) 1 8 Tryd.underlying22 hi hz0 hz1 hz2 rfl (by decide) _ _ _ rfl (hO2.out.alloc _) ⟨w2.heap.size, 0, none⟩ 1 1 [.int .i64 k] rfl rfl (cell_one_new _ _ _) (by simp [Value.oneCell']) (by unfold maxLen; omega) (by omega) (by simp; omega) ?_; intro v' w3 hown1 hgrow1 hnil1))
          go_roundw
          case rel => exact ⟨k + 1, by omega, by omega, by go_num, by rw [hs'.out]; simp only [List.length_append, List.length_singleton]; unfold ints at hown1 ⊢; rw [List.map_append]; exact hown1, (hB2.out.alloc (by omega) _).grown hgrow1 (by simp; omega) (fun q e => (hO2.out.lt q e).1)⟩
          case measure => simp only [intOf]; omega
      · have q0 : ((n : Int) % (k : Int) == 0) = false := by rw [beq_eq_false_iff_ne]; omega
        have hs' := Lib.hid (show rootsTo n a (k + 1) = rootsTo n a k by rw [hsu]; simp [h0])
        clear hsu h0 hown hB
        go_wp2
        go_roundw
        case rel => exact ⟨k + 1, by omega, by omega, by go_num, by rw [hs'.out]; exact HO.out, HB.out⟩
        case measure => simp only [intOf]; omega
    · obtain rfl : k = n + 1 := by omega
      have HI := Lib.hid (IntsAt.of_own hown)
      have HB := Lib.hid hB
      clear hown hB
      go_wp2
      go_ret
      exact ⟨_, rfl, HI.out, HB.out⟩
end Go.Proofs.YtmcdelabcmnfiaaDoor

/-
  Roots of package canon.
-/
import Derived.Test.YthnenhfdojpobaaDoorZaLeafA
import Derived.Test.YthnenhfdojpobaaDoorZaCaIsRoot
namespace Go.Proofs.YthnenhfdojpobaaDoor.Za
open Go.RowKit Go.Shelf
attribute [local go_sem] Oper.semAt_some
set_option maxRecDepth 100000

/-- All roots, rising. -/
def rootsTo (n a k : Nat) : List Nat := (List.range k).filter fun s => decide (2 ≤ s) && (n % s == 0 && rootB a s)
def rootsL (n a : Nat) : List Nat := rootsTo n a (n + 1)
theorem rootsTo_succ (n a k : Nat) : rootsTo n a (k + 1) = rootsTo n a k ++ if (decide (2 ≤ k) && (n % k == 0 && rootB a k)) = true then [k] else [] := by
  unfold rootsTo
  rw [List.range_succ, List.filter_append]
  congr 1
  by_cases h : (decide (2 ≤ k) && (n % k == 0 && rootB a k)) = true
  · rw [if_pos h]; exact List.filter_eq_self.2 (fun x hx => by rw [List.mem_singleton] at hx; subst hx; exact h)
  · rw [if_neg h]; exact List.filter_eq_nil_iff.2 (fun x hx => by rw [List.mem_singleton] at hx; subst hx; exact h)
theorem rootsTo_le (n a k : Nat) : (rootsTo n a k).length ≤ k := by
  have := List.length_filter_le (fun s => decide (2 ≤ s) && (n % s == 0 && rootB a s)) (List.range k)
  rwa [List.length_range] at this

theorem valid_laid (n a : Int) (v : Bool) (h : vldB n a = v) (w : World) :
    Calls Tryd.prog 12 #[.int .i64 n, .slice (some ⟨w.heap.size, 0, none⟩) 1 1] (w.alloc (.cells #[.int .i64 a] 3)) fun e w' => e = .returned (.bool v) ∧ w.alloc (.cells #[.int .i64 a] 3) = w' :=
  valid1 n a v h w.heap.size 1 _ (cell_at rfl)

theorem Roots_bad (n a : Int) (h : vldB n a = false) (w : World) :
    Calls Tryd.prog 6 #[.int .i64 n, .int .i64 a] w fun e w' => e = .returned (.tuple #[.slice none 0 0, .int .i64 2]) ∧ Below w.heap.size w w' := by
  have HV := Lib.hid (valid_laid n a _ h w)
  have HA := Lib.hid ((Below.refl w.heap.size w).alloc (Nat.le_refl _) (.cells #[.int .i64 a] 3))
  clear h
  go_enter Tryd.func6, Tryd.ntmps6
  go_wp2_with fail
  refine HV.out.mono ?_
  rintro e w1 ⟨rfl, rfl⟩
  go_wp2
  go_ret2
  exact ⟨rfl, HA.out⟩
theorem owns_later {W W' : World} {lo k : Nat} {e : TypeId} {v : Value} {xs : List Value} (h : W.ownsRow lo e 1 v k xs) (hb : Below W.heap.size W W') : W'.ownsRow lo e 1 v k xs :=
  h.kept (row := none) ⟨hb.os, hb.tape, hb.output, hb.size, fun i hi _ => hb.block i hi⟩ (by cases v.ownBlock <;> simp)

variable (n a : Nat) (h1 : 2 ≤ n) (h2 : n ≤ 24) (ha : a < 2 ^ n) (ha1 : a % 2 = 1) (w : World) (hT : Tab w)
include h1 h2 ha ha1 hT

theorem Roots_ok :
    Calls Tryd.prog 6 #[.int .i64 n, .int .i64 a] w fun e w' => ∃ v, e = .returned (.tuple #[v, .int .i64 0]) ∧ IntsAt w' w.heap.size v (rootsL n a) ∧ Below w.heap.size w w' := by
  have ha24 := Nat.lt_of_lt_of_le ha (Nat.pow_le_pow_right (by omega : 0 < 2) h2)
  obtain ⟨i0, hi, hz0, hz1, hz2⟩ := info_parts info_intR
  have HV := Lib.hid (valid_laid n a _ (vldB_of_nat h1 h2 ha ha1) w)
  have hA := (Below.refl w.heap.size w).alloc (Nat.le_refl _) (.cells #[.int .i64 a] 3)
  have HR := Lib.hid (fun s (hs : 2 ≤ s) (hs2 : s ≤ 24) W (h : Tab W) => isRoot_any a s ha24 hs hs2 W h)
  obtain ⟨H, hH⟩ : ∃ H, w.heap.size = H := ⟨_, rfl⟩
  have hHle : H ≤ w.heap.size := by omega
  have HT := Lib.hid (fun W (h : Below w.heap.size w W) => hT.same h)
  have HSu := Lib.hid (rootsTo_succ n a)
  have HLe := Lib.hid (rootsTo_le n a)
  rw [hH] at hA HT ⊢
  have HA := Lib.hid hA
  clear hA hT hH
  go_enter Tryd.func6, Tryd.ntmps6
  go_wp2_with fail
  refine HV.out.mono ?_
  rintro e w1 ⟨rfl, rfl⟩
  go_wp2
  go_loopw [6, 15] (fun v i wr => ∃ k : Nat, k ≤ n + 1 ∧ i = .int .i64 k ∧ wr.ownsRow H 3 1 v (rootsTo n a k).length (ints (rootsTo n a k)) ∧ Below H w wr) (fun _ i _ => n + 1 - (intOf i).toNat)
  case atStart => exact ⟨0, Nat.zero_le _, rfl, World.ownsRow_nil _ _ _ _, HA.out⟩
  case round =>
    obtain ⟨k, hk, rfl, hown, hB⟩ := hrel
    have hsz : H ≤ wr.heap.size := Nat.le_trans hHle hB.size
    by_cases hkl : k < n + 1
    · have hsu := HSu.out k
      have hle := HLe.out k
      have HO := Lib.hid hown
      have HB := Lib.hid hB
      by_cases hk2 : 2 ≤ k
      · have hkz : ((k : Int) == 0) = false := by rw [beq_eq_false_iff_ne]; omega
        have hg : ((2 : Int) ≤ (k : Int)) := by omega
        by_cases h0 : n % k = 0
        · have q0 : ((n : Int) % (k : Int) == 0) = true := by rw [beq_iff_eq]; omega
          have HRk := Lib.hid (HR.out k hk2 (by omega) _ (HT.out _ hB))
          cases hr : rootB a k
          · rw [hr] at HRk
            have hs' := Lib.hid (show rootsTo n a (k + 1) = rootsTo n a k by rw [hsu, hr]; simp)
            clear hsu hr h0 hown hB
            go_wp2_with fail
            refine HRk.out.mono ?_
            rintro e w2 ⟨rfl, b2⟩
            go_wp2
            go_roundw
            case rel => exact ⟨k + 1, by omega, by go_num, by rw [hs'.out]; exact owns_later HO.out b2, HB.out.trans (b2.mono hsz)⟩
            case measure => simp only [intOf]; omega
          · rw [hr] at HRk
            have hs' := Lib.hid (show rootsTo n a (k + 1) = rootsTo n a k ++ [k] by rw [hsu, hr, h0]; simp [hk2])
            clear hsu hr h0 hown hB
            go_wp2_with fail
            refine HRk.out.mono ?_
            rintro e w2 ⟨rfl, b2⟩
            have hO2 := Lib.hid (owns_later HO.out b2)
            have hB2 := Lib.hid (HB.out.trans (b2.mono hsz))
            have hs2 := b2.size
            clear b2
            go_wp2_with (first | (at_builtin; refine wpList_append_own _ rfl _ _ 24 rfl H 3 i0 (.int .i64 0) 1 8 Tryd.underlying24 hi hz0 hz1 hz2 rfl (by decide) _ _ _ rfl (hO2.out.alloc _) ⟨w2.heap.size, 0, none⟩ 1 1 [.int .i64 k] rfl rfl (cell_one_new _ _ _) (by simp [Value.oneCell']) (by unfold maxLen; omega) (by omega) (by simp; omega) ?_; intro v' w3 hown1 hgrow1 hnil1))
            go_roundw
            case rel => exact ⟨k + 1, by omega, by go_num, by rw [hs'.out]; simp only [List.length_append, List.length_singleton]; unfold ints at hown1 ⊢; rw [List.map_append]; exact hown1, (hB2.out.alloc (by omega) _).grown hgrow1 (by simp; omega) (fun q e => (hO2.out.lt q e).1)⟩
            case measure => simp only [intOf]; omega
        · have q0 : ((n : Int) % (k : Int) == 0) = false := by rw [beq_eq_false_iff_ne]; omega
          have hs' := Lib.hid (show rootsTo n a (k + 1) = rootsTo n a k by rw [hsu]; simp [h0])
          clear hsu h0 hown hB
          go_wp2
          go_roundw
          case rel => exact ⟨k + 1, by omega, by go_num, by rw [hs'.out]; exact HO.out, HB.out⟩
          case measure => simp only [intOf]; omega
      · have hg : ¬ ((2 : Int) ≤ (k : Int)) := by omega
        have hs' := Lib.hid (show rootsTo n a (k + 1) = rootsTo n a k by rw [hsu]; simp [hk2])
        clear hsu hk2 hown hB
        go_wp2
        go_roundw
        case rel => exact ⟨k + 1, by omega, by go_num, by rw [hs'.out]; exact HO.out, HB.out⟩
        case measure => simp only [intOf]; omega
    · obtain rfl : k = n + 1 := by omega
      have HI := Lib.hid (IntsAt.of_own hown)
      have HB := Lib.hid hB
      clear hown hB
      go_wp2
      go_ret2
      exact ⟨_, rfl, HI.out, HB.out⟩
end Go.Proofs.YthnenhfdojpobaaDoor.Za

/-
  The reference's Steps and Round.
-/
import Derived.Test.YtibkhjbcagihbaaTrSweep
import Derived.Test.YtibkhjbcagihbaaCalmTail
namespace Go.Proofs.Ytibkhjbcagihbaa
open Go.ChangeShapes Go.WideShapes Go.ChangeAt Go.RowKit Go.Shelf
set_option maxRecDepth 100000

/-- What the reference calls steps. -/
def rstepsB (s : ByteArray) : Bool := decide ((bsN s).Nodup) && (decide (0 < s.size) && walkB s)

theorem nodup_false {s : ByteArray} {k m : Nat} (hk : k < s.size) (hm : m < k) (he : (s[m]'(by omega)).toNat = (s[k]'hk).toNat) : rstepsB s = false := by
  unfold rstepsB
  have h : ¬ (bsN s).Nodup := by
    intro hn
    have h2 : ((bsN s).take (k + 1)).Nodup := hn.sublist (List.take_sublist _ _)
    rw [bsN_take s k hk, List.nodup_append] at h2
    refine h2.2.2 (s[m]'(by omega)).toNat ?_ _ (by simp) he
    rw [← bsN_getElem s m (by omega)]
    exact List.mem_iff_getElem.2 ⟨m, by rw [List.length_take, bsN_length]; omega, by simp⟩
  rw [decide_eq_false h, Bool.false_and]

set_option maxHeartbeats 2000000 in
theorem RSteps_any (s : ByteArray) (hs : s.size ≤ maxLen) (w : World) :
    Calls Try.prog 38 #[.string s] w fun e w' => e = .returned (.bool (rstepsB s)) ∧ Below w.heap.size w w' := by
  have hm : maxLen = 9223372036854775807 := rfl
  have HI := Lib.hid (RIsWalk_any s hs)
  go_enter Try.func38, Try.ntmps38
  go_wp2
  go_loopw [7] (fun i wr => ∃ k : Nat, k ≤ s.size ∧ i = .int .i64 k ∧ ((bsN s).take k).Nodup ∧ Below w.heap.size w wr) (fun i _ => s.size - (intOf i).toNat)
  case atStart => exact ⟨0, Nat.zero_le _, rfl, by simp, Below.refl _ _⟩
  case round =>
    obtain ⟨k, hk, rfl, hnd, hB⟩ := hrel
    have HN := Lib.hid hnd
    have HB := Lib.hid hB
    clear hnd hB
    by_cases hlt : k < s.size
    · have HT := Lib.hid (bsN_take s k hlt)
      go_wp2
      go_loopw [11] (fun j wq => ∃ m : Nat, m ≤ k ∧ j = .int .i64 m ∧ (s[k]'hlt).toNat ∉ (bsN s).take m ∧ Below w.heap.size w wq) (fun j _ => k - (intOf j).toNat)
      case atStart => exact ⟨0, Nat.zero_le _, rfl, by simp, HB.out⟩
      case round =>
        obtain ⟨m, hmk, rfl, hni, hB⟩ := hrel
        have HNi := Lib.hid hni
        have HB2 := Lib.hid hB
        clear hni hB
        by_cases hlm : m < k
        · have hms : m < s.size := by omega
          have HT2 := Lib.hid (bsN_take s m hms)
          by_cases he : (s[m]'hms).toNat = (s[k]'hlt).toNat
          · have HF := Lib.hid (nodup_false hlt hlm he)
            have hq : ((((s[k]'hlt).toNat : Int)) == (((s[m]'hms).toNat : Int))) = true := by rw [beq_iff_eq]; omega
            clear he
            go_wp2
            go_quiet (fail)
            go_wp2
            go_ret
            exact ⟨ret_bool HF.out.symm, below_drewN HB2.out _⟩
          · have hq : ((((s[k]'hlt).toNat : Int)) == (((s[m]'hms).toNat : Int))) = false := by rw [beq_eq_false_iff_ne]; omega
            have HE := Lib.hid he
            clear he
            go_wp2
            go_quiet (fail)
            go_wp2
            go_roundw
            case rel =>
              refine ⟨m + 1, by omega, by go_num, ?_, below_drewN HB2.out _⟩
              rw [HT2.out, List.mem_append, List.mem_singleton]
              rintro (h | h)
              · exact HNi.out h
              · exact HE.out h.symm
            case measure => simp only [intOf]; omega
        · obtain rfl : m = k := by omega
          go_wp2
          go_roundw
          case rel =>
            refine ⟨m + 1, by omega, by go_num, ?_, HB2.out⟩
            rw [HT.out, List.nodup_append]
            refine ⟨HN.out, by simp, ?_⟩
            intro x hx y hy e
            rw [List.mem_singleton] at hy
            exact HNi.out (by rw [← hy, ← e]; exact hx)
          case measure => simp only [intOf]; omega
    · have HNd := Lib.hid (show (bsN s).Nodup by have := HN.out; rwa [List.take_of_length_le (by rw [bsN_length]; omega)] at this)
      by_cases h0 : 0 < s.size
      · have HF := Lib.hid (show rstepsB s = walkB s by unfold rstepsB; rw [decide_eq_true HNd.out, decide_eq_true h0]; simp)
        go_wp2_with fail
        refine (HI.out _).mono ?_
        rintro e w2 ⟨rfl, rfl⟩
        go_wp2
        go_ret
        exact ⟨ret_bool HF.out.symm, HB.out⟩
      · have HF := Lib.hid (show rstepsB s = false by unfold rstepsB; rw [decide_eq_false h0]; simp)
        go_wp2
        go_ret
        exact ⟨ret_bool HF.out.symm, HB.out⟩
end Go.Proofs.Ytibkhjbcagihbaa

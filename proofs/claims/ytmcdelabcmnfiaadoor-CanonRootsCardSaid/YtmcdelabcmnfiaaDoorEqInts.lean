/-
  slices.Equal, slices.Contains, slices.Index at integers: what the statements ask of them, for rows that the call has made.
-/
import Derived.Test.YtmcdelabcmnfiaaDoorMem
import Derived.Deep.QuietTactic
import Derived.BigQuiet
import Derived.IntWalk
import Derived.Lib.Hide
import Derived.WalkSmall
namespace Go.Proofs.YtmcdelabcmnfiaaDoor
open Go.RowKit
set_option maxRecDepth 100000

theorem EqualInts_same (xs : List Nat) (b1 b2 c1 c2 : Nat) (w : World) (hl : xs.length < 2 ^ 40) (r1 : ∀ i, i < xs.length → w.cell? ⟨b1, i, none⟩ = some (.int .i64 ((xs[i]?.getD 0 : Nat) : Int))) (r2 : ∀ i, i < xs.length → w.cell? ⟨b2, i, none⟩ = some (.int .i64 ((xs[i]?.getD 0 : Nat) : Int))) :
    Calls Tryd.prog 13 #[.slice (some ⟨b1, 0, none⟩) xs.length c1, .slice (some ⟨b2, 0, none⟩) xs.length c2] w fun e w' => e = .returned (.bool true) ∧ ∃ m, w' = w.drewN m := by
  obtain ⟨n, hn⟩ : ∃ n, xs.length = n := ⟨_, rfl⟩
  rw [hn] at hl r1 r2 ⊢
  have R1 := Lib.hid r1
  have R2 := Lib.hid r2
  clear r1 r2 hn
  have hl' : (n : Int) ≤ 1099511627776 := by omega
  clear hl
  go_enter Tryd.func13, Tryd.ntmps13
  go_wp2
  go_loopw [5, 13] (fun _ i wr => ∃ k m : Nat, k ≤ n ∧ i = .int .i64 k ∧ wr = w.drewN m) (fun _ i _ => n - (intOf i).toNat)
  case atStart => exact ⟨0, 0, Nat.zero_le _, rfl, rfl⟩
  case round =>
    obtain ⟨k, m, hk, rfl, rfl⟩ := hrel
    by_cases hlt : k < n
    · have ca := R1.out k hlt
      have cb := R2.out k hlt
      generalize xs[k]?.getD 0 = x at ca cb
      go_wp2
      go_quiet (fail)
      go_wp2
      go_roundw
      case rel => exact ⟨k + 1, m + nq, by omega, by go_num, rfl⟩
      case measure => simp only [intOf]; omega
    · go_wp2
      go_ret
      exact ⟨rfl, m, rfl⟩

theorem rows_cells {W : World} {b : Nat} {xs : List Nat} (h : Row W b 3 (ints xs)) : ∀ i, i < xs.length → W.cell? ⟨b, i, none⟩ = some (.int .i64 ((xs[i]?.getD 0 : Nat) : Int)) :=
  fun i hi => (h.cell i).trans (ints_at hi)
end Go.Proofs.YtmcdelabcmnfiaaDoor

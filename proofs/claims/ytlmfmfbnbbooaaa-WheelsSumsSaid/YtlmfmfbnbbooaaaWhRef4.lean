/-
  The reference's wheel of a chord; where it is silent; flat and alike chords.
-/
import Derived.Test.YtlmfmfbnbbooaaaWhSpectraLaw
namespace Go.Proofs.Ytlmfmfbnbbooaaa
open Go.ChangeShapes Go.WideShapes Go.ChangeAt Go.RowKit
set_option maxRecDepth 100000

theorem tabN_succ (k : Nat) (f : Nat → Nat) : natI (tabN (k + 1) f) = natI (tabN k f) ++ [((f k : Nat) : Int)] := by
  unfold tabN natI; rw [List.range_succ, List.map_append, List.map_append]; rfl
theorem tab_ch (n c : Nat) : tabN n (bI c) = tabN n (chF n c) := tabN_congr (fun x hx => by unfold chF; rw [if_pos hx])

theorem run_from1 (g n : Nat) (h : 1 ≤ n) (W : World) : (Instr.slice 22 (.slice (some ⟨g, 0, none⟩) n n) (some (.int .i64 1)) none none).run Try.prog W = .ok (.slice (some (if n = 1 then ⟨g, 0, none⟩ else ⟨g, 1, none⟩)) (n - 1) (n - 1)) W := by
  have ht : Try.prog.underlying 22 = some (.slice (Try.prog.elem 22)) := by kernel_rfl
  have hs : (sizeOf (Try.prog.elem 22)).run Try.prog W = .ok 1 W := by
    rw [show Try.prog.elem 22 = 3 by kernel_rfl]
    exact Try.sizeOf3 W
  rw [run_slice_l (ht := ht) (h0 := by omega) (h1 := by omega), hs]
  have e1 : (1 : Int).toNat = 1 := rfl
  simp only [Result.andThen_ok, sliced, e1, Nat.one_mul, Option.map_some]
  by_cases h1 : n = 1
  · simp [h1]
  · simp [h1, Addr.add]

end Go.Proofs.Ytlmfmfbnbbooaaa

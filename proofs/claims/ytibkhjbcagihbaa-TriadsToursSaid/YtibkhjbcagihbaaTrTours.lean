/-
  longer and Tours of package triads.
-/
import Derived.Test.YtibkhjbcagihbaaTrTourRef
import Derived.Test.YtibkhjbcagihbaaTrQueN
namespace Go.Proofs.Ytibkhjbcagihbaa
open Go.ChangeShapes Go.WideShapes Go.ChangeAt Go.RowKit Go.Shelf
open Go.Lib (iterAt_heap iterAt_size below_iterAt run_next_any_at run_next_ascii_at run_next_end_at)
set_option maxRecDepth 100000

theorem info_str : (Try.prog.info? 9).map (fun i => (i.zero, i.size, i.bytes)) = some (some (.string ⟨#[]⟩), 1, 16) := by kernel_rfl

/-- The walks with one step more. -/
def longL (s : ByteArray) (k : Nat) : List Value := (List.range k).map (fun c => Value.string (s ++ strOf [letN c]))
theorem longL_length (s : ByteArray) (k : Nat) : (longL s k).length = k := by simp [longL]
theorem longL_succ (s : ByteArray) (k : Nat) : longL s (k + 1) = longL s k ++ [.string (s ++ strOf [letN k])] := by
  unfold longL; rw [List.range_succ, List.map_append]; rfl

abbrev lprS : ByteArray := ⟨#[76, 80, 82]⟩
theorem lprS_size : lprS.size = 3 := rfl
theorem lprS_at (k : Nat) (h : k < lprS.size) : (lprS[k]'h).toNat = letN k := by
  have h' : k < 3 := h
  rcases (show k = 0 ∨ k = 1 ∨ k = 2 by omega) with rfl | rfl | rfl <;> rfl
theorem iterAt_grown' (w : World) (H : Nat) (s : ByteArray) (p : Nat) : w.grownBy (w.iterAt H s p) (some H) := by
  have h := below_iterAt (Below.refl 0 w) (Nat.zero_le H) s p
  exact ⟨h.os, h.tape, h.output, h.size, fun i hi hne => Lib.iterAt_other w H i s p (fun e => hne (by rw [e]))⟩

set_option maxHeartbeats 4000000 in
theorem longer_any (s : ByteArray) (hs : s.size ≤ 1000) (w : World) :
    Calls Try.prog 64 #[.string s] w fun e w' => ∃ g cap, e = .returned (.slice (some ⟨g, 0, none⟩) 3 cap) ∧ (∀ j u, (longL s 3)[j]? = some u → w'.cell? ((⟨g, 0, none⟩ : Addr).add j) = some u) ∧ Below w.heap.size w w' := by
  obtain ⟨i0, hi, hz0, hz1, hz2⟩ := info_parts info_str
  obtain ⟨H, hH⟩ : ∃ H, w.heap.size = H := ⟨_, rfl⟩
  obtain ⟨W0, hW0⟩ : ∃ W0, w.iter lprS 0 = W0 := ⟨_, rfl⟩
  have hst : W0.heap[H]? = some (.stringIter lprS 0) := by rw [← hW0, ← hH]; exact iter_start w lprS
  have hb0 : Below H w W0 := by rw [← hW0, ← hH]; exact (Below.refl _ w).alloc (Nat.le_refl _) _
  have HH := Lib.hid hH
  have HW0 := Lib.hid (show w.iter ⟨#[76, 80, 82]⟩ 0 = W0 from hW0)
  have HSt := Lib.hid hst
  have HB0 := Lib.hid hb0
  clear hH hW0 hst hb0
  go_enter Try.func64, Try.ntmps64
  go_wp2
  rw [HW0.out, HH.out]
  go_loopw [3] (fun v wr => ∃ k : Nat, k ≤ 3 ∧ wr.heap[H]? = some (.stringIter lprS k) ∧ wr.ownsRow (H + 1) 9 1 v k (longL s k) ∧ Below H w wr) (fun _ wr => 3 - wr.iterPos H)
  case atStart => exact ⟨0, Nat.zero_le _, HSt.out, World.ownsRow_nil _ _ _ _, HB0.out⟩
  case round =>
    obtain ⟨k, hk, hit, hown, hB⟩ := hrel
    have hpos : wr.iterPos H = k := by simp [World.iterPos, hit]
    have HO := Lib.hid hown
    have HB := Lib.hid hB
    have HPos := Lib.hid hpos
    clear hown hB
    by_cases hlt : k < lprS.size
    · have hk3 : k < 3 := hlt
      obtain ⟨r1, r2⟩ := rune_let lprS k hlt
      have hle : isLetN (lprS[k]'hlt).toNat = true := by rw [lprS_at]; exact (letN_mem hk3).2
      have r3 := r2 hle
      obtain ⟨W1, hW1⟩ : ∃ W1, wr.iterAt H lprS (k + 1) = W1 := ⟨_, rfl⟩
      have hnx : ∀ ty, (Instr.next (.pointer (some ⟨H, 0, none⟩)) true ty).run Try.prog wr = .ok (.tuple #[.bool true, .int .i64 k, .int .i32 (letN k : Nat)]) W1 := fun ty => by
        have := run_next_any_at (P := Try.prog) wr H lprS k ty hit hlt
        rw [r3, hW1, lprS_at] at this
        exact this
      have hit1 : W1.heap[H]? = some (.stringIter lprS (k + 1)) := by rw [← hW1]; exact iterAt_heap wr H lprS k _ hit
      have hgr := iterAt_grown' wr H lprS (k + 1)
      rw [hW1] at hgr
      have hown1 : W1.ownsRow (H + 1) 9 1 _ k (longL s k) := HO.out.kept hgr (by
        cases hv : Value.ownBlock _ with
        | none => left; rfl
        | some q => right; intro e; have := (HO.out.lt q hv).1; have := Option.some.inj e; omega)
      have HO1 := Lib.hid hown1
      have hB1 : Below H w W1 := by rw [← hW1]; exact below_iterAt HB.out (Nat.le_refl _) lprS _
      have HB1 := Lib.hid hB1
      have HIt1 := Lib.hid hit1
      have hs1 : H + 1 ≤ W1.heap.size := (Array.getElem?_eq_some_iff.1 hit1).1
      have HConv := Lib.hid (conv_let _ (letN_mem hk3).2)
      have hcv := HConv.out W1
      have hz3 : (strOf [letN k]).size = 1 := strOf_size _
      have HLs := Lib.hid (longL_succ s k)
      clear hW1 hit1 r1 r2 r3 hle hgr hown1 hB1 hit hpos hlt
      generalize letN k = c at *
      go_wp2_with (at_builtin; refine wpList_append_own _ rfl _ _ 64 rfl (H + 1) 9 i0 (.string ⟨#[]⟩) 1 16 Try.underlying64 hi hz0 hz1 hz2 rfl (by decide) _ _ _ rfl (HO1.out.alloc _) ⟨W1.heap.size, 0, none⟩ 1 1 [.string (s ++ strOf [c])] rfl rfl (cell_one_new _ _ _) (by simp [Value.oneCell']) (by unfold maxLen; omega) (by omega) (by simp; omega) ?_; intro v' w4 hown4 hgrow4 hnil4)
      have HIt4 : Hid (w4.heap[H]? = some (.stringIter lprS (k + 1))) := Lib.hid (by
        refine (hgrow4.block H (by rw [World.size_alloc]; omega) (fun e => by have := (HO1.out.lt _ e.symm).1; omega)).trans ?_
        exact (Below.heap_alloc _ _ H (by omega)).trans HIt1.out)
      have hp4 : w4.iterPos H = k + 1 := by simp [World.iterPos, HIt4.out]
      go_roundw
      case rel =>
        refine ⟨k + 1, by omega, HIt4.out, by rw [HLs.out]; exact hown4, ?_⟩
        exact (HB1.out.alloc (by omega) _).grown hgrow4 (by rw [World.size_alloc]; omega) (fun q e => by have := (HO1.out.lt q e).1; omega)
      case measure => rw [hp4, HPos.out]; omega
    · have hk3 : k = 3 := by have : lprS.size = 3 := rfl; omega
      subst hk3
      have hnx : ∀ ty, (Instr.next (.pointer (some ⟨H, 0, none⟩)) true ty).run Try.prog wr = .ok (.tuple #[.bool false]) wr := fun ty => run_next_end_at wr H lprS 3 ty hit hlt
      obtain ⟨_, ⟨_, h2⟩ | ⟨g, cap, cur, rfl, _⟩⟩ := id HO.out
      · omega
      · clear hit
        go_wp2
        go_ret
        exact ⟨g, cap, rfl, HO.out.cells rfl, by rw [HH.out]; exact HB.out⟩
end Go.Proofs.Ytibkhjbcagihbaa

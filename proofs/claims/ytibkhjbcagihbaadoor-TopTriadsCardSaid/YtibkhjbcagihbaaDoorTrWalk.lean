/-
  Walks as strings: isWalk and follow, the reference's IsWalk and Walk, the statements' cut text.
-/
import Derived.Test.YtibkhjbcagihbaaDoorTrStep
import Derived.Test.YtibkhjbcagihbaaDoorTrRune
namespace Go.Proofs.YtibkhjbcagihbaaDoor
open Go.ChangeShapes Go.WideShapes Go.ChangeAt Go.RowKit
open Go.Lib (iterAt_heap iterAt_size below_iterAt run_next_any_at run_next_ascii_at run_next_end_at)
set_option maxRecDepth 100000

/-- A string's bytes as numbers. -/
def bsN (s : ByteArray) : List Nat := s.data.toList.map UInt8.toNat
theorem bsN_length (s : ByteArray) : (bsN s).length = s.size := by unfold bsN; simp
theorem bsN_getElem (s : ByteArray) (i : Nat) (h : i < s.size) : (bsN s)[i]'(by rw [bsN_length]; exact h) = (s[i]'h).toNat := by
  unfold bsN; simp; rfl
theorem bsN_take (s : ByteArray) (i : Nat) (h : i < s.size) : (bsN s).take (i + 1) = (bsN s).take i ++ [(s[i]'h).toNat] := by
  rw [List.take_succ_eq_append_getElem (by rw [bsN_length]; exact h), bsN_getElem s i h]
theorem bsN_lt (s : ByteArray) (c : Nat) (h : c ∈ bsN s) : c < 256 := by
  unfold bsN at h
  obtain ⟨b, _, rfl⟩ := List.mem_map.1 h
  exact UInt8.toNat_lt b

def isLetN (c : Nat) : Bool := c == 76 || (c == 80 || c == 82)
theorem isLet_nat (c : Nat) : isLet (c : Int) = isLetN c := by
  unfold isLet isLetN
  have e : ∀ k : Nat, ((c : Int) == (k : Int)) = (c == k) := fun k => by rw [Bool.eq_iff_iff, beq_iff_eq, beq_iff_eq]; omega
  rw [← e 76, ← e 80, ← e 82]; rfl
theorem isLetN_iff (c : Nat) : isLetN c = true ↔ c = 76 ∨ c = 80 ∨ c = 82 := by
  unfold isLetN; simp

/-- What a walk is. -/
def walkB (s : ByteArray) : Bool := decide (s.size ≤ 60) && (bsN s).all isLetN

/-- The rune at a place is a letter exactly if the byte is; then it is that byte. -/
theorem rune_let (s : ByteArray) (pos : Nat) (h : pos < s.size) : isLet ((Utf8.decode s pos).1 : Nat) = isLetN (s[pos]'h).toNat ∧
    (isLetN (s[pos]'h).toNat = true → Utf8.decode s pos = ((s[pos]'h).toNat, 1)) := by
  by_cases ha : (s[pos]'h).toNat < 128
  · rw [decode_ascii s pos h ha]
    exact ⟨isLet_nat _, fun _ => rfl⟩
  · have h1 := (decode_high s pos h (by omega)).1
    have e : isLetN (s[pos]'h).toNat = false := by
      rw [Bool.eq_false_iff]; intro hc; rw [isLetN_iff] at hc; omega
    refine ⟨?_, fun hc => by rw [e] at hc; cases hc⟩
    rw [e, isLet_nat, Bool.eq_false_iff]; intro hc; rw [isLetN_iff] at hc; omega

theorem iter_start (w : World) (s : ByteArray) : (w.iter s 0).heap[w.heap.size]? = some (.stringIter s 0) := World.iter_heap w s 0

set_option maxHeartbeats 1000000 in
theorem isWalk_any (s : ByteArray) (hs : s.size ≤ maxLen) (w : World) :
    Calls Tryd.prog 39 #[.string s] w fun e w' => e = .returned (.bool (walkB s)) ∧ Below w.heap.size w w' := by
  by_cases h60 : s.size ≤ 60
  · have HD := Lib.hid (show walkB s = (bsN s).all isLetN by unfold walkB; rw [decide_eq_true h60]; rfl)
    have HI := Lib.hid (fun r h0 h2 => isStep_any r h0 h2)
    have hst := iter_start w s
    have hb0 : Below w.heap.size w (w.iter s 0) := (Below.refl _ w).alloc (Nat.le_refl _) _
    obtain ⟨H, hH⟩ : ∃ H, w.heap.size = H := ⟨_, rfl⟩
    obtain ⟨W0, hW0⟩ : ∃ W0, w.iter s 0 = W0 := ⟨_, rfl⟩
    rw [hH] at hst hb0 ⊢
    rw [hW0] at hst hb0
    have HH := Lib.hid hH
    have HW0 := Lib.hid hW0
    clear hH hW0
    go_enter Tryd.func39, Tryd.ntmps39
    go_wp2
    rw [HH.out, HW0.out]
    go_loopw [4] (fun _ wr => ∃ pos : Nat, pos ≤ s.size ∧ wr.heap[H]? = some (.stringIter s pos) ∧ ((bsN s).take pos).all isLetN = true ∧ Below H w wr) (fun _ wr => s.size - wr.iterPos H)
    case atStart => exact ⟨0, Nat.zero_le _, hst, by simp, hb0⟩
    case round =>
      obtain ⟨pos, hp, hit, hall, hB⟩ := hrel
      have hpos : wr.iterPos H = pos := by simp [World.iterPos, hit]
      have HB := Lib.hid hB
      have HA := Lib.hid hall
      clear hst hb0 hB hall
      by_cases hlt : pos < s.size
      · obtain ⟨r1, r2⟩ := rune_let s pos hlt
        have hle := decode_le s pos
        have HT := Lib.hid (bsN_take s pos hlt)
        have HM := Lib.hid (show (s[pos]'hlt).toNat ∈ bsN s by rw [← bsN_getElem s pos hlt]; exact List.getElem_mem _)
        obtain ⟨W1, hW1⟩ : ∃ W1, wr.iterAt H s (pos + (Utf8.decode s pos).2) = W1 := ⟨_, rfl⟩
        have hnx : ∀ ty, (Instr.next (.pointer (some ⟨H, 0, none⟩)) true ty).run Tryd.prog wr = .ok (.tuple #[.bool true, .int .i64 pos, .int .i32 (Utf8.decode s pos).1]) W1 := fun ty => by rw [← hW1]; exact run_next_any_at wr H s pos ty hit hlt
        have hB1 : Below H w W1 := by rw [← hW1]; exact below_iterAt HB.out (Nat.le_refl _) s _
        have hI1 : W1.heap[H]? = some (.stringIter s (pos + (Utf8.decode s pos).2)) := by rw [← hW1]; exact iterAt_heap wr H s pos _ hit
        have HI1 := Lib.hid hI1
        have HHs := Lib.hid (Nat.le_of_lt (Array.getElem?_eq_some_iff.1 hI1).1)
        have HB1 := Lib.hid hB1
        have HIr := Lib.hid (HI.out ((Utf8.decode s pos).1 : Nat) (by omega) (by omega))
        rw [r1] at HIr
        cases hl : isLetN (s[pos]'hlt).toNat
        · rw [hl] at HIr
          have hall2 := Lib.hid (all_false HM.out hl)
          clear hW1 hI1 hB1 HI r1 r2 hit hl
          generalize (Utf8.decode s pos).1 = rr at hnx HIr hle
          go_wp2_with fail
          refine (HIr.out _).mono ?_
          rintro e w2 ⟨rfl, b2⟩
          go_wp2
          go_ret
          exact ⟨ret_bool (by rw [HD.out]; exact hall2.out), HB1.out.trans (b2.mono HHs.out)⟩
        · have r3 := r2 hl
          rw [r3] at hnx HIr HI1
          rw [hl] at HIr
          have hl' := Lib.hid hl
          clear hW1 hI1 hB1 HI r1 r2 r3 hit hl hle
          generalize (s[pos]'hlt).toNat = rr at hnx HIr hl' HT
          go_wp2_with fail
          refine (HIr.out _).mono ?_
          rintro e w2 ⟨rfl, b2⟩
          have hI2 : w2.heap[H]? = some (.stringIter s (pos + 1)) := (b2.block H (Array.getElem?_eq_some_iff.1 HI1.out).1).trans HI1.out
          have hp2 : w2.iterPos H = pos + 1 := by simp [World.iterPos, hI2]
          have HI2 := Lib.hid hI2
          clear hI2
          go_wp2
          go_roundw
          case rel => exact ⟨pos + 1, by omega, HI2.out, by rw [HT.out, List.all_append, HA.out]; simp [hl'.out], HB1.out.trans (b2.mono HHs.out)⟩
          case measure => omega
      · have hnx : ∀ ty, (Instr.next (.pointer (some ⟨H, 0, none⟩)) true ty).run Tryd.prog wr = .ok (.tuple #[.bool false]) wr := fun ty => run_next_end_at wr H s pos ty hit hlt
        have hall2 := Lib.hid (show (bsN s).all isLetN = true by have := HA.out; rwa [List.take_of_length_le (by rw [bsN_length]; omega)] at this)
        clear hit
        go_wp2
        go_ret
        exact ⟨ret_bool (by rw [HD.out, hall2.out]), HB.out⟩
  · have HD := Lib.hid (show walkB s = false by unfold walkB; rw [decide_eq_false h60]; rfl)
    go_enter Tryd.func39, Tryd.ntmps39
    go_wp2
    go_ret
    exact ⟨ret_bool HD.out.symm, Below.refl _ _⟩

set_option maxHeartbeats 1000000 in
theorem follow_any (n a b t : Nat) (hk : KOk n a b) (ht : t < 2 * n) (s : ByteArray) (hs : s.size ≤ maxLen) (hl : (bsN s).all isLetN = true) (w : World) :
    Calls Tryd.prog 40 #[kv n a b, .int .i64 t, .string s] w fun e w' => e = .returned (.int .i64 (walkN n a b t (bsN s) : Nat)) ∧ Below w.heap.size w w' := by
  obtain ⟨W0, hW0⟩ : ∃ W0, w.alloc (kcells n a b) = W0 := ⟨_, rfl⟩
  have b0 : Below w.heap.size w W0 := by rw [← hW0]; exact (Below.refl _ w).alloc (Nat.le_refl _) _
  have s0 : w.heap.size < W0.heap.size := by rw [← hW0]; simp
  have k0 : W0.cell? ⟨w.heap.size, 0, none⟩ = some (.int .i64 n) := by rw [← hW0]; simp
  have k1 : W0.cell? ⟨w.heap.size, 1, none⟩ = some (.int .i64 a) := by rw [← hW0]; simp
  have k2 : W0.cell? ⟨w.heap.size, 2, none⟩ = some (.int .i64 b) := by rw [← hW0]; simp
  obtain ⟨W1, hW1⟩ : ∃ W1, W0.iter s 0 = W1 := ⟨_, rfl⟩
  obtain ⟨H, hH'⟩ : ∃ H, w.heap.size + 1 = H := ⟨_, rfl⟩
  have hH : W0.heap.size = H := by rw [← hW0, ← hH']; simp
  have hst : W1.heap[H]? = some (.stringIter s 0) := by rw [← hW1, ← hH]; exact iter_start W0 s
  have hb0 : Below H W0 W1 := by rw [← hW1, ← hH]; exact (Below.refl _ W0).alloc (Nat.le_refl _) _
  have HW0 := Lib.hid hW0
  have HW1 := Lib.hid hW1
  have HH := Lib.hid hH'
  have HS := Lib.hid (fun t c ht hc => step_any n a b t c hk ht hc)
  have HLt := Lib.hid (fun t c (ht : t < 2 * n) => step_lt hk t c ht)
  have HL := Lib.hid hl
  have hn := hk.h16
  have HN := Lib.hid hb0
  rw [hH] at s0
  clear hW0 hW1 hH hH' hl hb0
  go_enter Tryd.func40, Tryd.ntmps40
  go_wp2
  rw [HW0.out, HW1.out, HH.out]
  go_loopw [1, 8] (fun u _ wr => ∃ pos : Nat, pos ≤ s.size ∧ wr.heap[H]? = some (.stringIter s pos) ∧ u = .int .i64 (walkN n a b t ((bsN s).take pos) : Nat) ∧ walkN n a b t ((bsN s).take pos) < 2 * n ∧ Below H W0 wr) (fun _ _ wr => s.size - wr.iterPos H)
  case atStart => exact ⟨0, Nat.zero_le _, hst, rfl, ht, HN.out⟩
  case round =>
    obtain ⟨pos, hp, hit, rfl, hu, hB⟩ := hrel
    have hpos : wr.iterPos H = pos := by simp [World.iterPos, hit]
    have HB := Lib.hid hB
    have c0 := (hB.cell (p := ⟨w.heap.size, 0, none⟩) s0).trans k0
    have c1 := (hB.cell (p := ⟨w.heap.size, 1, none⟩) s0).trans k1
    have c2 := (hB.cell (p := ⟨w.heap.size, 2, none⟩) s0).trans k2
    clear hst hB k0 k1 k2
    by_cases hlt : pos < s.size
    · obtain ⟨r1, r2⟩ := rune_let s pos hlt
      have HM : (s[pos]'hlt).toNat ∈ bsN s := by rw [← bsN_getElem s pos hlt]; exact List.getElem_mem _
      have hle := List.all_eq_true.1 HL.out _ HM
      have r3 := r2 hle
      have h256 := bsN_lt s _ HM
      have HT := Lib.hid (show walkN n a b t ((bsN s).take (pos + 1)) = stepN n a b (walkN n a b t ((bsN s).take pos)) (s[pos]'hlt).toNat by rw [bsN_take s pos hlt, walk_append]; rfl)
      obtain ⟨W2, hW2⟩ : ∃ W2, wr.iterAt H s (pos + 1) = W2 := ⟨_, rfl⟩
      have hnx : ∀ ty, (Instr.next (.pointer (some ⟨H, 0, none⟩)) true ty).run Tryd.prog wr = .ok (.tuple #[.bool true, .int .i64 pos, .int .i32 (s[pos]'hlt).toNat]) W2 := fun ty => by
        have := run_next_any_at (P := Tryd.prog) wr H s pos ty hit hlt
        rw [r3, hW2] at this
        exact this
      have hB1 : Below H W0 W2 := by rw [← hW2]; exact below_iterAt HB.out (Nat.le_refl _) s _
      have HI1 := Lib.hid (show W2.heap[H]? = some (.stringIter s (pos + 1)) by rw [← hW2]; exact iterAt_heap wr H s pos _ hit)
      have HHs := Lib.hid (Nat.le_of_lt (Array.getElem?_eq_some_iff.1 HI1.out).1)
      have c0 : W2.cell? ⟨w.heap.size, 0, none⟩ = some (.int .i64 n) := (World.cell?_of_block (w := wr) (by rw [← hW2]; exact Lib.iterAt_other wr H _ s _ (by simp; omega))).trans c0
      have c1 : W2.cell? ⟨w.heap.size, 1, none⟩ = some (.int .i64 a) := (World.cell?_of_block (w := wr) (by rw [← hW2]; exact Lib.iterAt_other wr H _ s _ (by simp; omega))).trans c1
      have c2 : W2.cell? ⟨w.heap.size, 2, none⟩ = some (.int .i64 b) := (World.cell?_of_block (w := wr) (by rw [← hW2]; exact Lib.iterAt_other wr H _ s _ (by simp; omega))).trans c2
      have HB1 := Lib.hid hB1
      have hv := Lib.hid (HLt.out _ (s[pos]'hlt).toNat hu)
      have HSt := Lib.hid (HS.out _ (s[pos]'hlt).toNat hu (by omega))
      clear hW2 hB1 r1 r2 r3 HM hle hit h256
      generalize (s[pos]'hlt).toNat = rr at hnx HSt HT hv
      generalize walkN n a b t ((bsN s).take pos) = v at hu HSt HT hv
      generalize stepN n a b v rr = v' at HSt HT hv
      go_wp2_with fail
      refine (HSt.out _).mono ?_
      rintro e w3 ⟨rfl, b3⟩
      have hI3 : w3.heap[H]? = some (.stringIter s (pos + 1)) := (b3.block H (Array.getElem?_eq_some_iff.1 HI1.out).1).trans HI1.out
      have hp3 : w3.iterPos H = pos + 1 := by simp [World.iterPos, hI3]
      have HI3 := Lib.hid hI3
      clear hI3
      go_wp2
      go_roundw
      case rel => exact ⟨pos + 1, by omega, HI3.out, by rw [HT.out], by rw [HT.out]; exact hv.out, HB1.out.trans (b3.mono HHs.out)⟩
      case measure => omega
    · have hnx : ∀ ty, (Instr.next (.pointer (some ⟨H, 0, none⟩)) true ty).run Tryd.prog wr = .ok (.tuple #[.bool false]) wr := fun ty => run_next_end_at wr H s pos ty hit hlt
      have hall2 := Lib.hid (show (bsN s).take pos = bsN s from List.take_of_length_le (by rw [bsN_length]; omega))
      clear hit
      go_wp2
      go_ret
      exact ⟨ret_int (by rw [hall2.out]), b0.trans (HB.out.mono (by omega))⟩
end Go.Proofs.YtibkhjbcagihbaaDoor

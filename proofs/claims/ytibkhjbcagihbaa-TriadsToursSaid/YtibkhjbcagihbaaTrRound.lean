/-
  areSteps and Round of package triads; the reference's Steps.
-/
import Derived.Test.YtibkhjbcagihbaaTrInts
namespace Go.Proofs.Ytibkhjbcagihbaa
open Go.ChangeShapes Go.WideShapes Go.ChangeAt Go.RowKit Go.Shelf
open Go.Lib (iterAt_heap iterAt_size below_iterAt run_next_any_at run_next_ascii_at run_next_end_at)
set_option maxRecDepth 100000

theorem sortsAll (m : Nat) : AnyZI.SortsIn Try.prog Try.sortedA_ren Fence.wide m :=
  ⟨fun blk off cap ss W hH hblk hsz => callsIn_wide.2 (Try.slices_Sort_int blk off cap ss W hH hblk hsz),
   fun p cap W => callsIn_wide.2 (Try.slices_Sort_int_none p cap W)⟩

theorem Keys_any (b : Nat) (w : World) : Calls Try.prog 62 #[.map (some b)] w fun e w' =>
    e = .returned (.func (.func 80) #[] #[.pointer (some ⟨w.heap.size, 0, none⟩)]) ∧ w' = w.alloc (.cells #[.map (some b)] 80) :=
  (callsIn_wide (n := 5)).1 (AnyZI.keys_in Try.keysA Fence.wide 5 trivial rfl (some b) w)

theorem Sorted_any (b n : Nat) (L : St) (w : World) (hF : Found w b L) (hlt : ∀ p ∈ L, p.1 < 2 * n) (hn : n ≤ 16) (hL : L.length ≤ 1000) :
    Calls Try.prog 61 #[.func (.func 80) #[] #[.pointer (some ⟨w.heap.size, 0, none⟩)]] (w.alloc (.cells #[.map (some b)] 80)) fun e w' =>
      ∃ v, e = .returned v ∧ w'.ownsRow (w.heap.size + 1) 3 1 v (riseL n L).length (ints (riseL n L)) ∧ Below (w.heap.size + 1) (w.alloc (.cells #[.map (some b)] 80)) w' := by
  obtain ⟨nn, D0, hown, hsz, hs1, hs2⟩ := hF.keys (n := n) hlt
  have hbl := hown.lt
  have hseq : SeqGives Fence.wide 2 Try.prog 80 #[.pointer (some ⟨w.heap.size, 0, none⟩)] encZ (fun ss => ss.Perm (intKeys D0)) (Maps.size D0) (w.alloc (.cells #[.map (some b)] 80)) :=
    AnyZI.keys_gives (ρ := Try.keysA_ren) { Try.keysA with } Fence.wide _ trivial rfl (by omega) w.heap.size b nn D0 _ (by simp) (by simp) (by
      obtain ⟨es, clock, hb, Ft, hs, hD⟩ := hown
      exact ⟨es, clock, (Below.heap_alloc _ _ b hbl).trans hb, Ft, hs, hD⟩)
  have cS := AnyZI.sorted_in Try.sortedA Fence.wide 5 trivial trivial trivial trivial rfl (by omega) (sortsAll _) (enters_of Try.func79 (by kernel_rfl) rfl) 80 #[.pointer (some ⟨w.heap.size, 0, none⟩)] trivial (enters_of Try.func80 (by kernel_rfl) rfl) _ (Maps.size D0) (by rw [hsz]; unfold maxLen; omega) (by rw [hsz]; omega) _ hseq
  refine ((callsIn_wide (n := 5)).1 cS).mono ?_
  rintro e w' ⟨v, ss, rfl, hp, hrow, _, hb⟩
  rw [hs1 ss hp, hs2 ss hp] at hrow
  have e1 : (w.alloc (.cells #[.map (some b)] 80)).heap.size = w.heap.size + 1 := by simp
  rw [e1] at hrow hb
  exact ⟨v, rfl, hrow, hb⟩

/-! ### steps -/
/-- Whether a string is steps of a Round. -/
def stepsB (s : ByteArray) : Bool := decide (0 < s.size) && ((bsN s).all isLetN && decide ((bsN s).Nodup))

theorem indexByte_mem (l : List UInt8) (c : UInt8) : decide (0 ≤ Lib.indexByte l c) = decide (c ∈ l) := by
  by_cases h : c ∈ l
  · rw [decide_eq_true h, decide_eq_true_eq]
    induction l with
    | nil => cases h
    | cons b l ih =>
      unfold Lib.indexByte
      by_cases e : b = c
      · simp [e]
      · have hm : c ∈ l := by
          rcases List.mem_cons.1 h with h | h
          · exact absurd h.symm e
          · exact h
        have := ih hm
        simp only [beq_iff_eq, e, if_false]
        rw [if_neg (by omega)]; omega
  · rw [decide_eq_false h, indexByte_none l c (fun b hb e => h (e ▸ hb))]; rfl

theorem contains_before (s : ByteArray) (pos : Nat) (hp : pos ≤ s.size) (c : Nat) (hc : c < 128) (w : World) :
    Calls Try.prog 77 #[.string (s.extract 0 pos), .int .i32 c] w fun e w' => e = .returned (.bool (decide (c ∈ (bsN s).take pos))) ∧ w = w' := by
  refine (Try.strings_ContainsRune_ascii (s.extract 0 pos) c w (by omega) (by omega)).mono ?_
  rintro e w' ⟨rfl, rfl⟩
  refine ⟨ret_bool ?_, rfl⟩
  rw [indexByte_mem]
  have e1 : (s.extract 0 pos).data.toList = s.data.toList.take pos := by simp [ByteArray.data_extract]
  rw [e1, Bool.eq_iff_iff, decide_eq_true_eq, decide_eq_true_eq]
  unfold bsN
  rw [← List.map_take, List.mem_map]
  have e2 : ((c : Int).toNat.toUInt8).toNat = c := by
    rw [Int.toNat_natCast]; simp; omega
  constructor
  · intro h; exact ⟨_, h, e2⟩
  · rintro ⟨b, hb, e⟩
    have : b = (c : Int).toNat.toUInt8 := by
      apply UInt8.toNat_inj.1; rw [e2, e]
    rw [← this]; exact hb

theorem toList_loop_length (s : ByteArray) : ∀ (m i : Nat) (r : List UInt8), s.size - i = m → (ByteArray.toList.loop s i r).length = r.length + m := by
  intro m
  induction m with
  | zero =>
    intro i r h
    rw [ByteArray.toList.loop, if_neg (by omega)]; simp
  | succ m ih =>
    intro i r h
    rw [ByteArray.toList.loop, if_pos (by omega), ih _ _ (by omega)]; simp; omega
theorem toList_empty (s : ByteArray) : (!s.toList.isEmpty) = decide (0 < s.size) := by
  have h : s.toList.length = s.size := by
    unfold ByteArray.toList
    rw [toList_loop_length s s.size 0 [] (by omega)]; simp
  cases hl : s.toList with
  | nil => rw [hl] at h; simp at h; rw [← h]; rfl
  | cons a l => rw [hl] at h; simp at h; rw [← h]; simp

theorem stepsB_dup {s : ByteArray} {pos : Nat} (h : pos < s.size) (hd : (s[pos]'h).toNat ∈ (bsN s).take pos) : stepsB s = false := by
  unfold stepsB
  have : ¬ (bsN s).Nodup := by
    intro hn
    have h2 : ((bsN s).take (pos + 1)).Nodup := hn.sublist (List.take_sublist _ _)
    rw [bsN_take s pos h, List.nodup_append] at h2
    exact h2.2.2 _ hd _ (by simp) rfl
  rw [decide_eq_false this, Bool.and_false, Bool.and_false]
theorem stepsB_bad {s : ByteArray} {pos : Nat} (h : pos < s.size) (hd : isLetN (s[pos]'h).toNat = false) : stepsB s = false := by
  unfold stepsB
  have hm : (s[pos]'h).toNat ∈ bsN s := by rw [← bsN_getElem s pos h]; exact List.getElem_mem _
  rw [← all_false hm hd, Bool.false_and, Bool.and_false]
theorem stepsB_end {s : ByteArray} (h1 : (bsN s).all isLetN = true) (h2 : (bsN s).Nodup) : stepsB s = decide (0 < s.size) := by
  unfold stepsB
  rw [h1, decide_eq_true h2, Bool.and_true, Bool.and_true]

set_option maxHeartbeats 2000000 in
theorem areSteps_any (s : ByteArray) (hs : s.size ≤ maxLen) (w : World) :
    Calls Try.prog 60 #[.string s] w fun e w' => e = .returned (.bool (stepsB s)) ∧ Below w.heap.size w w' := by
  have HI := Lib.hid (fun r h0 h2 => isStep_any r h0 h2)
  have hst := iter_start w s
  have hb0 : Below w.heap.size w (w.iter s 0) := (Below.refl _ w).alloc (Nat.le_refl _) _
  obtain ⟨H, hH⟩ : ∃ H, w.heap.size = H := ⟨_, rfl⟩
  obtain ⟨W0, hW0⟩ : ∃ W0, w.iter s 0 = W0 := ⟨_, rfl⟩
  rw [hH] at hst hb0 ⊢
  rw [hW0] at hst hb0
  have HH := Lib.hid hH
  have HW0 := Lib.hid hW0
  have HCB := Lib.hid (fun pos hp c hc => contains_before s pos hp c hc)
  clear hH hW0
  go_enter Try.func60, Try.ntmps60
  go_wp2
  rw [HH.out, HW0.out]
  go_loopw [4] (fun _ wr => ∃ pos : Nat, pos ≤ s.size ∧ wr.heap[H]? = some (.stringIter s pos) ∧ ((bsN s).take pos).all isLetN = true ∧ ((bsN s).take pos).Nodup ∧ Below H w wr) (fun _ wr => s.size - wr.iterPos H)
  case atStart => exact ⟨0, Nat.zero_le _, hst, by simp, by simp, hb0⟩
  case round =>
    obtain ⟨pos, hp, hit, hall, hnd, hB⟩ := hrel
    have hpos : wr.iterPos H = pos := by simp [World.iterPos, hit]
    have HB := Lib.hid hB
    have HA := Lib.hid hall
    have HN := Lib.hid hnd
    clear hst hb0 hB hall hnd
    by_cases hlt : pos < s.size
    · obtain ⟨r1, r2⟩ := rune_let s pos hlt
      have hle := decode_le s pos
      obtain ⟨W1, hW1⟩ : ∃ W1, wr.iterAt H s (pos + (Utf8.decode s pos).2) = W1 := ⟨_, rfl⟩
      have hnx : ∀ ty, (Instr.next (.pointer (some ⟨H, 0, none⟩)) true ty).run Try.prog wr = .ok (.tuple #[.bool true, .int .i64 pos, .int .i32 (Utf8.decode s pos).1]) W1 := fun ty => by rw [← hW1]; exact run_next_any_at wr H s pos ty hit hlt
      have hB1 : Below H w W1 := by rw [← hW1]; exact below_iterAt HB.out (Nat.le_refl _) s _
      have hI1 : W1.heap[H]? = some (.stringIter s (pos + (Utf8.decode s pos).2)) := by rw [← hW1]; exact iterAt_heap wr H s pos _ hit
      have HI1 := Lib.hid hI1
      have HHs := Lib.hid (Nat.le_of_lt (Array.getElem?_eq_some_iff.1 hI1).1)
      have HB1 := Lib.hid hB1
      have HIr := Lib.hid (HI.out ((Utf8.decode s pos).1 : Nat) (by omega) (by omega))
      rw [r1] at HIr
      cases hl : isLetN (s[pos]'hlt).toNat
      · rw [hl] at HIr
        have hbad := Lib.hid (stepsB_bad hlt hl)
        clear hW1 hI1 hB1 HI r1 r2 hit hl
        generalize (Utf8.decode s pos).1 = rr at hnx HIr hle
        go_wp2_with fail
        refine (HIr.out _).mono ?_
        rintro e w2 ⟨rfl, b2⟩
        go_wp2
        go_ret
        exact ⟨ret_bool (by rw [hbad.out]), HB1.out.trans (b2.mono HHs.out)⟩
      · have r3 := r2 hl
        rw [r3] at hnx HIr HI1
        rw [hl] at HIr
        have hl' := Lib.hid hl
        have HC := Lib.hid (HCB.out pos hp (s[pos]'hlt).toNat (by rcases (isLetN_iff _).1 hl with h | h | h <;> omega))
        have HT := Lib.hid (bsN_take s pos hlt)
        have HD := Lib.hid (fun hd => stepsB_dup hlt hd)
        clear hW1 hI1 hB1 HI r1 r2 r3 hit hl hle
        generalize (s[pos]'hlt).toNat = rr at hnx HIr hl' HC HT HD
        by_cases hdup : rr ∈ (bsN s).take pos
        · rw [decide_eq_true hdup] at HC
          have hbad := Lib.hid (HD.out hdup)
          clear hdup HD
          go_wp2_with fail
          refine (HIr.out _).mono ?_
          rintro e w2 ⟨rfl, b2⟩
          go_wp2_with fail
          refine (HC.out _).mono ?_
          rintro e w3 ⟨rfl, rfl⟩
          go_wp2
          go_ret
          exact ⟨ret_bool (by rw [hbad.out]), HB1.out.trans (b2.mono HHs.out)⟩
        · rw [decide_eq_false hdup] at HC
          have HDup := Lib.hid hdup
          clear hdup HD
          go_wp2_with fail
          refine (HIr.out _).mono ?_
          rintro e w2 ⟨rfl, b2⟩
          have hI2 : w2.heap[H]? = some (.stringIter s (pos + 1)) := (b2.block H (Array.getElem?_eq_some_iff.1 HI1.out).1).trans HI1.out
          have hp2 : w2.iterPos H = pos + 1 := by simp [World.iterPos, hI2]
          have HI2 := Lib.hid hI2
          clear hI2
          go_wp2_with fail
          refine (HC.out _).mono ?_
          rintro e w3 ⟨rfl, rfl⟩
          go_wp2
          go_roundw
          case rel =>
            refine ⟨pos + 1, by omega, HI2.out, by rw [HT.out, List.all_append, HA.out]; simp [hl'.out], ?_, HB1.out.trans (b2.mono HHs.out)⟩
            rw [HT.out, List.nodup_append]
            refine ⟨HN.out, by simp, ?_⟩
            intro x hx y hy e
            rw [List.mem_singleton] at hy
            exact HDup.out (by rw [← hy, ← e]; exact hx)
          case measure => omega
    · have hnx : ∀ ty, (Instr.next (.pointer (some ⟨H, 0, none⟩)) true ty).run Try.prog wr = .ok (.tuple #[.bool false]) wr := fun ty => run_next_end_at wr H s pos ty hit hlt
      have hE := List.take_of_length_le (l := bsN s) (i := pos) (by rw [bsN_length]; omega)
      have hall2 := Lib.hid (stepsB_end (s := s) (by have := HA.out; rwa [hE] at this) (by have := HN.out; rwa [hE] at this))
      clear hit hE
      go_wp2
      go_ret
      exact ⟨ret_bool (by rw [hall2.out]; exact toList_empty s), HB.out⟩

theorem stepsB_let {s : ByteArray} (h : stepsB s = true) : (bsN s).all isLetN = true ∧ (bsN s).Nodup ∧ 0 < s.size := by
  unfold stepsB at h
  rw [Bool.and_eq_true, Bool.and_eq_true, decide_eq_true_eq, decide_eq_true_eq] at h
  exact ⟨h.2.1, h.2.2, h.1⟩

set_option maxHeartbeats 2000000 in
theorem Round_ok (n a b t : Nat) (hk : KOk n a b) (ht : t < 2 * n) (s : ByteArray) (hs : s.size ≤ maxLen) (hst : stepsB s = true) (w : World) :
    Calls Try.prog 37 #[kv n a b, .int .i64 t, .string s] w fun e w' => ∃ v, e = .returned (.tuple #[v, .int .i64 0]) ∧ w'.ownsRow w.heap.size 3 1 v (riseL n (bfs n a b t (bsN s))).length (ints (riseL n (bfs n a b t (bsN s)))) ∧ Below w.heap.size w w' := by
  have h16 := hk.h16
  have HV := Lib.hid (valid1 n a b t true (by rw [kindB_of_nat hk, triB_nat ht]; rfl) (w.heap.size + 1) 1 (laid1 w n a b t) (by simp))
  have HA := Lib.hid (below_laid1 w n a b t)
  have HSt := Lib.hid (areSteps_any s hs)
  rw [hst] at HSt
  have HWk := Lib.hid (walks_any n a b t hk ht s (stepsB_let hst).1)
  have HI := Lib.hid (bfs_inv hk ht (bsN s)).1
  have k0 : (laid1 w n a b t).cell? ⟨w.heap.size, 0, none⟩ = some (.int .i64 n) := by simp
  have k1 : (laid1 w n a b t).cell? ⟨w.heap.size, 1, none⟩ = some (.int .i64 a) := by simp
  have k2 : (laid1 w n a b t).cell? ⟨w.heap.size, 2, none⟩ = some (.int .i64 b) := by simp
  clear hst
  go_enter Try.func37, Try.ntmps37
  go_wp2_with fail
  refine HV.out.mono ?_
  rintro e w1 ⟨rfl, b1⟩
  have k0 := cell_later b1 k0
  have k1 := cell_later b1 k1
  have k2 := cell_later b1 k2
  have HA1 := Lib.hid (below_nx HA.out b1)
  go_wp2_with fail
  refine (HSt.out _).mono ?_
  rintro e w2 ⟨rfl, b2⟩
  have k0 := cell_later b2 k0
  have k1 := cell_later b2 k1
  have k2 := cell_later b2 k2
  have HA2 := Lib.hid (below_nx HA1.out b2)
  go_wp2_with fail
  refine (HWk.out _).mono ?_
  rintro e w3 ⟨B, rfl, hB, hF, b3⟩
  have HA3 := Lib.hid (below_nx HA2.out b3)
  have HKe := Lib.hid (Keys_any B)
  have HSo := Lib.hid (Sorted_any B n _ w3 hF HI.out.lt h16 (by have := HI.out.size; omega))
  clear hF b1 b2 b3
  go_wp2_with fail
  refine (HKe.out _).mono ?_
  rintro e w4 ⟨rfl, rfl⟩
  go_wp2_with fail
  refine HSo.out.mono ?_
  rintro e w5 ⟨v, rfl, hown, b5⟩
  have HO := Lib.hid hown
  have HB5 := Lib.hid b5
  have HS3 := Lib.hid HA3.out.size
  clear hown b5
  go_wp2
  go_ret2
  have b4 : Below w.heap.size w (w3.alloc (.cells #[.map (some B)] 80)) := HA3.out.alloc HA3.out.size _
  refine ⟨v, rfl, ?_, b4.trans (HB5.out.mono (by have := HS3.out; omega))⟩
  obtain ⟨h0, h1 | ⟨g, cap, cur, hv, hg, h2⟩⟩ := HO.out
  · exact ⟨h0, Or.inl h1⟩
  · exact ⟨h0, Or.inr ⟨g, cap, cur, hv, by have := HS3.out; omega, h2⟩⟩

theorem Round_bad (n a b t : Int) (s : ByteArray) (hs : s.size ≤ maxLen) (h : (kindB n a b && triB n t) = false ∨ stepsB s = false) (w : World) :
    Calls Try.prog 37 #[kv n a b, .int .i64 t, .string s] w fun e w' => e = .returned (.tuple #[.slice none 0 0, .int .i64 2]) ∧ Below w.heap.size w w' := by
  have HA := Lib.hid (below_laid1 w n a b t)
  cases hb : kindB n a b && triB n t
  · have HV := Lib.hid (valid1 n a b t false hb (w.heap.size + 1) 1 (laid1 w n a b t) (by simp))
    clear hb h
    go_enter Try.func37, Try.ntmps37
    go_wp2_with fail
    refine HV.out.mono ?_
    rintro e w1 ⟨rfl, b1⟩
    go_wp2
    go_ret2
    exact ⟨rfl, below_nx HA.out b1⟩
  · have hst : stepsB s = false := by
      rcases h with h | h
      · rw [hb] at h; cases h
      · exact h
    have HV := Lib.hid (valid1 n a b t true hb (w.heap.size + 1) 1 (laid1 w n a b t) (by simp))
    have HSt := Lib.hid (areSteps_any s hs)
    rw [hst] at HSt
    clear hb h hst
    go_enter Try.func37, Try.ntmps37
    go_wp2_with fail
    refine HV.out.mono ?_
    rintro e w1 ⟨rfl, b1⟩
    have HA1 := Lib.hid (below_nx HA.out b1)
    go_wp2_with fail
    refine (HSt.out _).mono ?_
    rintro e w2 ⟨rfl, b2⟩
    go_wp2
    go_ret2
    exact ⟨rfl, below_nx HA1.out b2⟩
end Go.Proofs.Ytibkhjbcagihbaa

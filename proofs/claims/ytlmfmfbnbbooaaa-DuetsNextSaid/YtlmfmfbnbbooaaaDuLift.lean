/-
  A part lifted; Lift; whether a part crosses another one; Swap.
-/
import Derived.Test.YtlmfmfbnbbooaaaDuCount
namespace Go.Proofs.Ytlmfmfbnbbooaaa
open Go.RowKit Go.Shelf Go.ChangeShapes Go.WideShapes Go.ChangeAt
set_option maxRecDepth 100000

theorem run_make_zeroD (k : Nat) (hk : k ≤ 65536) (W : World) : (Instr.makeSlice 22 (.int .i64 (k : Int)) (.int .i64 (k : Int))).run Try.prog W = .ok (.slice (some ⟨W.heap.size, 0, none⟩) k k) (W.alloc (.cells (ints (List.replicate k 0)).toArray 3)) := by
  rw [← madeCells_ints]
  exact run_make_row' 22 3 (.int .i64 0) 8 Try.underlying22 (by kernel_rfl) rfl .i64 .i64 k (by omega) (by omega) W

/-- A part lifted, as the machine adds. -/
def liftW (by' : Int) (xs : List Int) : List Int := xs.map fun x => wrap64 (x + by')

set_option maxHeartbeats 2000000 in
theorem lift_any (xs : List Int) (b' : Int) (v : Value) (w : World) (h0 : 1 ≤ xs.length) (h8 : xs.length ≤ 8) (hn : notesB xs = true) (h : IntsV w v xs) :
    Calls Try.prog 96 #[v, .int .i64 b'] w fun e w' => ∃ v', e = .returned v' ∧ IntsV w' v' (liftW b' xs) ∧ Below w.heap.size w w' := by
  obtain ⟨b, off, cap, rfl, hc⟩ := d_cells h (by omega)
  have HC := Lib.hid hc
  obtain ⟨Hs, hHs⟩ : ∃ Hs, w.heap.size = Hs := ⟨_, rfl⟩
  have hmk := run_make_zeroD xs.length (by omega) w
  have hB0 : Below Hs w (w.alloc (.cells (ints (List.replicate xs.length 0)).toArray 3)) := by rw [← hHs]; exact (Below.refl _ w).alloc (Nat.le_refl _) _
  have hR0 : Row (w.alloc (.cells (ints (List.replicate xs.length 0)).toArray 3)) Hs 3 (ints (List.replicate xs.length 0)) := by rw [← hHs]; exact Row.new w _ _
  have hl0 : (ints (List.replicate xs.length 0)).length = xs.length := by unfold ints; simp
  rw [hHs] at hmk
  have HH := Lib.hid hHs
  generalize w.alloc (.cells (ints (List.replicate xs.length 0)).toArray 3) = W0 at hB0 hR0 hmk
  generalize ints (List.replicate xs.length 0) = vs0 at hR0 hl0
  have HR0 := Lib.hid (And.intro hR0 hl0)
  have hlow : b < Hs := by have := World.block_lt_of_cell? w _ (hc 0 (by omega)); rw [← hHs]; exact this
  have HNn := Lib.hid (fun i hi => note_at hn (i := i) hi)
  have HFin := Lib.hid (fun (vs : List Value) (V : World) (hr : Row V Hs 3 vs) (hlen : vs.length = xs.length) (hv : ∀ i, i < xs.length → vs[i]? = some (.int .i64 (wrap64 (nAt xs i + b')))) => show IntsV V (.slice (some ⟨Hs, 0, none⟩) xs.length xs.length) (liftW b' xs) from
    ⟨_, xs.length, by unfold liftW; rw [List.length_map], by unfold liftW; rw [List.length_map]; exact Nat.le_refl _, fun _ => ⟨Hs, 0, rfl, fun i hi => by
      unfold liftW at hi ⊢
      rw [List.length_map] at hi
      rw [Nat.zero_add, hr.cell i, hv i hi, List.getElem?_map]
      unfold nAt
      rw [List.getElem?_eq_getElem hi]; rfl⟩⟩)
  obtain ⟨L, hL⟩ : ∃ L, xs.length = L := ⟨_, rfl⟩
  rw [hL] at HR0 hmk h0 h8 HC HNn HFin ⊢
  clear h hc hR0 hl0 hHs hL hn
  go_enter Try.func96, Try.ntmps96
  go_wp2
  go_loopw [13] (fun t wr => ∃ (j : Nat) (vs : List Value), j ≤ L ∧ t = .int .i64 j ∧ Row wr Hs 3 vs ∧ vs.length = L ∧ (∀ i, i < j → vs[i]? = some (.int .i64 (wrap64 (nAt xs i + b')))) ∧ Below Hs w wr) (fun t _ => L - (intOf t).toNat)
  case atStart => exact ⟨0, vs0, Nat.zero_le _, rfl, HR0.out.1, HR0.out.2, fun i hi => by omega, hB0⟩
  case round =>
    obtain ⟨j, vs, hj, rfl, hr, hlen, hv, hb⟩ := hrel
    by_cases hlt : j < L
    · have c1 : wr.cell? ⟨b, off + j, none⟩ = some (.int .i64 (nAt xs j)) := (hb.cell (p := ⟨b, off + j, none⟩) hlow).trans (HC.out j hlt)
      have k1 := hr.cell j
      rw [List.getElem?_eq_getElem (show j < vs.length by omega)] at k1
      have f1 := hr.frozen j
      have HR := Lib.hid hr
      have HV := Lib.hid hv
      have HB := Lib.hid hb
      have HLn := Lib.hid hlen
      have hnb := HNn.out j hlt
      generalize hxj : nAt xs j = x at *
      generalize vs[j] = old at k1
      clear hr hv hb hlen
      go_wp2
      go_roundw
      case rel => exact ⟨j + 1, vs.set j (.int .i64 (wrap64 (x + b'))), by omega, by go_num, HR.out.set j _, by rw [List.length_set]; exact HLn.out, fun i hi => by
          by_cases e : i = j
          · subst e
            rw [List.getElem?_set_self (by rw [HLn.out]; exact hlt), hxj]
          · rw [List.getElem?_set_ne (fun h => e h.symm)]; exact HV.out i (by omega), HB.out.setCell (p := ⟨Hs, j, none⟩) (Nat.le_refl Hs) _⟩
      case measure => simp only [intOf]; omega
    · obtain rfl : j = L := by omega
      have HX := Lib.hid (HFin.out vs wr hr hlen hv)
      have HB := Lib.hid hb
      clear hr hlen hv hb
      go_wp2
      go_ret
      exact ⟨_, rfl, HX.out, by rw [HH.out]; exact HB.out⟩

/-- The sums as they are. -/
def liftP (b' : Int) (xs : List Int) : List Int := xs.map fun x => x + b'
theorem lift_in {xs : List Int} {b' : Int} (hn : notesB xs = true) (h1 : -20 ≤ b') (h2 : b' ≤ 20) : liftW b' xs = liftP b' xs := by
  unfold liftW liftP
  refine List.map_congr_left fun x hx => ?_
  unfold notesB at hn
  have := of_decide_eq_true (List.all_eq_true.1 hn x hx)
  unfold wrap64; omega
theorem lift_out {xs : List Int} {b' : Int} (h0 : 0 < xs.length) (hn : notesB xs = true) (hw : -9223372036854775808 ≤ b' ∧ b' ≤ 9223372036854775807) (hb : ¬ (-20 ≤ b' ∧ b' ≤ 20)) : notesB (liftW b' xs) = false := by
  have hx := note_at hn h0
  refine notes_false (x := wrap64 (nAt xs 0 + b')) ?_ ?_
  · unfold liftW
    exact List.mem_map.2 ⟨_, nAt_mem h0, rfl⟩
  · unfold wrap64; omega


theorem RLift_far (xs : List Int) (b' : Int) (v : Value) (w : World) (hb : ¬ (-20 ≤ b' ∧ b' ≤ 20)) (hl : xs.length ≤ maxLen) (h : IntsV w v xs) :
    Calls Try.prog 98 #[v, .int .i64 b'] w fun e w' => e = .returned (.tuple #[.slice none 0 0, .int .i64 4]) ∧ Below w.heap.size w w' := by
  obtain ⟨ao, cap, rfl, _⟩ := h
  by_cases hlo : b' < -20
  · go_enter Try.func98, Try.ntmps98
    go_wp2
    go_ret2
    exact ⟨rfl, Below.refl _ _⟩
  · have hhi : 20 < b' := by omega
    go_enter Try.func98, Try.ntmps98
    go_wp2
    go_ret2
    exact ⟨rfl, Below.refl _ _⟩

set_option maxHeartbeats 2000000 in
theorem RLift_in (xs : List Int) (b' : Int) (v : Value) (w : World) (hp : dpartB xs = true) (hlo : -20 ≤ b') (hhi : b' ≤ 20) (hv : notesB (liftP b' xs) = true) (h : IntsV w v xs) :
    Calls Try.prog 98 #[v, .int .i64 b'] w fun e w' => ∃ v', e = .returned (.tuple #[v', .int .i64 0]) ∧ IntsV w' v' (liftP b' xs) ∧ Below w.heap.size w w' := by
  obtain ⟨h1, h8, hn⟩ := dpart_len hp
  obtain ⟨b, off, cap, rfl, hc⟩ := d_cells h (by omega)
  obtain ⟨i0, hi, hz0, hz1, hz2⟩ := info_partsD info_intD
  have HC := Lib.hid hc
  obtain ⟨H, hH⟩ : ∃ H, w.heap.size = H := ⟨_, rfl⟩
  have hlow : b < H := by have := World.block_lt_of_cell? w _ (hc 0 (by omega)); rw [← hH]; exact this
  have HNn := Lib.hid (fun i hi => note_at hn (i := i) hi)
  have HN := Lib.hid (fun u W hu => RNotes_any (liftP b' xs) u W (by unfold liftP; rw [List.length_map]; unfold maxLen; omega) hu)
  have hlp : decide ((liftP b' xs).length ≤ 8) = true := decide_eq_true (by unfold liftP; rw [List.length_map]; exact h8)
  rw [hlp, Bool.and_true, hv] at HN
  have HT := Lib.hid (fun j (hj : j < xs.length) => show (liftP b' xs).take (j + 1) = (liftP b' xs).take j ++ [nAt xs j + b'] by
    unfold liftP nAt
    rw [List.take_succ_eq_append_getElem (by rw [List.length_map]; exact hj), List.getElem_map, List.getElem?_eq_getElem hj]; rfl)
  have HTl := Lib.hid (fun j (hj : j ≤ xs.length) => show ((liftP b' xs).take j).length = j by unfold liftP; rw [List.length_take, List.length_map]; omega)
  have HTa := Lib.hid (show (liftP b' xs).take xs.length = liftP b' xs from List.take_of_length_le (by unfold liftP; rw [List.length_map]; exact Nat.le_refl _))
  have HH := Lib.hid hH
  obtain ⟨L, hL⟩ : ∃ L, xs.length = L := ⟨_, rfl⟩
  rw [hL] at h1 h8 HC HNn HT HTl HTa ⊢
  clear hc h hp hlp hn hH hL hv
  generalize liftP b' xs = ls at *
  go_enter Try.func98, Try.ntmps98
  go_wp2
  go_loopw [6, 17] (fun o t wr => ∃ j : Nat, j ≤ L ∧ t = .int .i64 j ∧ wr.ownsRow H 3 1 o j (ivals (ls.take j)) ∧ Below H w wr) (fun _ t _ => L - (intOf t).toNat)
  case atStart => exact ⟨0, Nat.zero_le _, rfl, World.ownsRow_nil _ _ _ _, by rw [← HH.out]; exact Below.refl _ _⟩
  case round =>
    obtain ⟨j, hj, rfl, hown, hb⟩ := hrel
    by_cases hlt : j < L
    · have c1 : wr.cell? ⟨b, off + j, none⟩ = some (.int .i64 (nAt xs j)) := (hb.cell (p := ⟨b, off + j, none⟩) hlow).trans (HC.out j hlt)
      have hnb := HNn.out j hlt
      have HTj := Lib.hid (HT.out j hlt)
      have HO := Lib.hid hown
      have HB := Lib.hid hb
      have hsz : H ≤ wr.heap.size := by have h1 := hb.size; have h2 := HH.out; omega
      generalize nAt xs j = x at c1 hnb HTj
      clear hown hb
      go_wp2_with (at_builtin; refine wpList_append_own_at _ rfl _ _ 22 rfl H 3 i0 (.int .i64 0) 1 8 Try.underlying22 hi hz0 hz1 hz2 rfl (by decide) _ _ _ rfl (HO.out.alloc _) ⟨wr.heap.size, 0, none⟩ 1 1 [.int .i64 (x + b')] rfl rfl (cell_one_new _ _ _) (by simp [Value.oneCell']) (by unfold maxLen; omega) (by omega) (by simp; omega) ?_; intro v' w2 hown' hgrow _ hob; obtain ⟨g', cap', rfl⟩ := ownsRow_succ hown'; have HOW := Lib.hid hown'; have HB2 := Lib.hid ((HB.out.alloc hsz _).grown hgrow (Nat.le_trans hsz (by rw [World.size_alloc]; exact Nat.le_succ _)) (fun k e => (HO.out.lt k e).1)); clear hown' hgrow hob)
      go_roundw
      case rel => exact ⟨j + 1, by omega, by go_num, by rw [HTj.out]; unfold ivals at *; rw [List.map_append]; exact HOW.out, HB2.out⟩
      case measure => simp only [intOf]; omega
    · obtain rfl : j = L := by omega
      rw [HTa.out] at hown
      have hls := HTl.out j (Nat.le_refl j)
      rw [HTa.out] at hls
      have hiv : IntsV wr u6 ls := IntsV.of_own (by rw [hls]; exact hown)
      have HIv := Lib.hid hiv
      obtain ⟨oa, oc, ofm⟩ := own_formD hown
      have HB := Lib.hid hb
      have N1 := Lib.hid (HN.out _ wr hiv)
      clear hown hb hiv
      subst ofm
      go_wp2_with fail
      refine N1.out.mono ?_
      rintro e w2 ⟨rfl, rfl⟩
      go_wp2
      go_ret2
      exact ⟨_, rfl, HIv.out, by rw [HH.out]; exact HB.out⟩

set_option maxHeartbeats 2000000 in
theorem RLift_none (xs : List Int) (b' : Int) (v : Value) (w : World) (hp : dpartB xs = true) (hlo : -20 ≤ b') (hhi : b' ≤ 20) (hv : notesB (liftP b' xs) = false) (h : IntsV w v xs) :
    Calls Try.prog 98 #[v, .int .i64 b'] w fun e w' => e = .returned (.tuple #[.slice none 0 0, .int .i64 4]) ∧ Below w.heap.size w w' := by
  obtain ⟨h1, h8, hn⟩ := dpart_len hp
  obtain ⟨b, off, cap, rfl, hc⟩ := d_cells h (by omega)
  obtain ⟨i0, hi, hz0, hz1, hz2⟩ := info_partsD info_intD
  have HC := Lib.hid hc
  obtain ⟨H, hH⟩ : ∃ H, w.heap.size = H := ⟨_, rfl⟩
  have hlow : b < H := by have := World.block_lt_of_cell? w _ (hc 0 (by omega)); rw [← hH]; exact this
  have HNn := Lib.hid (fun i hi => note_at hn (i := i) hi)
  have HN := Lib.hid (fun u W hu => RNotes_any (liftP b' xs) u W (by unfold liftP; rw [List.length_map]; unfold maxLen; omega) hu)
  have hlp : decide ((liftP b' xs).length ≤ 8) = true := decide_eq_true (by unfold liftP; rw [List.length_map]; exact h8)
  rw [hlp, Bool.and_true, hv] at HN
  have HT := Lib.hid (fun j (hj : j < xs.length) => show (liftP b' xs).take (j + 1) = (liftP b' xs).take j ++ [nAt xs j + b'] by
    unfold liftP nAt
    rw [List.take_succ_eq_append_getElem (by rw [List.length_map]; exact hj), List.getElem_map, List.getElem?_eq_getElem hj]; rfl)
  have HTl := Lib.hid (fun j (hj : j ≤ xs.length) => show ((liftP b' xs).take j).length = j by unfold liftP; rw [List.length_take, List.length_map]; omega)
  have HTa := Lib.hid (show (liftP b' xs).take xs.length = liftP b' xs from List.take_of_length_le (by unfold liftP; rw [List.length_map]; exact Nat.le_refl _))
  have HH := Lib.hid hH
  obtain ⟨L, hL⟩ : ∃ L, xs.length = L := ⟨_, rfl⟩
  rw [hL] at h1 h8 HC HNn HT HTl HTa ⊢
  clear hc h hp hlp hn hH hL hv
  generalize liftP b' xs = ls at *
  go_enter Try.func98, Try.ntmps98
  go_wp2
  go_loopw [6, 17] (fun o t wr => ∃ j : Nat, j ≤ L ∧ t = .int .i64 j ∧ wr.ownsRow H 3 1 o j (ivals (ls.take j)) ∧ Below H w wr) (fun _ t _ => L - (intOf t).toNat)
  case atStart => exact ⟨0, Nat.zero_le _, rfl, World.ownsRow_nil _ _ _ _, by rw [← HH.out]; exact Below.refl _ _⟩
  case round =>
    obtain ⟨j, hj, rfl, hown, hb⟩ := hrel
    by_cases hlt : j < L
    · have c1 : wr.cell? ⟨b, off + j, none⟩ = some (.int .i64 (nAt xs j)) := (hb.cell (p := ⟨b, off + j, none⟩) hlow).trans (HC.out j hlt)
      have hnb := HNn.out j hlt
      have HTj := Lib.hid (HT.out j hlt)
      have HO := Lib.hid hown
      have HB := Lib.hid hb
      have hsz : H ≤ wr.heap.size := by have h1 := hb.size; have h2 := HH.out; omega
      generalize nAt xs j = x at c1 hnb HTj
      clear hown hb
      go_wp2_with (at_builtin; refine wpList_append_own_at _ rfl _ _ 22 rfl H 3 i0 (.int .i64 0) 1 8 Try.underlying22 hi hz0 hz1 hz2 rfl (by decide) _ _ _ rfl (HO.out.alloc _) ⟨wr.heap.size, 0, none⟩ 1 1 [.int .i64 (x + b')] rfl rfl (cell_one_new _ _ _) (by simp [Value.oneCell']) (by unfold maxLen; omega) (by omega) (by simp; omega) ?_; intro v' w2 hown' hgrow _ hob; obtain ⟨g', cap', rfl⟩ := ownsRow_succ hown'; have HOW := Lib.hid hown'; have HB2 := Lib.hid ((HB.out.alloc hsz _).grown hgrow (Nat.le_trans hsz (by rw [World.size_alloc]; exact Nat.le_succ _)) (fun k e => (HO.out.lt k e).1)); clear hown' hgrow hob)
      go_roundw
      case rel => exact ⟨j + 1, by omega, by go_num, by rw [HTj.out]; unfold ivals at *; rw [List.map_append]; exact HOW.out, HB2.out⟩
      case measure => simp only [intOf]; omega
    · obtain rfl : j = L := by omega
      rw [HTa.out] at hown
      have hls := HTl.out j (Nat.le_refl j)
      rw [HTa.out] at hls
      have hiv : IntsV wr u6 ls := IntsV.of_own (by rw [hls]; exact hown)
      have HIv := Lib.hid hiv
      obtain ⟨oa, oc, ofm⟩ := own_formD hown
      have HB := Lib.hid hb
      have N1 := Lib.hid (HN.out _ wr hiv)
      clear hown hb hiv
      subst ofm
      go_wp2_with fail
      refine N1.out.mono ?_
      rintro e w2 ⟨rfl, rfl⟩
      go_wp2
      go_ret2
      exact ⟨rfl, by rw [HH.out]; exact HB.out⟩
end Go.Proofs.Ytlmfmfbnbbooaaa

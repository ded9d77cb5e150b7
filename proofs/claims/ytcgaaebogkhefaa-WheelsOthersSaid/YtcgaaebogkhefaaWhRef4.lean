/-
  The reference's wheel of a chord; where it is silent; flat and alike chords.
-/
import Derived.Test.YtcgaaebogkhefaaWhSpectraLaw
namespace Go.Proofs.Ytcgaaebogkhefaa
open Go.ChangeShapes Go.WideShapes Go.ChangeAt Go.RowKit
set_option maxRecDepth 100000

theorem tabN_succ (k : Nat) (f : Nat → Nat) : natI (tabN (k + 1) f) = natI (tabN k f) ++ [((f k : Nat) : Int)] := by
  unfold tabN natI; rw [List.range_succ, List.map_append, List.map_append]; rfl
theorem tab_ch (n c : Nat) : tabN n (bI c) = tabN n (chF n c) := tabN_congr (fun x hx => by unfold chF; rw [if_pos hx])

set_option maxHeartbeats 1000000 in
theorem RChord_any (n : Nat) (hn0 : 0 < n) (hn : n < 17) (c : Nat) (hc : c < 2 ^ n) (w : World) :
    Calls Try.prog 40 #[.int .i64 (n : Int), .int .i64 (c : Int)] w fun r w' => ∃ v, r = .returned v ∧ IntsV w' v (natI (tabN n (chF n c))) ∧ Below w.heap.size w w' := by
  have hc16 : c < 2 ^ 16 := Nat.lt_of_lt_of_le hc (Nat.pow_le_pow_right (by omega) (by omega))
  have HB := Lib.hid (fun k => shr1 c k hc16)
  have HT := Lib.hid (fun k => tabN_succ k (bI c))
  have HA := Lib.hid (tab_ch n c)
  obtain ⟨i0, hi, hz0, hz1, hz2⟩ := info_parts info_intV
  obtain ⟨B, hB⟩ : ∃ B, w.heap.size = B := ⟨_, rfl⟩
  have HBB := Lib.hid hB
  clear hB hc
  go_enter Try.func40, Try.ntmps40
  go_wp2_with fail
  go_loopw [5, 8] (fun o i wr => ∃ k : Nat, k ≤ n ∧ i = .int .i64 (k : Int) ∧ wr.ownsRow B 3 1 o k (ivals (natI (tabN k (bI c)))) ∧ Below B w wr) (fun _ i _ => n - (intOf i).toNat)
  case atStart => exact ⟨0, Nat.zero_le _, rfl, World.ownsRow_nil _ _ _ _, by rw [← HBB.out]; exact Below.refl _ _⟩
  case round =>
    obtain ⟨k, hk, rfl, hown, hb⟩ := hrel
    have HO := Lib.hid hown
    have HBe := Lib.hid hb
    have hsz : B ≤ wr.heap.size := by have h1 := hb.size; have h2 := HBB.out; omega
    clear hown hb
    by_cases hlt : k < n
    · have hv := HB.out k
      have HTk := Lib.hid (HT.out k)
      generalize bI c k = y at *
      go_wp2_with (at_builtin; refine wpList_append_own_at _ rfl _ _ 28 rfl B 3 i0 (.int .i64 0) 1 8 Try.underlying28 hi hz0 hz1 hz2 rfl (by decide) _ _ _ rfl (HO.out.alloc _) ⟨wr.heap.size, 0, none⟩ 1 1 [.int .i64 (y : Int)] rfl rfl (cell_one_new _ _ _) (by simp [Value.oneCell']) (by unfold maxLen; omega) (by omega) (by simp; omega) ?_; intro v' w4 hown' hgrow _ hob; obtain ⟨g', cap', rfl⟩ := ownsRow_succ hown'; have HOW := Lib.hid hown'; have HB2 := Lib.hid ((HBe.out.alloc hsz _).grown hgrow (Nat.le_trans hsz (by rw [World.size_alloc]; exact Nat.le_succ _)) (fun k e => (HO.out.lt k e).1)); clear hown' hgrow hob)
      go_roundw
      case rel => exact ⟨k + 1, by omega, by go_num, by rw [HTk.out]; unfold ivals at *; rw [List.map_append]; exact HOW.out, HB2.out⟩
      case measure => simp only [intOf]; omega
    · obtain rfl : k = n := by omega
      rw [HA.out] at HO
      have HV := Lib.hid (IntsV.of_vals HO.out)
      go_wp2
      go_ret
      exact ⟨_, rfl, HV.out, by rw [HBB.out]; exact HBe.out⟩

set_option maxHeartbeats 1000000 in
theorem RSilent_any (n : Nat) (h : Circ n) (c : Nat) (hc : c < 2 ^ n) (w : World) :
    Calls Try.prog 41 #[.int .i64 (n : Int), .int .i64 (c : Int)] w fun r w' => r = .returned (.int .i64 ((zeN (spF n (chF n c)) n : Nat) : Int)) ∧ Below w.heap.size w w' := by
  have hn := h.2
  have hn0 := h.pos
  have HC := Lib.hid (fun W => RChord_any n h.pos h.2 c hc W)
  have HS := Lib.hid (fun v W hv => RSpectrum_any n h (chF n c) (ch_wh h c).lt v W hv)
  have HL := Lib.hid (zeN_lt (spF n (chF n c)))
  have HZ0 := Lib.hid (show zeN (spF n (chF n c)) 0 = 0 from rfl)
  have HZs := Lib.hid (fun k => show zeN (spF n (chF n c)) (k + 1) = if spF n (chF n c) k = 0 then zeN (spF n (chF n c)) k ||| 1 <<< k else zeN (spF n (chF n c)) k from rfl)
  clear hc h
  generalize spF n (chF n c) = f at *
  go_enter Try.func41, Try.ntmps41
  go_wp2_with fail
  refine (HC.out _).mono ?_
  rintro r w1 ⟨v1, rfl, i1, b1⟩
  have I1 := Lib.hid i1
  have B1 := Lib.hid b1
  clear i1 b1
  go_wp2_with fail
  refine (HS.out _ _ I1.out).mono ?_
  rintro r w2 ⟨g, rfl, _, o2⟩
  have O2 := Lib.hid o2
  clear o2
  go_wp2_with fail
  go_loopw [5, 14] (fun s i wr => ∃ k : Nat, k ≤ n ∧ s = .int .i64 ((zeN f k : Nat) : Int) ∧ i = .int .i64 (k : Int) ∧ w2 = wr) (fun _ i _ => n - (intOf i).toNat)
  case atStart => exact ⟨0, Nat.zero_le _, by rw [HZ0.out]; rfl, rfl, rfl⟩
  case round =>
    obtain ⟨k, hk, rfl, rfl, rfl⟩ := hrel
    by_cases hlt : k < n
    · have hk16 : k < 16 := by omega
      have e1 := O2.out.at hlt
      have hs := HZs.out k
      have hl := HL.out k
      have hl2 : 2 ^ k ≤ 2 ^ 16 := Nat.pow_le_pow_right (by omega) (by omega)
      have hw2 := w64_pow (show k < 16 by omega)
      have he : 1 <<< k < 2 ^ 16 := by rw [Nat.one_shiftLeft]; exact Nat.pow_lt_pow_right (by omega) (by omega)
      have hor := or_nat (zeN f k) (1 <<< k) (by omega) (by omega)
      by_cases h0 : f k = 0
      · rw [if_pos h0] at hs
        rw [h0] at e1
        have HS := Lib.hid hs
        clear hs hl
        generalize (1 <<< k : Nat) = e at *
        generalize zeN f k = s at *
        go_wp2
        go_roundw
        case rel => exact ⟨k + 1, by omega, by rw [HS.out], by go_num, by trivial⟩
        case measure => simp only [intOf]; omega
      · rw [if_neg h0] at hs
        have HS := Lib.hid hs
        have h0' : (((f k : Nat) : Int) == 0) = false := by rw [beq_eq_false_iff_ne]; omega
        clear hs hl
        generalize f k = y at *
        go_wp2
        go_roundw
        case rel => exact ⟨k + 1, by omega, by rw [HS.out], by go_num, by trivial⟩
        case measure => simp only [intOf]; omega
    · obtain rfl : k = n := by omega
      go_wp2
      go_ret
      exact ⟨rfl, B1.out.trans (O2.out.hb.mono B1.out.size)⟩

theorem run_from1 (g n : Nat) (h : 1 ≤ n) (W : World) : (Instr.slice 28 (.slice (some ⟨g, 0, none⟩) n n) (some (.int .i64 1)) none none).run Try.prog W = .ok (.slice (some (if n = 1 then ⟨g, 0, none⟩ else ⟨g, 1, none⟩)) (n - 1) (n - 1)) W := by
  have ht : Try.prog.underlying 28 = some (.slice (Try.prog.elem 28)) := by kernel_rfl
  have hs : (sizeOf (Try.prog.elem 28)).run Try.prog W = .ok 1 W := by
    rw [show Try.prog.elem 28 = 3 by kernel_rfl]
    exact Try.sizeOf3 W
  rw [run_slice_l (ht := ht) (h0 := by omega) (h1 := by omega), hs]
  have e1 : (1 : Int).toNat = 1 := rfl
  simp only [Result.andThen_ok, sliced, e1, Nat.one_mul, Option.map_some]
  by_cases h1 : n = 1
  · simp [h1]
  · simp [h1, Addr.add]

set_option maxHeartbeats 1000000 in
theorem RFlat_any (n : Nat) (h : Circ n) (c : Nat) (hc : c < 2 ^ n) (w : World) :
    Calls Try.prog 42 #[.int .i64 (n : Int), .int .i64 (c : Int)] w fun r w' => r = .returned (.bool (flatB n (poF n (chF n c)))) ∧ Below w.heap.size w w' := by
  have hn := h.2
  have hn0 := h.1
  have HC := Lib.hid (fun W => RChord_any n h.pos h.2 c hc W)
  have HP := Lib.hid (fun v W hv => RPower_any n h (chF n c) (ch_wh h c).lt v W hv)
  have HFl := Lib.hid (show flatB n (poF n (chF n c)) = (List.range (n - 1)).all (fun i => poF n (chF n c) (i + 1) == poF n (chF n c) 1) from rfl)
  clear hc h
  generalize poF n (chF n c) = pf at *
  go_enter Try.func42, Try.ntmps42
  go_wp2_with fail
  refine (HC.out _).mono ?_
  rintro r w1 ⟨v1, rfl, i1, b1⟩
  have I1 := Lib.hid i1
  have B1 := Lib.hid b1
  clear i1 b1
  go_wp2_with fail
  refine (HP.out _ _ I1.out).mono ?_
  rintro r w2 ⟨g, rfl, _, o2⟩
  have O2 := Lib.hid o2
  clear o2
  have hsl := run_from1 g n (by omega)
  rw [if_neg (show ¬ n = 1 by omega)] at hsl
  go_wp2_with fail
  go_loopw [16] (fun i wr => ∃ k : Nat, k ≤ n - 1 ∧ i = .int .i64 (k : Int) ∧ (∀ j, j < k → pf (j + 1) = pf 1) ∧ w2 = wr) (fun i _ => n - 1 - (intOf i).toNat)
  case atStart => exact ⟨0, by omega, rfl, by intros; omega, rfl⟩
  case round =>
    obtain ⟨k, hk, rfl, ha, rfl⟩ := hrel
    have HA := Lib.hid ha
    clear ha
    by_cases hlt : k < n - 1
    · have e1 := O2.out.at (show k + 1 < n by omega)
      have e2 := O2.out.at (show 1 < n by omega)
      rw [show k + 1 = 1 + k by omega] at e1
      by_cases heq : pf (1 + k) = pf 1
      · have HA2 := Lib.hid (show ∀ j, j < k + 1 → pf (j + 1) = pf 1 from fun j hj => by
          by_cases e : j = k
          · rw [e, Nat.add_comm]; exact heq
          · exact HA.out j (by omega))
        rw [heq] at e1
        have hbq : (((pf 1 : Nat) : Int) == ((pf 1 : Nat) : Int)) = true := beq_self_eq_true _
        clear heq
        generalize pf 1 = y at *
        go_wp2
        go_roundw
        case rel => exact ⟨k + 1, by omega, by go_num, HA2.out, by trivial⟩
        case measure => simp only [intOf]; omega
      · have HV := Lib.hid (show flatB n pf = false by
          rw [HFl.out, List.all_eq_false]
          exact ⟨k, List.mem_range.2 hlt, by rw [Nat.add_comm]; simp [heq]⟩)
        have hbq : (((pf (1 + k) : Nat) : Int) == ((pf 1 : Nat) : Int)) = false := by rw [beq_eq_false_iff_ne]; omega
        generalize pf (1 + k) = y at *
        generalize pf 1 = x at *
        go_wp2
        go_ret
        exact ⟨by rw [HV.out]; rfl, B1.out.trans (O2.out.hb.mono B1.out.size)⟩
    · obtain rfl : k = n - 1 := by omega
      have HV := Lib.hid (show flatB n pf = true by
        rw [HFl.out, List.all_eq_true]
        intro j hj
        rw [HA.out j (List.mem_range.1 hj)]; exact beq_self_eq_true _)
      go_wp2
      go_ret
      exact ⟨by rw [HV.out]; rfl, B1.out.trans (O2.out.hb.mono B1.out.size)⟩

set_option maxHeartbeats 1000000 in
theorem RAlike_any (n : Nat) (h : Circ n) (a b : Nat) (ha : a < 2 ^ n) (hb : b < 2 ^ n) (w : World) :
    Calls Try.prog 44 #[.int .i64 (n : Int), .int .i64 (a : Int), .int .i64 (b : Int)] w fun r w' => r = .returned (.bool ((List.range 16).all fun x => poF n (chF n a) x == poF n (chF n b) x)) ∧ Below w.heap.size w w' := by
  have hn := h.2
  have hn0 := h.1
  have HCa := Lib.hid (fun W => RChord_any n h.pos h.2 a ha W)
  have HCb := Lib.hid (fun W => RChord_any n h.pos h.2 b hb W)
  have HPa := Lib.hid (fun v W hv => RPower_any n h (chF n a) (ch_wh h a).lt v W hv)
  have HPb := Lib.hid (fun v W hv => RPower_any n h (chF n b) (ch_wh h b).lt v W hv)
  have HO : Hid (∀ x, n ≤ x → poF n (chF n a) x = poF n (chF n b) x) := Lib.hid (fun x hx => by rw [(po_wh h _).out x hx, (po_wh h _).out x hx])
  generalize poF n (chF n a) = pa at *
  generalize poF n (chF n b) = pb at *
  clear ha hb h
  go_enter Try.func44, Try.ntmps44
  go_wp2_with fail
  refine (HCb.out _).mono ?_
  rintro r w1 ⟨v1, rfl, i1, b1⟩
  have I1 := Lib.hid i1
  have B1 := Lib.hid b1
  clear i1 b1
  go_wp2_with fail
  refine (HPb.out _ _ I1.out).mono ?_
  rintro r w2 ⟨g, rfl, _, o2⟩
  have O2 := Lib.hid o2
  have B2 := Lib.hid (B1.out.trans (o2.hb.mono B1.out.size))
  clear o2
  go_wp2_with fail
  refine (HCa.out _).mono ?_
  rintro r w3 ⟨v3, rfl, i3, b3⟩
  have I3 := Lib.hid i3
  have O3 := Lib.hid (O2.out.later b3)
  have B3 := Lib.hid (below_nx B2.out b3)
  clear i3 b3
  go_wp2_with fail
  refine (HPa.out _ _ I3.out).mono ?_
  rintro r w4 ⟨g4, rfl, _, o4⟩
  have O4 := Lib.hid o4
  have O34 := Lib.hid (O3.out.later o4.hb)
  have B4 := Lib.hid (B3.out.trans (o4.hb.mono B3.out.size))
  clear o4
  go_wp2_with fail
  go_loopw [21] (fun i wr => ∃ k : Nat, k ≤ n ∧ i = .int .i64 (k : Int) ∧ (∀ j, j < k → pa j = pb j) ∧ w4 = wr) (fun i _ => n - (intOf i).toNat)
  case atStart => exact ⟨0, by omega, rfl, by intros; omega, rfl⟩
  case round =>
    obtain ⟨k, hk, rfl, ha, rfl⟩ := hrel
    have HA := Lib.hid ha
    clear ha
    by_cases hlt : k < n
    · have e1 := O4.out.at hlt
      have e2 := O34.out.at hlt
      by_cases heq : pa k = pb k
      · have HA2 := Lib.hid (show ∀ j, j < k + 1 → pa j = pb j from fun j hj => by
          by_cases e : j = k
          · rw [e]; exact heq
          · exact HA.out j (by omega))
        rw [heq] at e1
        have hbq : (((pb k : Nat) : Int) == ((pb k : Nat) : Int)) = true := beq_self_eq_true _
        clear heq
        generalize pb k = y at *
        go_wp2
        go_roundw
        case rel => exact ⟨k + 1, by omega, by go_num, HA2.out, by trivial⟩
        case measure => simp only [intOf]; omega
      · have HV := Lib.hid (show ((List.range 16).all fun x => pa x == pb x) = false by
          rw [List.all_eq_false]
          exact ⟨k, List.mem_range.2 (by omega), by simp [heq]⟩)
        have hbq : (((pa k : Nat) : Int) == ((pb k : Nat) : Int)) = false := by rw [beq_eq_false_iff_ne]; omega
        generalize pa k = y at *
        generalize pb k = x at *
        go_wp2
        go_ret
        exact ⟨by rw [HV.out]; rfl, B4.out⟩
    · obtain rfl : k = n := by omega
      have HV := Lib.hid (show ((List.range 16).all fun x => pa x == pb x) = true by
        rw [List.all_eq_true]
        intro j _
        by_cases hj : j < k
        · rw [HA.out j hj]; exact beq_self_eq_true _
        · rw [HO.out j (by omega)]; exact beq_self_eq_true _)
      go_wp2
      go_ret
      exact ⟨by rw [HV.out]; rfl, B4.out⟩
end Go.Proofs.Ytcgaaebogkhefaa

/-
  The wheel of a chord; whether lists are wheels, and numbers chords.
-/
import Derived.Test.YthnenhfdojpobaaDoorWhTimes
namespace Go.Proofs.YthnenhfdojpobaaDoor
open Go.ChangeShapes Go.WideShapes Go.ChangeAt Go.RowKit
set_option maxRecDepth 100000

/-! ### the wheel of a chord -/
theorem shr1 (c k : Nat) (h : c < 2 ^ 16) : bits .and .i64 ((c : Int) / 2 ^ k) 1 = ((bI c k : Nat) : Int) := by
  have e1 : (c : Int) / 2 ^ k = ((c / 2 ^ k : Nat) : Int) := by simp
  have h2 : c / 2 ^ k ≤ c := Nat.div_le_self _ _
  rw [e1, show (1 : Int) = ((1 : Nat) : Int) from rfl, and_nat _ _ (by omega) (by omega)]
  congr 1
  rw [Nat.and_one_is_mod]
  unfold bI
  rw [Nat.testBit_eq_decide_div_mod_eq]
  have := Nat.mod_lt (c / 2 ^ k) (show 0 < 2 by omega)
  by_cases h1 : c / 2 ^ k % 2 = 1
  · simp [h1]
  · have h0 : c / 2 ^ k % 2 = 0 := by omega
    simp [h0]
theorem chF_upt (n c : Nat) : uptF n (chF n c) = chF n c := by funext x; unfold uptF chF; by_cases h : x < n <;> simp [h]

set_option maxHeartbeats 1000000 in
theorem chord_any (n : Nat) (h : Circ n) (c : Nat) (hc : c < 2 ^ n) (w : World) :
    Calls Tryd.prog 16 #[fV n (qN n) (wN n), .int .i64 (c : Int)] w fun e w' => e = .returned (whV n (chF n c)) ∧ Below w.heap.size w w' := by
  have hn := h.2
  have hn0 := h.pos
  have hc16 : c < 2 ^ 16 := Nat.lt_of_lt_of_le hc (Nat.pow_le_pow_right (by omega) (by omega))
  have HE := Lib.hid (headC_eq n)
  have HB := Lib.hid (fun k => shr1 c k hc16)
  have HAll := Lib.hid (chF_upt n c)
  have HCh := Lib.hid (fun k (hk : k < n) => show bI c k = chF n c k by unfold chF; rw [if_pos hk])
  obtain ⟨B, hB⟩ : ∃ B, w.heap.size = B := ⟨_, rfl⟩
  obtain ⟨W0, hW0⟩ : ∃ W0, w.alloc (.cells #[.int .i64 (n : Int), .int .i64 ((qN n : Nat) : Int), .int .i64 ((wN n : Nat) : Int)] 38) = W0 := ⟨_, rfl⟩
  have hs0 : W0.heap.size = B + 1 := by rw [← hW0, World.size_alloc, hB]
  have hF0 : FAt w B n (qN n) (wN n) W0 := by rw [← hW0, ← hB]; exact FAt.new n (qN n) (wN n) w
  have hF1 := hF0.later ((Below.refl _ W0).alloc (Nat.le_refl _) (.cells zeroC 43))
  have hz1 := zero_new W0
  have hs1 : (W0.alloc (.cells zeroC 43)).heap.size = B + 1 + 1 := by rw [World.size_alloc, hs0]
  rw [hs0, ← hW0] at hz1
  rw [← hW0] at hF1 hs1
  obtain ⟨WX, hWX⟩ : ∃ WX, (w.alloc (.cells #[.int .i64 (n : Int), .int .i64 ((qN n : Nat) : Int), .int .i64 ((wN n : Nat) : Int)] 38)).alloc (.cells zeroC 43) = WX := ⟨_, rfl⟩
  rw [hWX] at hF1 hs1 hz1
  have HF1 := Lib.hid hF1
  have HZ1 := Lib.hid hz1
  have HS1 := Lib.hid hs1
  unfold zeroC at hWX
  have HWX := Lib.hid hWX
  clear hF0 hF1 hz1 hs1 hs0 hW0 hWX
  unfold fV
  go_enter Tryd.func16, Tryd.ntmps16
  go_upto_region 1 with fail
  rw [HWX.out]
  go_step
  refine wpList_load_row rfl 38 (.tmp 2) rfl B rfl 38 (fC n (qN n) (wN n)).toArray (0, 0) _ HF1.out.row Tryd.underlying38 rfl info_field ?_
  refine wpList_fresh n (qN n) (wN n) 7 8 5 rfl rfl rfl rfl rfl rfl rfl rfl rfl rfl (fun _ _ => rfl) (fun _ _ => rfl) (B + 1 + 1) HS1.out ?_
  intro W2 hcv hcs2 hs2 hr2 hb2
  go_frame
  have HF2 := Lib.hid (⟨HF1.out.hb.trans (hb2.mono (by omega)), (hb2.block _ (by omega)).trans HF1.out.row⟩ : FAt w B n (qN n) (wN n) W2)
  have HT2 := Lib.hid (show Own1 w (B + 1 + 1) n (uptF 0 (chF n c)) (B + 1) W2 from ⟨⟨HF2.out.hb, by rw [uptF_zero]; rw [hcs2, ← HE.out] at hr2; exact hr2⟩, (hb2.block (B + 1) (by omega)).trans HZ1.out⟩)
  clear hcs2 hs2 hr2 hb2
  generalize Value.agg hcv = csv
  obtain ⟨k0, k1, k2⟩ := HF2.out.cell
  go_wp2_with fail
  clear k0 k1 k2
  go_loopw [11] (fun i wr => ∃ k : Nat, k ≤ n ∧ i = .int .i64 (k : Int) ∧ Own1 w (B + 1 + 1) n (uptF k (chF n c)) (B + 1) wr) (fun i _ => n - (intOf i).toNat)
  case atStart => exact ⟨0, Nat.zero_le _, rfl, HT2.out⟩
  case round =>
    obtain ⟨k, hk, rfl, hT⟩ := hrel
    have HT := Lib.hid hT
    clear hT
    by_cases hlt : k < n
    · have hk16 : k < 16 := by omega
      have hv := HB.out k
      rw [HCh.out k hlt] at hv
      have HU := Lib.hid (uptF_succ k (chF n c))
      have HNx := Lib.hid (by have := HT.out.set (by omega) (by omega) hk16 (chF n c k); rw [HU.out, ← hv] at this; exact this)
      have e1 := HT.out.1.at hk16
      have e2 := HT.out.1.row.frozen (3 + k)
      clear hv
      go_wp2
      go_roundw
      case rel => exact ⟨k + 1, by omega, by go_num, HNx.out⟩
      case measure => simp only [intOf]; omega
    · obtain rfl : k = n := by omega
      rw [HAll.out] at HT
      go_upto_region 7 with fail
      go_step
      refine wpList_give k (chF k c) 5 4 22 rfl rfl rfl rfl rfl rfl (B + 1 + 1) (B + 1) rfl (fun _ => rfl) (fun _ => rfl) HT.out.1.row zeroC HT.out.2 rfl ?_
      intro W4 hr4 hb4
      have HB4 := Lib.hid (HT.out.1.hb.trans (hb4.mono (by omega)))
      go_frame
      go_wp2
      refine bodyPost_ret (results_cell_row rfl _ _ (B + 1) 43 (whC k (chF k c)).toArray (0, 0) _ rfl hr4 Tryd.underlying43 rfl (info_whC _ _)) rfl ?_
      exact ⟨rfl, HB4.out⟩

/-! ### lists that are wheels -/
/-- Whether a list is a wheel. -/
def wheelB (n : Nat) (xs : List Int) : Bool := decide (xs.length = n) && xs.all fun x => decide (0 ≤ x ∧ x < (qN n : Int))
theorem wheelB_nat {n : Nat} {xs : List Int} (h : wheelB n xs = true) : ∃ l : List Nat, xs = natI l ∧ l.length = n ∧ ∀ x ∈ l, x < qN n := by
  unfold wheelB at h
  rw [Bool.and_eq_true, List.all_eq_true, decide_eq_true_eq] at h
  refine ⟨xs.map Int.toNat, ?_, by rw [List.length_map]; exact h.1, fun x hx => ?_⟩
  · unfold natI
    rw [List.map_map]
    symm
    conv => rhs; rw [← List.map_id xs]
    refine List.map_congr_left (fun x hx => ?_)
    have := of_decide_eq_true (h.2 x hx)
    show ((x.toNat : Nat) : Int) = x
    omega
  · obtain ⟨y, hy, rfl⟩ := List.mem_map.1 hx
    have := of_decide_eq_true (h.2 y hy)
    omega
theorem wheelB_of {n : Nat} {l : List Nat} (h1 : l.length = n) (h2 : ∀ x ∈ l, x < qN n) : wheelB n (natI l) = true := by
  unfold wheelB
  rw [Bool.and_eq_true, List.all_eq_true]
  refine ⟨decide_eq_true (by rw [natI_len, h1]), fun x hx => ?_⟩
  obtain ⟨y, hy, rfl⟩ := List.mem_map.1 hx
  have := h2 y hy
  exact decide_eq_true (by omega)
theorem ofL_wh {n : Nat} (h : Circ n) {l : List Nat} (h1 : l.length = n) (h2 : ∀ x ∈ l, x < qN n) : IsWh n (ofL l) :=
  ⟨fun x => by
    unfold ofL
    by_cases hx : x < l.length
    · rw [List.getElem?_eq_getElem hx]; exact h2 _ (List.getElem_mem hx)
    · rw [List.getElem?_eq_none (by omega)]; exact h.q_pos, fun x hx => by
    unfold ofL; rw [List.getElem?_eq_none (by omega)]; rfl⟩
theorem tab_ofL {n : Nat} {l : List Nat} (h1 : l.length = n) : tabN n (ofL l) = l := by
  apply List.ext_getElem?
  intro i
  by_cases hi : i < n
  · simp [tabN, hi, ofL, show i < l.length by omega]
  · rw [List.getElem?_eq_none (by rw [tabN_length]; omega), List.getElem?_eq_none (by omega)]
theorem ofL_tab {n : Nat} {f : Nat → Nat} (h : IsWh n f) : ofL (tabN n f) = f := by
  funext x
  unfold ofL
  by_cases hx : x < n
  · rw [tabN_at hx]
  · rw [List.getElem?_eq_none (by rw [tabN_length]; omega), h.out x (by omega)]; rfl
theorem tab_lt {n : Nat} {f : Nat → Nat} (h : IsWh n f) : ∀ x ∈ tabN n f, x < qN n := fun x hx => by
  unfold tabN at hx
  obtain ⟨y, _, rfl⟩ := List.mem_map.1 hx
  exact h.lt y

set_option maxHeartbeats 1000000 in
theorem isWheel_any (n : Nat) (h : Circ n) (xs : List Int) (v : Value) (w : World) (hl : xs.length ≤ maxLen) (hv : IntsV w v xs) :
    Calls Tryd.prog 34 #[fV n (qN n) (wN n), v] w fun e w' => e = .returned (.bool (wheelB n xs)) ∧ Below w.heap.size w w' := by
  have HF := Lib.hid (FAt.new n (qN n) (wN n) w)
  have hq := h.q_le
  have hn := h.2
  have hn0 := h.pos
  unfold maxLen at hl
  obtain ⟨ao, cap, rfl, hcap, hc⟩ := hv
  obtain ⟨B, hB⟩ : ∃ B, w.heap.size = B := ⟨_, rfl⟩
  rw [hB] at HF
  obtain ⟨k0, k1, k2⟩ := HF.out.cell
  obtain ⟨q, hqq⟩ : ∃ q, qN n = q := ⟨_, rfl⟩
  have HQ := Lib.hid (show wheelB n xs = (decide (xs.length = n) && xs.all fun x => decide (0 ≤ x ∧ x < (q : Int))) by rw [← hqq]; rfl)
  rw [hqq] at HF hq k1 ⊢
  clear hqq
  unfold fV
  by_cases hln : xs.length = n
  · obtain ⟨b, off, rfl, hd⟩ := hc (by omega)
    have HD := Lib.hid hd
    have HL := Lib.hid hln
    have hne : ((xs.length : Int) == (n : Int)) = true := by rw [beq_iff_eq]; omega
    clear hc hd
    go_enter Tryd.func34, Tryd.ntmps34
    go_wp2_with fail
    clear k0 k1 k2
    go_loopw [14] (fun i wr => ∃ k : Nat, k ≤ xs.length ∧ i = .int .i64 (k : Int) ∧ (∀ x ∈ xs.take k, 0 ≤ x ∧ x < (q : Int)) ∧ FAt w B n q (wN n) wr) (fun i _ => xs.length - (intOf i).toNat)
    case atStart => exact ⟨0, Nat.zero_le _, rfl, by simp, HF.out⟩
    case round =>
      obtain ⟨k, hk, rfl, ha, hT⟩ := hrel
      have HT := Lib.hid hT
      have HA := Lib.hid ha
      obtain ⟨k0, k1, k2⟩ := hT.cell
      clear hT ha
      by_cases hlt : k < xs.length
      · have e1 := cell_later (show Below w.heap.size w wr from HT.out.hb) (HD.out k hlt)
        have hge : xs[k]?.getD 0 = xs[k] := by rw [List.getElem?_eq_getElem hlt]; rfl
        have HM := Lib.hid (show xs[k] ∈ xs from List.getElem_mem hlt)
        have HTk := Lib.hid (show xs.take (k + 1) = xs.take k ++ [xs[k]] from List.take_succ_eq_append_getElem hlt)
        rw [hge] at e1
        clear hge
        generalize xs[k] = x at e1 HM HTk
        by_cases h0 : x < 0
        · have HV := Lib.hid (show wheelB n xs = false by
            rw [HQ.out, Bool.and_eq_false_iff]; right
            rw [List.all_eq_false]; exact ⟨x, HM.out, by simp; omega⟩)
          go_wp2
          go_ret
          exact ⟨ret_bool HV.out.symm, by first | exact HT.out.hb | (rw [← hB]; exact HT.out.hb)⟩
        · by_cases h1 : (q : Int) ≤ x
          · have HV := Lib.hid (show wheelB n xs = false by
              rw [HQ.out, Bool.and_eq_false_iff]; right
              rw [List.all_eq_false]; exact ⟨x, HM.out, by simp; omega⟩)
            go_wp2
            go_ret
            exact ⟨ret_bool HV.out.symm, by first | exact HT.out.hb | (rw [← hB]; exact HT.out.hb)⟩
          · have HA2 := Lib.hid (show ∀ y ∈ xs.take (k + 1), 0 ≤ y ∧ y < (q : Int) by
              rw [HTk.out]; intro y hy
              rcases List.mem_append.1 hy with hy | hy
              · exact HA.out y hy
              · rw [List.mem_singleton] at hy; subst hy; omega)
            go_wp2
            go_roundw
            case rel => exact ⟨k + 1, by omega, by go_num, HA2.out, HT.out⟩
            case measure => simp only [intOf]; omega
      · obtain rfl : k = xs.length := by omega
        have HV := Lib.hid (show wheelB n xs = true by
          rw [HQ.out, Bool.and_eq_true]
          refine ⟨decide_eq_true HL.out, List.all_eq_true.2 (fun x hx => decide_eq_true (HA.out x (by rw [List.take_of_length_le (Nat.le_refl _)]; exact hx)))⟩)
        go_wp2
        go_ret
        exact ⟨ret_bool HV.out.symm, by first | exact HT.out.hb | (rw [← hB]; exact HT.out.hb)⟩
  · have HV := Lib.hid (show wheelB n xs = false by rw [HQ.out, decide_eq_false hln]; rfl)
    have hne : ((xs.length : Int) == (n : Int)) = false := by rw [beq_eq_false_iff_ne]; omega
    clear hc
    go_enter Tryd.func34, Tryd.ntmps34
    go_wp2
    go_ret
    exact ⟨ret_bool HV.out.symm, by first | exact HF.out.hb | (rw [← hB]; exact HF.out.hb)⟩

/-! ### any number of tones -/
def circB (n : Int) : Bool := decide (2 ≤ n ∧ n ≤ 16)
def fN (n : Int) : Nat := if circB n then n.toNat else 0
def fQ (n : Int) : Nat := if circB n then qN n.toNat else 0
def fW (n : Int) : Nat := if circB n then wN n.toNat else 0
theorem circB_true {n : Int} (h : circB n = true) : ∃ m : Nat, n = (m : Int) ∧ Circ m := by
  have h' := of_decide_eq_true h
  exact ⟨n.toNat, by omega, ⟨by omega, by omega⟩⟩
theorem circB_nat {m : Nat} (h : Circ m) : circB (m : Int) = true := decide_eq_true (by have := h.1; have := h.2; omega)
theorem fN_nat {m : Nat} (h : Circ m) : fN (m : Int) = m ∧ fQ (m : Int) = qN m ∧ fW (m : Int) = wN m := by
  unfold fN fQ fW; rw [circB_nat h]; simp
theorem fN_bad {n : Int} (h : circB n = false) : fN n = 0 ∧ fQ n = 0 ∧ fW n = 0 := by
  unfold fN fQ fW; rw [h]; simp

theorem fieldOf_any (n : Int) (w : World) :
    Calls Tryd.prog 14 #[.int .i64 n] w fun e w' => e = .returned (fV (fN n) (fQ n) (fW n)) ∧ Below w.heap.size w w' := by
  cases h : circB n
  · obtain ⟨e1, e2, e3⟩ := fN_bad h
    rw [e1, e2, e3]
    exact fieldOf_bad n (of_decide_eq_false h) w
  · obtain ⟨m, rfl, hm⟩ := circB_true h
    obtain ⟨e1, e2, e3⟩ := fN_nat hm
    rw [e1, e2, e3]
    exact fieldOf_ok m hm w

/-- Slices that lie beside each other. -/
def ListsAt (W : World) (b : Nat) (vs : List Value) (xss : List (List Int)) : Prop :=
  vs.length = xss.length ∧ ∀ i, i < vs.length → W.cell? ⟨b, i, none⟩ = some (vs[i]?.getD undef) ∧ IntsV W (vs[i]?.getD undef) (xss[i]?.getD []) ∧ (xss[i]?.getD []).length ≤ maxLen
theorem ListsAt.later {W W' : World} {b : Nat} {vs : List Value} {xss : List (List Int)} (h : ListsAt W b vs xss) (k : Below W.heap.size W W') : ListsAt W' b vs xss :=
  ⟨h.1, fun i hi => ⟨cell_later k (h.2 i hi).1, (h.2 i hi).2.1.later k, (h.2 i hi).2.2⟩⟩

set_option maxHeartbeats 1000000 in
theorem hasWheels_any (n : Int) (vs : List Value) (xss : List (List Int)) (b : Nat) (w : World) (hm : vs.length ≤ 4) (hl : ListsAt w b vs xss) :
    Calls Tryd.prog 20 #[fV (fN n) (fQ n) (fW n), .slice (some ⟨b, 0, none⟩) vs.length vs.length] w fun e w' => e = .returned (.bool (circB n && xss.all (wheelB n.toNat))) ∧ Below w.heap.size w w' := by
  cases hcb : circB n
  · obtain ⟨e1, e2, e3⟩ := fN_bad hcb
    rw [e1, e2, e3]
    have HF := Lib.hid (FAt.new 0 0 0 w)
    have HC := Lib.hid (fun W => isCircle_no W)
    have HB := Lib.hid ((Below.refl w.heap.size w).alloc (Nat.le_refl _) (.cells #[.int .i64 0, .int .i64 0, .int .i64 0] 38))
    clear hl
    unfold fV at *
    go_enter Tryd.func20, Tryd.ntmps20
    go_wp2_with fail
    refine (HC.out _).mono ?_
    rintro e w1 ⟨rfl, b1⟩
    go_wp2
    go_ret
    exact ⟨rfl, HB.out.trans (b1.mono HB.out.size)⟩
  · obtain ⟨m, rfl, hc⟩ := circB_true hcb
    obtain ⟨e1, e2, e3⟩ := fN_nat hc
    rw [e1, e2, e3, Bool.true_and, Int.toNat_natCast]
    have HF := Lib.hid (FAt.new m (qN m) (wN m) w)
    have HC := Lib.hid (fun W => isCircle_ok m (qN m) (wN m) hc.pos W)
    have HI := Lib.hid (fun xs v W h1 h2 => isWheel_any m hc xs v W h1 h2)
    have HL := Lib.hid hl
    obtain ⟨B, hB⟩ : ∃ B, w.heap.size = B := ⟨_, rfl⟩
    rw [hB] at HF
    have k := HF.out.cell
    obtain ⟨k0, k1, k2⟩ := k
    clear hl
    unfold fV at *
    go_enter Tryd.func20, Tryd.ntmps20
    go_wp2_with fail
    refine (HC.out _).mono ?_
    rintro e w1 ⟨rfl, b1⟩
    have HF1 := Lib.hid (HF.out.later b1)
    clear k0 k1 k2 b1
    go_wp2_with fail
    go_loopw [12] (fun i wr => ∃ k : Nat, k ≤ vs.length ∧ i = .int .i64 (k : Int) ∧ (xss.take k).all (wheelB m) = true ∧ FAt w B m (qN m) (wN m) wr) (fun i _ => vs.length - (intOf i).toNat)
    case atStart => exact ⟨0, Nat.zero_le _, rfl, by simp, HF1.out⟩
    case round =>
      obtain ⟨k, hk, rfl, ha, hT⟩ := hrel
      have HT := Lib.hid hT
      have HA := Lib.hid ha
      obtain ⟨k0, k1, k2⟩ := hT.cell
      clear hT ha
      by_cases hlt : k < vs.length
      · obtain ⟨c1, c2, c3⟩ := (HL.out.later (show Below w.heap.size w wr from HT.out.hb)).2 k hlt
        have hkx : k < xss.length := by rw [← HL.out.1]; exact hlt
        have hge : xss[k]?.getD [] = xss[k] := by rw [List.getElem?_eq_getElem hkx]; rfl
        have HTk := Lib.hid (show xss.take (k + 1) = xss.take k ++ [xss[k]] from List.take_succ_eq_append_getElem hkx)
        have HM := Lib.hid (show xss[k] ∈ xss from List.getElem_mem hkx)
        rw [hge] at c2 c3
        have HIk := Lib.hid (HI.out _ _ _ c3 c2)
        clear c2 c3 hge
        generalize xss[k] = xs at *
        generalize vs[k]?.getD undef = v at *
        cases hw : wheelB m xs
        · rw [hw] at HIk
          have HV := Lib.hid (show xss.all (wheelB m) = false from List.all_eq_false.2 ⟨xs, HM.out, by rw [hw]; simp⟩)
          go_wp2_with fail
          refine HIk.out.mono ?_
          rintro e w2 ⟨rfl, b2⟩
          have HT2 := Lib.hid (HT.out.later b2)
          go_wp2
          go_ret
          exact ⟨ret_bool HV.out.symm, by first | exact HT2.out.hb | (rw [← hB]; exact HT2.out.hb)⟩
        · rw [hw] at HIk
          have HA2 := Lib.hid (show (xss.take (k + 1)).all (wheelB m) = true by rw [HTk.out, List.all_append, HA.out]; simp [hw])
          go_wp2_with fail
          refine HIk.out.mono ?_
          rintro e w2 ⟨rfl, b2⟩
          have HT2 := Lib.hid (HT.out.later b2)
          clear k0 k1 k2 b2
          go_wp2
          go_roundw
          case rel => exact ⟨k + 1, by omega, by go_num, HA2.out, HT2.out⟩
          case measure => simp only [intOf]; omega
      · obtain rfl : k = vs.length := by omega
        have HV := Lib.hid (show xss.all (wheelB m) = true by have := HA.out; rwa [HL.out.1, List.take_of_length_le (Nat.le_refl _)] at this)
        go_wp2
        go_ret
        exact ⟨ret_bool HV.out.symm, by first | exact HT.out.hb | (rw [← hB]; exact HT.out.hb)⟩

/-! ### chords -/
def chordsB (n : Nat) (xs : List Int) : Bool := xs.all fun c => decide (0 ≤ c ∧ c < ((2 ^ n : Nat) : Int))
theorem w64_pow17 {y : Nat} (h : y < 17) : wrap64 ((2 : Int) ^ y) = ((2 ^ y : Nat) : Int) := by
  have h1 : (2 : Nat) ^ y < 2 ^ 17 := Nat.pow_lt_pow_right (by omega) h
  have e : ((2 : Int) ^ y) = ((2 ^ y : Nat) : Int) := by simp
  rw [e]
  generalize 2 ^ y = m at h1
  unfold wrap64
  omega

set_option maxHeartbeats 1000000 in
theorem hasChords_any (n : Int) (xs : List Int) (v : Value) (w : World) (hl : xs.length ≤ maxLen) (hv : IntsV w v xs) :
    Calls Tryd.prog 15 #[fV (fN n) (fQ n) (fW n), v] w fun e w' => e = .returned (.bool (circB n && chordsB n.toNat xs)) ∧ Below w.heap.size w w' := by
  obtain ⟨ao, cap, rfl, hcap, hc⟩ := hv
  unfold maxLen at hl
  cases hcb : circB n
  · obtain ⟨e1, e2, e3⟩ := fN_bad hcb
    rw [e1, e2, e3]
    have HC := Lib.hid (fun W => isCircle_no W)
    have HB := Lib.hid ((Below.refl w.heap.size w).alloc (Nat.le_refl _) (.cells #[.int .i64 0, .int .i64 0, .int .i64 0] 38))
    clear hc
    unfold fV at *
    go_enter Tryd.func15, Tryd.ntmps15
    go_wp2_with fail
    refine (HC.out _).mono ?_
    rintro e w1 ⟨rfl, b1⟩
    go_wp2
    go_ret
    exact ⟨rfl, HB.out.trans (b1.mono HB.out.size)⟩
  · obtain ⟨m, rfl, hcc⟩ := circB_true hcb
    obtain ⟨e1, e2, e3⟩ := fN_nat hcc
    rw [e1, e2, e3, Bool.true_and, Int.toNat_natCast]
    have HF := Lib.hid (FAt.new m (qN m) (wN m) w)
    have HC := Lib.hid (fun W => isCircle_ok m (qN m) (wN m) hcc.pos W)
    have hn := hcc.2
    have hpw := w64_pow17 hn
    have hp2 : 2 ^ m ≤ 2 ^ 16 := Nat.pow_le_pow_right (by omega) (by omega)
    have HQ := Lib.hid (show chordsB m xs = xs.all (fun c => decide (0 ≤ c ∧ c < ((2 ^ m : Nat) : Int))) from rfl)
    obtain ⟨N, hN⟩ : ∃ N, 2 ^ m = N := ⟨_, rfl⟩
    rw [hN] at hpw hp2 HQ
    clear hN
    have HCl := Lib.hid hc
    obtain ⟨B, hB⟩ : ∃ B, w.heap.size = B := ⟨_, rfl⟩
    rw [hB] at HF
    obtain ⟨k0, k1, k2⟩ := HF.out.cell
    clear hc
    unfold fV at *
    go_enter Tryd.func15, Tryd.ntmps15
    go_wp2_with fail
    refine (HC.out _).mono ?_
    rintro e w1 ⟨rfl, b1⟩
    have HF1 := Lib.hid (HF.out.later b1)
    clear k0 k1 k2 b1
    go_wp2_with fail
    go_loopw [12] (fun i wr => ∃ k : Nat, k ≤ xs.length ∧ i = .int .i64 (k : Int) ∧ (∀ x ∈ xs.take k, 0 ≤ x ∧ x < (N : Int)) ∧ FAt w B m (qN m) (wN m) wr) (fun i _ => xs.length - (intOf i).toNat)
    case atStart => exact ⟨0, Nat.zero_le _, rfl, by simp, HF1.out⟩
    case round =>
      obtain ⟨k, hk, rfl, ha, hT⟩ := hrel
      have HT := Lib.hid hT
      have HA := Lib.hid ha
      obtain ⟨k0, k1, k2⟩ := hT.cell
      clear hT ha
      by_cases hlt : k < xs.length
      · obtain ⟨b, off, rfl, hd⟩ := HCl.out (by omega)
        have e1 := cell_later (show Below w.heap.size w wr from HT.out.hb) (hd k hlt)
        have hge : xs[k]?.getD 0 = xs[k] := by rw [List.getElem?_eq_getElem hlt]; rfl
        have HM := Lib.hid (show xs[k] ∈ xs from List.getElem_mem hlt)
        have HTk := Lib.hid (show xs.take (k + 1) = xs.take k ++ [xs[k]] from List.take_succ_eq_append_getElem hlt)
        rw [hge] at e1
        clear hge hd
        generalize xs[k] = x at e1 HM HTk
        by_cases h0 : x < 0
        · have HV := Lib.hid (show chordsB m xs = false by
            rw [HQ.out, List.all_eq_false]; exact ⟨x, HM.out, by simp; omega⟩)
          go_wp2
          go_ret
          exact ⟨ret_bool HV.out.symm, by first | exact HT.out.hb | (rw [← hB]; exact HT.out.hb)⟩
        · by_cases h1 : (N : Int) ≤ x
          · have HV := Lib.hid (show chordsB m xs = false by
              rw [HQ.out, List.all_eq_false]; exact ⟨x, HM.out, by simp; omega⟩)
            go_wp2
            go_ret
            exact ⟨ret_bool HV.out.symm, by first | exact HT.out.hb | (rw [← hB]; exact HT.out.hb)⟩
          · have HA2 := Lib.hid (show ∀ y ∈ xs.take (k + 1), 0 ≤ y ∧ y < (N : Int) by
              rw [HTk.out]; intro y hy
              rcases List.mem_append.1 hy with hy | hy
              · exact HA.out y hy
              · rw [List.mem_singleton] at hy; subst hy; omega)
            go_wp2
            go_roundw
            case rel => exact ⟨k + 1, by omega, by go_num, HA2.out, HT.out⟩
            case measure => simp only [intOf]; omega
      · obtain rfl : k = xs.length := by omega
        have HV := Lib.hid (show chordsB m xs = true by
          rw [HQ.out]
          exact List.all_eq_true.2 (fun x hx => decide_eq_true (HA.out x (by rw [List.take_of_length_le (Nat.le_refl _)]; exact hx))))
        go_wp2
        go_ret
        exact ⟨ret_bool HV.out.symm, by first | exact HT.out.hb | (rw [← hB]; exact HT.out.hb)⟩
end Go.Proofs.YthnenhfdojpobaaDoor

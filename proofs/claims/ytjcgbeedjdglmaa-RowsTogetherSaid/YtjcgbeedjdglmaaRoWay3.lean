/-
  Way where it refuses; the reference's Way.
-/
import Derived.Test.YtjcgbeedjdglmaaRoWay2
namespace Go.Proofs.Ytjcgbeedjdglmaa
open Go.ChangeShapes Go.WideShapes Go.ChangeAt Go.RowKit
set_option maxRecDepth 100000

set_option maxHeartbeats 2000000 in
theorem Way_bad (xs zs : List Int) (hl : xs.length ≤ maxLen) (hm : zs.length ≤ maxLen) (hb : rowB xs = false ∨ rowB zs = false ∨ xs.length ≠ zs.length) (v u : Value) (w : World) (h : IntsV w v xs) (k : IntsV w u zs) :
    Calls Try.prog 33 #[v, u] w fun e w' => e = .returned (.tuple #[.agg #[.int .i64 0, .int .i64 0], .int .i64 2]) ∧ Below w.heap.size w w' := by
  obtain ⟨W0, hW0⟩ : ∃ W0, w.alloc (.cells #[.int .i64 0, .int .i64 0] 42) = W0 := ⟨_, rfl⟩
  have b0 : Below w.heap.size w W0 := by rw [← hW0]; exact (Below.refl _ w).alloc (Nat.le_refl _) _
  have r0 : Row W0 w.heap.size 42 [.int .i64 0, .int .i64 0] := by rw [← hW0]; exact Row.new w _ _
  have HR1 := Lib.hid (isRow_any xs v W0 hl (h.later b0))
  have HR2 := Lib.hid (isRow_any zs u W0 hm (k.later b0))
  obtain ⟨ao, cap, rfl, _⟩ := h
  obtain ⟨bo, cap', rfl, _⟩ := k
  have HW := Lib.hid hW0
  have c0 : W0.cell? ⟨w.heap.size, 0, none⟩ = some (.int .i64 0) := r0.cell 0
  have c1 : W0.cell? ⟨w.heap.size, 1, none⟩ = some (.int .i64 0) := r0.cell 1
  have f0 := r0.frozen 0
  have f1 := r0.frozen 1
  have R3 := (r0.set 0 (.int .i64 0)).set 1 (.int .i64 0)
  have d0 := Lib.hid (R3.cell 0)
  have d1 := Lib.hid (R3.cell 1)
  have HB2 := Lib.hid ((b0.setCell (p := ⟨w.heap.size, 0, none⟩) (Nat.le_refl _) (.int .i64 0)).setCell (p := ⟨w.heap.size, 1, none⟩) (Nat.le_refl _) (.int .i64 0))
  clear hW0 r0 R3
  cases h1 : rowB xs
  · rw [h1] at HR1
    clear hb h1
    go_enter Try.func33, Try.ntmps33
    go_wp2_with fail
    rw [HW.out]
    refine HR1.out.mono ?_
    rintro e w1 ⟨rfl, rfl⟩
    go_wp2
    refine bodyPost_ret (Way_results _ _ w.heap.size (.int .i64 0) (.int .i64 0) (.int .i64 2) rfl rfl d0.out d1.out) rfl ?_
    exact ⟨rfl, HB2.out⟩
  · have hb2 := hb.resolve_left (by rw [h1]; decide)
    rw [h1] at HR1
    cases h2 : rowB zs
    · rw [h2] at HR2
      clear hb h1 h2 hb2
      go_enter Try.func33, Try.ntmps33
      go_wp2_with fail
      rw [HW.out]
      refine HR1.out.mono ?_
      rintro e w1 ⟨rfl, rfl⟩
      go_wp2_with fail
      refine HR2.out.mono ?_
      rintro e w1 ⟨rfl, rfl⟩
      go_wp2
      refine bodyPost_ret (Way_results _ _ w.heap.size (.int .i64 0) (.int .i64 0) (.int .i64 2) rfl rfl d0.out d1.out) rfl ?_
      exact ⟨rfl, HB2.out⟩
    · have hb3 := hb2.resolve_left (by rw [h2]; decide)
      have q : ((xs.length : Int) != (zs.length : Int)) = true := by rw [bne_iff_ne]; omega
      rw [h2] at HR2
      clear hb h1 h2 hb2 hb3
      go_enter Try.func33, Try.ntmps33
      go_wp2_with fail
      rw [HW.out]
      refine HR1.out.mono ?_
      rintro e w1 ⟨rfl, rfl⟩
      go_wp2_with fail
      refine HR2.out.mono ?_
      rintro e w1 ⟨rfl, rfl⟩
      go_wp2
      refine bodyPost_ret (Way_results _ _ w.heap.size (.int .i64 0) (.int .i64 0) (.int .i64 2) rfl rfl d0.out d1.out) rfl ?_
      exact ⟨rfl, HB2.out⟩

set_option maxHeartbeats 4000000 in
theorem RWay_any (n : Nat) (ys bs : List Nat) (hr : IsRow n ys) (hb : IsRow n bs) (v u : Value) (w : World) (h : IntsV w v (natI ys)) (k : IntsV w u (natI bs)) :
    Calls Try.prog 34 #[v, u] w fun e w' => e = .returned (wayV n (wayT n ys bs)) ∧ Below w.heap.size w w' := by
  have hlen := hr.len
  have hlen2 := hb.len
  have hlo := hr.lo
  have hhi := hr.hi
  obtain ⟨W0, hW0⟩ : ∃ W0, w.alloc (.cells #[.int .i64 0, .int .i64 0] 42) = W0 := ⟨_, rfl⟩
  have b0 : Below w.heap.size w W0 := by rw [← hW0]; exact (Below.refl _ w).alloc (Nat.le_refl _) _
  have r0 : Row W0 w.heap.size 42 [.int .i64 0, .int .i64 0] := by rw [← hW0]; exact Row.new w _ _
  have HFo := Lib.hid (fun kind hk (k : Int) u W hu => RForm_any n ys hr.lo hr.hi hr.lt (by omega) (by omega) kind hk k u W hu)
  have HSa := Lib.hid (fun kind k a b W ha hb' => same_any (formL n kind k ys) bs (by rw [formL_length]; omega) (by rw [formL_length]; omega) (by rw [formL_length]; omega) (fun y hy => by have := formL_lt hr.pos kind k ys y hy; omega) (fun y hy => by have := hb.lt y hy; omega) a b W ha hb')
  have HHit := Lib.hid (fun t ht hh hbf => wayT_hit (n := n) (t := t) (ys := ys) (bs := bs) ht hh hbf)
  have HMiss := Lib.hid (fun hh => wayT_miss (n := n) (ys := ys) (bs := bs) hh)
  have HNm := Lib.hid (fun (u y : Nat) (hy : y < n) => show (u * n + y) / n = u ∧ (u * n + y) % n = y from ⟨congrArg Prod.fst (nmT_at (u := u) hy), congrArg Prod.snd (nmT_at (u := u) hy)⟩)
  have H1 := Lib.hid h
  have H2 := Lib.hid k
  obtain ⟨ao, cap, hv, _⟩ := h
  obtain ⟨bo, cap', hu, _⟩ := k
  rw [natI_length, hlen] at hv
  rw [natI_length, hlen2] at hu
  subst hv hu
  have HW := Lib.hid hW0
  obtain ⟨Hs, hHs⟩ : ∃ Hs, w.heap.size = Hs := ⟨_, rfl⟩
  have HH := Lib.hid hHs
  rw [hHs] at b0 r0
  generalize wayT n ys bs = o at *
  clear hW0 hr hb hlen hlen2 hHs
  go_enter Try.func34, Try.ntmps34
  go_wp2
  rw [HW.out, HH.out]
  go_loopw [6, 7, 8] (fun _ _ i wr => ∃ u : Nat, u ≤ 4 ∧ i = .int .i64 u ∧ (∀ s, s < u * n → formL n (s / n) (s % n) ys ≠ bs) ∧ Row wr Hs 42 [.int .i64 0, .int .i64 0] ∧ Below Hs w wr) (fun _ _ i _ => 4 - (intOf i).toNat)
  case atStart => exact ⟨0, by omega, rfl, fun s hs => by omega, r0, b0⟩
  case round =>
    obtain ⟨u, hu, rfl, hno, hR, hB⟩ := hrel
    have HNo := Lib.hid hno
    have HRw := Lib.hid hR
    have HBw := Lib.hid hB
    by_cases hu4 : u < 4
    · clear hno hR hB
      go_wp2
      rw [show decide ((u : Int) < 4) = true from decide_eq_true (by omega)]
      go_loopw [7, 13] (fun _ j wr => ∃ y : Nat, y ≤ n ∧ j = .int .i64 y ∧ (∀ s, s < u * n + y → formL n (s / n) (s % n) ys ≠ bs) ∧ Row wr Hs 42 [.int .i64 0, .int .i64 0] ∧ Below Hs w wr) (fun _ j _ => n - (intOf j).toNat)
      case atStart => exact ⟨0, Nat.zero_le _, rfl, HNo.out, HRw.out, HBw.out⟩
      case round =>
        obtain ⟨y, hy, rfl, hno, hR, hB⟩ := hrel
        have HNo2 := Lib.hid hno
        have HR2 := Lib.hid hR
        have HB2 := Lib.hid hB
        have hBw : Below w.heap.size w wr := by rw [HH.out]; exact hB
        by_cases hyn : y < n
        · have HFy := Lib.hid (HFo.out u hu4 (y : Int) _ wr (H1.out.later hBw))
          have ey : ((y : Int) % (n : Int)).toNat = y := by rw [Int.emod_eq_of_lt (by omega) (by omega)]; simp
          rw [ey] at HFy
          have hnm := HNm.out u y hyn
          have HBd := Lib.hid (show u * n + y < 4 * n by
            have : u * n ≤ 3 * n := Nat.mul_le_mul_right n (by omega)
            omega)
          have HSy := Lib.hid (fun a W ha hb' => HSa.out u y a (.slice bo n cap') W ha hb')
          have HIt := Lib.hid (fun hh => HHit.out (u * n + y) HBd.out (by rw [hnm.1, hnm.2]; exact hh) HNo2.out)
          have HNx := Lib.hid (fun (hh : formL n u y ys ≠ bs) => show ∀ s, s < u * n + (y + 1) → formL n (s / n) (s % n) ys ≠ bs by
            intro s hs
            by_cases e : s = u * n + y
            · rw [e, hnm.1, hnm.2]; exact hh
            · exact HNo2.out s (by omega))
          have HNmk := Lib.hid hnm
          clear hno hR hB ey hnm
          go_wp2_with fail
          refine HFy.out.mono ?_
          rintro e w1 ⟨v', rfl, i1, b1⟩
          have HB3 := Lib.hid (below_nx hBw b1)
          have HSk := Lib.hid (HSy.out v' w1 i1 (H2.out.later HB3.out))
          have R3 := HR2.out.later b1
          have HR3 := Lib.hid R3
          clear i1 b1 hBw
          by_cases hm : formL n u y ys = bs
          · rw [decide_eq_true hm] at HSk
            have HO := Lib.hid (HIt.out hm)
            have c0 : w1.cell? ⟨Hs, 0, none⟩ = some (.int .i64 0) := R3.cell 0
            have c1 : w1.cell? ⟨Hs, 1, none⟩ = some (.int .i64 0) := R3.cell 1
            have f0 := R3.frozen 0
            have f1 := R3.frozen 1
            have R4 := (R3.set 0 (.int .i64 (u : Int))).set 1 (.int .i64 (y : Int))
            have d0 := Lib.hid (R4.cell 0)
            have d1 := Lib.hid (R4.cell 1)
            have HB4 := Lib.hid ((HB3.out.setCell (p := ⟨Hs, 0, none⟩) (by rw [HH.out]; exact Nat.le_refl _) (.int .i64 (u : Int))).setCell (p := ⟨Hs, 1, none⟩) (by rw [HH.out]; exact Nat.le_refl _) (.int .i64 (y : Int)))
            clear R3 R4 hm HIt HNx
            go_wp2_with fail
            refine HSk.out.mono ?_
            rintro e w2 ⟨rfl, rfl⟩
            go_wp2
            refine bodyPost_ret (RWay_results _ _ Hs (.int .i64 (u : Int)) (.int .i64 (y : Int)) (.int .i64 0) rfl rfl d0.out d1.out) rfl ?_
            refine ⟨?_, HB4.out⟩
            rw [HO.out]
            show _ = Ending.returned (.tuple #[.agg #[.int .i64 (((u * n + y) / n : Nat) : Int), .int .i64 (((u * n + y) % n : Nat) : Int)], .int .i64 0])
            rw [HNmk.out.1, HNmk.out.2]
          · rw [decide_eq_false hm] at HSk
            have HN := Lib.hid (HNx.out hm)
            clear R3 hm HIt HNx
            go_wp2_with fail
            refine HSk.out.mono ?_
            rintro e w2 ⟨rfl, rfl⟩
            go_wp2
            go_roundw
            case rel => exact ⟨y + 1, by omega, by go_num, HN.out, HR3.out, by rw [← HH.out]; exact HB3.out⟩
            case measure => simp only [intOf]; omega
        · obtain rfl : y = n := by omega
          have HN := Lib.hid (show ∀ s, s < (u + 1) * y → formL y (s / y) (s % y) ys ≠ bs from fun s hs => hno s (by rw [Nat.add_mul, Nat.one_mul] at hs; exact hs))
          clear hno hR hB hBw
          go_wp2
          go_roundw
          case rel => exact ⟨u + 1, by omega, by go_num, HN.out, HR2.out, HB2.out⟩
          case measure => simp only [intOf]; omega
    · obtain rfl : u = 4 := by omega
      have HO := Lib.hid (HMiss.out hno)
      have c0 : wr.cell? ⟨Hs, 0, none⟩ = some (.int .i64 0) := hR.cell 0
      have c1 : wr.cell? ⟨Hs, 1, none⟩ = some (.int .i64 0) := hR.cell 1
      have f0 := hR.frozen 0
      have f1 := hR.frozen 1
      have R4 := (hR.set 0 (.int .i64 0)).set 1 (.int .i64 0)
      have d0 := Lib.hid (R4.cell 0)
      have d1 := Lib.hid (R4.cell 1)
      have HB4 := Lib.hid ((hB.setCell (p := ⟨Hs, 0, none⟩) (Nat.le_refl _) (.int .i64 0)).setCell (p := ⟨Hs, 1, none⟩) (Nat.le_refl _) (.int .i64 0))
      clear R4 hno hR hB
      go_wp2
      refine bodyPost_ret (RWay_results _ _ Hs (.int .i64 0) (.int .i64 0) (.int .i64 4) rfl rfl d0.out d1.out) rfl ?_
      exact ⟨by rw [HO.out]; rfl, by rw [HH.out]; exact HB4.out⟩
end Go.Proofs.Ytjcgbeedjdglmaa

/-
  The reference's forms; Form, where it answers and where it refuses.
-/
import Derived.Test.YtdfagnjdconkcaaRoForm
namespace Go.Proofs.Ytdfagnjdconkcaa
open Go.ChangeShapes Go.WideShapes Go.ChangeAt Go.RowKit
set_option maxRecDepth 100000

theorem set_drop {rs zs : List Nat} {p : Nat} {x : Nat} (hz : zs.length = rs.length) (h : zs.drop (p + 1) = rs.drop (p + 1)) (hp : p < rs.length) (hx : rs[p]?.getD 0 = x) : (zs.set p x).drop p = rs.drop p := by
  rw [List.drop_eq_getElem_cons (by rw [List.length_set]; omega), List.drop_eq_getElem_cons hp, List.getElem_set_self, List.drop_set_of_lt (by omega), h]
  rw [List.getElem?_eq_getElem hp] at hx
  rw [← hx]; rfl

theorem back_step {rs zs : List Nat} {L j p x : Nat} (hp : L - 1 - j = p) (hj : j < L) (hr : rs.length = L) (hz : zs.length = L) (h : zs.drop (L - j) = rs.drop (L - j)) (hx : rs[L - 1 - j]?.getD 0 = x) : (zs.set p x).drop (L - (j + 1)) = rs.drop (L - (j + 1)) := by
  have e1 : L - (j + 1) = p := by omega
  have e2 : L - j = p + 1 := by omega
  rw [e1]
  rw [e2] at h
  exact set_drop (by omega) h (by omega) (by rw [← hp]; exact hx)

set_option maxHeartbeats 2000000 in
theorem RForm_0 (n : Nat) (ys : List Nat) (hn0 : 2 ≤ n) (hn1 : n ≤ 10) (hlt : ∀ y ∈ ys, y < n) (hl : ys.length ≤ 10) (hp : 0 < ys.length) (k : Int) (v : Value) (w : World) (h : IntsV w v (natI ys)) :
    Calls Try.prog 20 #[v, .int .i64 n, .int .i64 0, .int .i64 k] w fun e w' => ∃ v', e = .returned v' ∧ IntsV w' v' (natI (formL n 0 (k % n).toNat ys)) ∧ Below w.heap.size w w' := by
  have HY := Lib.hid (fun i => getD_lt hlt (by omega) i)
  have HFm := Lib.hid (fun x (hx : x < n) => fm_plain (n := n) (kind := 0) (x := x) (k := k) (by omega) rfl)
  have hU0 := Int.emod_nonneg k (show (n : Int) ≠ 0 by omega)
  have hU1 := Int.emod_lt_of_pos k (show (0 : Int) < n by omega)
  have HM := Lib.hid (fun x => refmod_any x n (by omega) (by omega))
  have HMk := Lib.hid (HM.out k)
  obtain ⟨ao, cap, hv, hlc, hc⟩ := h
  rw [natI_length] at hv hlc hc
  obtain ⟨b, off, rfl, hd⟩ := hc hp
  subst hv
  have HC := Lib.hid (fun i hi => (hd i hi).trans (by rw [natI_at]))
  obtain ⟨rs, hrs⟩ : ∃ rs, formL n 0 (k % n).toNat ys = rs := ⟨_, rfl⟩
  have HMa := Lib.hid (fun j (hj : j < ys.length) => show rs[j]?.getD 0 = fm n 0 (k % n).toNat (ys[j]?.getD 0) by
    rw [← hrs]
    show (ys.map (fm n 0 (k % n).toNat))[j]?.getD 0 = _
    rw [List.getElem?_map, List.getElem?_eq_getElem hj]; rfl)
  have HMl := Lib.hid (show rs.length = ys.length by rw [← hrs, formL_length])
  have HFl := Lib.hid (fun x => fm_lt (n := n) (by omega) 0 (k % n).toNat x)
  rw [hrs]
  clear hrs
  generalize fm n 0 (k % n).toNat = f at *
  generalize k % (n : Int) = U at *
  have hmk := run_make_zero ys.length (by omega) w
  obtain ⟨Hs, hHs⟩ : ∃ Hs, w.heap.size = Hs := ⟨_, rfl⟩
  have hB0 : Below Hs w (w.alloc (.cells (ints (List.replicate ys.length 0)).toArray 3)) := by rw [← hHs]; exact (Below.refl _ w).alloc (Nat.le_refl _) _
  have hR0 : Row (w.alloc (.cells (ints (List.replicate ys.length 0)).toArray 3)) Hs 3 (ints (List.replicate ys.length 0)) := by rw [← hHs]; exact Row.new w _ _
  rw [hHs] at hmk
  have HH := Lib.hid hHs
  generalize w.alloc (.cells (ints (List.replicate ys.length 0)).toArray 3) = W0 at hB0 hR0 hmk
  have HR0 := Lib.hid hR0
  obtain ⟨L, hL⟩ : ∃ L, ys.length = L := ⟨_, rfl⟩
  rw [hL] at HR0 hmk hlc hp hl HC HMa HMl ⊢
  clear hc hd hHs hR0 hlt hL
  go_enter Try.func20, Try.ntmps20
  go_wp2_with fail
  refine (HMk.out _).mono ?_
  rintro e w1 ⟨rfl, rfl⟩
  go_wp2
  go_loopw [10, 11, 12, 21] (fun _ _ _ i wr => ∃ (j : Nat) (zs : List Nat), j ≤ L ∧ i = .int .i64 j ∧ Row wr Hs 3 (ints zs) ∧ zs.length = L ∧ zs.take j = rs.take j ∧ Below Hs w wr) (fun _ _ _ i _ => L - (intOf i).toNat)
  case atStart => exact ⟨0, List.replicate L 0, Nat.zero_le _, rfl, HR0.out, by simp, by simp, hB0⟩
  case round =>
    obtain ⟨j, zs, hj, rfl, hR, hzl, hzt, hB⟩ := hrel
    have hBw : Below w.heap.size w wr := by rw [HH.out]; exact hB
    have HRw := Lib.hid hR
    have HBw := Lib.hid hB
    have HZl := Lib.hid hzl
    have HZt := Lib.hid hzt
    by_cases hlj : j < L
    · have cj := cell_later hBw (HC.out j hlj)
      have yj := HY.out j
      have hfr := hR.frozen j
      have hcl := (hR.cell j).trans (ints_at (xs := zs) (by omega))
      have HFy := Lib.hid (HFm.out (ys[j]?.getD 0) yj)
      have HMy := Lib.hid (HMa.out j hlj)
      have HFb := Lib.hid (HFl.out (ys[j]?.getD 0))
      generalize ys[j]?.getD 0 = y at cj yj HFy HMy HFb
      have HMc := Lib.hid (HM.out ((y : Int) + U))
      rw [HFy.out] at HMc
      have hfb := HFb.out
      generalize f y = z at HMc HMy HFy hfb HFb
      clear hBw hR hB hzl hzt HFy
      go_wp2_with fail
      refine (HMc.out _).mono ?_
      rintro e w1 ⟨rfl, rfl⟩
      go_wp2
      go_roundw
      case rel => exact ⟨j + 1, zs.set j z, by omega, by go_num, by have := HRw.out.set j (.int .i64 (z : Int)); rwa [ints_set] at this, by rw [List.length_set]; exact HZl.out, set_take (by rw [HZl.out, HMl.out]) HZt.out (by rw [HMl.out]; exact hlj) HMy.out, HBw.out.setCell (p := ⟨Hs, j, none⟩) (Nat.le_refl _) _⟩
      case measure => simp only [intOf]; omega
    · have hms : zs = rs := by
        have h1 := hzt
        rw [List.take_of_length_le (by omega), List.take_of_length_le (by have := HMl.out; omega)] at h1
        exact h1
      subst hms
      have HI := Lib.hid (HRw.out.intsV L (by have := HZl.out; omega))
      rw [HZl.out] at HI
      clear hBw hR hB hzt hzl
      go_wp2
      go_ret
      exact ⟨_, rfl, HI.out, by rw [HH.out]; exact HBw.out⟩

set_option maxHeartbeats 2000000 in
theorem RForm_1 (n : Nat) (ys : List Nat) (hn0 : 2 ≤ n) (hn1 : n ≤ 10) (hlt : ∀ y ∈ ys, y < n) (hl : ys.length ≤ 10) (hp : 0 < ys.length) (k : Int) (v : Value) (w : World) (h : IntsV w v (natI ys)) :
    Calls Try.prog 20 #[v, .int .i64 n, .int .i64 1, .int .i64 k] w fun e w' => ∃ v', e = .returned v' ∧ IntsV w' v' (natI (formL n 1 (k % n).toNat ys)) ∧ Below w.heap.size w w' := by
  have HY := Lib.hid (fun i => getD_lt hlt (by omega) i)
  have HFm := Lib.hid (fun x (hx : x < n) => fm_turned (n := n) (kind := 1) (x := x) (k := k) (by omega) hx rfl)
  have hU0 := Int.emod_nonneg k (show (n : Int) ≠ 0 by omega)
  have hU1 := Int.emod_lt_of_pos k (show (0 : Int) < n by omega)
  have HM := Lib.hid (fun x => refmod_any x n (by omega) (by omega))
  have HMk := Lib.hid (HM.out k)
  obtain ⟨ao, cap, hv, hlc, hc⟩ := h
  rw [natI_length] at hv hlc hc
  obtain ⟨b, off, rfl, hd⟩ := hc hp
  subst hv
  have HC := Lib.hid (fun i hi => (hd i hi).trans (by rw [natI_at]))
  obtain ⟨rs, hrs⟩ : ∃ rs, formL n 1 (k % n).toNat ys = rs := ⟨_, rfl⟩
  have HMa := Lib.hid (fun j (hj : j < ys.length) => show rs[j]?.getD 0 = fm n 1 (k % n).toNat (ys[j]?.getD 0) by
    rw [← hrs]
    show (ys.map (fm n 1 (k % n).toNat))[j]?.getD 0 = _
    rw [List.getElem?_map, List.getElem?_eq_getElem hj]; rfl)
  have HMl := Lib.hid (show rs.length = ys.length by rw [← hrs, formL_length])
  have HFl := Lib.hid (fun x => fm_lt (n := n) (by omega) 1 (k % n).toNat x)
  rw [hrs]
  clear hrs
  generalize fm n 1 (k % n).toNat = f at *
  generalize k % (n : Int) = U at *
  have hmk := run_make_zero ys.length (by omega) w
  obtain ⟨Hs, hHs⟩ : ∃ Hs, w.heap.size = Hs := ⟨_, rfl⟩
  have hB0 : Below Hs w (w.alloc (.cells (ints (List.replicate ys.length 0)).toArray 3)) := by rw [← hHs]; exact (Below.refl _ w).alloc (Nat.le_refl _) _
  have hR0 : Row (w.alloc (.cells (ints (List.replicate ys.length 0)).toArray 3)) Hs 3 (ints (List.replicate ys.length 0)) := by rw [← hHs]; exact Row.new w _ _
  rw [hHs] at hmk
  have HH := Lib.hid hHs
  generalize w.alloc (.cells (ints (List.replicate ys.length 0)).toArray 3) = W0 at hB0 hR0 hmk
  have HR0 := Lib.hid hR0
  obtain ⟨L, hL⟩ : ∃ L, ys.length = L := ⟨_, rfl⟩
  rw [hL] at HR0 hmk hlc hp hl HC HMa HMl ⊢
  clear hc hd hHs hR0 hlt hL
  go_enter Try.func20, Try.ntmps20
  go_wp2_with fail
  refine (HMk.out _).mono ?_
  rintro e w1 ⟨rfl, rfl⟩
  go_wp2
  go_loopw [10, 11, 12, 21] (fun _ _ _ i wr => ∃ (j : Nat) (zs : List Nat), j ≤ L ∧ i = .int .i64 j ∧ Row wr Hs 3 (ints zs) ∧ zs.length = L ∧ zs.take j = rs.take j ∧ Below Hs w wr) (fun _ _ _ i _ => L - (intOf i).toNat)
  case atStart => exact ⟨0, List.replicate L 0, Nat.zero_le _, rfl, HR0.out, by simp, by simp, hB0⟩
  case round =>
    obtain ⟨j, zs, hj, rfl, hR, hzl, hzt, hB⟩ := hrel
    have hBw : Below w.heap.size w wr := by rw [HH.out]; exact hB
    have HRw := Lib.hid hR
    have HBw := Lib.hid hB
    have HZl := Lib.hid hzl
    have HZt := Lib.hid hzt
    by_cases hlj : j < L
    · have cj := cell_later hBw (HC.out j hlj)
      have yj := HY.out j
      have hfr := hR.frozen j
      have hcl := (hR.cell j).trans (ints_at (xs := zs) (by omega))
      have HFy := Lib.hid (HFm.out (ys[j]?.getD 0) yj)
      have HMy := Lib.hid (HMa.out j hlj)
      have HFb := Lib.hid (HFl.out (ys[j]?.getD 0))
      generalize ys[j]?.getD 0 = y at cj yj HFy HMy HFb
      have HMc := Lib.hid (HM.out (-(y : Int) + U))
      rw [HFy.out] at HMc
      have hfb := HFb.out
      generalize f y = z at HMc HMy HFy hfb HFb
      clear hBw hR hB hzl hzt HFy
      go_wp2_with fail
      refine (HMc.out _).mono ?_
      rintro e w1 ⟨rfl, rfl⟩
      go_wp2
      go_roundw
      case rel => exact ⟨j + 1, zs.set j z, by omega, by go_num, by have := HRw.out.set j (.int .i64 (z : Int)); rwa [ints_set] at this, by rw [List.length_set]; exact HZl.out, set_take (by rw [HZl.out, HMl.out]) HZt.out (by rw [HMl.out]; exact hlj) HMy.out, HBw.out.setCell (p := ⟨Hs, j, none⟩) (Nat.le_refl _) _⟩
      case measure => simp only [intOf]; omega
    · have hms : zs = rs := by
        have h1 := hzt
        rw [List.take_of_length_le (by omega), List.take_of_length_le (by have := HMl.out; omega)] at h1
        exact h1
      subst hms
      have HI := Lib.hid (HRw.out.intsV L (by have := HZl.out; omega))
      rw [HZl.out] at HI
      clear hBw hR hB hzt hzl
      go_wp2
      go_ret
      exact ⟨_, rfl, HI.out, by rw [HH.out]; exact HBw.out⟩

set_option maxHeartbeats 2000000 in
theorem RForm_2 (n : Nat) (ys : List Nat) (hn0 : 2 ≤ n) (hn1 : n ≤ 10) (hlt : ∀ y ∈ ys, y < n) (hl : ys.length ≤ 10) (hp : 0 < ys.length) (k : Int) (v : Value) (w : World) (h : IntsV w v (natI ys)) :
    Calls Try.prog 20 #[v, .int .i64 n, .int .i64 2, .int .i64 k] w fun e w' => ∃ v', e = .returned v' ∧ IntsV w' v' (natI (formL n 2 (k % n).toNat ys)) ∧ Below w.heap.size w w' := by
  have HY := Lib.hid (fun i => getD_lt hlt (by omega) i)
  have HFm := Lib.hid (fun x (hx : x < n) => fm_plain (n := n) (kind := 2) (x := x) (k := k) (by omega) rfl)
  have hU0 := Int.emod_nonneg k (show (n : Int) ≠ 0 by omega)
  have hU1 := Int.emod_lt_of_pos k (show (0 : Int) < n by omega)
  have HM := Lib.hid (fun x => refmod_any x n (by omega) (by omega))
  have HMk := Lib.hid (HM.out k)
  obtain ⟨ao, cap, hv, hlc, hc⟩ := h
  rw [natI_length] at hv hlc hc
  obtain ⟨b, off, rfl, hd⟩ := hc hp
  subst hv
  have HC := Lib.hid (fun i hi => (hd i hi).trans (by rw [natI_at]))
  obtain ⟨rs, hrs⟩ : ∃ rs, formL n 2 (k % n).toNat ys = rs := ⟨_, rfl⟩
  have HMa := Lib.hid (fun j (hj : j < ys.length) => show rs[ys.length - 1 - j]?.getD 0 = fm n 2 (k % n).toNat (ys[j]?.getD 0) by
    rw [← hrs]
    show ((ys.map (fm n 2 (k % n).toNat)).reverse)[ys.length - 1 - j]?.getD 0 = _
    rw [List.getElem?_reverse (by rw [List.length_map]; omega), List.length_map, show ys.length - 1 - (ys.length - 1 - j) = j by omega, List.getElem?_map, List.getElem?_eq_getElem hj]; rfl)
  have HMl := Lib.hid (show rs.length = ys.length by rw [← hrs, formL_length])
  have HFl := Lib.hid (fun x => fm_lt (n := n) (by omega) 2 (k % n).toNat x)
  rw [hrs]
  clear hrs
  generalize fm n 2 (k % n).toNat = f at *
  generalize k % (n : Int) = U at *
  have hmk := run_make_zero ys.length (by omega) w
  obtain ⟨Hs, hHs⟩ : ∃ Hs, w.heap.size = Hs := ⟨_, rfl⟩
  have hB0 : Below Hs w (w.alloc (.cells (ints (List.replicate ys.length 0)).toArray 3)) := by rw [← hHs]; exact (Below.refl _ w).alloc (Nat.le_refl _) _
  have hR0 : Row (w.alloc (.cells (ints (List.replicate ys.length 0)).toArray 3)) Hs 3 (ints (List.replicate ys.length 0)) := by rw [← hHs]; exact Row.new w _ _
  rw [hHs] at hmk
  have HH := Lib.hid hHs
  generalize w.alloc (.cells (ints (List.replicate ys.length 0)).toArray 3) = W0 at hB0 hR0 hmk
  have HR0 := Lib.hid hR0
  obtain ⟨L, hL⟩ : ∃ L, ys.length = L := ⟨_, rfl⟩
  rw [hL] at HR0 hmk hlc hp hl HC HMa HMl ⊢
  clear hc hd hHs hR0 hlt hL
  go_enter Try.func20, Try.ntmps20
  go_wp2_with fail
  refine (HMk.out _).mono ?_
  rintro e w1 ⟨rfl, rfl⟩
  go_wp2
  go_loopw [10, 11, 12, 21] (fun _ _ _ i wr => ∃ (j : Nat) (zs : List Nat), j ≤ L ∧ i = .int .i64 j ∧ Row wr Hs 3 (ints zs) ∧ zs.length = L ∧ zs.drop (L - j) = rs.drop (L - j) ∧ Below Hs w wr) (fun _ _ _ i _ => L - (intOf i).toNat)
  case atStart => exact ⟨0, List.replicate L 0, Nat.zero_le _, rfl, HR0.out, by simp, by simp [HMl.out], hB0⟩
  case round =>
    obtain ⟨j, zs, hj, rfl, hR, hzl, hzt, hB⟩ := hrel
    have hBw : Below w.heap.size w wr := by rw [HH.out]; exact hB
    have HRw := Lib.hid hR
    have HBw := Lib.hid hB
    have HZl := Lib.hid hzl
    have HZt := Lib.hid hzt
    by_cases hlj : j < L
    · have cj := cell_later hBw (HC.out j hlj)
      have yj := HY.out j
      obtain ⟨p, hp2⟩ : ∃ p, L - 1 - j = p := ⟨_, rfl⟩
      have hat : (L : Int) - 1 - (j : Int) = (p : Int) := by omega
      have hpL : p < L := by omega
      have HP := Lib.hid hp2
      clear hp2
      have hfr := hR.frozen p
      have hcl := (hR.cell p).trans (ints_at (xs := zs) (by omega))
      have HFy := Lib.hid (HFm.out (ys[j]?.getD 0) yj)
      have HMy := Lib.hid (HMa.out j hlj)
      have HFb := Lib.hid (HFl.out (ys[j]?.getD 0))
      generalize ys[j]?.getD 0 = y at cj yj HFy HMy HFb
      have HMc := Lib.hid (HM.out ((y : Int) + U))
      rw [HFy.out] at HMc
      have hfb := HFb.out
      generalize f y = z at HMc HMy HFy hfb HFb
      clear hBw hR hB hzl hzt HFy
      go_wp2_with fail
      refine (HMc.out _).mono ?_
      rintro e w1 ⟨rfl, rfl⟩
      go_wp2
      go_roundw
      case rel => exact ⟨j + 1, zs.set p z, by omega, by go_num, by have := HRw.out.set p (.int .i64 (z : Int)); rwa [ints_set] at this, by rw [List.length_set]; exact HZl.out, back_step HP.out hlj HMl.out HZl.out HZt.out HMy.out, HBw.out.setCell (p := ⟨Hs, p, none⟩) (Nat.le_refl _) _⟩
      case measure => simp only [intOf]; omega
    · have hms : zs = rs := by
        have h1 := hzt
        rw [show L - j = 0 by omega, List.drop_zero, List.drop_zero] at h1
        exact h1
      subst hms
      have HI := Lib.hid (HRw.out.intsV L (by have := HZl.out; omega))
      rw [HZl.out] at HI
      clear hBw hR hB hzt hzl
      go_wp2
      go_ret
      exact ⟨_, rfl, HI.out, by rw [HH.out]; exact HBw.out⟩

set_option maxHeartbeats 2000000 in
theorem RForm_3 (n : Nat) (ys : List Nat) (hn0 : 2 ≤ n) (hn1 : n ≤ 10) (hlt : ∀ y ∈ ys, y < n) (hl : ys.length ≤ 10) (hp : 0 < ys.length) (k : Int) (v : Value) (w : World) (h : IntsV w v (natI ys)) :
    Calls Try.prog 20 #[v, .int .i64 n, .int .i64 3, .int .i64 k] w fun e w' => ∃ v', e = .returned v' ∧ IntsV w' v' (natI (formL n 3 (k % n).toNat ys)) ∧ Below w.heap.size w w' := by
  have HY := Lib.hid (fun i => getD_lt hlt (by omega) i)
  have HFm := Lib.hid (fun x (hx : x < n) => fm_turned (n := n) (kind := 3) (x := x) (k := k) (by omega) hx rfl)
  have hU0 := Int.emod_nonneg k (show (n : Int) ≠ 0 by omega)
  have hU1 := Int.emod_lt_of_pos k (show (0 : Int) < n by omega)
  have HM := Lib.hid (fun x => refmod_any x n (by omega) (by omega))
  have HMk := Lib.hid (HM.out k)
  obtain ⟨ao, cap, hv, hlc, hc⟩ := h
  rw [natI_length] at hv hlc hc
  obtain ⟨b, off, rfl, hd⟩ := hc hp
  subst hv
  have HC := Lib.hid (fun i hi => (hd i hi).trans (by rw [natI_at]))
  obtain ⟨rs, hrs⟩ : ∃ rs, formL n 3 (k % n).toNat ys = rs := ⟨_, rfl⟩
  have HMa := Lib.hid (fun j (hj : j < ys.length) => show rs[ys.length - 1 - j]?.getD 0 = fm n 3 (k % n).toNat (ys[j]?.getD 0) by
    rw [← hrs]
    show ((ys.map (fm n 3 (k % n).toNat)).reverse)[ys.length - 1 - j]?.getD 0 = _
    rw [List.getElem?_reverse (by rw [List.length_map]; omega), List.length_map, show ys.length - 1 - (ys.length - 1 - j) = j by omega, List.getElem?_map, List.getElem?_eq_getElem hj]; rfl)
  have HMl := Lib.hid (show rs.length = ys.length by rw [← hrs, formL_length])
  have HFl := Lib.hid (fun x => fm_lt (n := n) (by omega) 3 (k % n).toNat x)
  rw [hrs]
  clear hrs
  generalize fm n 3 (k % n).toNat = f at *
  generalize k % (n : Int) = U at *
  have hmk := run_make_zero ys.length (by omega) w
  obtain ⟨Hs, hHs⟩ : ∃ Hs, w.heap.size = Hs := ⟨_, rfl⟩
  have hB0 : Below Hs w (w.alloc (.cells (ints (List.replicate ys.length 0)).toArray 3)) := by rw [← hHs]; exact (Below.refl _ w).alloc (Nat.le_refl _) _
  have hR0 : Row (w.alloc (.cells (ints (List.replicate ys.length 0)).toArray 3)) Hs 3 (ints (List.replicate ys.length 0)) := by rw [← hHs]; exact Row.new w _ _
  rw [hHs] at hmk
  have HH := Lib.hid hHs
  generalize w.alloc (.cells (ints (List.replicate ys.length 0)).toArray 3) = W0 at hB0 hR0 hmk
  have HR0 := Lib.hid hR0
  obtain ⟨L, hL⟩ : ∃ L, ys.length = L := ⟨_, rfl⟩
  rw [hL] at HR0 hmk hlc hp hl HC HMa HMl ⊢
  clear hc hd hHs hR0 hlt hL
  go_enter Try.func20, Try.ntmps20
  go_wp2_with fail
  refine (HMk.out _).mono ?_
  rintro e w1 ⟨rfl, rfl⟩
  go_wp2
  go_loopw [10, 11, 12, 21] (fun _ _ _ i wr => ∃ (j : Nat) (zs : List Nat), j ≤ L ∧ i = .int .i64 j ∧ Row wr Hs 3 (ints zs) ∧ zs.length = L ∧ zs.drop (L - j) = rs.drop (L - j) ∧ Below Hs w wr) (fun _ _ _ i _ => L - (intOf i).toNat)
  case atStart => exact ⟨0, List.replicate L 0, Nat.zero_le _, rfl, HR0.out, by simp, by simp [HMl.out], hB0⟩
  case round =>
    obtain ⟨j, zs, hj, rfl, hR, hzl, hzt, hB⟩ := hrel
    have hBw : Below w.heap.size w wr := by rw [HH.out]; exact hB
    have HRw := Lib.hid hR
    have HBw := Lib.hid hB
    have HZl := Lib.hid hzl
    have HZt := Lib.hid hzt
    by_cases hlj : j < L
    · have cj := cell_later hBw (HC.out j hlj)
      have yj := HY.out j
      obtain ⟨p, hp2⟩ : ∃ p, L - 1 - j = p := ⟨_, rfl⟩
      have hat : (L : Int) - 1 - (j : Int) = (p : Int) := by omega
      have hpL : p < L := by omega
      have HP := Lib.hid hp2
      clear hp2
      have hfr := hR.frozen p
      have hcl := (hR.cell p).trans (ints_at (xs := zs) (by omega))
      have HFy := Lib.hid (HFm.out (ys[j]?.getD 0) yj)
      have HMy := Lib.hid (HMa.out j hlj)
      have HFb := Lib.hid (HFl.out (ys[j]?.getD 0))
      generalize ys[j]?.getD 0 = y at cj yj HFy HMy HFb
      have HMc := Lib.hid (HM.out (-(y : Int) + U))
      rw [HFy.out] at HMc
      have hfb := HFb.out
      generalize f y = z at HMc HMy HFy hfb HFb
      clear hBw hR hB hzl hzt HFy
      go_wp2_with fail
      refine (HMc.out _).mono ?_
      rintro e w1 ⟨rfl, rfl⟩
      go_wp2
      go_roundw
      case rel => exact ⟨j + 1, zs.set p z, by omega, by go_num, by have := HRw.out.set p (.int .i64 (z : Int)); rwa [ints_set] at this, by rw [List.length_set]; exact HZl.out, back_step HP.out hlj HMl.out HZl.out HZt.out HMy.out, HBw.out.setCell (p := ⟨Hs, p, none⟩) (Nat.le_refl _) _⟩
      case measure => simp only [intOf]; omega
    · have hms : zs = rs := by
        have h1 := hzt
        rw [show L - j = 0 by omega, List.drop_zero, List.drop_zero] at h1
        exact h1
      subst hms
      have HI := Lib.hid (HRw.out.intsV L (by have := HZl.out; omega))
      rw [HZl.out] at HI
      clear hBw hR hB hzt hzl
      go_wp2
      go_ret
      exact ⟨_, rfl, HI.out, by rw [HH.out]; exact HBw.out⟩


theorem form_any (n : Nat) (ys : List Nat) (hn0 : 2 ≤ n) (hn1 : n ≤ 10) (hlt : ∀ y ∈ ys, y < n) (hl : ys.length ≤ 10) (hp : 0 < ys.length) (kind : Nat) (hk : kind < 4) (k : Int) (v : Value) (w : World) (h : IntsV w v (natI ys)) :
    Calls Try.prog 21 #[.int .i64 n, v, .int .i64 kind, .int .i64 k] w fun e w' => ∃ v', e = .returned v' ∧ IntsV w' v' (natI (formL n kind (k % n).toNat ys)) ∧ Below w.heap.size w w' := by
  have : kind = 0 ∨ kind = 1 ∨ kind = 2 ∨ kind = 3 := by omega
  rcases this with rfl | rfl | rfl | rfl
  · exact form_0 n ys hn0 hn1 hlt hl hp k v w h
  · exact form_1 n ys hn0 hn1 hlt hl hp k v w h
  · exact form_2 n ys hn0 hn1 hlt hl hp k v w h
  · exact form_3 n ys hn0 hn1 hlt hl hp k v w h

theorem RForm_any (n : Nat) (ys : List Nat) (hn0 : 2 ≤ n) (hn1 : n ≤ 10) (hlt : ∀ y ∈ ys, y < n) (hl : ys.length ≤ 10) (hp : 0 < ys.length) (kind : Nat) (hk : kind < 4) (k : Int) (v : Value) (w : World) (h : IntsV w v (natI ys)) :
    Calls Try.prog 20 #[v, .int .i64 n, .int .i64 kind, .int .i64 k] w fun e w' => ∃ v', e = .returned v' ∧ IntsV w' v' (natI (formL n kind (k % n).toNat ys)) ∧ Below w.heap.size w w' := by
  have : kind = 0 ∨ kind = 1 ∨ kind = 2 ∨ kind = 3 := by omega
  rcases this with rfl | rfl | rfl | rfl
  · exact RForm_0 n ys hn0 hn1 hlt hl hp k v w h
  · exact RForm_1 n ys hn0 hn1 hlt hl hp k v w h
  · exact RForm_2 n ys hn0 hn1 hlt hl hp k v w h
  · exact RForm_3 n ys hn0 hn1 hlt hl hp k v w h

theorem Form_ok (n : Nat) (ys : List Nat) (hr : IsRow n ys) (kind : Nat) (hk : kind < 4) (k : Int) (v : Value) (w : World) (h : IntsV w v (natI ys)) :
    Calls Try.prog 11 #[v, .int .i64 kind, .int .i64 k] w fun e w' => ∃ v', e = .returned (.tuple #[v', .int .i64 0]) ∧ IntsV w' v' (natI (formL n kind (k % n).toNat ys)) ∧ Below w.heap.size w w' := by
  have HR := Lib.hid (isRow_any (natI ys) v w (row_len hr) h)
  rw [row_of hr] at HR
  have hlen := hr.len
  have HF := Lib.hid (form_any n ys hr.lo hr.hi hr.lt (by have := hr.hi; omega) (by have := hr.lo; omega) kind hk k v w h)
  obtain ⟨ao, cap, hv, _⟩ := h
  rw [natI_length, hlen] at hv
  subst hv
  clear hr hlen
  go_enter Try.func11, Try.ntmps11
  go_wp2_with fail
  refine HR.out.mono ?_
  rintro e w1 ⟨rfl, rfl⟩
  go_wp2_with fail
  refine HF.out.mono ?_
  rintro e w2 ⟨v', rfl, h1, hb⟩
  have H1 := Lib.hid h1
  clear h1
  go_wp2
  go_ret2
  exact ⟨v', rfl, H1.out, hb⟩

theorem Form_bad (xs : List Int) (kind k : Int) (hl : xs.length ≤ maxLen) (hb : rowB xs = false ∨ kind < 0 ∨ 4 ≤ kind) (v : Value) (w : World) (h : IntsV w v xs) :
    Calls Try.prog 11 #[v, .int .i64 kind, .int .i64 k] w fun e w' => e = .returned (.tuple #[.slice none 0 0, .int .i64 2]) ∧ w = w' := by
  have HR := Lib.hid (isRow_any xs v w hl h)
  obtain ⟨ao, cap, rfl, _⟩ := h
  cases hr : rowB xs
  · rw [hr] at HR
    clear hb hr
    go_enter Try.func11, Try.ntmps11
    go_wp2_with fail
    refine HR.out.mono ?_
    rintro e w1 ⟨rfl, rfl⟩
    go_wp2
    go_ret2
    exact ⟨rfl, rfl⟩
  · have hb2 := hb.resolve_left (by rw [hr]; decide)
    rw [hr] at HR
    clear hb hr
    by_cases h1 : kind < 0
    · go_enter Try.func11, Try.ntmps11
      go_wp2_with fail
      refine HR.out.mono ?_
      rintro e w1 ⟨rfl, rfl⟩
      go_wp2
      go_ret2
      exact ⟨rfl, rfl⟩
    · have h2 := hb2.resolve_left h1
      clear hb2
      go_enter Try.func11, Try.ntmps11
      go_wp2_with fail
      refine HR.out.mono ?_
      rintro e w1 ⟨rfl, rfl⟩
      go_wp2
      go_ret2
      exact ⟨rfl, rfl⟩
end Go.Proofs.Ytdfagnjdconkcaa

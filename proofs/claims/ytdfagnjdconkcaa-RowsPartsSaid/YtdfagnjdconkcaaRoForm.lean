/-
  Forms: the program's and the reference's.
-/
import Derived.Test.YtdfagnjdconkcaaRoCut
import Derived.OwnWalk
namespace Go.Proofs.Ytdfagnjdconkcaa
open Go.ChangeShapes Go.WideShapes Go.ChangeAt Go.RowKit
set_option maxRecDepth 100000

/-- A tone's place in a form, told by the integers that the program reckons. -/
theorem fm_plain {n kind x : Nat} {k : Int} (hn : 0 < n) (hk : kind % 2 = 0) : ((x : Int) + k % n) % n = ((fm n kind (k % n).toNat x : Nat) : Int) := by
  unfold fm
  rw [if_neg (by omega)]
  have h0 := Int.emod_nonneg k (show (n : Int) ≠ 0 by omega)
  obtain ⟨u, hu⟩ := Int.eq_ofNat_of_zero_le h0
  rw [hu, Int.toNat_natCast]
  exact_mod_cast rfl
theorem fm_turned {n kind x : Nat} {k : Int} (hn : 0 < n) (hx : x < n) (hk : kind % 2 = 1) : (-(x : Int) + k % n) % n = ((fm n kind (k % n).toNat x : Nat) : Int) := by
  unfold fm
  rw [if_pos hk]
  have h0 := Int.emod_nonneg k (show (n : Int) ≠ 0 by omega)
  obtain ⟨u, hu⟩ := Int.eq_ofNat_of_zero_le h0
  rw [hu, Int.toNat_natCast]
  have e : (-(x : Int) + (u : Int)) = ((n - x + u : Nat) : Int) - n := by omega
  rw [e, Int.sub_emod_right]
  exact_mod_cast rfl

theorem run_make_zero (k : Nat) (hk : k ≤ 65536) (W : World) : (Instr.makeSlice 22 (.int .i64 (k : Int)) (.int .i64 (k : Int))).run Try.prog W = .ok (.slice (some ⟨W.heap.size, 0, none⟩) k k) (W.alloc (.cells (ints (List.replicate k 0)).toArray 3)) := by
  rw [← madeCells_ints]
  exact run_make_row' 22 3 (.int .i64 0) 8 Try.underlying22 (by kernel_rfl) rfl .i64 .i64 k (by omega) (by omega) W

theorem Row.intsV {W : World} {b : Nat} {ys : List Nat} (h : Row W b 3 (ints ys)) (m : Nat) (hm : ys.length ≤ m) : IntsV W (.slice (some ⟨b, 0, none⟩) ys.length m) (natI ys) := by
  refine ⟨_, m, by rw [natI_length], by rw [natI_length]; exact hm, fun _ => ⟨b, 0, rfl, fun i hi => ?_⟩⟩
  rw [natI_length] at hi
  rw [Nat.zero_add, natI_at, h.cell i, ints_at hi]

theorem set_take {ys : List Nat} {zs : List Nat} {j : Nat} {x : Nat} (hz : zs.length = ys.length) (h : zs.take j = ys.take j) (hj : j < ys.length) (hx : ys[j]?.getD 0 = x) : (zs.set j x).take (j + 1) = ys.take (j + 1) := by
  rw [List.take_succ_eq_append_getElem (by rw [List.length_set]; omega), List.take_succ_eq_append_getElem hj, List.take_set_of_le (Nat.le_refl _), h, List.getElem_set_self]
  rw [List.getElem?_eq_getElem hj] at hx
  rw [← hx]; rfl

theorem below_setCells {B : Nat} {w : World} {b : Nat} (hB : B ≤ b) : ∀ (vs : List Value) (o : Nat) (W : World), Below B w W → Below B w (W.setCells b o vs)
  | [], _, _, h => h
  | v :: vs, o, W, h => below_setCells hB vs (o + 1) _ (h.setCell (p := ⟨b, o, none⟩) hB v)

theorem Row.reversed {W : World} {b : Nat} {ys : List Nat} (h : Row W b 3 (ints ys)) (q : Nat) : IntsV ((W.drewN q).setCells b 0 (((natI ys).take ys.length).reverse.map (Value.int .i64))) (.slice (some ⟨b, 0, none⟩) ys.length ys.length) (natI ys.reverse) := by
  have e : (natI ys).take ys.length = natI ys := List.take_of_length_le (by rw [natI_length]; exact Nat.le_refl _)
  rw [e]
  refine ⟨_, ys.length, by rw [natI_length, List.length_reverse], by rw [natI_length, List.length_reverse]; exact Nat.le_refl _, fun _ => ⟨b, 0, rfl, fun i hi => ?_⟩⟩
  rw [natI_length, List.length_reverse] at hi
  have hl : ((natI ys).reverse.map (Value.int .i64)).length = ys.length := by simp [natI]
  rw [World.cell?_setCells_in b _ 0 _ (fun j hj => by
    rw [hl] at hj
    show (W.cell? ⟨b, 0 + j, none⟩).isSome = true
    rw [Nat.zero_add, h.cell j, ints_at hj]; rfl) i (by rw [hl]; exact hi)]
  congr 1
  rw [List.getElem_map]
  congr 1
  have e2 : (natI ys).reverse = natI ys.reverse := by unfold natI; rw [List.map_reverse]
  have hi2 : i < (natI ys.reverse).length := by rw [natI_length, List.length_reverse]; exact hi
  rw [List.getElem?_eq_getElem hi2]
  simp only [e2]; rfl

theorem Reverse_row {W : World} {b : Nat} {ys : List Nat} (h : Row W b 3 (ints ys)) (hl : ys.length ≤ 1000) :
    Calls Try.prog 30 #[.slice (some ⟨b, 0, none⟩) ys.length ys.length] W fun e w' => e = .returned (.tuple #[]) ∧ IntsV w' (.slice (some ⟨b, 0, none⟩) ys.length ys.length) (natI ys.reverse) ∧ ∀ B w, B ≤ b → Below B w W → Below B w w' := by
  refine (Try.slices_Reverse_int_cells b 0 ys.length ys.length (natI ys) W (by rw [natI_length]; exact Nat.le_refl _) (by omega) (fun j hj => ?_) (fun j hj => ?_)).mono ?_
  · rw [natI_length] at hj
    rw [Nat.zero_add, h.cell j, ints_at hj]
    congr 2
    exact (natI_at ys j).symm
  · rw [Nat.zero_add]; exact h.frozen j
  · rintro e w' ⟨rfl, q, rfl⟩
    exact ⟨rfl, h.reversed q, fun B w hB hb => below_setCells hB _ _ _ (below_drewN hb q)⟩

set_option maxHeartbeats 2000000 in
theorem form_0 (n : Nat) (ys : List Nat) (hn0 : 2 ≤ n) (hn1 : n ≤ 10) (hlt : ∀ y ∈ ys, y < n) (hl : ys.length ≤ 10) (hp : 0 < ys.length) (k : Int) (v : Value) (w : World) (h : IntsV w v (natI ys)) :
    Calls Try.prog 21 #[.int .i64 n, v, .int .i64 0, .int .i64 k] w fun e w' => ∃ v', e = .returned v' ∧ IntsV w' v' (natI (formL n 0 (k % n).toNat ys)) ∧ Below w.heap.size w w' := by
  have H := Lib.hid h
  have HY := Lib.hid (fun i => getD_lt hlt (by omega) i)
  have HFm := Lib.hid (fun x (hx : x < n) => fm_plain (n := n) (kind := 0) (x := x) (k := k) (by omega) rfl)
  have hU0 := Int.emod_nonneg k (show (n : Int) ≠ 0 by omega)
  have hU1 := Int.emod_lt_of_pos k (show (0 : Int) < n by omega)
  have HM := Lib.hid (fun x => modulo_any x n (by omega) (by omega))
  have HMk := Lib.hid (HM.out k)
  have HRes := Lib.hid (show formL n 0 (k % n).toNat ys = ys.map (fm n 0 (k % n).toNat) from rfl)
  obtain ⟨ao, cap, hv, hlc, hc⟩ := h
  rw [natI_length] at hv hlc hc
  obtain ⟨b, off, rfl, hd⟩ := hc hp
  subst hv
  have HC := Lib.hid (fun i hi => (hd i hi).trans (by rw [natI_at]))
  have HMa := Lib.hid (fun j (hj : j < ys.length) => show (ys.map (fm n 0 (k % n).toNat))[j]?.getD 0 = fm n 0 (k % n).toNat (ys[j]?.getD 0) by
    rw [List.getElem?_map, List.getElem?_eq_getElem hj]; rfl)
  have HMl := Lib.hid (show (ys.map (fm n 0 (k % n).toNat)).length = ys.length from List.length_map _)
  have HFl := Lib.hid (fun x => fm_lt (n := n) (by omega) 0 (k % n).toNat x)
  generalize ys.map (fm n 0 (k % n).toNat) = ms at *
  generalize fm n 0 (k % n).toNat = f at *
  generalize k % (n : Int) = U at *
  have hmk := run_make_zero ys.length (by omega) w
  obtain ⟨Hs, hHs⟩ : ∃ Hs, w.heap.size = Hs := ⟨_, rfl⟩
  have HSt := Lib.hid (fun j zs x hz hh hj hx => set_take (ys := ms) (zs := zs) (j := j) (x := x) hz hh hj hx)
  have hB0 : Below Hs w (w.alloc (.cells (ints (List.replicate ys.length 0)).toArray 3)) := by rw [← hHs]; exact (Below.refl _ w).alloc (Nat.le_refl _) _
  have hR0 : Row (w.alloc (.cells (ints (List.replicate ys.length 0)).toArray 3)) Hs 3 (ints (List.replicate ys.length 0)) := by rw [← hHs]; exact Row.new w _ _
  rw [hHs] at hmk
  have HH := Lib.hid hHs
  generalize w.alloc (.cells (ints (List.replicate ys.length 0)).toArray 3) = W0 at hB0 hR0 hmk
  have HR0 := Lib.hid hR0
  obtain ⟨L, hL⟩ : ∃ L, ys.length = L := ⟨_, rfl⟩
  rw [hL] at HR0 hmk hlc hp hl HC HMa HMl ⊢
  have HLy := Lib.hid hL
  clear hc hd hHs hR0 hlt hL
  go_enter Try.func21, Try.ntmps21
  go_wp2_with fail
  refine (HMk.out _).mono ?_
  rintro e w1 ⟨rfl, rfl⟩
  go_wp2
  go_loopw [12, 13, 28] (fun _ _ i wr => ∃ (j : Nat) (zs : List Nat), j ≤ L ∧ i = .int .i64 j ∧ Row wr Hs 3 (ints zs) ∧ zs.length = L ∧ zs.take j = ms.take j ∧ Below Hs w wr) (fun _ _ i _ => L - (intOf i).toNat)
  case atStart => exact ⟨0, List.replicate L 0, Nat.zero_le _, rfl, HR0.out, by simp, by simp, hB0⟩
  case round =>
    obtain ⟨j, zs, hj, rfl, hR, hzl, hzt, hB⟩ := hrel
    have hBw : Below w.heap.size w wr := by rw [HH.out]; exact hB
    have HRw := Lib.hid hR
    have HBw := Lib.hid hB
    have HZl := Lib.hid hzl
    have HZt := Lib.hid hzt
    by_cases hlj : j < L
    · have cj := cell_later hBw (HC.out j hlj)
      have yj := HY.out j
      have hfr := hR.frozen j
      have hcl := (hR.cell j).trans (ints_at (xs := zs) (by omega))
      have HFy := Lib.hid (HFm.out (ys[j]?.getD 0) yj)
      have HMy := Lib.hid (HMa.out j hlj)
      have HFb := Lib.hid (HFl.out (ys[j]?.getD 0))
      generalize ys[j]?.getD 0 = y at cj yj HFy HMy HFb
      have HMc := Lib.hid (HM.out ((y : Int) + U))
      rw [HFy.out] at HMc
      have hfb := HFb.out
      generalize f y = z at HMc HMy HFy hfb HFb
      clear hBw hR hB hzl hzt HFy
      go_wp2_with fail
      refine (HMc.out _).mono ?_
      rintro e w1 ⟨rfl, rfl⟩
      go_wp2
      go_roundw
      case rel => exact ⟨j + 1, zs.set j z, by omega, by go_num, by have := HRw.out.set j (.int .i64 (z : Int)); rwa [ints_set] at this, by rw [List.length_set]; exact HZl.out, HSt.out j zs z (by rw [HZl.out, HMl.out]) HZt.out (by rw [HMl.out]; exact hlj) HMy.out, HBw.out.setCell (p := ⟨Hs, j, none⟩) (Nat.le_refl _) _⟩
      case measure => simp only [intOf]; omega
    · have hms : zs = ms := by
        have h1 := hzt
        rw [List.take_of_length_le (by omega), List.take_of_length_le (by have := HMl.out; omega)] at h1
        exact h1
      subst hms
      have HI := Lib.hid (HRw.out.intsV L (by have := HZl.out; omega))
      rw [HZl.out] at HI
      clear hBw hR hB hzt hzl
      go_wp2
      go_ret
      exact ⟨_, rfl, by rw [HRes.out]; exact HI.out, by rw [HH.out]; exact HBw.out⟩

set_option maxHeartbeats 2000000 in
theorem form_1 (n : Nat) (ys : List Nat) (hn0 : 2 ≤ n) (hn1 : n ≤ 10) (hlt : ∀ y ∈ ys, y < n) (hl : ys.length ≤ 10) (hp : 0 < ys.length) (k : Int) (v : Value) (w : World) (h : IntsV w v (natI ys)) :
    Calls Try.prog 21 #[.int .i64 n, v, .int .i64 1, .int .i64 k] w fun e w' => ∃ v', e = .returned v' ∧ IntsV w' v' (natI (formL n 1 (k % n).toNat ys)) ∧ Below w.heap.size w w' := by
  have H := Lib.hid h
  have HY := Lib.hid (fun i => getD_lt hlt (by omega) i)
  have HFm := Lib.hid (fun x (hx : x < n) => fm_turned (n := n) (kind := 1) (x := x) (k := k) (by omega) hx rfl)
  have hU0 := Int.emod_nonneg k (show (n : Int) ≠ 0 by omega)
  have hU1 := Int.emod_lt_of_pos k (show (0 : Int) < n by omega)
  have HM := Lib.hid (fun x => modulo_any x n (by omega) (by omega))
  have HMk := Lib.hid (HM.out k)
  have HRes := Lib.hid (show formL n 1 (k % n).toNat ys = ys.map (fm n 1 (k % n).toNat) from rfl)
  obtain ⟨ao, cap, hv, hlc, hc⟩ := h
  rw [natI_length] at hv hlc hc
  obtain ⟨b, off, rfl, hd⟩ := hc hp
  subst hv
  have HC := Lib.hid (fun i hi => (hd i hi).trans (by rw [natI_at]))
  have HMa := Lib.hid (fun j (hj : j < ys.length) => show (ys.map (fm n 1 (k % n).toNat))[j]?.getD 0 = fm n 1 (k % n).toNat (ys[j]?.getD 0) by
    rw [List.getElem?_map, List.getElem?_eq_getElem hj]; rfl)
  have HMl := Lib.hid (show (ys.map (fm n 1 (k % n).toNat)).length = ys.length from List.length_map _)
  have HFl := Lib.hid (fun x => fm_lt (n := n) (by omega) 1 (k % n).toNat x)
  generalize ys.map (fm n 1 (k % n).toNat) = ms at *
  generalize fm n 1 (k % n).toNat = f at *
  generalize k % (n : Int) = U at *
  have hmk := run_make_zero ys.length (by omega) w
  obtain ⟨Hs, hHs⟩ : ∃ Hs, w.heap.size = Hs := ⟨_, rfl⟩
  have HSt := Lib.hid (fun j zs x hz hh hj hx => set_take (ys := ms) (zs := zs) (j := j) (x := x) hz hh hj hx)
  have hB0 : Below Hs w (w.alloc (.cells (ints (List.replicate ys.length 0)).toArray 3)) := by rw [← hHs]; exact (Below.refl _ w).alloc (Nat.le_refl _) _
  have hR0 : Row (w.alloc (.cells (ints (List.replicate ys.length 0)).toArray 3)) Hs 3 (ints (List.replicate ys.length 0)) := by rw [← hHs]; exact Row.new w _ _
  rw [hHs] at hmk
  have HH := Lib.hid hHs
  generalize w.alloc (.cells (ints (List.replicate ys.length 0)).toArray 3) = W0 at hB0 hR0 hmk
  have HR0 := Lib.hid hR0
  obtain ⟨L, hL⟩ : ∃ L, ys.length = L := ⟨_, rfl⟩
  rw [hL] at HR0 hmk hlc hp hl HC HMa HMl ⊢
  have HLy := Lib.hid hL
  clear hc hd hHs hR0 hlt hL
  go_enter Try.func21, Try.ntmps21
  go_wp2_with fail
  refine (HMk.out _).mono ?_
  rintro e w1 ⟨rfl, rfl⟩
  go_wp2
  go_loopw [12, 13, 28] (fun _ _ i wr => ∃ (j : Nat) (zs : List Nat), j ≤ L ∧ i = .int .i64 j ∧ Row wr Hs 3 (ints zs) ∧ zs.length = L ∧ zs.take j = ms.take j ∧ Below Hs w wr) (fun _ _ i _ => L - (intOf i).toNat)
  case atStart => exact ⟨0, List.replicate L 0, Nat.zero_le _, rfl, HR0.out, by simp, by simp, hB0⟩
  case round =>
    obtain ⟨j, zs, hj, rfl, hR, hzl, hzt, hB⟩ := hrel
    have hBw : Below w.heap.size w wr := by rw [HH.out]; exact hB
    have HRw := Lib.hid hR
    have HBw := Lib.hid hB
    have HZl := Lib.hid hzl
    have HZt := Lib.hid hzt
    by_cases hlj : j < L
    · have cj := cell_later hBw (HC.out j hlj)
      have yj := HY.out j
      have hfr := hR.frozen j
      have hcl := (hR.cell j).trans (ints_at (xs := zs) (by omega))
      have HFy := Lib.hid (HFm.out (ys[j]?.getD 0) yj)
      have HMy := Lib.hid (HMa.out j hlj)
      have HFb := Lib.hid (HFl.out (ys[j]?.getD 0))
      generalize ys[j]?.getD 0 = y at cj yj HFy HMy HFb
      have HMc := Lib.hid (HM.out (-(y : Int) + U))
      rw [HFy.out] at HMc
      have hfb := HFb.out
      generalize f y = z at HMc HMy HFy hfb HFb
      clear hBw hR hB hzl hzt HFy
      go_wp2_with fail
      refine (HMc.out _).mono ?_
      rintro e w1 ⟨rfl, rfl⟩
      go_wp2
      go_roundw
      case rel => exact ⟨j + 1, zs.set j z, by omega, by go_num, by have := HRw.out.set j (.int .i64 (z : Int)); rwa [ints_set] at this, by rw [List.length_set]; exact HZl.out, HSt.out j zs z (by rw [HZl.out, HMl.out]) HZt.out (by rw [HMl.out]; exact hlj) HMy.out, HBw.out.setCell (p := ⟨Hs, j, none⟩) (Nat.le_refl _) _⟩
      case measure => simp only [intOf]; omega
    · have hms : zs = ms := by
        have h1 := hzt
        rw [List.take_of_length_le (by omega), List.take_of_length_le (by have := HMl.out; omega)] at h1
        exact h1
      subst hms
      have HI := Lib.hid (HRw.out.intsV L (by have := HZl.out; omega))
      rw [HZl.out] at HI
      clear hBw hR hB hzt hzl
      go_wp2
      go_ret
      exact ⟨_, rfl, by rw [HRes.out]; exact HI.out, by rw [HH.out]; exact HBw.out⟩

set_option maxHeartbeats 2000000 in
theorem form_2 (n : Nat) (ys : List Nat) (hn0 : 2 ≤ n) (hn1 : n ≤ 10) (hlt : ∀ y ∈ ys, y < n) (hl : ys.length ≤ 10) (hp : 0 < ys.length) (k : Int) (v : Value) (w : World) (h : IntsV w v (natI ys)) :
    Calls Try.prog 21 #[.int .i64 n, v, .int .i64 2, .int .i64 k] w fun e w' => ∃ v', e = .returned v' ∧ IntsV w' v' (natI (formL n 2 (k % n).toNat ys)) ∧ Below w.heap.size w w' := by
  have H := Lib.hid h
  have HY := Lib.hid (fun i => getD_lt hlt (by omega) i)
  have HFm := Lib.hid (fun x (hx : x < n) => fm_plain (n := n) (kind := 2) (x := x) (k := k) (by omega) rfl)
  have hU0 := Int.emod_nonneg k (show (n : Int) ≠ 0 by omega)
  have hU1 := Int.emod_lt_of_pos k (show (0 : Int) < n by omega)
  have HM := Lib.hid (fun x => modulo_any x n (by omega) (by omega))
  have HMk := Lib.hid (HM.out k)
  have HRes := Lib.hid (show formL n 2 (k % n).toNat ys = (ys.map (fm n 2 (k % n).toNat)).reverse from rfl)
  obtain ⟨ao, cap, hv, hlc, hc⟩ := h
  rw [natI_length] at hv hlc hc
  obtain ⟨b, off, rfl, hd⟩ := hc hp
  subst hv
  have HC := Lib.hid (fun i hi => (hd i hi).trans (by rw [natI_at]))
  have HMa := Lib.hid (fun j (hj : j < ys.length) => show (ys.map (fm n 2 (k % n).toNat))[j]?.getD 0 = fm n 2 (k % n).toNat (ys[j]?.getD 0) by
    rw [List.getElem?_map, List.getElem?_eq_getElem hj]; rfl)
  have HMl := Lib.hid (show (ys.map (fm n 2 (k % n).toNat)).length = ys.length from List.length_map _)
  have HFl := Lib.hid (fun x => fm_lt (n := n) (by omega) 2 (k % n).toNat x)
  generalize ys.map (fm n 2 (k % n).toNat) = ms at *
  generalize fm n 2 (k % n).toNat = f at *
  generalize k % (n : Int) = U at *
  have hmk := run_make_zero ys.length (by omega) w
  obtain ⟨Hs, hHs⟩ : ∃ Hs, w.heap.size = Hs := ⟨_, rfl⟩
  have HSt := Lib.hid (fun j zs x hz hh hj hx => set_take (ys := ms) (zs := zs) (j := j) (x := x) hz hh hj hx)
  have hB0 : Below Hs w (w.alloc (.cells (ints (List.replicate ys.length 0)).toArray 3)) := by rw [← hHs]; exact (Below.refl _ w).alloc (Nat.le_refl _) _
  have hR0 : Row (w.alloc (.cells (ints (List.replicate ys.length 0)).toArray 3)) Hs 3 (ints (List.replicate ys.length 0)) := by rw [← hHs]; exact Row.new w _ _
  rw [hHs] at hmk
  have HH := Lib.hid hHs
  generalize w.alloc (.cells (ints (List.replicate ys.length 0)).toArray 3) = W0 at hB0 hR0 hmk
  have HR0 := Lib.hid hR0
  obtain ⟨L, hL⟩ : ∃ L, ys.length = L := ⟨_, rfl⟩
  rw [hL] at HR0 hmk hlc hp hl HC HMa HMl ⊢
  have HLy := Lib.hid hL
  clear hc hd hHs hR0 hlt hL
  go_enter Try.func21, Try.ntmps21
  go_wp2_with fail
  refine (HMk.out _).mono ?_
  rintro e w1 ⟨rfl, rfl⟩
  go_wp2
  go_loopw [12, 13, 28] (fun _ _ i wr => ∃ (j : Nat) (zs : List Nat), j ≤ L ∧ i = .int .i64 j ∧ Row wr Hs 3 (ints zs) ∧ zs.length = L ∧ zs.take j = ms.take j ∧ Below Hs w wr) (fun _ _ i _ => L - (intOf i).toNat)
  case atStart => exact ⟨0, List.replicate L 0, Nat.zero_le _, rfl, HR0.out, by simp, by simp, hB0⟩
  case round =>
    obtain ⟨j, zs, hj, rfl, hR, hzl, hzt, hB⟩ := hrel
    have hBw : Below w.heap.size w wr := by rw [HH.out]; exact hB
    have HRw := Lib.hid hR
    have HBw := Lib.hid hB
    have HZl := Lib.hid hzl
    have HZt := Lib.hid hzt
    by_cases hlj : j < L
    · have cj := cell_later hBw (HC.out j hlj)
      have yj := HY.out j
      have hfr := hR.frozen j
      have hcl := (hR.cell j).trans (ints_at (xs := zs) (by omega))
      have HFy := Lib.hid (HFm.out (ys[j]?.getD 0) yj)
      have HMy := Lib.hid (HMa.out j hlj)
      have HFb := Lib.hid (HFl.out (ys[j]?.getD 0))
      generalize ys[j]?.getD 0 = y at cj yj HFy HMy HFb
      have HMc := Lib.hid (HM.out ((y : Int) + U))
      rw [HFy.out] at HMc
      have hfb := HFb.out
      generalize f y = z at HMc HMy HFy hfb HFb
      clear hBw hR hB hzl hzt HFy
      go_wp2_with fail
      refine (HMc.out _).mono ?_
      rintro e w1 ⟨rfl, rfl⟩
      go_wp2
      go_roundw
      case rel => exact ⟨j + 1, zs.set j z, by omega, by go_num, by have := HRw.out.set j (.int .i64 (z : Int)); rwa [ints_set] at this, by rw [List.length_set]; exact HZl.out, HSt.out j zs z (by rw [HZl.out, HMl.out]) HZt.out (by rw [HMl.out]; exact hlj) HMy.out, HBw.out.setCell (p := ⟨Hs, j, none⟩) (Nat.le_refl _) _⟩
      case measure => simp only [intOf]; omega
    · have hms : zs = ms := by
        have h1 := hzt
        rw [List.take_of_length_le (by omega), List.take_of_length_le (by have := HMl.out; omega)] at h1
        exact h1
      subst hms
      have HRv := Lib.hid (Reverse_row HRw.out (by omega))
      rw [HZl.out] at HRv
      clear hBw hR hB hzt hzl
      go_wp2_with fail
      refine HRv.out.mono ?_
      rintro e w1 ⟨rfl, h1, hb1⟩
      have H1 := Lib.hid h1
      have HB1 := Lib.hid (hb1 Hs w (Nat.le_refl _) HBw.out)
      clear h1 hb1
      go_wp2
      go_ret
      exact ⟨_, rfl, by rw [HRes.out]; exact H1.out, by rw [HH.out]; exact HB1.out⟩

set_option maxHeartbeats 2000000 in
theorem form_3 (n : Nat) (ys : List Nat) (hn0 : 2 ≤ n) (hn1 : n ≤ 10) (hlt : ∀ y ∈ ys, y < n) (hl : ys.length ≤ 10) (hp : 0 < ys.length) (k : Int) (v : Value) (w : World) (h : IntsV w v (natI ys)) :
    Calls Try.prog 21 #[.int .i64 n, v, .int .i64 3, .int .i64 k] w fun e w' => ∃ v', e = .returned v' ∧ IntsV w' v' (natI (formL n 3 (k % n).toNat ys)) ∧ Below w.heap.size w w' := by
  have H := Lib.hid h
  have HY := Lib.hid (fun i => getD_lt hlt (by omega) i)
  have HFm := Lib.hid (fun x (hx : x < n) => fm_turned (n := n) (kind := 3) (x := x) (k := k) (by omega) hx rfl)
  have hU0 := Int.emod_nonneg k (show (n : Int) ≠ 0 by omega)
  have hU1 := Int.emod_lt_of_pos k (show (0 : Int) < n by omega)
  have HM := Lib.hid (fun x => modulo_any x n (by omega) (by omega))
  have HMk := Lib.hid (HM.out k)
  have HRes := Lib.hid (show formL n 3 (k % n).toNat ys = (ys.map (fm n 3 (k % n).toNat)).reverse from rfl)
  obtain ⟨ao, cap, hv, hlc, hc⟩ := h
  rw [natI_length] at hv hlc hc
  obtain ⟨b, off, rfl, hd⟩ := hc hp
  subst hv
  have HC := Lib.hid (fun i hi => (hd i hi).trans (by rw [natI_at]))
  have HMa := Lib.hid (fun j (hj : j < ys.length) => show (ys.map (fm n 3 (k % n).toNat))[j]?.getD 0 = fm n 3 (k % n).toNat (ys[j]?.getD 0) by
    rw [List.getElem?_map, List.getElem?_eq_getElem hj]; rfl)
  have HMl := Lib.hid (show (ys.map (fm n 3 (k % n).toNat)).length = ys.length from List.length_map _)
  have HFl := Lib.hid (fun x => fm_lt (n := n) (by omega) 3 (k % n).toNat x)
  generalize ys.map (fm n 3 (k % n).toNat) = ms at *
  generalize fm n 3 (k % n).toNat = f at *
  generalize k % (n : Int) = U at *
  have hmk := run_make_zero ys.length (by omega) w
  obtain ⟨Hs, hHs⟩ : ∃ Hs, w.heap.size = Hs := ⟨_, rfl⟩
  have HSt := Lib.hid (fun j zs x hz hh hj hx => set_take (ys := ms) (zs := zs) (j := j) (x := x) hz hh hj hx)
  have hB0 : Below Hs w (w.alloc (.cells (ints (List.replicate ys.length 0)).toArray 3)) := by rw [← hHs]; exact (Below.refl _ w).alloc (Nat.le_refl _) _
  have hR0 : Row (w.alloc (.cells (ints (List.replicate ys.length 0)).toArray 3)) Hs 3 (ints (List.replicate ys.length 0)) := by rw [← hHs]; exact Row.new w _ _
  rw [hHs] at hmk
  have HH := Lib.hid hHs
  generalize w.alloc (.cells (ints (List.replicate ys.length 0)).toArray 3) = W0 at hB0 hR0 hmk
  have HR0 := Lib.hid hR0
  obtain ⟨L, hL⟩ : ∃ L, ys.length = L := ⟨_, rfl⟩
  rw [hL] at HR0 hmk hlc hp hl HC HMa HMl ⊢
  have HLy := Lib.hid hL
  clear hc hd hHs hR0 hlt hL
  go_enter Try.func21, Try.ntmps21
  go_wp2_with fail
  refine (HMk.out _).mono ?_
  rintro e w1 ⟨rfl, rfl⟩
  go_wp2
  go_loopw [12, 13, 28] (fun _ _ i wr => ∃ (j : Nat) (zs : List Nat), j ≤ L ∧ i = .int .i64 j ∧ Row wr Hs 3 (ints zs) ∧ zs.length = L ∧ zs.take j = ms.take j ∧ Below Hs w wr) (fun _ _ i _ => L - (intOf i).toNat)
  case atStart => exact ⟨0, List.replicate L 0, Nat.zero_le _, rfl, HR0.out, by simp, by simp, hB0⟩
  case round =>
    obtain ⟨j, zs, hj, rfl, hR, hzl, hzt, hB⟩ := hrel
    have hBw : Below w.heap.size w wr := by rw [HH.out]; exact hB
    have HRw := Lib.hid hR
    have HBw := Lib.hid hB
    have HZl := Lib.hid hzl
    have HZt := Lib.hid hzt
    by_cases hlj : j < L
    · have cj := cell_later hBw (HC.out j hlj)
      have yj := HY.out j
      have hfr := hR.frozen j
      have hcl := (hR.cell j).trans (ints_at (xs := zs) (by omega))
      have HFy := Lib.hid (HFm.out (ys[j]?.getD 0) yj)
      have HMy := Lib.hid (HMa.out j hlj)
      have HFb := Lib.hid (HFl.out (ys[j]?.getD 0))
      generalize ys[j]?.getD 0 = y at cj yj HFy HMy HFb
      have HMc := Lib.hid (HM.out (-(y : Int) + U))
      rw [HFy.out] at HMc
      have hfb := HFb.out
      generalize f y = z at HMc HMy HFy hfb HFb
      clear hBw hR hB hzl hzt HFy
      go_wp2_with fail
      refine (HMc.out _).mono ?_
      rintro e w1 ⟨rfl, rfl⟩
      go_wp2
      go_roundw
      case rel => exact ⟨j + 1, zs.set j z, by omega, by go_num, by have := HRw.out.set j (.int .i64 (z : Int)); rwa [ints_set] at this, by rw [List.length_set]; exact HZl.out, HSt.out j zs z (by rw [HZl.out, HMl.out]) HZt.out (by rw [HMl.out]; exact hlj) HMy.out, HBw.out.setCell (p := ⟨Hs, j, none⟩) (Nat.le_refl _) _⟩
      case measure => simp only [intOf]; omega
    · have hms : zs = ms := by
        have h1 := hzt
        rw [List.take_of_length_le (by omega), List.take_of_length_le (by have := HMl.out; omega)] at h1
        exact h1
      subst hms
      have HRv := Lib.hid (Reverse_row HRw.out (by omega))
      rw [HZl.out] at HRv
      clear hBw hR hB hzt hzl
      go_wp2_with fail
      refine HRv.out.mono ?_
      rintro e w1 ⟨rfl, h1, hb1⟩
      have H1 := Lib.hid h1
      have HB1 := Lib.hid (hb1 Hs w (Nat.le_refl _) HBw.out)
      clear h1 hb1
      go_wp2
      go_ret
      exact ⟨_, rfl, by rw [HRes.out]; exact H1.out, by rw [HH.out]; exact HB1.out⟩

end Go.Proofs.Ytdfagnjdconkcaa

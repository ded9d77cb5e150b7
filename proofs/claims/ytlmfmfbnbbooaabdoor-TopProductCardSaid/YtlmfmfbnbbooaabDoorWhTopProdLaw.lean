/-
  The statement on the product of rhythms' wheels.
-/
import Derived.Test.YtlmfmfbnbbooaabDoorWhImagesLaw
import Derived.Test.YtlmfmfbnbbooaabDoorZaCaEnter
namespace Go.Proofs.YtlmfmfbnbbooaabDoor
open Go.ChangeShapes Go.WideShapes Go.ChangeAt Go.RowKit
set_option maxRecDepth 100000

theorem rhythm_parts {n c : Int} (h : Za.vldB n c = true) : ∃ m k : Nat, n = (m : Int) ∧ c = (k : Int) ∧ 2 ≤ m ∧ m ≤ 24 ∧ k < 2 ^ m ∧ k % 2 = 1 := by
  unfold Za.vldB Za.vldN Za.vldC at h
  rw [Bool.and_eq_true, decide_eq_true_eq, decide_eq_true_eq] at h
  have e : ((2 ^ n.toNat : Nat) : Int) = 2 ^ n.toNat := by simp
  refine ⟨n.toNat, c.toNat, by omega, by omega, by omega, by omega, ?_, by omega⟩
  have : (c.toNat : Int) < ((2 ^ n.toNat : Nat) : Int) := by rw [e]; omega
  exact_mod_cast this
theorem cnt_bound (n a b i : Nat) : cntN n a b i ≤ n := by
  have h : ∀ m : Nat, sumN m (fun y => bI b y * bI a ((i + n - y) % n)) ≤ m := fun m => by
    induction m with
    | zero => exact Nat.le_refl _
    | succ m ih =>
      simp only [sumN]
      have h1 : bI b m * bI a ((i + n - m) % n) ≤ 1 := Nat.le_trans (Nat.mul_le_mul (bI_le b m) (bI_le a _)) (Nat.le_refl _)
      omega
  exact h n
theorem ti_cnt {n a b i : Nat} (h : Circ n) (hi : i < n) : tiF n (chF n a) (chF n b) i = cntN n a b i := by
  rw [ti_comm h]
  unfold tiF
  rw [if_pos hi]
  have e : sumN n (fun y => chF n b y * chF n a ((i + n - y) % n)) = cntN n a b i := by
    show _ = sumN n (fun y => bI b y * bI a ((i + n - y) % n))
    exact sum_congr fun y hy => by
      unfold chF
      rw [if_pos hy, if_pos (Nat.mod_lt _ (by omega))]
  rw [e, Nat.mod_eq_of_lt (by have := cnt_bound n a b i; have := h.n_lt; omega)]
def oneB (f : Nat → Nat) (j : Nat) : Bool := (List.range j).all fun i => f i == 1
theorem oneB_succ (f : Nat → Nat) (j : Nat) : oneB f (j + 1) = (oneB f j && (f j == 1)) := by
  unfold oneB; rw [List.range_succ, List.all_append]; simp
theorem one_tile {n a b : Nat} (h : Circ n) : oneB (tiF n (chF n a) (chF n b)) n = tileB n a b := by
  unfold oneB tileB
  rw [Bool.eq_iff_iff, List.all_eq_true, decide_eq_true_eq]
  constructor
  · intro hh i hi
    have := hh i (List.mem_range.2 hi)
    rw [beq_iff_eq, ti_cnt h hi] at this
    exact this
  · intro hh i hi
    rw [beq_iff_eq, ti_cnt h (List.mem_range.1 hi)]
    exact hh i (List.mem_range.1 hi)
theorem tab_cell {W : World} {n : Nat} {f : Nat → Nat} {v : Value} (h : IntsV W v (natI (tabN n f))) (h0 : 0 < n) : ∃ b off cap, v = .slice (some ⟨b, off, none⟩) n cap ∧ ∀ i, i < n → W.cell? ⟨b, off + i, none⟩ = some (.int .i64 ((f i : Nat) : Int)) := by
  obtain ⟨ao, cap, e, _, hc⟩ := h
  rw [natI_len, tabN_length] at e hc
  obtain ⟨b, off, rfl, hd⟩ := hc h0
  refine ⟨b, off, cap, e, fun i hi => ?_⟩
  rw [hd i hi]
  unfold natI tabN
  rw [List.getElem?_map, List.getElem?_map, List.getElem?_range hi]
  rfl

set_option maxHeartbeats 4000000 in
theorem TopProduct_walk (n a b : Int) (_wf : (Lit.int .i64 n).wf = true) (_wa : (Lit.int .i64 a).wf = true) (_wb : (Lit.int .i64 b).wf = true) (w : World) (hT : Tab w) :
    Calls Tryd.prog 3 #[.int .i64 n, .int .i64 a, .int .i64 b] w fun e w' => e = .returned (.bool true) ∧ Below w.heap.size w w' := by
  have HAw := Lib.hid (fun W => turns_any W)
  have HRa := Lib.hid (fun W => Za.Rhythm_any n a W)
  have HRb := Lib.hid (fun W => Za.Rhythm_any n b W)
  cases ha : Za.vldB n a
  · rw [ha] at HRa
    clear ha hT
    go_enter Tryd.func3, Tryd.ntmps3
    go_wp2_with fail
    refine (HRa.out _).mono ?_
    rintro e u1 ⟨rfl, rfl⟩
    go_wp2_with fail
    refine (HAw.out _).mono ?_
    rintro e uz ⟨rfl, bz⟩
    go_wp2
    go_ret
    exact ⟨rfl, bz⟩
  · rw [ha] at HRa
    cases hb : Za.vldB n b
    · rw [hb] at HRb
      clear ha hb hT
      go_enter Tryd.func3, Tryd.ntmps3
      go_wp2_with fail
      refine (HRa.out _).mono ?_
      rintro e u1 ⟨rfl, rfl⟩
      go_wp2_with fail
      refine (HRb.out _).mono ?_
      rintro e u2 ⟨rfl, rfl⟩
      go_wp2_with fail
      refine (HAw.out _).mono ?_
      rintro e uz ⟨rfl, bz⟩
      go_wp2
      go_ret
      exact ⟨rfl, bz⟩
    · rw [hb] at HRb
      obtain ⟨m, k, rfl, rfl, hm2, hm24, hk, hk1⟩ := rhythm_parts ha
      obtain ⟨m', l, e, rfl, _, _, hl, hl1⟩ := rhythm_parts hb
      obtain rfl : m = m' := by omega
      by_cases h16 : m ≤ 16
      · have q0 : decide ((16 : Int) < (m : Int)) = false := decide_eq_false (by omega)
        have hm : Circ m := ⟨hm2, by omega⟩
        have HCa := Lib.hid (fun W => Chord_ok m hm k hk W)
        have HCb := Lib.hid (fun W => Chord_ok m hm l hl W)
        have hka := ch_wh hm k
        have hlb := ch_wh hm l
        have HTi := Lib.hid (fun v u W (hv : IntsV W v (natI (tabN m (chF m k)))) (hu : IntsV W u (natI (tabN m (chF m l)))) => by
          have := Times_ok m hm _ _ (WhL.tab hka) (WhL.tab hlb) v u W hv hu
          rw [ofL_tab hka, ofL_tab hlb] at this
          exact this)
        have HTl := Lib.hid (fun W (h : Za.Tab W) => Za.Tiles_ok m k l hm2 hm24 hk hl hk1 hl1 W h)
        rw [← one_tile hm] at HTl
        have HT := Lib.hid (show Za.Tab w from hT)
        have HOs := Lib.hid (fun j => oneB_succ (tiF m (chF m k) (chF m l)) j)
        have HO0 := Lib.hid (show oneB (tiF m (chF m k) (chF m l)) 0 = true from rfl)
        have HTc := Lib.hid (fun v W (h : IntsV W v (natI (tabN m (tiF m (chF m k) (chF m l))))) => tab_cell h (show 0 < m by omega))
        clear ha hb hT hm hka hlb hk hl hk1 hl1
        generalize oneB (tiF m (chF m k) (chF m l)) = ob at *
        generalize tiF m (chF m k) (chF m l) = tf at *
        generalize natI (tabN m (chF m k)) = la at *
        generalize natI (tabN m (chF m l)) = lb at *
        have qm : (((m : Nat) : Int) == ((m : Nat) : Int)) = true := beq_self_eq_true _
        go_enter Tryd.func3, Tryd.ntmps3
        go_wp2_with fail
        refine (HRa.out _).mono ?_
        rintro e u1 ⟨rfl, rfl⟩
        go_wp2_with fail
        refine (HRb.out _).mono ?_
        rintro e u2 ⟨rfl, rfl⟩
        go_wp2_with fail
        refine (HCa.out _).mono ?_
        rintro e u3 ⟨v3, rfl, i3, b3⟩
        have F_3 := Lib.hid i3
        have B3 := Lib.hid (b3)
        clear b3 i3
        go_wp2_with fail
        refine (HCb.out _).mono ?_
        rintro e u4 ⟨v4, rfl, i4, b4⟩
        have F_4 := Lib.hid (F_3.out.later b4)
        have G_4 := Lib.hid i4
        have B4 := Lib.hid (below_nx B3.out b4)
        clear b4 i4
        go_wp2_with fail
        refine (HTi.out _ _ _ F_4.out G_4.out).mono ?_
        rintro e u5 ⟨v5, rfl, i5, b5⟩
        have F_5 := Lib.hid (F_4.out.later b5)
        have G_5 := Lib.hid (G_4.out.later b5)
        have P_5 := Lib.hid i5
        have B5 := Lib.hid (below_nx B4.out b5)
        clear b5 i5
        obtain ⟨pb, po, pc, ep, _⟩ := HTc.out _ _ P_5.out
        subst ep
        go_wp2_with fail
        refine (HTl.out _ (HT.out.same B5.out)).mono ?_
        rintro e u6 ⟨rfl, b6⟩
        have P_6 := Lib.hid (P_5.out.later b6)
        have B6 := Lib.hid (below_nx B5.out b6)
        clear b6
        obtain ⟨pb2, po2, pc2, ep2, hpc⟩ := HTc.out _ _ P_6.out
        cases ep2
        have HPc := Lib.hid hpc
        clear hpc
        go_wp2_with fail
        go_loopw [67, 15] (fun i v xr => ∃ j : Nat, j ≤ m ∧ i = .int .i64 (j : Int) ∧ v = .bool (ob j) ∧ u6 = xr) (fun i _ _ => m - (intOf i).toNat)
        case atStart => exact ⟨0, Nat.zero_le _, rfl, by rw [HO0.out], rfl⟩
        case round =>
          obtain ⟨j, hj, rfl, rfl, rfl⟩ := hrel
          by_cases hlj : j < m
          · have cj := HPc.out j hlj
            have HS := Lib.hid (HOs.out j)
            cases he : ob j
            · rw [he] at HS
              have HS2 := Lib.hid (show ob (j + 1) = false by rw [HS.out]; rfl)
              clear HS he
              go_wp2
              go_roundw
              case rel => exact ⟨j + 1, by omega, by go_num, by rw [HS2.out], trivial⟩
              case measure => simp only [intOf]; omega
            · rw [he] at HS
              by_cases hq : tf j = 1
              · have q1 : (((tf j : Nat) : Int) == 1) = true := by rw [hq]; rfl
                have HS2 := Lib.hid (show ob (j + 1) = true by rw [HS.out, hq]; rfl)
                clear HS he hq
                generalize tf j = x at *
                go_wp2
                go_roundw
                case rel => exact ⟨j + 1, by omega, by go_num, by rw [HS2.out], trivial⟩
                case measure => simp only [intOf]; omega
              · have q1 : (((tf j : Nat) : Int) == 1) = false := by rw [beq_eq_false_iff_ne]; omega
                have HS2 := Lib.hid (show ob (j + 1) = false by rw [HS.out, beq_eq_false_iff_ne.2 hq]; rfl)
                clear HS he hq
                generalize tf j = x at *
                go_wp2
                go_roundw
                case rel => exact ⟨j + 1, by omega, by go_num, by rw [HS2.out], trivial⟩
                case measure => simp only [intOf]; omega
          · obtain rfl : j = m := by omega
            have hee : (ob j == ob j) = true := by cases ob j <;> rfl
            generalize ob j = bb at *
            go_wp2_with fail
            refine (HAw.out _).mono ?_
            rintro e uz ⟨rfl, bz⟩
            go_wp2
            go_ret
            exact ⟨rfl, below_nx B6.out bz⟩
      · have q0 : decide ((16 : Int) < (m : Int)) = true := decide_eq_true (by omega)
        clear ha hb hT
        go_enter Tryd.func3, Tryd.ntmps3
        go_wp2_with fail
        refine (HRa.out _).mono ?_
        rintro e u1 ⟨rfl, rfl⟩
        go_wp2_with fail
        refine (HRb.out _).mono ?_
        rintro e u2 ⟨rfl, rfl⟩
        go_wp2_with fail
        refine (HAw.out _).mono ?_
        rintro e uz ⟨rfl, bz⟩
        go_wp2
        go_ret
        exact ⟨rfl, bz⟩
end Go.Proofs.YtlmfmfbnbbooaabDoor

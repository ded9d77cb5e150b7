/-
  The walk of the statement on the greatest sums.
-/
import Derived.Test.YtmemnkmmjejlgaaDoorEvListsLaw
namespace Go.Proofs.YtmemnkmmjejlgaaDoor
open Go.RowKit Go.Shelf
attribute [local go_sem] Oper.semAt_some
set_option maxRecDepth 100000

theorem mem_sc {k c x : Nat} : x ∈ scTo k c ↔ x < c ∧ (tonesL x).length = k := by
  unfold scTo
  rw [List.mem_filter, List.mem_range, beq_iff_eq]

theorem spr_sc {n k m : Nat} (hn2 : n ≤ 16) (hk1 : 1 ≤ k) (hk2 : k ≤ n) : sprN n k m ∈ scTo k (2 ^ n) := by
  have hlt := sprN_lt (n := n) (k := k) (m := m) (by omega)
  exact mem_sc.2 ⟨hlt, by rw [← card_L hn2 hlt, spr_card hk1 hk2]⟩

theorem spr_evB {n k m : Nat} (hk1 : 1 ≤ k) (hk2 : k ≤ n) : evenB n (sprN n k m) = true := by
  have hc := spr_card (m := m) hk1 hk2
  rw [evenB_iff (by omega) (by omega), hc]
  exact spr_even hk1 hk2

theorem sc_card {n k x : Nat} (hn2 : n ≤ 16) (h : x ∈ scTo k (2 ^ n)) : (tonesB n x).length = k := by
  obtain ⟨h1, h2⟩ := mem_sc.1 h
  rw [card_L hn2 h1, h2]

/-- What is known of the list of the greatest sums. -/
theorem most_list {n k : Nat} (hn2 : n ≤ 16) (hk1 : 1 ≤ k) (hk2 : k ≤ n) :
    mostL n k = listE n k ∧ 1 ≤ (mostL n k).length ∧ (∀ x ∈ mostL n k, 1 ≤ x ∧ x < 2 ^ n ∧ sumS n x = sumS n (sprN n k 0)) := by
  have hmem := spr_sc (m := 0) hn2 hk1 hk2
  have hev := spr_evB (n := n) (k := k) (m := 0) hk1 hk2
  have hcs := spr_card (m := 0) hk1 hk2
  obtain ⟨s1, s2, s3⟩ := mst_spec n (scTo k (2 ^ n))
  have hmax : ∀ x ∈ scTo k (2 ^ n), sumS n x ≤ sumS n (sprN n k 0) ∧ (sumS n x = sumS n (sprN n k 0) → evenB n x = true) := fun x hx =>
    sum_most (by omega) (by omega) (by rw [sc_card hn2 hx, hcs]) hev
  have hG : (mstTo n (scTo k (2 ^ n))).1 = sumS n (sprN n k 0) := by
    rcases s3 with h | ⟨x, hx, he⟩
    · rw [h] at hmem; cases hmem
    · have h1 := (hmax x hx).1
      have h2 := s1 _ hmem
      omega
  have hlist : mostL n k = listE n k := by
    unfold mostL listE
    rw [s2, hG]
    refine List.filter_congr (fun x hx => ?_)
    rw [Bool.eq_iff_iff, decide_eq_true_eq]
    constructor
    · exact (hmax x hx).2
    · intro hx2
      have hcx := sc_card hn2 hx
      have h1 := (sum_most (n := n) (s := x) (t := sprN n k 0) (by omega) (by omega) (by rw [hcs, hcx]) hx2).1
      have h2 := (hmax x hx).1
      omega
  refine ⟨hlist, ?_, fun x hx => ?_⟩
  · have : sprN n k 0 ∈ mostL n k := by
      rw [hlist]
      unfold listE
      rw [List.mem_filter]
      exact ⟨hmem, hev⟩
    exact List.length_pos_of_mem this
  · unfold mostL at hx
    rw [s2, hG, List.mem_filter, decide_eq_true_eq] at hx
    have hcx := sc_card hn2 hx.1
    exact ⟨card_pos1 (n := n) (by omega), (mem_sc.1 hx.1).1, hx.2⟩

set_option maxHeartbeats 8000000 in
theorem EvenMost_walk (n k s : Int) (_w0 : (Lit.int .i64 n).wf = true) (_w1 : (Lit.int .i64 k).wf = true) (_w2 : (Lit.int .i64 s).wf = true) (w : World) (hT : Tab w) :
    Calls Tryd.prog 11 #[.int .i64 n, .int .i64 k, .int .i64 s] w fun e w' => e = .returned (.bool true) ∧ Below w.heap.size w w' := by
  have HV := Lib.hid (Part_any n k)
  by_cases hv : vldK n k = true
  · rw [hv] at HV
    obtain ⟨n, k, rfl, rfl, h1, h2, h3, h4⟩ := vldK_nat hv
    have HM := Lib.hid (Most_ok n k h1 h2 h3 h4 w hT)
    have HL := Lib.hid (fun W hW => List_ok n k h1 h2 h3 h4 W hW)
    obtain ⟨hml, hm1, hm2⟩ := most_list h2 h3 h4
    rw [← hml] at HL
    have hl1 := mostL_length (n := n) (k := k) h2
    have hev := spr_evB (n := n) (k := k) (m := 0) h3 h4
    have hcs := spr_card (m := 0) h3 h4
    -- the first one of the list
    have hx0 : (mostL n k)[0]?.getD 0 ∈ mostL n k := by
      rw [List.getElem?_eq_getElem hm1]; exact List.getElem_mem hm1
    obtain ⟨y1, y2, y3⟩ := hm2 _ hx0
    have HS0 := Lib.hid (fun W hW => Sum_ok n ((mostL n k)[0]?.getD 0) h1 h2 y1 y2 W hW)
    rw [y3] at HS0
    have HSc := Lib.hid (Scale_any n s)
    -- what is known of a scale with as many tones
    have hbest : ∀ t : Nat, 1 ≤ t → t < 2 ^ n → (tonesB n t).length = k → sumS n t ≤ sumS n (sprN n k 0) ∧ decide (sumS n t = sumS n (sprN n k 0)) = evenB n t := fun t ht1 ht2 htk => by
      obtain ⟨a1, a2⟩ := sum_most (n := n) (s := sprN n k 0) (t := t) (by omega) (by omega) (by rw [htk, hcs]) hev
      refine ⟨a1, ?_⟩
      rw [Bool.eq_iff_iff, decide_eq_true_eq]
      constructor
      · exact a2
      · intro h5
        have := (sum_most (n := n) (s := t) (t := sprN n k 0) (by omega) (by omega) (by rw [htk, hcs]) h5).1
        omega
    have HBest := Lib.hid hbest
    have hsl := sumS_le (n := n) (s := sprN n k 0) h2
    generalize sumS n (sprN n k 0) = top at *
    obtain ⟨xs, hxs⟩ : ∃ xs, mostL n k = xs := ⟨_, rfl⟩
    rw [hxs] at HM HL hl1 hm1 HS0
    obtain ⟨x0, hx00⟩ : ∃ x0, xs[0]?.getD 0 = x0 := ⟨_, rfl⟩
    rw [hx00] at HS0
    have HX0 := Lib.hid hx00
    have HEq := Lib.hid (fun v u W h k => EqInts_any (v := v) (u := u) (xs := xs) (w := W) (by omega) h k)
    have hcaseS : (∃ t : Nat, s = t ∧ 1 ≤ t ∧ t < 2 ^ n ∧ vldB n s = true) ∨ vldB n s = false := by
      cases hvs : vldB n s
      · exact Or.inr rfl
      · obtain ⟨n', t, hn', hs', _, _, b3, b4⟩ := vldB_nat hvs
        obtain rfl : n = n' := by omega
        exact Or.inl ⟨t, hs', b3, b4, rfl⟩
    clear hv h3 h4 hbest hml hm2 hx0 y1 y2 y3 hev hcs hx00 hxs
    rcases hcaseS with ⟨t, rfl, ht1, ht2, hvs⟩ | hvs
    · rw [hvs] at HSc
      have HS1 := Lib.hid (fun W hW => Sum_ok n t h1 h2 ht1 ht2 W hW)
      have HE1 := Lib.hid (fun W hW => Even_ok n t h1 h2 ht1 ht2 W hW)
      have HRT := Lib.hid (fun W => refTones_any n t h2 ht1 ht2 W)
      have hB := HBest.out t ht1 ht2
      have hst := sumS_le (n := n) (s := t) h2
      unfold ListAt at HRT
      generalize sumS n t = x at HS1 hB hst
      generalize evenB n t = ev at HE1 hB
      generalize tonesB n t = ts at HRT hB
      generalize ts.length = K at HRT hB
      clear hvs ht1 ht2
      go_enter Tryd.func11, Tryd.ntmps11
      go_wp2_with fail
      refine HM.out.mono ?_
      rintro e w1 ⟨v1, rfl, o1, b1⟩
      have t1 := hT.same b1
      have L1 := Lib.hid (IntsAt.of_own o1)
      clear o1
      go_wp2_with fail
      refine (HL.out _ t1).mono ?_
      rintro e w2 ⟨v2, rfl, o2, b2⟩
      have t2 := t1.same b2
      have c2 := below_next b1 b2
      have l12 := L1.out.later b2
      have L2 := Lib.hid (IntsAt.of_own o2)
      clear b1 b2 t1 o2 L1
      rcases l12 with ⟨_, h0⟩ | ⟨g1, cap1, rfl, hc1⟩
      · rw [h0] at hm1; simp at hm1
      have L12 : Hid (IntsAt w2 (.slice (some ⟨g1, 0, none⟩) xs.length cap1) xs) := Lib.hid (Or.inr ⟨g1, cap1, rfl, hc1⟩)
      have hc0 := hc1 0 hm1
      rw [HX0.out] at hc0
      have hq0 : (((xs.length : Nat) : Int) == 0) = false := by rw [beq_eq_false_iff_ne]; omega
      clear hc1
      go_wp2_with fail
      refine (HV.out _).mono ?_
      rintro e w4 ⟨rfl, rfl⟩
      go_wp2_with fail
      refine (HEq.out _ _ _ L12.out L2.out).mono ?_
      rintro e w4 ⟨rfl, m4, rfl⟩
      have c4 := below_drewN c2 m4
      have t4 : Tab (w2.drewN m4) := t2
      clear c2 L12 L2 t2
      go_wp2_with fail
      refine (HS0.out _ t4).mono ?_
      rintro e w5 ⟨rfl, b5⟩
      have t5 := t4.same b5
      have c5 := below_next c4 b5
      clear c4 b5 t4 hc0
      go_wp2_with fail
      refine (HS1.out _ t5).mono ?_
      rintro e w6 ⟨rfl, b6⟩
      have t6 := t5.same b6
      have c6 := below_next c5 b6
      clear c5 b6 t5
      go_wp2_with fail
      refine (HE1.out _ t6).mono ?_
      rintro e w7 ⟨rfl, b7⟩
      have c7 := below_next c6 b7
      clear c6 b7 t6
      go_wp2_with fail
      refine (HSc.out _).mono ?_
      rintro e w8 ⟨rfl, rfl⟩
      go_wp2_with fail
      refine (HRT.out _).mono ?_
      rintro e w8 ⟨_, rfl, ⟨g8, cap8, rfl, _, _, _⟩, b8⟩
      have c8 := below_next c7 b8
      clear c7 b8
      by_cases hK : K = k
      · obtain ⟨hx1, hx2⟩ := hB hK
        have hx3 : ((x : Int) == (top : Int)) = ev := by
          rw [← hx2, Bool.eq_iff_iff, beq_iff_eq, decide_eq_true_eq]; omega
        have hkk : (((K : Nat) : Int) != (k : Int)) = false := by rw [bne_eq_false_iff_eq]; omega
        clear hB hx2 hK
        cases ev
        all_goals
          go_wp2_with fail
          refine (awake_any _).mono ?_
          rintro e w9 ⟨rfl, b9⟩
          have c9 := below_next c8 b9
          clear c8 b9
          go_wp2
          go_ret
          exact ⟨rfl, c9⟩
      · have hkk : (((K : Nat) : Int) != (k : Int)) = true := by rw [bne_iff_ne]; omega
        clear hB hK
        go_wp2_with fail
        refine (awake_any _).mono ?_
        rintro e w9 ⟨rfl, b9⟩
        have c9 := below_next c8 b9
        clear c8 b9
        go_wp2
        go_ret
        exact ⟨rfl, c9⟩
    · rw [hvs] at HSc
      have HS1 := Lib.hid (Sum_bad n s hvs)
      have HE1 := Lib.hid (Even_bad n s hvs)
      clear hvs
      go_enter Tryd.func11, Tryd.ntmps11
      go_wp2_with fail
      refine HM.out.mono ?_
      rintro e w1 ⟨v1, rfl, o1, b1⟩
      have t1 := hT.same b1
      have L1 := Lib.hid (IntsAt.of_own o1)
      clear o1
      go_wp2_with fail
      refine (HL.out _ t1).mono ?_
      rintro e w2 ⟨v2, rfl, o2, b2⟩
      have t2 := t1.same b2
      have c2 := below_next b1 b2
      have l12 := L1.out.later b2
      have L2 := Lib.hid (IntsAt.of_own o2)
      clear b1 b2 t1 o2 L1
      rcases l12 with ⟨_, h0⟩ | ⟨g1, cap1, rfl, hc1⟩
      · rw [h0] at hm1; simp at hm1
      have L12 : Hid (IntsAt w2 (.slice (some ⟨g1, 0, none⟩) xs.length cap1) xs) := Lib.hid (Or.inr ⟨g1, cap1, rfl, hc1⟩)
      have hc0 := hc1 0 hm1
      rw [HX0.out] at hc0
      have hq0 : (((xs.length : Nat) : Int) == 0) = false := by rw [beq_eq_false_iff_ne]; omega
      clear hc1
      go_wp2_with fail
      refine (HV.out _).mono ?_
      rintro e w4 ⟨rfl, rfl⟩
      go_wp2_with fail
      refine (HEq.out _ _ _ L12.out L2.out).mono ?_
      rintro e w4 ⟨rfl, m4, rfl⟩
      have c4 := below_drewN c2 m4
      have t4 : Tab (w2.drewN m4) := t2
      clear c2 L12 L2 t2
      go_wp2_with fail
      refine (HS0.out _ t4).mono ?_
      rintro e w5 ⟨rfl, b5⟩
      have t5 := t4.same b5
      have c5 := below_next c4 b5
      clear c4 b5 t4 hc0
      go_wp2_with fail
      refine (HS1.out _).mono ?_
      rintro e w6 ⟨rfl, b6⟩
      have c6 := below_next c5 b6
      clear c5 b6 t5
      go_wp2_with fail
      refine (HE1.out _).mono ?_
      rintro e w7 ⟨rfl, b7⟩
      have c7 := below_next c6 b7
      clear c6 b7
      go_wp2_with fail
      refine (awake_any _).mono ?_
      rintro e w9 ⟨rfl, b9⟩
      have c9 := below_next c7 b9
      clear c7 b9
      go_wp2
      go_ret
      exact ⟨rfl, c9⟩
  · have hv' : vldK n k = false := by simpa using hv
    rw [hv'] at HV
    have HM := Lib.hid (Most_bad n k hv')
    have HL := Lib.hid (List_bad n k hv')
    clear hv hv' hT
    go_enter Tryd.func11, Tryd.ntmps11
    go_wp2_with fail
    refine (HM.out _).mono ?_
    rintro e w1 ⟨rfl, b1⟩
    go_wp2_with fail
    refine (HL.out _).mono ?_
    rintro e w2 ⟨rfl, b2⟩
    have c2 := below_next b1 b2
    clear b1 b2
    go_wp2_with fail
    refine (awake_any _).mono ?_
    rintro e w5 ⟨rfl, b5⟩
    have c5 := below_next c2 b5
    clear c2 b5
    go_wp2
    go_ret
    exact ⟨rfl, c5⟩

end Go.Proofs.YtmemnkmmjejlgaaDoor

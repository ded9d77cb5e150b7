/-
  Cross; the reference's, which is the same.
-/
import Derived.Test.YtkpiakoijkflmaaVoFns
namespace Go.Proofs.Ytkpiakoijkflmaa
open Go.ChangeShapes Go.WideShapes Go.ChangeAt Go.RowKit
set_option maxRecDepth 100000

theorem Cross_ok (n : Nat) (us bs l : List Nat) (hv : Vc n us bs) (hll : l.length = us.length) (hf : Fits us.length 0 l) (v u t : Value) (w : World) (h : IntsV w v (natI us)) (k : IntsV w u (natI bs)) (q : IntsV w t (natI l)) :
    Calls Try.prog 43 #[.int .i64 n, v, u, t] w fun e w' => e = .returned (.tuple #[.bool (crossB n us bs l), .int .i64 0]) ∧ Below w.heap.size w w' := by
  have HV := Lib.hid (valid2_any n (natI us) (natI bs) v u w (by rw [natI_length]; have := hv.l6; unfold maxLen; omega) (by rw [natI_length]; have := hv.symm.l6; unfold maxLen; omega) h k)
  rw [two_of hv] at HV
  obtain ⟨W1, hW1⟩ : ∃ W1, w.alloc (.cells #[v, u] 22) = W1 := ⟨_, rfl⟩
  have hb : Below w.heap.size w W1 := by rw [← hW1]; exact (Below.refl _ w).alloc (Nat.le_refl _) _
  have HC := Lib.hid (cross_any n us bs l hv hll hf v u t W1 (h.later hb) (k.later hb) (q.later hb))
  have HL := Lib.hid (isLeading_any us.length hv.l6 (natI l) t W1 (by rw [natI_length, hll]; have := hv.l6; unfold maxLen; omega) (q.later hb))
  rw [ld_of hll hf] at HL
  rw [hW1] at HV
  have HW := Lib.hid hW1
  have HB := Lib.hid hb
  obtain ⟨ao, cap, rfl, _, _⟩ := h
  obtain ⟨bo, cap', rfl, _, _⟩ := k
  obtain ⟨co, cap'', rfl, _, _⟩ := q
  have l6 := hv.l6
  clear hW1 hb hv hll hf
  simp only [natI_length] at *
  generalize crossB n us bs l = c at *
  generalize us.length = m at *
  go_enter Try.func43, Try.ntmps43
  go_wp2_with fail
  rw [HW.out]
  refine HV.out.mono ?_
  rintro e w1 ⟨rfl, rfl⟩
  go_wp2_with fail
  refine HL.out.mono ?_
  rintro e w1 ⟨rfl, rfl⟩
  go_wp2_with fail
  refine HC.out.mono ?_
  rintro e w2 ⟨rfl, d, rfl⟩
  go_wp2
  go_ret2
  exact ⟨rfl, below_drewN HB.out d⟩

theorem Cross_bad (n : Int) (xs zs ls : List Int) (hl : xs.length ≤ maxLen) (hm : zs.length ≤ maxLen) (hk : ls.length ≤ maxLen) (hb : twoB n xs zs = false ∨ ldB xs.length ls = false) (v u t : Value) (w : World) (h : IntsV w v xs) (k : IntsV w u zs) (q : IntsV w t ls) :
    Calls Try.prog 43 #[.int .i64 n, v, u, t] w fun e w' => e = .returned (.tuple #[.bool false, .int .i64 2]) ∧ Below w.heap.size w w' := by
  have HV := Lib.hid (valid2_any n xs zs v u w hl hm h k)
  obtain ⟨W1, hW1⟩ : ∃ W1, w.alloc (.cells #[v, u] 22) = W1 := ⟨_, rfl⟩
  have hbl : Below w.heap.size w W1 := by rw [← hW1]; exact (Below.refl _ w).alloc (Nat.le_refl _) _
  have HBl := Lib.hid hbl
  have Q1 := Lib.hid (q.later hbl)
  rw [hW1] at HV
  obtain ⟨ao, ca, rfl, _, _⟩ := h
  obtain ⟨bo, cb, rfl, _, _⟩ := k
  have HW := Lib.hid hW1
  clear hW1 hbl q
  cases ht : twoB n xs zs
  · rw [ht] at HV
    clear ht hb
    go_enter Try.func43, Try.ntmps43
    go_wp2_with fail
    rw [HW.out]
    refine HV.out.mono ?_
    rintro e w1 ⟨rfl, rfl⟩
    go_wp2
    go_ret2
    exact ⟨rfl, HBl.out⟩
  · have hld : ldB xs.length ls = false := by rcases hb with hb | hb; · rw [ht] at hb; cases hb
                                              · exact hb
    have HL := Lib.hid (isLeading_any xs.length (two_len ht) ls t W1 hk Q1.out)
    rw [ht] at HV
    rw [hld] at HL
    clear ht hb hld
    unfold maxLen at hl hm hk
    go_enter Try.func43, Try.ntmps43
    go_wp2_with fail
    rw [HW.out]
    refine HV.out.mono ?_
    rintro e w1 ⟨rfl, rfl⟩
    go_wp2_with fail
    refine HL.out.mono ?_
    rintro e w1 ⟨rfl, rfl⟩
    go_wp2
    go_ret2
    exact ⟨rfl, HBl.out⟩

/-! ### the reference's -/
def hitP (v g : Int) : Prop := (0 < v ∧ v < g) ∨ (v < 0 ∧ g < v)
instance (v g : Int) : Decidable (hitP v g) := by unfold hitP; infer_instance
/-- Whether voices i and j cross, in the reference's words. -/
def rcP (n : Nat) (us bs l : List Nat) (i j : Nat) : Prop :=
  us[i]?.getD 0 ≠ us[j]?.getD 0 ∧ ∃ c : Int, -2 ≤ c ∧ c ≤ 2 ∧ hitP (c * n - (((us[i]?.getD 0 : Nat) : Int) - (us[j]?.getD 0 : Nat))) (mvN' n (us[i]?.getD 0) (bs[l[i]?.getD 0]?.getD 0) - mvN' n (us[j]?.getD 0) (bs[l[j]?.getD 0]?.getD 0))

theorem mv_half {n x y : Nat} (h : 0 < n) : -(n : Int) < 2 * mvN' n x y ∧ 2 * mvN' n x y ≤ n := by
  have := upN_lt h x y
  unfold mvN'; split <;> omega
theorem hit_betw (s g c : Int) : betwB s (s + g) c = true ↔ hitP (c - s) g := by
  unfold betwB hitP
  rw [decide_eq_true_eq]
  omega
theorem cr_rc {n : Nat} {us bs l : List Nat} (h0 : 0 < n) (hx : ∀ i : Nat, us[i]?.getD 0 < n) (i j : Nat) : crT n us bs l i j = true ↔ rcP n us bs l j i := by
  unfold crT rcP meetB
  have a1 := hx i
  have a2 := hx j
  have m1 := mv_half (n := n) (x := us[i]?.getD 0) (y := bs[l[i]?.getD 0]?.getD 0) h0
  have m2 := mv_half (n := n) (x := us[j]?.getD 0) (y := bs[l[j]?.getD 0]?.getD 0) h0
  generalize us[i]?.getD 0 = x at *
  generalize us[j]?.getD 0 = y at *
  generalize mvN' n x (bs[l[i]?.getD 0]?.getD 0) = p at *
  generalize mvN' n y (bs[l[j]?.getD 0]?.getD 0) = q at *
  rw [Bool.and_eq_true, decide_eq_true_eq, Bool.or_eq_true, Bool.or_eq_true, hit_betw, hit_betw, hit_betw]
  constructor
  · rintro ⟨h1, h2⟩
    refine ⟨fun e => h1 e.symm, ?_⟩
    rcases h2 with h2 | h2 | h2
    · exact ⟨-1, by omega, by omega, by rw [show (-1 : Int) * n = -n by omega]; exact h2⟩
    · exact ⟨0, by omega, by omega, by rw [show (0 : Int) * n = 0 by omega]; exact h2⟩
    · exact ⟨1, by omega, by omega, by rw [show (1 : Int) * n = n by omega]; exact h2⟩
  · rintro ⟨h1, c, c1, c2, h2⟩
    refine ⟨fun e => h1 e.symm, ?_⟩
    obtain rfl | rfl | rfl | rfl | rfl : c = -2 ∨ c = -1 ∨ c = 0 ∨ c = 1 ∨ c = 2 := by omega
    · exfalso; unfold hitP at h2; omega
    · left; rw [show (-1 : Int) * n = -n by omega] at h2; exact h2
    · right; left; rw [show (0 : Int) * n = 0 by omega] at h2; exact h2
    · right; right; rw [show (1 : Int) * n = n by omega] at h2; exact h2
    · exfalso; unfold hitP at h2; omega
theorem rc_symm {n : Nat} {us bs l : List Nat} {i j : Nat} (h : rcP n us bs l i j) : rcP n us bs l j i := by
  unfold rcP at *
  generalize us[i]?.getD 0 = x at *
  generalize us[j]?.getD 0 = y at *
  generalize mvN' n x (bs[l[i]?.getD 0]?.getD 0) = p at *
  generalize mvN' n y (bs[l[j]?.getD 0]?.getD 0) = q at *
  obtain ⟨h1, c, c1, c2, h2⟩ := h
  refine ⟨fun e => h1 e.symm, -c, by omega, by omega, ?_⟩
  unfold hitP at *
  rw [Int.neg_mul]
  omega
theorem cross_rc {n : Nat} {us bs l : List Nat} (h0 : 0 < n) (hx : ∀ i : Nat, us[i]?.getD 0 < n) : crossB n us bs l = true ↔ ∃ i, i < us.length ∧ ∃ j, j < us.length ∧ rcP n us bs l i j := by
  unfold crossB
  rw [decide_eq_true_eq]
  constructor
  · rintro ⟨i, hi, j, hj, h⟩
    exact ⟨j, by omega, i, hi, (cr_rc h0 hx i j).1 h⟩
  · rintro ⟨i, hi, j, hj, h⟩
    rcases Nat.lt_trichotomy i j with hlt | rfl | hlt
    · exact ⟨j, hj, i, hlt, (cr_rc h0 hx j i).2 h⟩
    · exact (h.1 rfl).elim
    · exact ⟨i, hi, j, hlt, (cr_rc h0 hx i j).2 (rc_symm h)⟩

theorem hit_t {v g : Int} (h : (0 < v ∧ v < g) ∨ (v < 0 ∧ g < v)) : hitP v g := h

set_option maxHeartbeats 2000000 in
theorem RCross_any (n : Nat) (us bs l : List Nat) (hv : Vc n us bs) (hll : l.length = us.length) (hf : Fits us.length 0 l) (v u t : Value) (w : World) (h : IntsV w v (natI us)) (k : IntsV w u (natI bs)) (q : IntsV w t (natI l)) :
    Calls Try.prog 66 #[.int .i64 n, v, u, t] w fun e w' => e = .returned (.bool (crossB n us bs l)) ∧ ∃ d, w' = w.drewN d := by
  have l1 := hv.l1
  have l6 := hv.l6
  have hlen := hv.len
  have hn := hv.hi
  have h0 := hv.pos
  obtain ⟨b1, o1, c1, rfl, hc1, ha⟩ := ints_nat h (by omega)
  obtain ⟨b2, o2, c2, rfl, _, hbs⟩ := ints_nat k (by omega)
  obtain ⟨b3, o3, c3, rfl, _, hls⟩ := ints_nat q (by omega)
  have HA := Lib.hid ha
  have HB := Lib.hid hbs
  have HQ := Lib.hid hls
  have HD := Lib.hid (fun x y hx hy => RMove_any n x y hn hx hy)
  have HX := Lib.hid (fun i => getD_lt hv.la hv.pos i)
  have HY := Lib.hid (fun i => getD_lt hv.lb hv.pos i)
  have HF := Lib.hid (fun j (hj : j < l.length) => show l[j]?.getD 0 < us.length from (hf.2 (l[j]?.getD 0) (by rw [List.getElem?_eq_getElem hj]; exact List.getElem_mem hj)).1)
  have HBnd := Lib.hid (fun x y => mv_bound (n := n) (x := x) (y := y) hv.pos)
  have hcr := cross_rc (n := n) (us := us) (bs := bs) (l := l) hv.pos (fun i => getD_lt hv.la hv.pos i)
  have HT := Lib.hid (fun i j (hi : i < us.length) (hj : j < us.length) (hc : rcP n us bs l i j) => show crossB n us bs l = true from hcr.2 ⟨i, hi, j, hj, hc⟩)
  have HN := Lib.hid (fun (hc : ∀ i, i < us.length → ∀ j, j < us.length → ¬ rcP n us bs l i j) => show crossB n us bs l = false from by
    cases e : crossB n us bs l
    · rfl
    · obtain ⟨i, hi, j, hj, h⟩ := hcr.1 e
      exact (hc i hi j hj h).elim)
  have HC := Lib.hid (fun i j => show rcP n us bs l i j ↔ (us[i]?.getD 0 ≠ us[j]?.getD 0 ∧ ∃ c : Int, -2 ≤ c ∧ c ≤ 2 ∧ hitP (c * n - (((us[i]?.getD 0 : Nat) : Int) - (us[j]?.getD 0 : Nat))) (mvN' n (us[i]?.getD 0) (bs[l[i]?.getD 0]?.getD 0) - mvN' n (us[j]?.getD 0) (bs[l[j]?.getD 0]?.getD 0))) from Iff.rfl)
  clear h k q ha hbs hls hv hf hcr
  obtain ⟨m, hm⟩ : ∃ m, us.length = m := ⟨_, rfl⟩
  have hm2 : bs.length = m := by omega
  have hm3 : l.length = m := by omega
  rw [hm] at l1 l6 HA HT HN hc1
  rw [hm2] at HB
  rw [hm3, hm] at HF
  rw [hm3] at HQ
  rw [hm, hm2, hm3]
  clear hm hm2 hm3 hlen hll
  generalize crossB n us bs l = res at *
  generalize rcP n us bs l = cr at *
  go_enter Try.func66, Try.ntmps66
  go_wp2
  go_loopw [17] (fun i wr => ∃ (a d : Nat), a ≤ m ∧ i = .int .i64 a ∧ (∀ i, i < a → ∀ j, j < m → ¬ cr i j) ∧ wr = w.drewN d) (fun i _ => m - (intOf i).toNat)
  case atStart => exact ⟨0, 0, Nat.zero_le _, rfl, fun i h => by omega, rfl⟩
  case round =>
    obtain ⟨a, d, ha, rfl, hpre, rfl⟩ := hrel
    have HP := Lib.hid hpre
    clear hpre
    by_cases hlk : a < m
    · obtain ⟨W, hWd⟩ : ∃ W, w.drewN d = W := ⟨_, rfl⟩
      have hx := HX.out a
      have HCa := Lib.hid (fun j => HC.out a j)
      have hpa := HF.out a hlk
      have CAa := Lib.hid (fun d => show (W.drewN d).cell? ⟨b1, o1 + a, none⟩ = some (.int .i64 ((us[a]?.getD 0 : Nat) : Int)) by rw [← hWd]; exact HA.out a hlk)
      have CQa := Lib.hid (fun d => show (W.drewN d).cell? ⟨b3, o3 + a, none⟩ = some (.int .i64 ((l[a]?.getD 0 : Nat) : Int)) by rw [← hWd]; exact HQ.out a hlk)
      generalize us[a]?.getD 0 = x at CAa hx HCa
      generalize l[a]?.getD 0 = p at CQa hpa HCa
      have CBa := Lib.hid (fun d => show (W.drewN d).cell? ⟨b2, o2 + p, none⟩ = some (.int .i64 ((bs[p]?.getD 0 : Nat) : Int)) by rw [← hWd]; exact HB.out p hpa)
      have hy := HY.out p
      generalize bs[p]?.getD 0 = y at CBa hy HCa
      have HMa := Lib.hid (HD.out x y hx hy)
      have hbd := HBnd.out x y
      generalize mvN' n x y = ma at HMa hbd HCa
      obtain ⟨hbd1, hbd2⟩ := hbd
      rw [hWd]
      have HWd := Lib.hid hWd
      clear hWd
      go_wp2_with fail
      go_loopw [22] (fun i wr => ∃ (b d : Nat), b ≤ m ∧ i = .int .i64 b ∧ (∀ j, j < b → ¬ cr a j) ∧ wr = W.drewN d) (fun i _ => m - (intOf i).toNat)
      case atStart => exact ⟨0, 0, Nat.zero_le _, rfl, fun i h => by omega, rfl⟩
      case round =>
        obtain ⟨b, d2, hb, rfl, hpre, rfl⟩ := hrel
        have HQ2 := Lib.hid hpre
        clear hpre
        by_cases hlb : b < m
        · have cj : (W.drewN d2).cell? ⟨b1, o1 + b, none⟩ = some (.int .i64 ((us[b]?.getD 0 : Nat) : Int)) := by rw [← HWd.out]; exact HA.out b (by omega)
          have cqb : (W.drewN d2).cell? ⟨b3, o3 + b, none⟩ = some (.int .i64 ((l[b]?.getD 0 : Nat) : Int)) := by rw [← HWd.out]; exact HQ.out b (by omega)
          have caa := CAa.out d2
          have cqa := CQa.out d2
          have cba := CBa.out d2
          have hx2 := HX.out b
          have hpb := HF.out b (by omega)
          have HCb := Lib.hid (HCa.out b)
          generalize us[b]?.getD 0 = x2 at cj hx2 HCb
          generalize l[b]?.getD 0 = p2 at cqb hpb HCb
          have cbb : (W.drewN d2).cell? ⟨b2, o2 + p2, none⟩ = some (.int .i64 ((bs[p2]?.getD 0 : Nat) : Int)) := by rw [← HWd.out]; exact HB.out p2 hpb
          have hy2 := HY.out p2
          generalize bs[p2]?.getD 0 = y2 at cbb hy2 HCb
          have HMb := Lib.hid (HD.out x2 y2 hx2 hy2)
          have hbe := HBnd.out x2 y2
          generalize mvN' n x2 y2 = mb at HMb hbe HCb
          obtain ⟨hbe1, hbe2⟩ := hbe
          obtain ⟨V, hV⟩ : ∃ V, W.drewN d2 = V := ⟨_, rfl⟩
          rw [hV] at cj cqb cqa cba cbb caa
          rw [hV]
          have HV := Lib.hid hV
          clear hV
          have HTt := Lib.hid (fun h => HT.out a b hlk hlb h)
          by_cases he : x = x2
          · have HF1 := Lib.hid (show ¬ cr a b from fun h => (HCb.out.1 h).1 he)
            subst he
            go_wp2
            go_quiet (fail)
            go_wp2
            go_roundw
            case rel => exact ⟨b + 1, d2 + nq, by omega, by go_num, fun j hj => by
                by_cases e : j = b
                · rw [e]; exact HF1.out
                · exact HQ2.out j (by omega), by rw [← HV.out, World.drewN_drewN]⟩
            case measure => simp only [intOf]; omega
          · have q1 : ((x : Int) == (x2 : Int)) = false := by rw [beq_eq_false_iff_ne]; omega
            have HIt := Lib.hid (fun c (c1 : -2 ≤ c) (c2 : c ≤ 2) (hh : hitP (c * n - ((x : Int) - x2)) (ma - mb)) => show cr a b from HCb.out.2 ⟨he, c, c1, c2, hh⟩)
            have HNo := Lib.hid (fun (hh : ∀ c : Int, -2 ≤ c → c ≤ 2 → ¬ hitP (c * n - ((x : Int) - x2)) (ma - mb)) => show ¬ cr a b from fun h => by obtain ⟨_, c, c1, c2, h2⟩ := HCb.out.1 h; exact hh c c1 c2 h2)
            clear he HCb
            have C1 := Lib.hid (fun q => show (V.drewN q).cell? ⟨b1, o1 + a, none⟩ = some (.int .i64 (x : Int)) from caa)
            have C2 := Lib.hid (fun q => show (V.drewN q).cell? ⟨b1, o1 + b, none⟩ = some (.int .i64 (x2 : Int)) from cj)
            have C3 := Lib.hid (fun q => show (V.drewN q).cell? ⟨b3, o3 + a, none⟩ = some (.int .i64 (p : Int)) from cqa)
            have C4 := Lib.hid (fun q => show (V.drewN q).cell? ⟨b3, o3 + b, none⟩ = some (.int .i64 (p2 : Int)) from cqb)
            have C5 := Lib.hid (fun q => show (V.drewN q).cell? ⟨b2, o2 + p, none⟩ = some (.int .i64 (y : Int)) from cba)
            have C6 := Lib.hid (fun q => show (V.drewN q).cell? ⟨b2, o2 + p2, none⟩ = some (.int .i64 (y2 : Int)) from cbb)
            go_wp2
            go_quiet (fail)
            go_wp2
            revert nq
            intro k1
            obtain ⟨V2, hV2⟩ : ∃ V2, V.drewN k1 = V2 := ⟨_, rfl⟩
            clear caa cj cqa cqb cba cbb
            have caa := C1.out k1
            have cj := C2.out k1
            have cqa := C3.out k1
            have cqb := C4.out k1
            have cba := C5.out k1
            have cbb := C6.out k1
            rw [hV2] at caa cj cqa cqb cba cbb
            rw [hV2]
            go_quiet (fail)
            go_wp2
            revert nq
            intro k2
            obtain ⟨V3, hV3⟩ : ∃ V3, V.drewN (k1 + k2) = V3 := ⟨_, rfl⟩
            clear caa cj cqa cqb cba cbb
            have caa := C1.out (k1 + k2)
            have cj := C2.out (k1 + k2)
            have cqa := C3.out (k1 + k2)
            have cqb := C4.out (k1 + k2)
            have cba := C5.out (k1 + k2)
            have cbb := C6.out (k1 + k2)
            rw [hV3] at caa cj cqa cqb cba cbb
            have e3 : V2.drewN k2 = V3 := by rw [← hV2, ← hV3, World.drewN_drewN]
            rw [e3]
            have HV3 := Lib.hid hV3
            clear hV2 hV3 e3
            have hp63 : p ≤ 6 := by omega
            have hp64 : p2 ≤ 6 := by omega
            go_quiet ((go_at_call 96; first | with_reducible exact Calls.quiet_of_same ((HMa.out _).mono fun e w' h => ⟨h.1, h.2.symm⟩) | with_reducible exact Calls.quiet_of_same ((HMb.out _).mono fun e w' h => ⟨h.1, h.2.symm⟩)))
            clear caa cj cqa cqb cba cbb
            go_wp2_with fail
            revert nq
            intro k3
            obtain ⟨V4, hV4⟩ : ∃ V4, V3.drewN k3 = V4 := ⟨_, rfl⟩
            rw [hV4]
            have HV4 := Lib.hid (show V4 = w.drewN (d + d2 + (k1 + k2) + k3) by rw [← hV4, ← HV3.out, ← HV.out, ← HWd.out]; simp only [World.drewN_drewN])
            clear hV4
            go_loopw [13] (fun i wq => ∃ (c : Int), -2 ≤ c ∧ c ≤ 3 ∧ i = .int .i64 c ∧ (∀ e, -2 ≤ e → e < c → ¬ hitP (e * n - ((x : Int) - x2)) (ma - mb)) ∧ V4 = wq) (fun i _ => (3 - intOf i).toNat)
            case atStart => exact ⟨-2, by omega, by omega, rfl, fun e h1 h2 => by omega, rfl⟩
            case round =>
              obtain ⟨c, hc1', hc2, rfl, hno, rfl⟩ := hrel
              have HNh := Lib.hid hno
              clear hno
              by_cases hc3 : c ≤ 2
              · obtain ⟨cn, hcn⟩ : ∃ cn, c * (n : Int) = cn := ⟨_, rfl⟩
                have hb1' : -32 ≤ cn ∧ cn ≤ 32 := by
                  have g1 : -2 * (n : Int) ≤ c * n := Int.mul_le_mul_of_nonneg_right hc1' (by omega)
                  have g2 : c * (n : Int) ≤ 2 * n := Int.mul_le_mul_of_nonneg_right hc3 (by omega)
                  omega
                obtain ⟨hb2', hb3'⟩ := hb1'
                have hbw1 : -32 ≤ c * (n : Int) := by omega
                have hbw2 : c * (n : Int) ≤ 32 := by omega
                have HITc := Lib.hid (fun hh => HTt.out (HIt.out c hc1' hc3 (by rw [hcn]; exact hh)))
                have HNX := Lib.hid (fun (hh : ¬ hitP (cn - ((x : Int) - x2)) (ma - mb)) => show ∀ e, -2 ≤ e → e < c + 1 → ¬ hitP (e * n - ((x : Int) - x2)) (ma - mb) from fun e h1 h2 => by
                  by_cases h3 : e = c
                  · rw [h3, hcn]; exact hh
                  · exact HNh.out e h1 (by omega))
                have HCN := Lib.hid hcn
                clear hcn
                by_cases p0 : 0 < c * (n : Int) - ((x : Int) - x2)
                · by_cases p1 : c * (n : Int) - ((x : Int) - x2) < ma - mb
                  · have HR := Lib.hid (HITc.out (hit_t (.inl ⟨by rw [← HCN.out]; exact p0, by rw [← HCN.out]; exact p1⟩)))
                    go_wp2
                    go_ret
                    exact ⟨ret_bool HR.out.symm, _, HV4.out⟩
                  · have HR := Lib.hid (HNX.out (by unfold hitP; rw [← HCN.out]; omega))
                    go_wp2
                    go_roundw
                    case rel => exact ⟨c + 1, by omega, by omega, by go_num, HR.out, trivial⟩
                    case measure => simp only [intOf]; omega
                · by_cases p2' : c * (n : Int) - ((x : Int) - x2) < 0
                  · by_cases p3 : ma - mb < c * (n : Int) - ((x : Int) - x2)
                    · have HR := Lib.hid (HITc.out (hit_t (.inr ⟨by rw [← HCN.out]; exact p2', by rw [← HCN.out]; exact p3⟩)))
                      go_wp2
                      go_ret
                      exact ⟨ret_bool HR.out.symm, _, HV4.out⟩
                    · have HR := Lib.hid (HNX.out (by unfold hitP; rw [← HCN.out]; omega))
                      go_wp2
                      go_roundw
                      case rel => exact ⟨c + 1, by omega, by omega, by go_num, HR.out, trivial⟩
                      case measure => simp only [intOf]; omega
                  · have HR := Lib.hid (HNX.out (by unfold hitP; rw [← HCN.out]; omega))
                    go_wp2
                    go_roundw
                    case rel => exact ⟨c + 1, by omega, by omega, by go_num, HR.out, trivial⟩
                    case measure => simp only [intOf]; omega
              · have HF1 := Lib.hid (HNo.out (fun e h1 h2 => HNh.out e h1 (by omega)))
                obtain rfl : c = 3 := by omega
                go_wp2
                go_roundw
                case rel => exact ⟨b + 1, d2 + (k1 + k2) + k3, by omega, by go_num, fun j hj => by
                    by_cases e : j = b
                    · rw [e]; exact HF1.out
                    · exact HQ2.out j (by omega), by rw [HV4.out, ← HWd.out]; simp only [World.drewN_drewN]; congr 1; omega⟩
                case measure => simp only [intOf]; omega
        · obtain rfl : b = m := by omega
          go_wp2
          go_roundw
          case rel => exact ⟨a + 1, d + d2, by omega, by go_num, fun i hi => by
              by_cases e : i = a
              · rw [e]; exact HQ2.out
              · exact HP.out i (by omega), by rw [← HWd.out, World.drewN_drewN]⟩
          case measure => simp only [intOf]; omega
    · have HR := Lib.hid (HN.out (fun i hi => HP.out i (by omega)))
      go_wp2
      go_ret
      exact ⟨ret_bool HR.out.symm, d, rfl⟩
end Go.Proofs.Ytkpiakoijkflmaa

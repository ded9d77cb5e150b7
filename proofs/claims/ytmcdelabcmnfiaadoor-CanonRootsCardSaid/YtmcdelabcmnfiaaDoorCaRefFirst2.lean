/-
  The reference's Size and First.
-/
import Derived.Test.YtmcdelabcmnfiaaDoorCaRefFirst
namespace Go.Proofs.YtmcdelabcmnfiaaDoor
open Go.RowKit Go.Shelf
attribute [local go_sem] Oper.semAt_some
set_option maxRecDepth 100000

theorem refSizeR_any (c : Nat) (hc : c < 2 ^ 62) (w : World) :
    Calls Tryd.prog 31 #[.int .i64 c] w fun e w' => e = .returned (.int .i64 ((tonesL c).length : Nat)) ∧ w = w' := by
  go_enter Tryd.func31, Tryd.ntmps31
  go_wp2
  have HL := Lib.hid (tonesL_length c)
  go_loop [0, 3] (fun u v => ∃ r k : Nat, r < 2 ^ 62 ∧ u = .int .i64 r ∧ v = .int .i64 k ∧ (tonesL c).length = k + (tonesL r).length) (fun u _ => (intOf u).toNat)
  case atStart => exact ⟨c, 0, hc, rfl, rfl, by omega⟩
  case round =>
    obtain ⟨r, k, hr, rfl, rfl, hk⟩ := hrel
    by_cases h0 : r = 0
    · subst h0
      have h' : ((0 : Nat) : Int) = 0 := rfl
      rw [h']
      have hk' := Lib.hid hk
      clear hk
      go_wp2
      go_ret
      exact ⟨ret_int (by rw [hk'.out, tonesL_zero]; simp), rfl⟩
    · have hst := tonesL_step r h0 (by omega)
      have hlen : k ≤ 64 := by have := HL.out; omega
      have hand : Hid (bits .and .i64 (r : Int) ((r : Int) - 1) = ((r &&& (r - 1) : Nat) : Int)) := Lib.hid (by
        have e : (r : Int) - 1 = ((r - 1 : Nat) : Int) := by omega
        rw [e]; exact and_nat r (r - 1) (by omega) (by omega))
      have hdec : r &&& (r - 1) < r := Nat.lt_of_le_of_lt Nat.and_le_right (by omega)
      have hk' := Lib.hid (show (tonesL c).length = k + 1 + (tonesL (r &&& (r - 1))).length by rw [hk, hst]; simp; omega)
      clear hst hk
      go_wp2
      go_round
      case rel => exact ⟨r &&& (r - 1), k + 1, by omega, by rw [hand.out], by go_num, hk'.out⟩
      case measure => simp only [intOf]; rw [hand.out]; omega


theorem fstR_mono (l m : List Nat) : fstR l ≤ fstR (l ++ m) := by
  induction m generalizing l with
  | nil => rw [List.append_nil]; exact Nat.le_refl _
  | cons x m ih =>
    rw [show l ++ x :: m = (l ++ [x]) ++ m by simp]
    refine Nat.le_trans ?_ (ih (l ++ [x]))
    rw [fstR_snoc]
    split
    · exact Nat.le_mul_of_pos_right _ (by assumption)
    · exact Nat.le_refl _
theorem rootsL_mem {n a s : Nat} (h : s ∈ rootsL n a) : 2 ≤ s ∧ s ≤ n ∧ n % s = 0 ∧ rootB a s = true := by
  unfold rootsL rootsTo at h
  obtain ⟨h1, h2⟩ := List.mem_filter.1 h
  rw [Bool.and_eq_true, Bool.and_eq_true, decide_eq_true_eq, beq_iff_eq] at h2
  exact ⟨h2.1, by have := List.mem_range.1 h1; omega, h2.2.1, h2.2.2⟩
theorem rootsL_len (n a : Nat) : (rootsL n a).length ≤ n + 1 := rootsTo_le n a (n + 1)

theorem RFirst_any (n a : Nat) (h1 : 2 ≤ n) (h2 : n ≤ 24) (ha : a < 2 ^ n) (w : World) :
    Calls Tryd.prog 28 #[.int .i64 n, .int .i64 a] w fun e w' => e = .returned (.bool (firstB n a)) ∧ Below w.heap.size w w' := by
  have HRo := Lib.hid (RRoots_any n a h1 h2 ha w)
  have HBa := Lib.hid (fun s (x : 2 ≤ s) (y : s ≤ 24) V => base_any s x y V)
  have HSz := Lib.hid (fun V => refSizeR_any a (Nat.lt_of_lt_of_le ha (Nat.pow_le_pow_right (by omega) (by omega))) V)
  rw [cardN_tonesL (n := n) (by omega) ha] at HSz
  have HFi : Hid (firstB n a = (fstTo n a (primesL n) == cardN n a)) := Lib.hid rfl
  have HEq := Lib.hid (first_eq (a := a) (by omega : 1 ≤ n) h2)
  have HBd : Hid (fstR (rootsL n a) ≤ 24 ^ 3) := Lib.hid (by
    rw [HEq.out]
    have hp := primes_len (n := n) (by omega) h2
    exact Nat.le_trans (fstTo_bd (by omega) h2 _ _ rfl (fun p hp => by have := primes_mem (by omega) h2 hp; omega)) (Nat.pow_le_pow_right (by omega) hp))
  have HMem := Lib.hid (fun s (h : s ∈ rootsL n a) => rootsL_mem h)
  have HLen := Lib.hid (rootsL_len n a)
  have HMo := Lib.hid (fun k => (show fstR ((rootsL n a).take k) ≤ fstR (rootsL n a) by
    have := fstR_mono ((rootsL n a).take k) ((rootsL n a).drop k)
    rwa [List.take_append_drop] at this))
  have hb0 : ∀ s, 2 ≤ s → s ≤ 24 → baseN s ≤ 24 := fun s x y => by
    have := (base_all x y).2.1
    unfold baseN; split <;> omega
  have HB0 := Lib.hid hb0
  rw [← HEq.out] at HFi
  generalize cardN n a = ca at *
  generalize rootsL n a = L at *
  clear ha hb0
  go_enter Tryd.func28, Tryd.ntmps28
  go_wp2_with fail
  refine HRo.out.mono ?_
  rintro e w1 ⟨v, rfl, hv, b1⟩
  obtain ⟨P, cap, rfl, hrd⟩ := hv.read
  clear hv
  go_wp2
  go_loopw [5, 13] (fun m i wr => ∃ k : Nat, k ≤ L.length ∧ i = .int .i64 k ∧ m = .int .i64 (fstR (L.take k) : Nat) ∧ w1 = wr) (fun _ i _ => L.length - (intOf i).toNat)
  case atStart => exact ⟨0, Nat.zero_le _, rfl, rfl, rfl⟩
  case round =>
    obtain ⟨k, hk, rfl, rfl, rfl⟩ := hrel
    have hll : L.length ≤ 25 := by have := HLen.out; omega
    by_cases hkl : k < L.length
    · obtain ⟨g, rfl, hgc⟩ := hrd k hkl
      obtain ⟨s, hs, HsT⟩ : ∃ s, L[k]?.getD 0 = s ∧ Hid (L.take (k + 1) = L.take k ++ [s]) := by
        refine ⟨_, rfl, Lib.hid ?_⟩
        rw [List.take_succ_eq_append_getElem hkl, List.getElem?_eq_getElem hkl]; rfl
      have hsm : s ∈ L := by rw [← hs, List.getElem?_eq_getElem hkl]; exact List.getElem_mem hkl
      obtain ⟨s1, s2, _, _⟩ := HMem.out s hsm
      rw [hs] at hgc
      have hfs := fstR_snoc (L.take k) s
      rw [← HsT.out] at hfs
      have hbd := Nat.le_trans (HMo.out (k + 1)) HBd.out
      have hbd0 := Nat.le_trans (HMo.out k) HBd.out
      have HBs := Lib.hid (HBa.out s s1 (by omega) w1)
      have hb24 := HB0.out s s1 (by omega)
      obtain ⟨M, hM⟩ : ∃ M, fstR (L.take k) = M := ⟨_, rfl⟩
      obtain ⟨M', hM'⟩ : ∃ M', fstR (L.take (k + 1)) = M' := ⟨_, rfl⟩
      rw [hM, hM'] at hfs
      rw [hM'] at hbd
      rw [hM] at hbd0 ⊢
      have HM' := Lib.hid hM'
      generalize baseN s = p at *
      clear hs hsm hM hM' HsT
      by_cases hp : 0 < p
      · rw [if_pos hp] at hfs
        have hmul : (M : Int) * (p : Int) = (M' : Int) := by rw [hfs]; simp
        have hpp : ((0 : Int) < (p : Int)) := by omega
        clear hfs
        go_wp2_with fail
        refine HBs.out.mono ?_
        rintro e w2 ⟨rfl, rfl⟩
        go_wp2
        go_roundw
        case rel => exact ⟨k + 1, by omega, by go_num, by rw [HM'.out], trivial⟩
        case measure => simp only [intOf]; omega
      · rw [if_neg hp] at hfs
        have hpp : ¬ ((0 : Int) < (p : Int)) := by omega
        have HE := Lib.hid (HM'.out.trans hfs)
        clear hfs
        go_wp2_with fail
        refine HBs.out.mono ?_
        rintro e w2 ⟨rfl, rfl⟩
        go_wp2
        go_roundw
        case rel => exact ⟨k + 1, by omega, by go_num, by rw [HE.out], trivial⟩
        case measure => simp only [intOf]; omega
    · have hjL : L.take k = L := List.take_of_length_le (by omega)
      rw [hjL]
      have HB := Lib.hid b1
      clear hjL b1
      obtain ⟨M, hM⟩ : ∃ M, fstR L = M := ⟨_, rfl⟩
      rw [hM] at HFi ⊢
      go_wp2_with fail
      refine (HSz.out _).mono ?_
      rintro e w3 ⟨rfl, rfl⟩
      by_cases hc : M = ca
      · have hq : ((M : Int) == (ca : Int)) = true := by rw [beq_iff_eq]; omega
        have HN := Lib.hid (show firstB n a = true by rw [HFi.out, hc]; simp)
        clear hc hM
        go_wp2
        go_ret
        exact ⟨ret_bool HN.out.symm, HB.out⟩
      · have hq : ((M : Int) == (ca : Int)) = false := by rw [beq_eq_false_iff_ne]; omega
        have HN := Lib.hid (show firstB n a = false by rw [HFi.out, beq_eq_false_iff_ne]; exact hc)
        clear hc hM
        go_wp2
        go_ret
        exact ⟨ret_bool HN.out.symm, HB.out⟩
end Go.Proofs.YtmcdelabcmnfiaaDoor

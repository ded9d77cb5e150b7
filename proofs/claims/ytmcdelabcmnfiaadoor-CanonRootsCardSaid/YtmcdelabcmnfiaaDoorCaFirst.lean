/-
  first of package canon, and First.
-/
import Derived.Test.YtmcdelabcmnfiaaDoorCaPowers
namespace Go.Proofs.YtmcdelabcmnfiaaDoor
open Go.RowKit Go.Shelf
attribute [local go_sem] Oper.semAt_some
set_option maxRecDepth 100000

/-- The slice of the primes, as it is read. -/
def ReadAt (P : Option Addr) (L : List Nat) (W : World) : Prop := ∀ i, i < L.length → ∃ g, P = some ⟨g, 0, none⟩ ∧ W.cell? ⟨g, i, none⟩ = some (.int .i64 ((L[i]?.getD 0 : Nat) : Int))
theorem ReadAt.later {P : Option Addr} {L : List Nat} {W W' : World} (h : ReadAt P L W) (hb : Below W.heap.size W W') : ReadAt P L W' :=
  fun i hi => by obtain ⟨g, a, b⟩ := h i hi; exact ⟨g, a, cell_later hb b⟩
theorem IntsAt.read {W : World} {lo : Nat} {v : Value} {xs : List Nat} (h : IntsAt W lo v xs) : ∃ (P : Option Addr) (cap : Nat), v = .slice P xs.length cap ∧ ReadAt P xs W := by
  obtain ⟨P, cap, hv, hc⟩ := h.as
  exact ⟨P, cap, hv, fun i hi => by obtain ⟨g, a, _, b⟩ := hc i hi; exact ⟨g, a, b⟩⟩

set_option maxHeartbeats 1000000 in
theorem first_any (n a : Nat) (h1 : 2 ≤ n) (h2 : n ≤ 24) (ha : a < 2 ^ n) (w : World) (hT : Tab w) :
    Calls Tryd.prog 50 #[.int .i64 n, .int .i64 a] w fun e w' => e = .returned (.bool (firstB n a)) ∧ Below w.heap.size w w' := by
  have ha24 : a < 2 ^ 24 := Nat.lt_of_lt_of_le ha (Nat.pow_le_pow_right (by omega) h2)
  have HPr := Lib.hid (fun W => primes_any n (by omega) h2 W)
  have HPl := Lib.hid (primes_len (n := n) (by omega) h2)
  have HPm := Lib.hid (fun p hp => primes_mem (n := n) (p := p) (by omega) h2 hp)
  have HPw := Lib.hid (fun p (h3 : 2 ≤ p) (h4 : p ≤ 24) W (h : Tab W) => powers_any n a p (by omega) h2 h3 h4 ha24 W h)
  have HBe := Lib.hid (fun W => tonesIn_any a ha24 W)
  rw [cardN_tonesL (n := n) (by omega) ha] at HBe
  have HTb : Hid (∀ W, Below w.heap.size w W → Tab W) := Lib.hid (fun W h => hT.same h)
  have HFs := Lib.hid (fun ps p => fstTo_snoc n a ps p)
  have HFb := Lib.hid (fun ps (hp : ∀ p ∈ ps, 2 ≤ p ∧ p ≤ 24) => fstTo_bd (a := a) (by omega : 1 ≤ n) h2 _ ps rfl hp)
  have HLen := Lib.hid (fun p (h3 : 2 ≤ p) (h4 : p ≤ 24) => pows_len (by omega : 1 ≤ n) h2 h3 h4)
  have HRl := Lib.hid (roots_le n a)
  have HFi : Hid (firstB n a = (fstTo n a (primesL n) == cardN n a)) := Lib.hid rfl
  generalize cardN n a = ca at *
  clear hT ha
  go_enter Tryd.func50, Tryd.ntmps50
  go_wp2_with fail
  refine (HPr.out _).mono ?_
  rintro e w1 ⟨v, rfl, hv, b1⟩
  obtain ⟨P, cap, rfl, hps⟩ := hv.read
  clear hv
  go_wp2
  go_loopw [5, 13] (fun m i wr => ∃ j : Nat, j ≤ (primesL n).length ∧ i = .int .i64 j ∧ m = .int .i64 (fstTo n a ((primesL n).take j) : Nat) ∧ ReadAt P (primesL n) wr ∧ Below w.heap.size w wr) (fun _ i _ => (primesL n).length - (intOf i).toNat)
  case atStart => exact ⟨0, Nat.zero_le _, rfl, rfl, hps, b1⟩
  case round =>
    obtain ⟨j, hj, rfl, rfl, hps, hB⟩ := hrel
    have hl3 : (primesL n).length ≤ 3 := HPl.out
    by_cases hjl : j < (primesL n).length
    · obtain ⟨g, rfl, hgc⟩ := hps j hjl
      obtain ⟨p, hp, HpT⟩ : ∃ p, (primesL n)[j]?.getD 0 = p ∧ Hid ((primesL n).take (j + 1) = (primesL n).take j ++ [p]) := by
        refine ⟨_, rfl, Lib.hid ?_⟩
        rw [List.take_succ_eq_append_getElem hjl, List.getElem?_eq_getElem hjl]; rfl
      have hpm : p ∈ primesL n := by rw [← hp, List.getElem?_eq_getElem hjl]; exact List.getElem_mem hjl
      obtain ⟨hp1, hp2, hp3⟩ := HPm.out p hpm
      rw [hp] at hgc
      have hfb := HFb.out ((primesL n).take j) (fun q hq => by have := HPm.out q (List.mem_of_mem_take hq); omega)
      have hlt : ((primesL n).take j).length ≤ 3 := by rw [List.length_take]; omega
      have hfb2 : fstTo n a ((primesL n).take j) ≤ 24 ^ 3 := Nat.le_trans hfb (Nat.pow_le_pow_right (by omega) hlt)
      have hfs := HFs.out ((primesL n).take j) p
      rw [← HpT.out] at hfs
      have hll := HLen.out p hp1 (by omega)
      have hrl := HRl.out p
      have Hfs := Lib.hid hfs
      have HPp := Lib.hid (HPw.out p hp1 (by omega) _ (HTb.out _ hB))
      have HB := Lib.hid hB
      have HPs := Lib.hid hps
      obtain ⟨hll1, hll2, _⟩ := hll
      have HLl := Lib.hid hll2
      clear hfb hlt hfs hp hpm hB hps HpT hll2
      generalize fstTo n a ((primesL n).take j) = M at *
      go_wp2_with fail
      refine HPp.out.mono ?_
      rintro e w3 ⟨v, u, rfl, hv, _, b3⟩
      obtain ⟨P3, cap3, rfl, _⟩ := hv.read
      have HB3 := Lib.hid (below_next HB.out b3)
      have HPs3 := Lib.hid (HPs.out.later b3)
      clear hv b3 hgc
      go_wp2
      go_loopw [5, 26] (fun m i wv => ∃ q : Nat, q ≤ (rootsP n a p).length ∧ i = .int .i64 q ∧ m = .int .i64 (M * p ^ q : Nat) ∧ w3 = wv) (fun _ i _ => (rootsP n a p).length - (intOf i).toNat)
      case atStart => exact ⟨0, Nat.zero_le _, rfl, by simp, rfl⟩
      case round =>
        obtain ⟨q, hq, rfl, rfl, rfl⟩ := hrel
        by_cases hql : q < (rootsP n a p).length
        · have e1 : p ^ (q + 1) = p ^ q * p := Nat.pow_succ ..
          have e2 : p ^ (q + 1) ≤ 24 := pow_le_of (by omega) hp1 HLl.out
          have e3 : p ^ q ≤ 24 := pow_le_of (by omega) hp1 HLl.out
          have hM1 : M * p ^ q ≤ 24 ^ 3 * 24 := Nat.mul_le_mul hfb2 e3
          have hM2 : M * p ^ (q + 1) ≤ 24 ^ 3 * 24 := Nat.mul_le_mul hfb2 e2
          have hmul : ((M * p ^ q : Nat) : Int) * (p : Int) = ((M * p ^ (q + 1) : Nat) : Int) := by
            rw [e1, ← Nat.mul_assoc]; simp
          obtain ⟨X, hX⟩ : ∃ X, M * p ^ q = X := ⟨_, rfl⟩
          obtain ⟨Y, hY⟩ : ∃ Y, M * p ^ (q + 1) = Y := ⟨_, rfl⟩
          rw [hX] at hM1 hmul ⊢
          rw [hY] at hM2 hmul
          have HY := Lib.hid hY
          clear e1 e2 e3 hX hY
          go_wp2
          go_roundw
          case rel => exact ⟨q + 1, by omega, by go_num, by rw [HY.out], trivial⟩
          case measure => simp only [intOf]; omega
        · obtain rfl : q = (rootsP n a p).length := by omega
          rw [← Hfs.out]
          go_wp2
          go_roundw
          case rel => exact ⟨j + 1, by omega, by go_num, rfl, HPs3.out, HB3.out⟩
          case measure => simp only [intOf]; omega
    · have hjL : (primesL n).take j = primesL n := List.take_of_length_le (by omega)
      rw [hjL]
      have HB := Lib.hid hB
      clear hB hjL
      obtain ⟨M, hM⟩ : ∃ M, fstTo n a (primesL n) = M := ⟨_, rfl⟩
      rw [hM] at HFi ⊢
      go_wp2_with fail
      refine (HBe.out _).mono ?_
      rintro e w3 ⟨rfl, rfl⟩
      by_cases hc : M = ca
      · have hq : ((M : Int) == (ca : Int)) = true := by rw [beq_iff_eq]; omega
        have HN := Lib.hid (show firstB n a = true by rw [HFi.out, hc]; simp)
        clear hc hM
        go_wp2
        go_ret
        exact ⟨ret_bool HN.out.symm, HB.out⟩
      · have hq : ((M : Int) == (ca : Int)) = false := by rw [beq_eq_false_iff_ne]; omega
        have HN := Lib.hid (show firstB n a = false by rw [HFi.out, beq_eq_false_iff_ne]; exact hc)
        clear hc hM
        go_wp2
        go_ret
        exact ⟨ret_bool HN.out.symm, HB.out⟩
end Go.Proofs.YtmcdelabcmnfiaaDoor

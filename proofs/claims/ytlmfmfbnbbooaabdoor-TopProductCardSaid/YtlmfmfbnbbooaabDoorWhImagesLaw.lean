/-
  The statement on the wheels of images.
-/
import Derived.Test.YtlmfmfbnbbooaabDoorWhFns3
import Derived.Test.YtlmfmfbnbbooaabDoorChPrime
namespace Go.Proofs.YtlmfmfbnbbooaabDoor
open Go.ChangeShapes Go.WideShapes Go.ChangeAt Go.RowKit
set_option maxRecDepth 100000

theorem vld_same (n c : Int) : Ch.vldB n c = (circB n && chordsB n.toNat [c]) := by
  unfold Ch.vldB circB chordsB
  by_cases h : 2 ≤ n ∧ n ≤ 16
  · have e : ((2 ^ n.toNat : Nat) : Int) = 2 ^ n.toNat := by simp
    rw [e]
    by_cases h2 : 0 ≤ c ∧ c < 2 ^ n.toNat
    · simp [h, h2]
    · rw [decide_eq_false (fun x => h2 ⟨x.2.2.1, x.2.2.2⟩)]; simp [h]; intro h3; have := fun h4 => h2 ⟨h3, h4⟩; omega
  · rw [decide_eq_false (fun x => h ⟨x.1, x.2.1⟩), decide_eq_false h]; rfl
theorem goodD {n c : Int} (h : (circB n && chordsB n.toNat [c]) = true) : ∃ m k : Nat, n = (m : Int) ∧ c = (k : Int) ∧ Circ m ∧ k < 2 ^ m := by
  rw [Bool.and_eq_true] at h
  obtain ⟨m, rfl, hm⟩ := circB_true h.1
  rw [Int.toNat_natCast] at h
  have h2 : 0 ≤ c ∧ c < ((2 ^ m : Nat) : Int) := by
    have := h.2
    unfold chordsB at this
    simpa using this
  exact ⟨m, c.toNat, rfl, by omega, hm, by omega⟩
theorem umodI (x : Int) {n : Nat} (h : 0 < n) (hn : n < 17) : ∃ u : Nat, (IntKind.u64.wrap x).tmod (n : Int) = (u : Int) ∧ u < n ∧ IntKind.u64.wrap (n : Int) = (n : Int) := by
  have e : IntKind.u64.wrap x = x % 18446744073709551616 := IntKind.wrap_u64 x
  have e2 : IntKind.u64.wrap (n : Int) = (n : Int) % 18446744073709551616 := IntKind.wrap_u64 _
  obtain ⟨U, hU⟩ : ∃ U : Nat, x % 18446744073709551616 = (U : Int) := Int.eq_ofNat_of_zero_le (by omega)
  exact ⟨U % n, by rw [e, hU, Int.tmod_eq_emod_of_nonneg (by omega)]; simp, Nat.mod_lt _ h, by rw [e2]; omega⟩
theorem lt_bit {n c t : Nat} (hc : c < 2 ^ n) (h : c.testBit t = true) : t < n := by
  apply Classical.byContradiction
  intro hn
  rw [Nat.testBit_lt_two_pow (Nat.lt_of_lt_of_le hc (Nat.pow_le_pow_right (by omega) (by omega)))] at h
  cases h
theorem bit_turn {n c : Nat} (hn : 2 ≤ n) (hn2 : n ≤ 64) (hc : c < 2 ^ n) (i : Nat) : (Ch.mulN n c (-1)).testBit i = (decide (i < n) && c.testBit ((n - i) % n)) := by
  unfold Ch.mulN
  rw [testBit_orL, Bool.eq_iff_iff, Bool.and_eq_true, List.any_eq_true, decide_eq_true_eq]
  have hv : ∀ t : Nat, t < n → (((t : Int) * -1) % n).toNat = (n - t) % n := fun t ht => by
    rcases Nat.eq_zero_or_pos t with rfl | h0
    · simp
    · have e : ((t : Int) * -1) % n = (n : Int) - t := by
        rw [show (t : Int) * -1 = ((n : Int) - t) + n * (-1) by omega, Int.add_mul_emod_self_left, Int.emod_eq_of_lt (by omega) (by omega)]
      rw [e, Nat.mod_eq_of_lt (by omega)]
      omega
  constructor
  · rintro ⟨t, ht, he⟩
    have ht2 := (mem_tonesL.1 ht).2
    have htn : t < n := lt_bit hc ht2
    rw [decide_eq_true_eq, hv t htn] at he
    subst he
    refine ⟨Nat.mod_lt _ (by omega), ?_⟩
    rw [neg_neg htn]
    exact ht2
  · rintro ⟨hi, hb⟩
    have hl := Nat.mod_lt (n - i) (show 0 < n by omega)
    refine ⟨(n - i) % n, mem_tonesL.2 ⟨by omega, hb⟩, ?_⟩
    rw [decide_eq_true_eq, hv _ hl, neg_neg hi]
theorem ch_move {n c t : Nat} (ht : t < n) (hc : c < 2 ^ n) : chF n (mvN n c t) = mvF n t (chF n c) := by
  funext k
  unfold mvF chF
  by_cases hk : k < n
  · rw [if_pos hk, if_pos hk, if_pos (Nat.mod_lt _ (by omega))]
    unfold bI
    rw [testBit_mv ht hc, decide_eq_true hk, Bool.true_and, show k + n - t = k + (n - t) by omega]
  · rw [if_neg hk, if_neg hk]
theorem ch_turn {n c : Nat} (hn : 2 ≤ n) (hn2 : n ≤ 64) (hc : c < 2 ^ n) : chF n (Ch.mulN n c (-1)) = tuF n (chF n c) := by
  funext k
  unfold tuF chF
  by_cases hk : k < n
  · rw [if_pos hk, if_pos hk, if_pos (Nat.mod_lt _ (by omega))]
    unfold bI
    rw [bit_turn hn hn2 hc, decide_eq_true hk, Bool.true_and]
  · rw [if_neg hk, if_neg hk]
theorem turned_lt {n c : Nat} (hn : 2 ≤ n) : Ch.mulN n c (-1) < 2 ^ n := by
  unfold Ch.mulN
  refine orL_lt _ _ n fun t _ => ?_
  have h1 := Int.emod_nonneg ((t : Int) * -1) (show (n : Int) ≠ 0 by omega)
  have h2 := Int.emod_lt_of_pos ((t : Int) * -1) (show (0 : Int) < n by omega)
  omega
theorem minL_in : ∀ (xs : List Nat) (c : Nat), Ch.minL c xs = c ∨ Ch.minL c xs ∈ xs
  | [], c => .inl rfl
  | x :: xs, c => by
    have e : Ch.minL c (x :: xs) = Ch.minL (min c x) xs := rfl
    rw [e]
    rcases minL_in xs (min c x) with h | h
    · rw [h]
      rcases Nat.le_total c x with h2 | h2
      · left; exact Nat.min_eq_left h2
      · right; rw [Nat.min_eq_right h2]; simp
    · right; simp [h]
theorem po_prime {n c : Nat} (h : Circ n) (hc : c < 2 ^ n) : poF n (chF n (Ch.primeN n c)) = poF n (chF n c) := by
  have hn2 : n ≤ 64 := by have := h.2; omega
  unfold Ch.primeN
  have hmm := minL_in (Ch.imgs n c) c
  generalize Ch.minL c (Ch.imgs n c) = pm at *
  rcases hmm with e | e
  · rw [e]
  · unfold Ch.imgs Ch.imgOf at e
    rcases List.mem_append.1 e with e | e
    · obtain ⟨t, ht, he⟩ := List.mem_map.1 e
      rw [← he, ch_move (List.mem_range.1 ht) hc, po_move h (List.mem_range.1 ht)]
    · obtain ⟨t, ht, he⟩ := List.mem_map.1 e
      rw [← he, ch_move (List.mem_range.1 ht) (turned_lt h.1), po_move h (List.mem_range.1 ht), ch_turn h.1 hn2 hc, po_turn h]
theorem prime_lt2 {n c : Nat} (h : Circ n) (hc : c < 2 ^ n) : Ch.primeN n c < 2 ^ n := by
  unfold Ch.primeN
  have hmm := minL_in (Ch.imgs n c) c
  generalize Ch.minL c (Ch.imgs n c) = pm at *
  rcases hmm with e | e
  · rw [e]; exact hc
  · unfold Ch.imgs Ch.imgOf at e
    rcases List.mem_append.1 e with e | e
    · obtain ⟨t, ht, he⟩ := List.mem_map.1 e
      rw [← he]; exact mv_lt
    · obtain ⟨t, ht, he⟩ := List.mem_map.1 e
      rw [← he]; exact mv_lt
theorem intsR {W : World} {b : Nat} {xs : List Nat} (h : Row W b 3 (ints xs)) : IntsV W (.slice (some ⟨b, 0, none⟩) xs.length xs.length) (natI xs) := by
  refine ⟨_, xs.length, by rw [natI_len], by rw [natI_len]; exact Nat.le_refl _, fun _ => ⟨b, 0, rfl, fun i hi => ?_⟩⟩
  rw [natI_len] at hi
  rw [Nat.zero_add, h.cell i, ints_at hi]
  unfold natI
  rw [List.getElem?_map]
  cases e : xs[i]? with
  | none => rw [List.getElem?_eq_none_iff] at e; omega
  | some x => rfl
theorem tabI_max {n : Nat} (h : Circ n) (f : Nat → Nat) : (natI (tabN n f)).length ≤ maxLen := by rw [natI_len, tabN_length]; have := h.2; unfold maxLen; omega
theorem turns_any (w : World) : Calls Tryd.prog 7 #[] w fun e w' => e = .returned (.bool true) ∧ Below w.heap.size w w' := by
  have hc4 : Circ 4 := ⟨by omega, by omega⟩
  have hq4 : qN 4 = 13 := rfl
  have HS := Lib.hid (fun W => Spectrum_ok 4 hc4 [0, 1, 0, 0] ⟨rfl, by rw [hq4]; decide⟩ (.slice (some ⟨w.heap.size, 0, none⟩) 4 4) W)
  rw [show tabN 4 (spF 4 (ofL [0, 1, 0, 0])) = [1, 5, 12, 8] by decide +kernel] at HS
  have HE := Lib.hid (fun a b W ha hb => by have := Equal_any (natI [1, 5, 12, 8]) (natI [1, 5, 12, 8]) a b W (by unfold maxLen; simp [natI]) (by unfold maxLen; simp [natI]) ha hb; rwa [show (natI [1, 5, 12, 8] == natI [1, 5, 12, 8]) = true from beq_self_eq_true _] at this)
  have I0 := Lib.hid (intsR (Row.new w 3 (ints [0, 1, 0, 0])))
  have HN := Lib.hid (fun W => intsR (Row.new W 3 (ints [1, 5, 12, 8])))
  have B0 := Lib.hid ((Below.refl w.heap.size w).alloc (Nat.le_refl _) (.cells (ints [0, 1, 0, 0]).toArray 3))
  have HNb := Lib.hid (fun (W : World) => (Below.refl W.heap.size W).alloc (Nat.le_refl _) (.cells (ints [1, 5, 12, 8]).toArray 3))
  go_enter Tryd.func7, Tryd.ntmps7
  go_wp2_with fail
  refine (HS.out _ I0.out).mono ?_
  rintro e w1 ⟨v1, rfl, i1, b1⟩
  have B1 := Lib.hid (below_nx B0.out b1)
  have I1 := Lib.hid i1
  clear i1 b1
  go_wp2_with fail
  have J1 := Lib.hid (I1.out.later (HNb.out w1))
  refine (HE.out _ _ _ J1.out (HN.out w1)).mono ?_
  rintro e w2 ⟨rfl, q, rfl⟩
  go_wp2
  go_ret
  exact ⟨rfl, bl_drewN (below_nx B1.out (HNb.out w1)) q⟩

set_option maxHeartbeats 4000000 in
theorem TopImages_walk (n c k : Int) (_wf : (Lit.int .i64 n).wf = true) (_wc : (Lit.int .i64 c).wf = true) (_wk : (Lit.int .i64 k).wf = true) (w : World) (hT : Tab w) :
    Calls Tryd.prog 5 #[.int .i64 n, .int .i64 c, .int .i64 k] w fun e w' => e = .returned (.bool true) ∧ Below w.heap.size w w' := by
  have HAw := Lib.hid (fun W => turns_any W)
  have HRV := Lib.hid (fun W => Ch.Valid_any n c W)
  rw [vld_same] at HRV
  cases hb : (circB n && chordsB n.toNat [c])
  · have HC := Lib.hid (fun W => Chord_bad n c hb W)
    clear hb hT
    go_enter Tryd.func5, Tryd.ntmps5
    go_wp2_with fail
    refine (HC.out _).mono ?_
    rintro e u1 ⟨rfl, b1⟩
    have B1 := Lib.hid (b1)
    clear b1
    go_wp2_with fail
    refine (HAw.out _).mono ?_
    rintro e uz ⟨rfl, bz⟩
    go_wp2
    go_ret
    exact ⟨rfl, below_nx B1.out bz⟩
  · rw [hb] at HRV
    obtain ⟨m, a, rfl, rfl, hm, ha⟩ := goodD hb
    have hm0 := hm.pos
    have hm2 := hm.1
    have hm17 := hm.2
    obtain ⟨t, ht1, ht2, hwn⟩ := umodI k hm0 hm17
    have htm : ((t : Nat) : Int) % ((m : Nat) : Int) = ((t : Nat) : Int) := Int.emod_eq_of_lt (by omega) (by omega)
    have hcw := ch_wh hm a
    have hLc : WhL m (tabN m (chF m a)) := WhL.tab hcw
    have HC := Lib.hid (fun W => Chord_ok m hm a ha W)
    have HMv := Lib.hid (fun W (hW : Tab W) => Ch.Move_ok m a (t : Int) hm2 (by omega) ha W)
    rw [htm, Int.toNat_natCast] at HMv
    have HTu := Lib.hid (fun W (hW : Tab W) => Ch.Turn_ok m a hm2 (by omega) ha W hW)
    have HPr := Lib.hid (fun W (hW : Tab W) => Ch.Prime_ok m a hm2 (by omega) ha W hW)
    have HWm := Lib.hid (fun v W (h : IntsV W v (natI (tabN m (chF m a)))) => by
      have := Move_ok m hm _ hLc (t : Int) t htm ht2 v W h
      rw [ofL_tab hcw] at this
      exact this)
    have HWt := Lib.hid (fun v W (h : IntsV W v (natI (tabN m (chF m a)))) => by
      have := Turn_ok m hm _ hLc v W h
      rw [ofL_tab hcw] at this
      exact this)
    have HCl := Lib.hid (fun v W (h : IntsV W v (natI (tabN m (chF m a)))) => Clone_any (natI (tabN m (chF m a))) v W (by rw [natI_len, tabN_length]; omega) h)
    have HCx := Lib.hid (fun W => by have := Chord_ok m hm (mvN m a t) mv_lt W; rw [ch_move ht2 ha] at this; exact this)
    have HCy := Lib.hid (fun W => by have := Chord_ok m hm (Ch.mulN m a (-1)) (turned_lt hm2) W; rw [ch_turn hm2 (by omega) ha] at this; exact this)
    have HAl := Lib.hid (fun W => by
      have := Alike_ok m hm a (Ch.primeN m a) ha (prime_lt2 hm ha) W
      rw [po_prime hm ha, show ((List.range 16).all fun x => poF m (chF m a) x == poF m (chF m a) x) = true by rw [List.all_eq_true]; intro x _; exact beq_self_eq_true _] at this
      exact this)
    have HE := Lib.hid (fun (zs : List Int) (hz : zs.length ≤ maxLen) x y W hx hy => by have := Equal_any zs zs x y W hz hz hx hy; rwa [show (zs == zs) = true from beq_self_eq_true _] at this)
    have HZ1 := Lib.hid (tabI_max hm (mvF m t (chF m a)))
    have HZ2 := Lib.hid (tabI_max hm (tuF m (chF m a)))
    have HT := Lib.hid hT
    clear hb hm ha hcw hLc htm hT
    generalize natI (tabN m (mvF m t (chF m a))) = lx at *
    generalize natI (tabN m (tuF m (chF m a))) = ly at *
    generalize natI (tabN m (chF m a)) = lf at *
    generalize Ch.primeN m a = pr at *
    generalize mvN m a t = xm at *
    generalize Ch.mulN m a (-1) = xt at *
    go_enter Tryd.func5, Tryd.ntmps5
    go_wp2_with fail
    refine (HC.out _).mono ?_
    rintro e u1 ⟨v1, rfl, i1, b1⟩
    have F_1 := Lib.hid i1
    have B1 := Lib.hid (b1)
    clear b1 i1
    go_wp2_with fail
    refine (HRV.out _).mono ?_
    rintro e u2 ⟨rfl, rfl⟩
    go_wp2_with fail
    refine (HMv.out _ (HT.out.same B1.out)).mono ?_
    rintro e u3 ⟨rfl, b3⟩
    have F_3 := Lib.hid (F_1.out.later b3)
    have B3 := Lib.hid (below_nx B1.out b3)
    clear b3
    go_wp2_with fail
    refine (HTu.out _ (HT.out.same B3.out)).mono ?_
    rintro e u4 ⟨rfl, b4⟩
    have F_4 := Lib.hid (F_3.out.later b4)
    have B4 := Lib.hid (below_nx B3.out b4)
    clear b4
    go_wp2_with fail
    refine (HCl.out _ _ F_4.out).mono ?_
    rintro e u5 ⟨v5, rfl, i5, b5⟩
    have F_5 := Lib.hid (F_4.out.later b5)
    have K_5 := Lib.hid i5
    have B5 := Lib.hid (below_nx B4.out b5)
    clear b5 i5
    go_wp2_with fail
    refine (HWm.out _ _ K_5.out).mono ?_
    rintro e u6 ⟨v6, rfl, i6, b6⟩
    have F_6 := Lib.hid (F_5.out.later b6)
    have K_6 := Lib.hid (K_5.out.later b6)
    have A_6 := Lib.hid i6
    have B6 := Lib.hid (below_nx B5.out b6)
    clear b6 i6
    go_wp2_with fail
    refine (HWt.out _ _ F_6.out).mono ?_
    rintro e u7 ⟨v7, rfl, i7, b7⟩
    have F_7 := Lib.hid (F_6.out.later b7)
    have A_7 := Lib.hid (A_6.out.later b7)
    have Bb_7 := Lib.hid i7
    have B7 := Lib.hid (below_nx B6.out b7)
    clear b7 i7
    go_wp2_with fail
    refine (HCx.out _).mono ?_
    rintro e u8 ⟨v8, rfl, i8, b8⟩
    have A_8 := Lib.hid (A_7.out.later b8)
    have Bb_8 := Lib.hid (Bb_7.out.later b8)
    have Cx_8 := Lib.hid i8
    have B8 := Lib.hid (below_nx B7.out b8)
    clear b8 i8
    go_wp2_with fail
    refine (HCy.out _).mono ?_
    rintro e u9 ⟨v9, rfl, i9, b9⟩
    have A_9 := Lib.hid (A_8.out.later b9)
    have Bb_9 := Lib.hid (Bb_8.out.later b9)
    have Cx_9 := Lib.hid (Cx_8.out.later b9)
    have Dy_9 := Lib.hid i9
    have B9 := Lib.hid (below_nx B8.out b9)
    clear b9 i9
    go_wp2_with fail
    refine (HPr.out _ (HT.out.same B9.out)).mono ?_
    rintro e u10 ⟨rfl, b10⟩
    have A_10 := Lib.hid (A_9.out.later b10)
    have Bb_10 := Lib.hid (Bb_9.out.later b10)
    have Cx_10 := Lib.hid (Cx_9.out.later b10)
    have Dy_10 := Lib.hid (Dy_9.out.later b10)
    have B10 := Lib.hid (below_nx B9.out b10)
    clear b10
    go_wp2_with fail
    refine (HAl.out _).mono ?_
    rintro e u11 ⟨rfl, b11⟩
    have A_11 := Lib.hid (A_10.out.later b11)
    have Bb_11 := Lib.hid (Bb_10.out.later b11)
    have Cx_11 := Lib.hid (Cx_10.out.later b11)
    have Dy_11 := Lib.hid (Dy_10.out.later b11)
    have B11 := Lib.hid (below_nx B10.out b11)
    clear b11
    have E1 := Lib.hid (HE.out _ HZ1.out _ _ _ A_11.out Cx_11.out)
    have E2 := Lib.hid (fun q => HE.out _ HZ2.out _ _ _ (Bb_11.out.later (bl_drewN (Below.refl _ _) q)) (Dy_11.out.later (bl_drewN (Below.refl _ _) q)))
    go_wp2_with fail
    refine E1.out.mono ?_
    rintro e u12 ⟨rfl, q1, rfl⟩
    go_wp2_with fail
    refine (E2.out q1).mono ?_
    rintro e u12 ⟨rfl, q2, rfl⟩
    have BZ := Lib.hid (bl_drewN B11.out (q1 + q2))
    go_wp2_with fail
    refine (HAw.out _).mono ?_
    rintro e uz ⟨rfl, bz⟩
    go_wp2
    go_ret
    exact ⟨rfl, below_nx BZ.out bz⟩
end Go.Proofs.YtlmfmfbnbbooaabDoor

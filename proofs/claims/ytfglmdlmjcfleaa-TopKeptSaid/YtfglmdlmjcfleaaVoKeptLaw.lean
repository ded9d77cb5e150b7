/-
  The statement on tones that are kept.
-/
import Derived.Test.YtfglmdlmjcfleaaVoTop
import Derived.Test.YtfglmdlmjcfleaaVoMovedLaw
import Derived.Test.YtfglmdlmjcfleaaCalm
namespace Go.Proofs.Ytfglmdlmjcfleaa
open Go.ChangeShapes Go.WideShapes Go.ChangeAt Go.RowKit
set_option maxRecDepth 100000

theorem zs_kept {n : Nat} {S : Nat → Bool} : ∀ {us cs : List Nat}, us.length = cs.length → (∀ x ∈ us, x < n) → (∀ x ∈ cs, x < n) → (∀ x ∈ cs, S x = true) → us.length ≤ zs n us cs + (us.filter S).length
  | [], _, _, _, _, _ => Nat.zero_le _
  | _ :: _, [], h, _, _, _ => by simp at h
  | x :: us, y :: cs, h, hu, hc, hs => by
    have ih := zs_kept (n := n) (S := S) (us := us) (cs := cs) (by simpa using h) (fun z hz => hu z (by simp [hz])) (fun z hz => hc z (by simp [hz])) (fun z hz => hs z (by simp [hz]))
    by_cases e : x = y
    · have : S x = true := by rw [e]; exact hs y (by simp)
      rw [List.filter_cons_of_pos this, List.length_cons, List.length_cons, zs]; omega
    · have h1 : dsN n x y ≠ 0 := fun h0 => e ((dsN_zero (hu x (by simp)) (hc y (by simp))).1 h0)
      have h2 : (us.filter S).length ≤ ((x :: us).filter S).length := by
        by_cases hx : S x = true
        · rw [List.filter_cons_of_pos hx]; simp
        · rw [List.filter_cons_of_neg hx]; exact Nat.le_refl _
      rw [List.length_cons, zs]; omega
theorem tonesB_lt (n c : Nat) : ∀ x ∈ tonesB n c, x < n := fun x hx => List.mem_range.1 (List.mem_filter.1 hx).1
theorem tonesB_filter (n a b : Nat) : (tonesB n a).filter (fun x => b.testBit x) = tonesB n (a &&& b) := by
  unfold tonesB
  rw [List.filter_filter]
  refine List.filter_congr (fun x _ => ?_)
  rw [Nat.testBit_and, Bool.and_comm]
theorem kept_math {n a b : Nat} (hl : (tonesB n a).length = (tonesB n b).length) : (tonesB n a).length ≤ costN n (tonesB n a) (tonesB n b) + (tonesB n (a &&& b)).length := by
  obtain ⟨cs, h1, h2⟩ := costN_ex n hl
  rw [h2, ← tonesB_filter]
  refine zs_kept (by rw [h1.length_eq, hl]) (tonesB_lt n a) (fun x hx => tonesB_lt n b x (h1.mem_iff.1 hx)) (fun x hx => ?_)
  have := h1.mem_iff.1 hx
  unfold tonesB at this
  exact (List.mem_filter.1 this).2

theorem card_move {n s u : Nat} (hs : s < 2 ^ n) (hu : u < n) (hn : n ≤ 16) : (tonesL (mvN n s u)).length = (tonesL s).length := by
  rw [cardN_tonesL (n := n) (by omega) mv_lt, cardN_tonesL (n := n) (by omega) hs]
  unfold cardN
  rw [← sum_turned n u hu (bI s)]
  refine sum_congr (fun i hi => ?_)
  unfold bI
  rw [testBit_mv hu hs]
  simp [hi]
theorem vc_tones {n a b : Nat} (h1 : 2 ≤ n) (h2 : n ≤ 16) (hl : (tonesB n a).length = (tonesB n b).length) (h3 : 1 ≤ (tonesB n a).length) (h4 : (tonesB n a).length ≤ 5) : Vc n (tonesB n a) (tonesB n b) :=
  ⟨h1, h2, hl, h3, by omega, tonesB_lt n a, tonesB_lt n b⟩

set_option maxHeartbeats 2000000 in
theorem TopKept_walk (n a b x : Int) (w : World) (_w0 : (Lit.int .i64 n).wf = true) (_w1 : (Lit.int .i64 a).wf = true) (_w2 : (Lit.int .i64 b).wf = true) (_w3 : (Lit.int .i64 x).wf = true) :
    Calls Try.prog 19 #[.int .i64 n, .int .i64 a, .int .i64 b, .int .i64 x] w fun e w' => e = .returned (.bool true) ∧ Below w.heap.size w w' := by
  have hmx : Try.prog.follows .mixedOrders = true := by kernel_rfl
  have HLe := Lib.hid (fun W => leads_any W)
  cases hg : Ch.vldB n a && Ch.vldB n b
  · have HC := Lib.hid (Ch.Common_bad n a b hg w)
    clear hg
    go_enter Try.func19, Try.ntmps19
    go_wp2_with fail
    refine HC.out.mono ?_
    rintro e w1 ⟨rfl, b1⟩
    have B1 := Lib.hid b1
    clear b1
    go_wp2_with fail
    refine (HLe.out _).mono ?_
    rintro e w2 ⟨rfl, b2⟩
    go_wp2
    go_ret
    exact ⟨rfl, below_nx B1.out b2⟩
  · rw [Bool.and_eq_true] at hg
    obtain ⟨hga, hgb⟩ := hg
    have HVa := Lib.hid (fun W => Ch.Valid_any n a W)
    have HVb := Lib.hid (fun W => Ch.Valid_any n b W)
    rw [hga] at HVa
    rw [hgb] at HVb
    obtain ⟨m, a, rfl, rfl, h2, h16, ha⟩ := Ch.vldB_nat hga
    obtain ⟨m', b, e1, rfl, _, _, hb⟩ := Ch.vldB_nat hgb
    obtain rfl : m = m' := by omega
    have hp16 : 2 ^ m ≤ 2 ^ 16 := Nat.pow_le_pow_right (by omega) h16
    have HC := Lib.hid (Ch.Common_ok m a b h2 h16 ha hb w)
    have HSa := Lib.hid (fun W => Ch.Size_any a (by omega) W)
    have HSb := Lib.hid (fun W => Ch.Size_any b (by omega) W)
    have HCl := Lib.hid (Ch.comN_length a m b)
    obtain ⟨sa, hsa⟩ : ∃ sa, (tonesL a).length = sa := ⟨_, rfl⟩
    obtain ⟨sb, hsb⟩ : ∃ sb, (tonesL b).length = sb := ⟨_, rfl⟩
    rw [hsa] at HSa
    rw [hsb] at HSb
    have la : sa ≤ 64 := by rw [← hsa]; exact tonesL_length a
    have lb : sb ≤ 64 := by rw [← hsb]; exact tonesL_length b
    by_cases hs : sa = sb ∧ 1 ≤ sa ∧ sa ≤ 5
    · obtain ⟨hs1, hs2, hs3⟩ := hs
      subst hs1
      obtain ⟨μ, hμ1, hμ2⟩ := umod_ex x (show 0 < m by omega)
      have hxm := mv_lt (n := m) (c := b) (u := μ)
      have HMv := Lib.hid (fun W => Ch.Move_ok m b (μ : Int) h2 h16 hb W)
      have ey : ((μ : Int) % (m : Int)).toNat = μ := by rw [Int.emod_eq_of_lt (by omega) (by omega)]; simp
      rw [ey] at HMv
      have hsx : (tonesL (mvN m b μ)).length = sa := by rw [card_move hb hμ2 h16, hsb]
      have HVx := Lib.hid (fun W => Ch.Valid_any m (mvN m b μ : Nat) W)
      rw [Ch.vldB_of_nat h2 h16 hxm] at HVx
      have HSx := Lib.hid (fun W => Ch.Size_any (mvN m b μ) (by omega) W)
      rw [hsx] at HSx
      have HTa := Lib.hid (fun W => toptones_any m a h16 (by omega) W)
      have HTx := Lib.hid (fun W => toptones_any m (mvN m b μ) h16 (by omega) W)
      have hla : (tonesB m a).length = sa := by rw [← hsa, tonesL_eq a (by omega) ha]
      have hlx : (tonesB m (mvN m b μ)).length = sa := by rw [← hsx, tonesL_eq _ (by omega) hxm]
      have hvc := vc_tones (n := m) (a := a) (b := mvN m b μ) h2 h16 (by rw [hla, hlx]) (by omega) (by omega)
      have HCo := Lib.hid (fun p q W hp hq => Cost_ok m _ _ hvc p q W hp hq)
      have hand := and_nat a (mvN m b μ) (by omega) (by omega)
      have hax : a &&& mvN m b μ < 2 ^ m := Nat.lt_of_le_of_lt Nat.and_le_left ha
      have HSax := Lib.hid (fun W => Ch.Size_any (a &&& mvN m b μ) (by omega) W)
      have hkm := kept_math (n := m) (a := a) (b := mvN m b μ) (by rw [hla, hlx])
      rw [hla, ← tonesL_eq _ (by omega) hax] at hkm
      have HAt := Lib.hid (show (Ch.comN a m b)[μ]?.getD 0 = (tonesL (a &&& mvN m b μ)).length by
        unfold Ch.comN Ch.comAt
        rw [List.getElem?_map, List.getElem?_range hμ2]; rfl)
      have lcm := tonesL_length (a &&& mvN m b μ)
      have hcb := costT_le (n := m) (by omega) (tonesB m (mvN m b μ)) (tonesB m a) 0
      have hcb2 : (tonesB m a).length * m ≤ 5 * 16 := Nat.mul_le_mul (by omega) h16
      have hc96 : costN m (tonesB m a) (tonesB m (mvN m b μ)) ≤ 96 := by unfold costN; omega
      have hwn : IntKind.u64.wrap (m : Int) = m := wrap_natu m (by omega)
      clear hga hgb ha hb hsa hsb hxm hsx hla hlx hvc hax ey hcb hcb2 hp16
      generalize (tonesL (a &&& mvN m b μ)).length = cm at *
      generalize (a &&& mvN m b μ : Nat) = ax at *
      generalize costN m (tonesB m a) (tonesB m (mvN m b μ)) = co at *
      generalize natI (tonesB m (mvN m b μ)) = tx at *
      generalize natI (tonesB m a) = ta at *
      generalize mvN m b μ = xx at *
      generalize Ch.comN a m b = cs at *
      have q1 : ((sa : Int) != (sa : Int)) = false := by rw [bne_eq_false_iff_eq]
      have hge : (sa : Int) - cm ≤ co := by omega
      go_enter Try.func19, Try.ntmps19
      go_wp2_with fail
      refine HC.out.mono ?_
      rintro e w1 ⟨bb, rfl, hbb, hr, b1⟩
      have B1 := Lib.hid b1
      have HR1 := Lib.hid hr
      clear b1 hr hbb
      go_wp2_with fail
      refine (HVa.out _).mono ?_
      rintro e w2 ⟨rfl, rfl⟩
      go_wp2_with fail
      refine (HVb.out _).mono ?_
      rintro e w2 ⟨rfl, rfl⟩
      go_wp2_with fail
      refine (HSa.out _).mono ?_
      rintro e w2 ⟨rfl, rfl⟩
      go_wp2_with fail
      refine (HSb.out _).mono ?_
      rintro e w2 ⟨rfl, rfl⟩
      go_wp2_with fail
      refine (HMv.out _).mono ?_
      rintro e w3 ⟨rfl, b3⟩
      have B3 := Lib.hid (below_nx B1.out b3)
      have HR3 := Lib.hid (HR1.out.later b3)
      clear b3
      go_wp2_with fail
      refine (HVx.out _).mono ?_
      rintro e w4 ⟨rfl, rfl⟩
      go_wp2_with fail
      refine (HSx.out _).mono ?_
      rintro e w4 ⟨rfl, rfl⟩
      go_wp2_with fail
      refine (HSa.out _).mono ?_
      rintro e w4 ⟨rfl, rfl⟩
      go_wp2_with fail
      refine (HTa.out _).mono ?_
      rintro e w5 ⟨v5, rfl, i5, b5⟩
      have B5 := Lib.hid (below_nx B3.out b5)
      have HR5 := Lib.hid (HR3.out.later b5)
      have I5 := Lib.hid i5
      clear b5 i5
      go_wp2_with fail
      refine (HTx.out _).mono ?_
      rintro e w6 ⟨v6, rfl, i6, b6⟩
      have B6 := Lib.hid (below_nx B5.out b6)
      have HR6 := Lib.hid (HR5.out.later b6)
      have C6 := Lib.hid (HCo.out v5 v6 w6 (I5.out.later b6) i6)
      clear b6 i6
      go_wp2_with fail
      refine C6.out.mono ?_
      rintro e w7 ⟨rfl, b7⟩
      have B7 := Lib.hid (below_nx B6.out b7)
      have hr7 := HR6.out.later b7
      have k7 : w7.cell? ⟨bb, μ, none⟩ = some (.int .i64 (cm : Nat)) := by rw [hr7.cell, ints_at (by rw [HCl.out]; exact hμ2), HAt.out]
      clear b7 hr7
      go_wp2_with fail
      refine region_calm hmx (by kernel_rfl) ?_
      intro S hSn f hS1 hS2
      have l0 : ∀ s, (f s).cell? ⟨bb, μ, none⟩ = some (.int .i64 (cm : Nat)) := fun s => cell_later (hS1 s) k7
      have hC1 := Lib.hid (calm_call0 (fun s => HSax.out (f s)))
      have hC2 := Lib.hid (calm_call0 (fun s => HSa.out (f s)))
      have hC3 := Lib.hid (calm_call hS1 hS2 (fun s => HLe.out (f s)))
      repeat (go_big_quiet_step (first | with_reducible exact hC1.out _ | with_reducible exact hC2.out _ | with_reducible exact hC3.out _))
      refine wpQuiet_nil ?_
      rintro _ ⟨s, rfl⟩
      have hbs := hS1 s
      generalize f s = w8 at hbs
      clear l0 hC1 hC2 hC3 hS1 hS2
      try dsimp only [Exit.then]
      go_wp2
      go_ret
      exact ⟨rfl, below_nx B7.out hbs⟩
    · clear hga hgb ha hb hsa hsb hp16
      generalize Ch.comN a m b = cs at *
      by_cases hs1 : sa = sb
      · subst hs1
        have q1 : ((sa : Int) != (sa : Int)) = false := by rw [bne_eq_false_iff_eq]
        by_cases hs2 : sa < 1
        · go_enter Try.func19, Try.ntmps19
          go_wp2_with fail
          refine HC.out.mono ?_
          rintro e w1 ⟨bb, rfl, hbb, hr, b1⟩
          have B1 := Lib.hid b1
          clear b1 hr hbb
          go_wp2_with fail
          refine (HVa.out _).mono ?_
          rintro e w2 ⟨rfl, rfl⟩
          go_wp2_with fail
          refine (HVb.out _).mono ?_
          rintro e w2 ⟨rfl, rfl⟩
          go_wp2_with fail
          refine (HSa.out _).mono ?_
          rintro e w2 ⟨rfl, rfl⟩
          go_wp2_with fail
          refine (HSb.out _).mono ?_
          rintro e w2 ⟨rfl, rfl⟩
          go_wp2_with fail
          refine (HLe.out _).mono ?_
          rintro e w3 ⟨rfl, b3⟩
          go_wp2
          go_ret
          exact ⟨rfl, below_nx B1.out b3⟩
        · have hs3 : 5 < sa := by omega
          clear hs
          go_enter Try.func19, Try.ntmps19
          go_wp2_with fail
          refine HC.out.mono ?_
          rintro e w1 ⟨bb, rfl, hbb, hr, b1⟩
          have B1 := Lib.hid b1
          clear b1 hr hbb
          go_wp2_with fail
          refine (HVa.out _).mono ?_
          rintro e w2 ⟨rfl, rfl⟩
          go_wp2_with fail
          refine (HVb.out _).mono ?_
          rintro e w2 ⟨rfl, rfl⟩
          go_wp2_with fail
          refine (HSa.out _).mono ?_
          rintro e w2 ⟨rfl, rfl⟩
          go_wp2_with fail
          refine (HSb.out _).mono ?_
          rintro e w2 ⟨rfl, rfl⟩
          go_wp2_with fail
          refine (HLe.out _).mono ?_
          rintro e w3 ⟨rfl, b3⟩
          go_wp2
          go_ret
          exact ⟨rfl, below_nx B1.out b3⟩
      · have q1 : ((sa : Int) != (sb : Int)) = true := by rw [bne_iff_ne]; omega
        clear hs hs1
        go_enter Try.func19, Try.ntmps19
        go_wp2_with fail
        refine HC.out.mono ?_
        rintro e w1 ⟨bb, rfl, hbb, hr, b1⟩
        have B1 := Lib.hid b1
        clear b1 hr hbb
        go_wp2_with fail
        refine (HVa.out _).mono ?_
        rintro e w2 ⟨rfl, rfl⟩
        go_wp2_with fail
        refine (HVb.out _).mono ?_
        rintro e w2 ⟨rfl, rfl⟩
        go_wp2_with fail
        refine (HSa.out _).mono ?_
        rintro e w2 ⟨rfl, rfl⟩
        go_wp2_with fail
        refine (HSb.out _).mono ?_
        rintro e w2 ⟨rfl, rfl⟩
        go_wp2_with fail
        refine (HLe.out _).mono ?_
        rintro e w3 ⟨rfl, b3⟩
        go_wp2
        go_ret
        exact ⟨rfl, below_nx B1.out b3⟩
end Go.Proofs.Ytfglmdlmjcfleaa

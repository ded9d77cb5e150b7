/-
  build of package canon.
-/
import Derived.Test.YtmcdelabcmnfiaaDoorCaSecond
import Derived.BigQuiet
namespace Go.Proofs.YtmcdelabcmnfiaaDoor
open Go.RowKit Go.Shelf
attribute [local go_sem] Oper.semAt_some
set_option maxRecDepth 100000

set_option maxHeartbeats 2000000 in
theorem build_any (n a : Nat) (h1 : 2 ≤ n) (h2 : n ≤ 24) (ha : a < 2 ^ 24) (w : World) (hT : Tab w) :
    Calls Tryd.prog 52 #[.int .i64 n, .int .i64 a] w fun e w' => e = .returned (.int .i64 (buildN n a : Nat)) ∧ Below w.heap.size w w' := by
  have HPr := Lib.hid (fun W => primes_any n (by omega) h2 W)
  have HPl := Lib.hid (primes_len (n := n) (by omega) h2)
  have HPm := Lib.hid (fun p hp => primes_mem (n := n) (p := p) (by omega) h2 hp)
  have HPw := Lib.hid (fun p (h3 : 2 ≤ p) (h4 : p ≤ 24) W (h : Tab W) => powers_any n a p (by omega) h2 h3 h4 ha W h)
  have HTb : Hid (∀ W, Below w.heap.size w W → Tab W) := Lib.hid (fun W h => hT.same h)
  have HFs := Lib.hid (fun ps p => buildTo_snoc n a ps p)
  have HFb := Lib.hid (fun ps => buildTo_lt (a := a) (by omega : 1 ≤ n) _ ps rfl)
  have HMv := Lib.hid (fun B u (hB : B < 2 ^ n) (hu : u ≤ n) V => move_any n B u h1 h2 hB hu V)
  have HWo := Lib.hid (fun p (h3 : 2 ≤ p) (h4 : p ≤ 25) V => without_any n p (by omega) h2 h3 h4 V)
  have HSh := Lib.hid (fun p s j hp hs hj => sh_all (n := n) (p := p) (s := s) (j := j) (by omega) h2 hp hs hj)
  have HPs := Lib.hid (fun p (h3 : 2 ≤ p) (h4 : p ≤ 24) => (pows_len (by omega : 1 ≤ n) h2 h3 h4))
  have HBn : Hid (buildN n a = buildTo n a (primesL n)) := Lib.hid rfl
  have hp24 : 2 ^ n ≤ 2 ^ 24 := Nat.pow_le_pow_right (by omega) h2
  have hmx : Tryd.prog.follows .mixedOrders = true := by kernel_rfl
  clear hT
  go_enter Tryd.func52, Tryd.ntmps52
  go_wp2_with fail
  refine (HPr.out _).mono ?_
  rintro e w1 ⟨v, rfl, hv, b1⟩
  obtain ⟨P, cap, rfl, hps⟩ := hv.read
  clear hv
  go_wp2
  go_loopw [5, 17] (fun m i wr => ∃ j : Nat, j ≤ (primesL n).length ∧ i = .int .i64 j ∧ m = .int .i64 (buildTo n a ((primesL n).take j) : Nat) ∧ ReadAt P (primesL n) wr ∧ Below w.heap.size w wr) (fun _ i _ => (primesL n).length - (intOf i).toNat)
  case atStart => exact ⟨0, Nat.zero_le _, rfl, rfl, hps, b1⟩
  case round =>
    obtain ⟨j, hj, rfl, rfl, hps, hB⟩ := hrel
    have hl3 : (primesL n).length ≤ 3 := HPl.out
    by_cases hjl : j < (primesL n).length
    · obtain ⟨g, rfl, hgc⟩ := hps j hjl
      obtain ⟨p, hp, HpT⟩ : ∃ p, (primesL n)[j]?.getD 0 = p ∧ Hid ((primesL n).take (j + 1) = (primesL n).take j ++ [p]) := by
        refine ⟨_, rfl, Lib.hid ?_⟩
        rw [List.take_succ_eq_append_getElem hjl, List.getElem?_eq_getElem hjl]; rfl
      have hpm : p ∈ primesL n := by rw [← hp, List.getElem?_eq_getElem hjl]; exact List.getElem_mem hjl
      obtain ⟨hp1, hp2, hp3⟩ := HPm.out p hpm
      rw [hp] at hgc
      have hfb := HFb.out ((primesL n).take j)
      have hfs := HFs.out ((primesL n).take j) p
      rw [← HpT.out] at hfs
      have Hfs := Lib.hid hfs
      have HPp := Lib.hid (HPw.out p hp1 (by omega) _ (HTb.out _ hB))
      have HB := Lib.hid hB
      have HPs' := Lib.hid hps
      have HShp := Lib.hid (fun s jj hs hj => HSh.out p s jj hpm hs hj)
      have HWp := Lib.hid (HWo.out p hp1 (by omega))
      have hol : (othersP n a p).length ≤ 4 := Nat.le_trans (others_le n a p) (HPs.out p hp1 (by omega)).1
      have HOm : Hid (∀ s, s ∈ othersP n a p → s ∈ powsN n p ∧ 2 ≤ s ∧ s ≤ n) := Lib.hid (fun s hs => ⟨others_mem hs, ((HPs.out p hp1 (by omega)).2.2 s (others_mem hs)).1, ((HPs.out p hp1 (by omega)).2.2 s (others_mem hs)).2.1⟩)
      have hpz : ((p : Int) == 0) = false := by rw [beq_eq_false_iff_ne]; omega
      clear hfs hp hpm hB hps HpT
      generalize buildTo n a ((primesL n).take j) = B0 at *
      have HB0 := Lib.hid hfb
      go_wp2_with fail
      refine HPp.out.mono ?_
      rintro e w3 ⟨v, u, rfl, _, hu, b3⟩
      obtain ⟨P3, cap3, rfl, hrd⟩ := hu.read
      have HB3 := Lib.hid (below_next HB.out b3)
      have HPs3 := Lib.hid (HPs'.out.later b3)
      clear hu b3 hgc hfb
      generalize othersP n a p = S at *
      go_wp2
      go_loopw [5, 30] (fun m i wv => ∃ q : Nat, q ≤ S.length ∧ i = .int .i64 q ∧ m = .int .i64 (bldTo n p B0 (S.take q) : Nat) ∧ Below w3.heap.size w3 wv) (fun _ i _ => S.length - (intOf i).toNat)
      case atStart => exact ⟨0, Nat.zero_le _, rfl, rfl, Below.refl _ _⟩
      case round =>
        obtain ⟨q, hq, rfl, rfl, hV⟩ := hrel
        have hrd' := hrd.later hV
        have HV := Lib.hid hV
        by_cases hql : q < S.length
        · obtain ⟨gS, rfl, hsc⟩ := hrd' q hql
          obtain ⟨s, hs, HsT⟩ : ∃ s, S[q]?.getD 0 = s ∧ Hid (S.take (q + 1) = S.take q ++ [s]) := by
            refine ⟨_, rfl, Lib.hid ?_⟩
            rw [List.take_succ_eq_append_getElem hql, List.getElem?_eq_getElem hql]; rfl
          have hsm : s ∈ S := by rw [← hs, List.getElem?_eq_getElem hql]; exact List.getElem_mem hql
          obtain ⟨hs0, hs1, hs2⟩ := HOm.out s hsm
          rw [hs] at hsc
          have hbn := bldTo_snoc n p B0 (S.take q) s
          rw [← HsT.out] at hbn
          have Hbn := Lib.hid hbn
          have hB1 : bldTo n p B0 (S.take q) < 2 ^ n := bldTo_lt HB0.out _
          have HShs := Lib.hid (fun jj hj => HShp.out s jj hs0 hj)
          clear hbn hs hsm hV hrd'
          generalize bldTo n p B0 (S.take q) = B1 at *
          have HSt := Lib.hid (stpB_succ n p s B1)
          have HSl := Lib.hid (stpB_lt (p := p) (s := s) hB1)
          have HB1 := Lib.hid hB1
          have hd : (s : Int) / (p : Int) = ((s / p : Nat) : Int) := by simp
          obtain ⟨d, hdd⟩ : ∃ d, s / p = d := ⟨_, rfl⟩
          rw [hdd] at hd
          have hdl : d ≤ 24 := by rw [← hdd]; exact Nat.le_trans (Nat.div_le_self _ _) (by omega)
          have HD := Lib.hid hdd
          clear hB1 hdd
          go_wp2
          go_loopw [5, 36] (fun m i wx => ∃ jj : Nat, jj ≤ p ∧ i = .int .i64 jj ∧ m = .int .i64 (stpB n p s B1 jj : Nat) ∧ Below w3.heap.size w3 wx) (fun _ i _ => p - (intOf i).toNat)
          case atStart => exact ⟨0, Nat.zero_le _, rfl, rfl, HV.out⟩
          case round =>
            obtain ⟨jj, hjj, rfl, rfl, hX⟩ := hrel
            have HX := Lib.hid hX
            clear hX
            by_cases hjl2 : jj < p
            · obtain ⟨s1, s2⟩ := HShs.out jj hjl2
              have hsl := HSl.out jj
              have hst := HSt.out jj
              have hm1 : (jj : Int) * (d : Int) = ((jj * d : Nat) : Int) := by simp
              rw [HD.out] at s2
              have hu : shB n p s jj = jj * d * strip n p := by unfold shB; rw [HD.out]
              rw [hu] at s1 hst
              have hm2 : ((jj * d : Nat) : Int) * ((strip n p : Nat) : Int) = ((jj * d * strip n p : Nat) : Int) := by simp
              have hsn : strip n p ≤ n := (strip_all (p := p) (by omega : 1 ≤ n) h2 hp1 (by omega)).2.2
              have hsn2 : strip n p ≤ 24 := by omega
              obtain ⟨x1, hx1⟩ : ∃ x, jj * d = x := ⟨_, rfl⟩
              obtain ⟨R, hR⟩ : ∃ R, strip n p = R := ⟨_, rfl⟩
              have HWq := Lib.hid HWp.out
              rw [hx1] at hm1 hm2 s1 s2 hst
              rw [hR] at hm2 s1 hst hsn hsn2 HWq
              obtain ⟨x2, hx2⟩ : ∃ x, x1 * R = x := ⟨_, rfl⟩
              rw [hx2] at hm2 s1 hst
              have HMq := Lib.hid (HMv.out B1 x2 HB1.out (by omega))
              have hb2 : mvN n B1 x2 < 2 ^ n := mv_lt
              obtain ⟨y, hy⟩ : ∃ y, mvN n B1 x2 = y := ⟨_, rfl⟩
              obtain ⟨o, ho⟩ : ∃ o, stpB n p s B1 jj = o := ⟨_, rfl⟩
              rw [hy] at HMq hb2 hst
              rw [ho] at hsl hst ⊢
              have hor := or_nat o y (by omega) (by omega)
              have Hst := Lib.hid hst
              have Hor := Lib.hid hor
              clear hst hor hu hx1 hR hx2 hy ho
              go_wp2_with fail
              refine region_calm hmx (by kernel_rfl) ?_
              intro S hSn f hS1 hS2
              have hC1 := Lib.hid (calm_call0 (fun z => HWq.out (f z)))
              have hC2 := Lib.hid (calm_call hS1 hS2 (fun z => (HMq.out (f z)).mono (fun e w' h => ⟨h.1, by obtain ⟨m, hm⟩ := h.2; rw [hm]; exact below_drewN (Below.refl _ _) m⟩)))
              iterate 11 (go_big_quiet_step (exact hC1.out _))
              repeat (go_big_quiet_step (exact hC2.out _))
              refine wpQuiet_nil ?_
              rintro _ ⟨z, rfl⟩
              have hbs := hS1 z
              generalize f z = w5 at hbs
              clear hC1 hC2 hS1 hS2
              try dsimp only [Exit.then]
              go_wp2
              go_roundw
              case rel => exact ⟨jj + 1, by omega, by go_num, by rw [Hst.out, Hor.out], HX.out.trans (hbs.mono HX.out.size)⟩
              case measure => simp only [intOf]; omega
            · obtain rfl : jj = p := by omega
              rw [← Hbn.out]
              go_wp2
              go_roundw
              case rel => exact ⟨q + 1, by omega, by go_num, rfl, HX.out⟩
              case measure => simp only [intOf]; omega
        · obtain rfl : q = S.length := by omega
          rw [List.take_of_length_le (Nat.le_refl _), ← Hfs.out]
          have HR4 := Lib.hid (HPs3.out.later hV)
          have HB4 := Lib.hid (below_next HB3.out hV)
          clear hV hrd'
          go_wp2
          go_roundw
          case rel => exact ⟨j + 1, by omega, by go_num, rfl, HR4.out, HB4.out⟩
          case measure => simp only [intOf]; omega
    · have hjL : (primesL n).take j = primesL n := List.take_of_length_le (by omega)
      rw [hjL, ← HBn.out]
      have HB := Lib.hid hB
      clear hB hjL
      go_wp2
      go_ret
      exact ⟨rfl, HB.out⟩
end Go.Proofs.YtmcdelabcmnfiaaDoor

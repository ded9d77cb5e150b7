/-
  The closure that extends a leading, where a voice is left: its walk.
-/
import Derived.Test.YtkpiakoijkflmaaVoLdsMore
import Derived.Test.YtkpiakoijkflmaaVoLeadR
namespace Go.Proofs.Ytkpiakoijkflmaa
open Go.RowKit Go.Shelf
attribute [local go_sem] Oper.semAt_some
set_option maxRecDepth 100000

set_option maxHeartbeats 4000000 in
theorem extend_more (n : Nat) (us bs L : List Nat) (lB aB yB bB nB rB eB l b1 o1 c1 b2 o2 c2 B0 B1 N : Nat) (P : List Nat → Prop) (S K : Nat → Prop) (J Jx : List (List Nat × Value) → (Nat → Prop) → World → Prop)
    (hv : Vc n us bs) (hL : L.length = 64) (hG : Good n us.length us bs 0 L) (hc1 : us.length ≤ c1) (hc2 : us.length ≤ c2)
    (s1 : S nB) (s2 : S aB) (s3 : S bB) (s4 : S b1) (s5 : S b2) (k1 : K yB) (k2 : K eB) (k3 : K rB) (hS : ∀ k, S k → k < B0) (hK : ∀ k, K k → k < B1 ∧ k ≠ lB) (hB : B0 ≤ lB) (hlB : lB < B1) (hJ : SepO B0 J)
    (f : Nat) (ih : LeadsAt n us bs L lB aB yB bB nB rB eB l b1 o1 c1 b2 o2 c2 B1 N P S K J Jx f)
    (T : Nat) (cur : List Nat) (pre : List (List Nat × Value)) (Z : Nat → Prop) (W : World) (hT : T < 2 ^ us.length) (hp : pcN T = cur.length) (hf : cur.length + (f + 1) = us.length) (hN : pre.length + (lds n bs (us.drop cur.length) T cur).length ≤ N ∧ ∀ m ∈ lds n bs (us.drop cur.length) T cur, P m) (hBW : B1 ≤ W.heap.size)
    (hbx : LBox n us bs L lB aB yB bB nB rB eB l b1 o1 c1 b2 o2 c2 W) (hKZ : ∀ k, K k → Z k) (hZl : Z lB) (hZ : ∀ k, Z k → k < W.heap.size) (hld : LeadAt W Z lB B1 cur) (hj : J pre Z W) :
    Calls Try.prog 94 #[.int .i64 T, .pointer (some ⟨lB, 0, none⟩), .pointer (some ⟨aB, 0, none⟩), .pointer (some ⟨yB, 0, none⟩), .pointer (some ⟨bB, 0, none⟩), .pointer (some ⟨nB, 0, none⟩), .pointer (some ⟨rB, 0, none⟩), .pointer (some ⟨eB, 0, none⟩)] W fun e W' =>
      KeepsBut l W W' ∧ KeptOn K W W' ∧ KeptOn S W W' ∧ LEnds J Jx pre Z lB B1 cur W (lds n bs (us.drop cur.length) T cur) e W' := by
  have l6 := hv.l6
  have hn := hv.hi
  have hlen := hv.len
  obtain ⟨i0, hi, hz0, hz1, hz2⟩ := info_parts info_intV
  obtain ⟨i, hci⟩ : ∃ i, cur.length = i := ⟨_, rfl⟩
  have hil : i < us.length := by omega
  have hdr := costT_drop hil
  obtain ⟨x, hx⟩ : ∃ x, us[i]?.getD 0 = x := ⟨_, rfl⟩
  have hxn : x < n := by rw [← hx]; exact getD_lt hv.la hv.pos i
  rw [hci, hdr, hx] at hN ⊢
  have HPre := Lib.hid (fun j (h : j ≤ bs.length) => ldsTo_all (n := n) (bs := bs) (x := x) (us := us.drop (i + 1)) (T := T) (cur := cur) h)
  have HAll := Lib.hid (show lds n bs (x :: us.drop (i + 1)) T cur = ldsTo n bs x (us.drop (i + 1)) T cur us.length by rw [lds_cons, hlen])
  have HSu := Lib.hid (fun j => ldsTo_succ n bs x (us.drop (i + 1)) T cur j)
  have hM0 : MidL l lB B1 S K Z J pre cur W (ldsTo n bs x (us.drop (i + 1)) T cur 0) W := ⟨Z, [], ⟨fun _ h => h, hZ, fun _ h => Or.inl h⟩, ⟨KeepsBut.refl _ _, KeptOn.refl _ _, KeptOn.refl _ _⟩, rfl, by rw [List.append_nil]; exact hj, hld⟩
  have HM0 := Lib.hid hM0
  have HBX := Lib.hid hbx
  have HV := Lib.hid hv
  have HGG := Lib.hid hG
  have HIH := Lib.hid ih
  have HNN := Lib.hid hN
  have HZZ := Lib.hid hZ
  have HLT := Lib.hid (show L[T]?.getD 0 = costT n bs (x :: us.drop (i + 1)) T by rw [hG T (Nat.zero_le _) hT, hp, hci, hdr, hx])
  have HXX := Lib.hid hx
  have HY := Lib.hid (fun j => getD_lt hv.lb hv.pos j)
  have HD := Lib.hid (fun y hy => distance_any n x y hn hxn hy)
  have HCL := Lib.hid (fun us' T' => costT_le hv.pos bs us' T')
  obtain ⟨v0, hb0, hr0, _⟩ := hld
  have q1 := hb0.cell
  obtain ⟨ao0, ca0, rfl⟩ := own_form hr0
  rw [hci] at q1
  have q2 := hbx.a
  have q3 := hbx.b
  obtain ⟨m, hm⟩ : ∃ m, us.length = m := ⟨_, rfl⟩
  have hbm : bs.length = m := by omega
  have HMM := Lib.hid hm
  have HBM := Lib.hid hbm
  have HCI := Lib.hid hci
  have HTT := Lib.hid hT
  have HPP := Lib.hid hp
  have hN64 : 2 ^ m ≤ 2 ^ 6 := Nat.pow_le_pow_right (by omega) (by omega)
  rw [hm] at hT q2 q3 hil hc1 hc2 l6
  have hT64 : T < 64 := by omega
  have him : ((i : Int) == (m : Int)) = false := by rw [beq_eq_false_iff_ne]; omega
  have hTl : T < 2 ^ 6 := by omega
  have HFU := Lib.hid (show cur.length + (f + 1) = us.length from hf)
  clear hM0 hbx hv hG ih hN hZ hx hb0 hr0 hm hbm hci hp hlen hj hf hdr hT
  go_enter Try.func94, Try.ntmps94
  go_wp2
  go_loopw [26] (fun iv wr => ∃ j : Nat, j ≤ m ∧ iv = .int .i64 j ∧ MidL l lB B1 S K Z J pre cur W (ldsTo n bs x (us.drop (i + 1)) T cur j) wr) (fun iv _ => m - (intOf iv).toNat)
  case atStart => exact ⟨0, Nat.zero_le _, rfl, HM0.out⟩
  case round =>
    obtain ⟨j, hjm, rfl, hM⟩ := hrel
    have HM := Lib.hid hM
    obtain ⟨Z', add, z, ⟨kb, kk, ks⟩, hadd, hJa, hLd⟩ := hM
    have hbxr := HBX.out.kept ks kk s1 s2 s3 s4 s5 k1 k2 k3
    by_cases hlj : j < m
    · have cb := hbxr.cb j (by rw [HMM.out]; exact hlj)
      have cn := hbxr.n
      have ca := hbxr.a
      have cai := hbxr.ca i (by rw [HMM.out]; exact hil)
      rw [HXX.out] at cai
      rw [HMM.out] at ca
      have cT := hbxr.r T hT64
      have hy := HY.out j
      have hw2 := w64_pow (show j < 16 by omega)
      have he : 1 <<< j < 2 ^ 6 := by rw [Nat.one_shiftLeft]; exact Nat.pow_lt_pow_right (by omega) (by omega)
      have hor := or_nat T (1 <<< j) (by omega) (by omega)
      have HSj := Lib.hid (HSu.out j)
      by_cases hbit : T.testBit j = true
      · rw [or_same hbit] at hor
        have hM2 : MidL l lB B1 S K Z J pre cur W (ldsTo n bs x (us.drop (i + 1)) T cur (j + 1)) wr := by rw [HSj.out, if_pos hbit]; exact HM.out
        have HM2 := Lib.hid hM2
        have qq : ((T : Int) == (T : Int)) = true := by rw [beq_iff_eq]
        generalize (1 <<< j : Nat) = e at *
        generalize bs[j]?.getD 0 = y at *
        clear hM2 hbit z kb kk ks hadd hJa hLd hbxr
        go_wp2
        go_quiet (fail)
        go_wp2
        go_roundw
        case rel => exact ⟨j + 1, by omega, by go_num, HM2.out.drewN hJ _⟩
        case measure => simp only [intOf]; omega
      · have hbit' : T.testBit j = false := by simpa using hbit
        have hgt := or_gt hbit'
        have hnx : T ||| 1 <<< j < 2 ^ us.length := Nat.or_lt_two_pow HTT.out (by rw [Nat.one_shiftLeft, HMM.out]; exact Nat.pow_lt_pow_right (by omega) hlj)
        have hnx64 : T ||| 1 <<< j < 64 := by have := hnx; rw [HMM.out] at this; omega
        have hpc := pc_or (k := us.length) (by rw [HMM.out]; exact l6) HTT.out (by rw [HMM.out]; exact hlj) hbit'
        have cN := hbxr.r _ hnx64
        have hLn := HGG.out (T ||| 1 <<< j) (Nat.zero_le _) hnx
        rw [hpc, HPP.out, HCI.out] at hLn
        rw [hLn] at cN
        rw [HLT.out] at cT
        have q4 : (((T ||| 1 <<< j : Nat) : Int) == (T : Int)) = false := by rw [beq_eq_false_iff_ne]; omega
        have hdn := dsN_le HV.out.pos x (bs[j]?.getD 0)
        have hcn := HCL.out (us.drop (i + 1)) (T ||| 1 <<< j)
        have hc96 : costT n bs (us.drop (i + 1)) (T ||| 1 <<< j) ≤ 96 := by
          refine Nat.le_trans hcn (Nat.le_trans (Nat.mul_le_mul (show (us.drop (i + 1)).length ≤ 6 by rw [List.length_drop, HMM.out]; omega) hn) (by decide))
        have HDj := Lib.hid (HD.out (bs[j]?.getD 0) hy)
        have hPC : pcN (T ||| 1 <<< j) = i + 1 := by rw [hpc, HPP.out, HCI.out]
        by_cases hcost : dsN n x (bs[j]?.getD 0) + costT n bs (us.drop (i + 1)) (T ||| 1 <<< j) = costT n bs (x :: us.drop (i + 1)) T
        · have hAt : ldsAt n bs x (us.drop (i + 1)) T cur j = lds n bs (us.drop (i + 1)) (T ||| 1 <<< j) (cur ++ [j]) := by unfold ldsAt; rw [if_pos hcost]
          rw [if_neg hbit, hAt] at HSj
          have HPr := Lib.hid (HPre.out (j + 1) (by rw [HBM.out]; omega))
          rw [HSj.out] at HPr
          have q5 : (((dsN n x (bs[j]?.getD 0) : Nat) : Int) + ((costT n bs (us.drop (i + 1)) (T ||| 1 <<< j) : Nat) : Int) != ((costT n bs (x :: us.drop (i + 1)) T : Nat) : Int)) = false := by rw [bne_eq_false_iff_eq, ← hcost]; omega
          have HZ' := Lib.hid z
          have HKK := Lib.hid (And.intro kb (And.intro kk ks))
          have HA := Lib.hid hadd
          have HJ' := Lib.hid hJa
          have HL' := Lib.hid hLd
          have HBr := Lib.hid hbxr
          have HNX := Lib.hid hnx
          have HPC2 := Lib.hid hPC
          clear hbit hbit' hgt hnx hpc hLn hcn hAt z kb kk ks hadd hJa hLd hbxr hcost hPC
          generalize hnxx : (T ||| 1 <<< j : Nat) = nx at *
          generalize costT n bs (us.drop (i + 1)) nx = c at *
          generalize costT n bs (x :: us.drop (i + 1)) T = ct at *
          generalize (1 <<< j : Nat) = e at *
          generalize bs[j]?.getD 0 = y at *
          generalize dsN n x y = d at *
          clear hnxx
          obtain ⟨v, hvb, hvr, hvz⟩ := HL'.out
          have HVB := Lib.hid hvb
          have HVR := Lib.hid hvr
          have HVZ := Lib.hid hvz
          have hwr : B1 ≤ wr.heap.size := Nat.le_trans hBW HKK.out.1.size
          clear hvb hvr hvz
          go_wp2
          go_quiet ((go_at_call 82; exact Calls.quiet_of_same ((HDj.out _).mono fun e w' h => ⟨h.1, h.2.symm⟩)))
          have HB5 := Lib.hid (HBr.out.drewN nq)
          have HJ5 := Lib.hid (hJ.drewN HJ'.out nq)
          have HVB5 := Lib.hid (show Boxed (wr.drewN nq) lB 22 v from HVB.out)
          have HVR5 := Lib.hid (show (wr.drewN nq).ownsRow B1 3 1 v cur.length (ivals (natI cur)) from HVR.out)
          have HK5 := Lib.hid (show KeepsBut l W (wr.drewN nq) ∧ KeptOn K W (wr.drewN nq) ∧ KeptOn S W (wr.drewN nq) from ⟨HKK.out.1.trans (KeepsBut.drewN wr nq), HKK.out.2.1.drewN nq, HKK.out.2.2.drewN nq⟩)
          have HZ5 := Lib.hid (show (∀ k, Z k → Z' k) ∧ (∀ k, Z' k → k < (wr.drewN nq).heap.size) ∧ (∀ k, Z' k → Z k ∨ W.heap.size ≤ k) from HZ'.out)
          have hwr5 : B1 ≤ (wr.drewN nq).heap.size := hwr
          generalize wr.drewN nq = W5 at HB5 HJ5 HVB5 HVR5 HK5 HZ5 hwr5 ⊢
          have hc5 := HVB5.out.cell
          clear hwr cb cn ca cai cN cT
          go_wp2_with (at_builtin; refine wpList_append_own_at _ rfl _ _ 22 rfl B1 3 i0 (.int .i64 0) 1 8 Try.underlying22 hi hz0 hz1 hz2 rfl (by decide) _ _ _ rfl (HVR5.out.alloc _) ⟨W5.heap.size, 0, none⟩ 1 1 [.int .i64 j] rfl rfl (cell_one_new _ _ _) (by simp [Value.oneCell']) (by rw [HCI.out]; unfold maxLen; omega) (by rw [HCI.out]; omega) (by simp; omega) ?_; intro v' w2 hown1 hgrow1 hnil1 hob1; obtain ⟨g', cap', rfl⟩ := ownsRow_succ hown1; obtain ⟨Z2, z2, kks, j2, ld2⟩ := MidL.push (l := l) (j := j) hJ hB hlB hwr5 hK hS hZl HZ5.out HK5.out.1.size HJ5.out HVB5.out HVR5.out HVZ.out hown1 hgrow1 hob1; obtain ⟨a1, _, _, _, a5⟩ := lead_app HVB5.out HVR5.out hlB hwr5 hown1 hgrow1; have hc1 := a1.cell; have hf1 := a1.frozen; have hb6 := HB5.out.kept kks.2.2 kks.2.1 s1 s2 s3 s4 s5 k1 k2 k3; have ce6 := hb6.e; have HB6 := Lib.hid hb6; have HZ2 := Lib.hid z2; have HK6 := Lib.hid kks; have HJ6 := Lib.hid j2; have HL6 := Lib.hid ld2; clear hown1 hgrow1 hnil1 hob1 a1 hb6 z2 kks j2 ld2)
          have hs6 : B1 ≤ (w2.setCell ⟨lB, 0, none⟩ (.slice (some ⟨g', 0, none⟩) (cur.length + 1) cap')).heap.size := Nat.le_trans hwr5 HK6.out.1.size
          generalize w2.setCell ⟨lB, 0, none⟩ (.slice (some ⟨g', 0, none⟩) (cur.length + 1) cap') = W6 at HB6 HZ2 HK6 HJ6 HL6 hs6 ⊢
          have hcl : (cur ++ [j]).length = i + 1 := by rw [List.length_append, List.length_singleton, HCI.out]
          have hal : add.length = (ldsTo n bs x (us.drop (i + 1)) T cur j).length := by rw [← HA.out, List.length_map]
          have hfit : (pre ++ add).length + (lds n bs (us.drop (i + 1)) nx (cur ++ [j])).length ≤ N ∧ ∀ m ∈ lds n bs (us.drop (i + 1)) nx (cur ++ [j]), P m := by
            obtain ⟨q, hq⟩ := HPr.out
            obtain ⟨h9, h10⟩ := HNN.out
            rw [hq] at h9 h10
            refine ⟨?_, fun m hm => h10 m (List.mem_append.2 (.inl (List.mem_append.2 (.inr hm))))⟩
            simp only [List.length_append] at h9 ⊢
            omega
          have hrec := HIH.out nx (cur ++ [j]) (pre ++ add) Z2 W6 HNX.out (by rw [HPC2.out, hcl]) (by rw [hcl]; have h1 := HCI.out; have h2 := HFU.out; omega) (by rw [hcl]; exact hfit) hs6 HB6.out (fun k hk => HZ2.out.1 k (hKZ k hk)) (HZ2.out.1 _ hZl) HZ2.out.2.1 HL6.out HJ6.out
          rw [hcl] at hrec
          have HREC := Lib.hid hrec
          clear hrec hal hfit
          go_wp2_with fail
          refine HREC.out.mono ?_
          rintro e W7 ⟨kb7, kk7, ks7, Z7, add7, z7, (⟨rfl, hmap, j7, ld7⟩ | ⟨rfl, ⟨q7, hq7⟩, j7⟩)⟩
          · obtain ⟨g, cap, hb7, hcap, ld8⟩ := ld7.pop hlB
            rw [HCI.out] at hb7 hcap ld8
            have hc7 := hb7.cell
            have hf7 := hb7.frozen
            have hcut := run_upto (some ⟨g, 0, none⟩) (i + 1) cap (i : Int) (by omega) (by omega)
            have hsl : sliced (some ⟨g, 0, none⟩) 0 (i : Int).toNat cap 1 = .slice (some ⟨g, 0, none⟩) i cap := by
              have : ¬ cap = 0 := by omega
              simp [sliced, this, Addr.add]
            rw [hsl] at hcut
            have hlz : Z7 lB := z7.1 _ (HZ2.out.1 _ hZl)
            have hnK : ¬ K lB := fun h => (hK _ h).2 rfl
            have hnS : ¬ S lB := fun h => by have := hS _ h; omega
            have HM8 := Lib.hid (show MidL l lB B1 S K Z J pre cur W (ldsTo n bs x (us.drop (i + 1)) T cur (j + 1)) (W7.setCell ⟨lB, 0, none⟩ (.slice (some ⟨g, 0, none⟩) i cap)) from
              ⟨Z7, add ++ add7, ⟨fun k hk => z7.1 k (HZ2.out.1 k hk), fun k hk => by have := z7.2.1 k hk; simpa [World.setCell] using this, fun k hk => by
                rcases z7.2.2 k hk with h | h
                · exact HZ2.out.2.2 k h
                · exact Or.inr (Nat.le_trans HK5.out.1.size (Nat.le_trans HK6.out.1.size h))⟩,
                ⟨((HK5.out.1.trans HK6.out.1).trans kb7).trans (KeepsBut.setCell _ _ _), ((HK5.out.2.1.trans HK6.out.2.1).trans kk7).setCell (p := ⟨lB, 0, none⟩) hnK _, ((HK5.out.2.2.trans HK6.out.2.2).trans ks7).setCell (p := ⟨lB, 0, none⟩) hnS _⟩,
                by rw [List.map_append, HA.out, hmap, HSj.out], by rw [← List.append_assoc]; exact hJ.priv _ _ _ lB 0 _ j7 hlz, ld8⟩)
            clear hb7 ld7 ld8 j7 kb7 kk7 ks7 z7 hmap hsl
            go_wp2
            go_roundw
            case rel => exact ⟨j + 1, by omega, by go_num, HM8.out⟩
            case measure => simp only [intOf]; omega
          · have HF := Lib.hid (show KeepsBut l W W7 ∧ KeptOn K W W7 ∧ KeptOn S W W7 ∧ LEnds J Jx pre Z lB B1 cur W (lds n bs (x :: us.drop (i + 1)) T cur) (.returned (.bool false)) W7 from
              ⟨(HK5.out.1.trans HK6.out.1).trans kb7, (HK5.out.2.1.trans HK6.out.2.1).trans kk7, (HK5.out.2.2.trans HK6.out.2.2).trans ks7,
                Z7, add ++ add7, ⟨fun k hk => z7.1 k (HZ2.out.1 k hk), z7.2.1, fun k hk => by
                rcases z7.2.2 k hk with h | h
                · exact HZ2.out.2.2 k h
                · exact Or.inr (Nat.le_trans HK5.out.1.size (Nat.le_trans HK6.out.1.size h))⟩,
                .inr ⟨rfl, by
                  obtain ⟨q, hq⟩ := HPr.out
                  exact ⟨q7 ++ q, by rw [hq, hq7, List.map_append, HA.out]; simp only [List.append_assoc]⟩, by rw [← List.append_assoc]; exact j7⟩⟩)
            clear j7 kb7 kk7 ks7 z7 hq7
            go_wp2
            go_ret
            exact HF.out
        · have hAt : ldsAt n bs x (us.drop (i + 1)) T cur j = [] := by unfold ldsAt; rw [if_neg hcost]
          have hM2 : MidL l lB B1 S K Z J pre cur W (ldsTo n bs x (us.drop (i + 1)) T cur (j + 1)) wr := by rw [HSj.out, if_neg hbit, hAt, List.append_nil]; exact HM.out
          have HM2 := Lib.hid hM2
          have q5 : (((dsN n x (bs[j]?.getD 0) : Nat) : Int) + ((costT n bs (us.drop (i + 1)) (T ||| 1 <<< j) : Nat) : Int) != ((costT n bs (x :: us.drop (i + 1)) T : Nat) : Int)) = true := by rw [bne_iff_ne]; omega
          clear hM2 hbit hbit' hgt hnx hpc hLn hcn hAt z kb kk ks hadd hJa hLd hbxr hcost
          generalize (T ||| 1 <<< j : Nat) = nx at *
          generalize costT n bs (us.drop (i + 1)) nx = c at *
          generalize costT n bs (x :: us.drop (i + 1)) T = ct at *
          generalize (1 <<< j : Nat) = e at *
          generalize bs[j]?.getD 0 = y at *
          generalize dsN n x y = d at *
          go_wp2
          go_quiet ((go_at_call 82; exact Calls.quiet_of_same ((HDj.out _).mono fun e w' h => ⟨h.1, h.2.symm⟩)))
          go_wp2
          go_roundw
          case rel => exact ⟨j + 1, by omega, by go_num, HM2.out.drewN hJ _⟩
          case measure => simp only [intOf]; omega
    · obtain rfl : j = m := by omega
      obtain ⟨k1', k2', k3'⟩ := (⟨kb, kk, ks⟩ : KeepsBut l W wr ∧ KeptOn K W wr ∧ KeptOn S W wr)
      have HF := Lib.hid (show LEnds J Jx pre Z lB B1 cur W (lds n bs (x :: us.drop (i + 1)) T cur) (.returned (.bool true)) wr from ⟨Z', add, z, .inl ⟨rfl, by rw [hadd, HAll.out, HMM.out], hJa, hLd⟩⟩)
      clear z hadd hJa hLd hbxr
      go_wp2
      go_ret
      exact ⟨k1', k2', k3', HF.out⟩
end Go.Proofs.Ytkpiakoijkflmaa

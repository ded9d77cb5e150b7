/-
  The closure that extends a leading, where a voice is left: its walk.
-/
import Derived.Test.YtkpiakoijkflmaaVoLds
import Derived.Test.YtkpiakoijkflmaaVoLeadR
import Derived.Stop.RegionWithIn
import Derived.Test.YtkpiakoijkflmaaHeldR
import Derived.Test.YtkpiakoijkflmaaRoSort
import Derived.Test.YtkpiakoijkflmaaVoCost
import Derived.Laws.EntriesVeiled
namespace Go.Proofs.Ytkpiakoijkflmaa

section
open Go.RowKit Go.Shelf
attribute [local go_sem] Oper.semAt_some
set_option maxRecDepth 100000

set_option maxHeartbeats 4000000 in
theorem extend_more (n : Nat) (us bs L : List Nat) (lB aB yB bB nB rB eB l b1 o1 c1 b2 o2 c2 B0 B1 N : Nat) (P : List Nat → Prop) (S K : Nat → Prop) (J Jx : List (List Nat × Value) → (Nat → Prop) → World → Prop)
    (hv : Vc n us bs) (hL : L.length = 64) (hG : Good n us.length us bs 0 L) (hc1 : us.length ≤ c1) (hc2 : us.length ≤ c2)
    (s1 : S nB) (s2 : S aB) (s3 : S bB) (s4 : S b1) (s5 : S b2) (k1 : K yB) (k2 : K eB) (k3 : K rB) (hS : ∀ k, S k → k < B0) (hK : ∀ k, K k → k < B1 ∧ k ≠ lB) (hB : B0 ≤ lB) (hlB : lB < B1) (hJ : SepO B0 J)
    (f : Nat) (ih : LeadsAt n us bs L lB aB yB bB nB rB eB l b1 o1 c1 b2 o2 c2 B1 N P S K J Jx f)
    (T : Nat) (cur : List Nat) (pre : List (List Nat × Value)) (Z : Nat → Prop) (W : World) (hT : T < 2 ^ us.length) (hp : pcN T = cur.length) (hf : cur.length + (f + 1) = us.length) (hN : pre.length + (lds n bs (us.drop cur.length) T cur).length ≤ N ∧ ∀ m ∈ lds n bs (us.drop cur.length) T cur, P m) (hBW : B1 ≤ W.heap.size)
    (hbx : LBox n us bs L lB aB yB bB nB rB eB l b1 o1 c1 b2 o2 c2 W) (hKZ : ∀ k, K k → Z k) (hZl : Z lB) (hZ : ∀ k, Z k → k < W.heap.size) (hld : LeadAt W Z lB B1 cur) (hj : J pre Z W) :
    Calls Try.prog 94 #[.int .i64 T, .pointer (some ⟨lB, 0, none⟩), .pointer (some ⟨aB, 0, none⟩), .pointer (some ⟨yB, 0, none⟩), .pointer (some ⟨bB, 0, none⟩), .pointer (some ⟨nB, 0, none⟩), .pointer (some ⟨rB, 0, none⟩), .pointer (some ⟨eB, 0, none⟩)] W fun e W' =>
      KeepsBut l W W' ∧ KeptOn K W W' ∧ KeptOn S W W' ∧ LEnds J Jx pre Z lB B1 cur W (lds n bs (us.drop cur.length) T cur) e W' := by
  have l6 := hv.l6
  have hn := hv.hi
  have hlen := hv.len
  obtain ⟨i0, hi, hz0, hz1, hz2⟩ := info_parts info_intV
  obtain ⟨i, hci⟩ : ∃ i, cur.length = i := ⟨_, rfl⟩
  have hil : i < us.length := by omega
  have hdr := costT_drop hil
  obtain ⟨x, hx⟩ : ∃ x, us[i]?.getD 0 = x := ⟨_, rfl⟩
  have hxn : x < n := by rw [← hx]; exact getD_lt hv.la hv.pos i
  rw [hci, hdr, hx] at hN ⊢
  have HPre := Lib.hid (fun j (h : j ≤ bs.length) => ldsTo_all (n := n) (bs := bs) (x := x) (us := us.drop (i + 1)) (T := T) (cur := cur) h)
  have HAll := Lib.hid (show lds n bs (x :: us.drop (i + 1)) T cur = ldsTo n bs x (us.drop (i + 1)) T cur us.length by rw [lds_cons, hlen])
  have HSu := Lib.hid (fun j => ldsTo_succ n bs x (us.drop (i + 1)) T cur j)
  have hM0 : MidL l lB B1 S K Z J pre cur W (ldsTo n bs x (us.drop (i + 1)) T cur 0) W := ⟨Z, [], ⟨fun _ h => h, hZ, fun _ h => Or.inl h⟩, ⟨KeepsBut.refl _ _, KeptOn.refl _ _, KeptOn.refl _ _⟩, rfl, by rw [List.append_nil]; exact hj, hld⟩
  have HM0 := Lib.hid hM0
  have HBX := Lib.hid hbx
  have HV := Lib.hid hv
  have HGG := Lib.hid hG
  have HIH := Lib.hid ih
  have HNN := Lib.hid hN
  have HZZ := Lib.hid hZ
  have HLT := Lib.hid (show L[T]?.getD 0 = costT n bs (x :: us.drop (i + 1)) T by rw [hG T (Nat.zero_le _) hT, hp, hci, hdr, hx])
  have HXX := Lib.hid hx
  have HY := Lib.hid (fun j => getD_lt hv.lb hv.pos j)
  have HD := Lib.hid (fun y hy => distance_any n x y hn hxn hy)
  have HCL := Lib.hid (fun us' T' => costT_le hv.pos bs us' T')
  obtain ⟨v0, hb0, hr0, _⟩ := hld
  have q1 := hb0.cell
  obtain ⟨ao0, ca0, rfl⟩ := own_form hr0
  rw [hci] at q1
  have q2 := hbx.a
  have q3 := hbx.b
  obtain ⟨m, hm⟩ : ∃ m, us.length = m := ⟨_, rfl⟩
  have hbm : bs.length = m := by omega
  have HMM := Lib.hid hm
  have HBM := Lib.hid hbm
  have HCI := Lib.hid hci
  have HTT := Lib.hid hT
  have HPP := Lib.hid hp
  have hN64 : 2 ^ m ≤ 2 ^ 6 := Nat.pow_le_pow_right (by omega) (by omega)
  rw [hm] at hT q2 q3 hil hc1 hc2 l6
  have hT64 : T < 64 := by omega
  have him : ((i : Int) == (m : Int)) = false := by rw [beq_eq_false_iff_ne]; omega
  have hTl : T < 2 ^ 6 := by omega
  have HFU := Lib.hid (show cur.length + (f + 1) = us.length from hf)
  clear hM0 hbx hv hG ih hN hZ hx hb0 hr0 hm hbm hci hp hlen hj hf hdr hT
  go_enter Try.func94, Try.ntmps94
  go_wp2
  go_loopw [26] (fun iv wr => ∃ j : Nat, j ≤ m ∧ iv = .int .i64 j ∧ MidL l lB B1 S K Z J pre cur W (ldsTo n bs x (us.drop (i + 1)) T cur j) wr) (fun iv _ => m - (intOf iv).toNat)
  case atStart => exact ⟨0, Nat.zero_le _, rfl, HM0.out⟩
  case round =>
    obtain ⟨j, hjm, rfl, hM⟩ := hrel
    have HM := Lib.hid hM
    obtain ⟨Z', add, z, ⟨kb, kk, ks⟩, hadd, hJa, hLd⟩ := hM
    have hbxr := HBX.out.kept ks kk s1 s2 s3 s4 s5 k1 k2 k3
    by_cases hlj : j < m
    · have cb := hbxr.cb j (by rw [HMM.out]; exact hlj)
      have cn := hbxr.n
      have ca := hbxr.a
      have cai := hbxr.ca i (by rw [HMM.out]; exact hil)
      rw [HXX.out] at cai
      rw [HMM.out] at ca
      have cT := hbxr.r T hT64
      have hy := HY.out j
      have hw2 := w64_pow (show j < 16 by omega)
      have he : 1 <<< j < 2 ^ 6 := by rw [Nat.one_shiftLeft]; exact Nat.pow_lt_pow_right (by omega) (by omega)
      have hor := or_nat T (1 <<< j) (by omega) (by omega)
      have HSj := Lib.hid (HSu.out j)
      by_cases hbit : T.testBit j = true
      · rw [or_same hbit] at hor
        have hM2 : MidL l lB B1 S K Z J pre cur W (ldsTo n bs x (us.drop (i + 1)) T cur (j + 1)) wr := by rw [HSj.out, if_pos hbit]; exact HM.out
        have HM2 := Lib.hid hM2
        have qq : ((T : Int) == (T : Int)) = true := by rw [beq_iff_eq]
        generalize (1 <<< j : Nat) = e at *
        generalize bs[j]?.getD 0 = y at *
        clear hM2 hbit z kb kk ks hadd hJa hLd hbxr
        go_wp2
        go_quiet (fail)
        go_wp2
        go_roundw
        case rel => exact ⟨j + 1, by omega, by go_num, HM2.out.drewN hJ _⟩
        case measure => simp only [intOf]; omega
      · have hbit' : T.testBit j = false := by simpa using hbit
        have hgt := or_gt hbit'
        have hnx : T ||| 1 <<< j < 2 ^ us.length := Nat.or_lt_two_pow HTT.out (by rw [Nat.one_shiftLeft, HMM.out]; exact Nat.pow_lt_pow_right (by omega) hlj)
        have hnx64 : T ||| 1 <<< j < 64 := by have := hnx; rw [HMM.out] at this; omega
        have hpc := pc_or (k := us.length) (by rw [HMM.out]; exact l6) HTT.out (by rw [HMM.out]; exact hlj) hbit'
        have cN := hbxr.r _ hnx64
        have hLn := HGG.out (T ||| 1 <<< j) (Nat.zero_le _) hnx
        rw [hpc, HPP.out, HCI.out] at hLn
        rw [hLn] at cN
        rw [HLT.out] at cT
        have q4 : (((T ||| 1 <<< j : Nat) : Int) == (T : Int)) = false := by rw [beq_eq_false_iff_ne]; omega
        have hdn := dsN_le HV.out.pos x (bs[j]?.getD 0)
        have hcn := HCL.out (us.drop (i + 1)) (T ||| 1 <<< j)
        have hc96 : costT n bs (us.drop (i + 1)) (T ||| 1 <<< j) ≤ 96 := by
          refine Nat.le_trans hcn (Nat.le_trans (Nat.mul_le_mul (show (us.drop (i + 1)).length ≤ 6 by rw [List.length_drop, HMM.out]; omega) hn) (by decide))
        have HDj := Lib.hid (HD.out (bs[j]?.getD 0) hy)
        have hPC : pcN (T ||| 1 <<< j) = i + 1 := by rw [hpc, HPP.out, HCI.out]
        by_cases hcost : dsN n x (bs[j]?.getD 0) + costT n bs (us.drop (i + 1)) (T ||| 1 <<< j) = costT n bs (x :: us.drop (i + 1)) T
        · have hAt : ldsAt n bs x (us.drop (i + 1)) T cur j = lds n bs (us.drop (i + 1)) (T ||| 1 <<< j) (cur ++ [j]) := by unfold ldsAt; rw [if_pos hcost]
          rw [if_neg hbit, hAt] at HSj
          have HPr := Lib.hid (HPre.out (j + 1) (by rw [HBM.out]; omega))
          rw [HSj.out] at HPr
          have q5 : (((dsN n x (bs[j]?.getD 0) : Nat) : Int) + ((costT n bs (us.drop (i + 1)) (T ||| 1 <<< j) : Nat) : Int) != ((costT n bs (x :: us.drop (i + 1)) T : Nat) : Int)) = false := by rw [bne_eq_false_iff_eq, ← hcost]; omega
          have HZ' := Lib.hid z
          have HKK := Lib.hid (And.intro kb (And.intro kk ks))
          have HA := Lib.hid hadd
          have HJ' := Lib.hid hJa
          have HL' := Lib.hid hLd
          have HBr := Lib.hid hbxr
          have HNX := Lib.hid hnx
          have HPC2 := Lib.hid hPC
          clear hbit hbit' hgt hnx hpc hLn hcn hAt z kb kk ks hadd hJa hLd hbxr hcost hPC
          generalize hnxx : (T ||| 1 <<< j : Nat) = nx at *
          generalize costT n bs (us.drop (i + 1)) nx = c at *
          generalize costT n bs (x :: us.drop (i + 1)) T = ct at *
          generalize (1 <<< j : Nat) = e at *
          generalize bs[j]?.getD 0 = y at *
          generalize dsN n x y = d at *
          clear hnxx
          obtain ⟨v, hvb, hvr, hvz⟩ := HL'.out
          have HVB := Lib.hid hvb
          have HVR := Lib.hid hvr
          have HVZ := Lib.hid hvz
          have hwr : B1 ≤ wr.heap.size := Nat.le_trans hBW HKK.out.1.size
          clear hvb hvr hvz
          go_wp2
          go_quiet ((go_at_call 82; exact Calls.quiet_of_same ((HDj.out _).mono fun e w' h => ⟨h.1, h.2.symm⟩)))
          have HB5 := Lib.hid (HBr.out.drewN nq)
          have HJ5 := Lib.hid (hJ.drewN HJ'.out nq)
          have HVB5 := Lib.hid (show Boxed (wr.drewN nq) lB 22 v from HVB.out)
          have HVR5 := Lib.hid (show (wr.drewN nq).ownsRow B1 3 1 v cur.length (ivals (natI cur)) from HVR.out)
          have HK5 := Lib.hid (show KeepsBut l W (wr.drewN nq) ∧ KeptOn K W (wr.drewN nq) ∧ KeptOn S W (wr.drewN nq) from ⟨HKK.out.1.trans (KeepsBut.drewN wr nq), HKK.out.2.1.drewN nq, HKK.out.2.2.drewN nq⟩)
          have HZ5 := Lib.hid (show (∀ k, Z k → Z' k) ∧ (∀ k, Z' k → k < (wr.drewN nq).heap.size) ∧ (∀ k, Z' k → Z k ∨ W.heap.size ≤ k) from HZ'.out)
          have hwr5 : B1 ≤ (wr.drewN nq).heap.size := hwr
          generalize wr.drewN nq = W5 at HB5 HJ5 HVB5 HVR5 HK5 HZ5 hwr5 ⊢
          have hc5 := HVB5.out.cell
          clear hwr cb cn ca cai cN cT
          go_wp2_with (at_builtin; refine wpList_append_own_at _ rfl _ _ 22 rfl B1 3 i0 (.int .i64 0) 1 8 Try.underlying22 hi hz0 hz1 hz2 rfl (by decide) _ _ _ rfl (HVR5.out.alloc _) ⟨W5.heap.size, 0, none⟩ 1 1 [.int .i64 j] rfl rfl (cell_one_new _ _ _) (by simp [Value.oneCell']) (by rw [HCI.out]; unfold maxLen; omega) (by rw [HCI.out]; omega) (by simp; omega) ?_; intro v' w2 hown1 hgrow1 hnil1 hob1; obtain ⟨g', cap', rfl⟩ := ownsRow_succ hown1; obtain ⟨Z2, z2, kks, j2, ld2⟩ := MidL.push (l := l) (j := j) hJ hB hlB hwr5 hK hS hZl HZ5.out HK5.out.1.size HJ5.out HVB5.out HVR5.out HVZ.out hown1 hgrow1 hob1; obtain ⟨a1, _, _, _, a5⟩ := lead_app HVB5.out HVR5.out hlB hwr5 hown1 hgrow1; have hc1 := a1.cell; have hf1 := a1.frozen; have hb6 := HB5.out.kept kks.2.2 kks.2.1 s1 s2 s3 s4 s5 k1 k2 k3; have ce6 := hb6.e; have HB6 := Lib.hid hb6; have HZ2 := Lib.hid z2; have HK6 := Lib.hid kks; have HJ6 := Lib.hid j2; have HL6 := Lib.hid ld2; clear hown1 hgrow1 hnil1 hob1 a1 hb6 z2 kks j2 ld2)
          have hs6 : B1 ≤ (w2.setCell ⟨lB, 0, none⟩ (.slice (some ⟨g', 0, none⟩) (cur.length + 1) cap')).heap.size := Nat.le_trans hwr5 HK6.out.1.size
          generalize w2.setCell ⟨lB, 0, none⟩ (.slice (some ⟨g', 0, none⟩) (cur.length + 1) cap') = W6 at HB6 HZ2 HK6 HJ6 HL6 hs6 ⊢
          have hcl : (cur ++ [j]).length = i + 1 := by rw [List.length_append, List.length_singleton, HCI.out]
          have hal : add.length = (ldsTo n bs x (us.drop (i + 1)) T cur j).length := by rw [← HA.out, List.length_map]
          have hfit : (pre ++ add).length + (lds n bs (us.drop (i + 1)) nx (cur ++ [j])).length ≤ N ∧ ∀ m ∈ lds n bs (us.drop (i + 1)) nx (cur ++ [j]), P m := by
            obtain ⟨q, hq⟩ := HPr.out
            obtain ⟨h9, h10⟩ := HNN.out
            rw [hq] at h9 h10
            refine ⟨?_, fun m hm => h10 m (List.mem_append.2 (.inl (List.mem_append.2 (.inr hm))))⟩
            simp only [List.length_append] at h9 ⊢
            omega
          have hrec := HIH.out nx (cur ++ [j]) (pre ++ add) Z2 W6 HNX.out (by rw [HPC2.out, hcl]) (by rw [hcl]; have h1 := HCI.out; have h2 := HFU.out; omega) (by rw [hcl]; exact hfit) hs6 HB6.out (fun k hk => HZ2.out.1 k (hKZ k hk)) (HZ2.out.1 _ hZl) HZ2.out.2.1 HL6.out HJ6.out
          rw [hcl] at hrec
          have HREC := Lib.hid hrec
          clear hrec hal hfit
          go_wp2_with fail
          refine HREC.out.mono ?_
          rintro e W7 ⟨kb7, kk7, ks7, Z7, add7, z7, (⟨rfl, hmap, j7, ld7⟩ | ⟨rfl, ⟨q7, hq7⟩, j7⟩)⟩
          · obtain ⟨g, cap, hb7, hcap, ld8⟩ := ld7.pop hlB
            rw [HCI.out] at hb7 hcap ld8
            have hc7 := hb7.cell
            have hf7 := hb7.frozen
            have hcut := run_upto (some ⟨g, 0, none⟩) (i + 1) cap (i : Int) (by omega) (by omega)
            have hsl : sliced (some ⟨g, 0, none⟩) 0 (i : Int).toNat cap 1 = .slice (some ⟨g, 0, none⟩) i cap := by
              have : ¬ cap = 0 := by omega
              simp [sliced, this, Addr.add]
            rw [hsl] at hcut
            have hlz : Z7 lB := z7.1 _ (HZ2.out.1 _ hZl)
            have hnK : ¬ K lB := fun h => (hK _ h).2 rfl
            have hnS : ¬ S lB := fun h => by have := hS _ h; omega
            have HM8 := Lib.hid (show MidL l lB B1 S K Z J pre cur W (ldsTo n bs x (us.drop (i + 1)) T cur (j + 1)) (W7.setCell ⟨lB, 0, none⟩ (.slice (some ⟨g, 0, none⟩) i cap)) from
              ⟨Z7, add ++ add7, ⟨fun k hk => z7.1 k (HZ2.out.1 k hk), fun k hk => by have := z7.2.1 k hk; simpa [World.setCell] using this, fun k hk => by
                rcases z7.2.2 k hk with h | h
                · exact HZ2.out.2.2 k h
                · exact Or.inr (Nat.le_trans HK5.out.1.size (Nat.le_trans HK6.out.1.size h))⟩,
                ⟨((HK5.out.1.trans HK6.out.1).trans kb7).trans (KeepsBut.setCell _ _ _), ((HK5.out.2.1.trans HK6.out.2.1).trans kk7).setCell (p := ⟨lB, 0, none⟩) hnK _, ((HK5.out.2.2.trans HK6.out.2.2).trans ks7).setCell (p := ⟨lB, 0, none⟩) hnS _⟩,
                by rw [List.map_append, HA.out, hmap, HSj.out], by rw [← List.append_assoc]; exact hJ.priv _ _ _ lB 0 _ j7 hlz, ld8⟩)
            clear hb7 ld7 ld8 j7 kb7 kk7 ks7 z7 hmap hsl
            go_wp2
            go_roundw
            case rel => exact ⟨j + 1, by omega, by go_num, HM8.out⟩
            case measure => simp only [intOf]; omega
          · have HF := Lib.hid (show KeepsBut l W W7 ∧ KeptOn K W W7 ∧ KeptOn S W W7 ∧ LEnds J Jx pre Z lB B1 cur W (lds n bs (x :: us.drop (i + 1)) T cur) (.returned (.bool false)) W7 from
              ⟨(HK5.out.1.trans HK6.out.1).trans kb7, (HK5.out.2.1.trans HK6.out.2.1).trans kk7, (HK5.out.2.2.trans HK6.out.2.2).trans ks7,
                Z7, add ++ add7, ⟨fun k hk => z7.1 k (HZ2.out.1 k hk), z7.2.1, fun k hk => by
                rcases z7.2.2 k hk with h | h
                · exact HZ2.out.2.2 k h
                · exact Or.inr (Nat.le_trans HK5.out.1.size (Nat.le_trans HK6.out.1.size h))⟩,
                .inr ⟨rfl, by
                  obtain ⟨q, hq⟩ := HPr.out
                  exact ⟨q7 ++ q, by rw [hq, hq7, List.map_append, HA.out]; simp only [List.append_assoc]⟩, by rw [← List.append_assoc]; exact j7⟩⟩)
            clear j7 kb7 kk7 ks7 z7 hq7
            go_wp2
            go_ret
            exact HF.out
        · have hAt : ldsAt n bs x (us.drop (i + 1)) T cur j = [] := by unfold ldsAt; rw [if_neg hcost]
          have hM2 : MidL l lB B1 S K Z J pre cur W (ldsTo n bs x (us.drop (i + 1)) T cur (j + 1)) wr := by rw [HSj.out, if_neg hbit, hAt, List.append_nil]; exact HM.out
          have HM2 := Lib.hid hM2
          have q5 : (((dsN n x (bs[j]?.getD 0) : Nat) : Int) + ((costT n bs (us.drop (i + 1)) (T ||| 1 <<< j) : Nat) : Int) != ((costT n bs (x :: us.drop (i + 1)) T : Nat) : Int)) = true := by rw [bne_iff_ne]; omega
          clear hM2 hbit hbit' hgt hnx hpc hLn hcn hAt z kb kk ks hadd hJa hLd hbxr hcost
          generalize (T ||| 1 <<< j : Nat) = nx at *
          generalize costT n bs (us.drop (i + 1)) nx = c at *
          generalize costT n bs (x :: us.drop (i + 1)) T = ct at *
          generalize (1 <<< j : Nat) = e at *
          generalize bs[j]?.getD 0 = y at *
          generalize dsN n x y = d at *
          go_wp2
          go_quiet ((go_at_call 82; exact Calls.quiet_of_same ((HDj.out _).mono fun e w' h => ⟨h.1, h.2.symm⟩)))
          go_wp2
          go_roundw
          case rel => exact ⟨j + 1, by omega, by go_num, HM2.out.drewN hJ _⟩
          case measure => simp only [intOf]; omega
    · obtain rfl : j = m := by omega
      obtain ⟨k1', k2', k3'⟩ := (⟨kb, kk, ks⟩ : KeepsBut l W wr ∧ KeptOn K W wr ∧ KeptOn S W wr)
      have HF := Lib.hid (show LEnds J Jx pre Z lB B1 cur W (lds n bs (x :: us.drop (i + 1)) T cur) (.returned (.bool true)) wr from ⟨Z', add, z, .inl ⟨rfl, by rw [hadd, HAll.out, HMM.out], hJa, hLd⟩⟩)
      clear z hadd hJa hLd hbxr
      go_wp2
      go_ret
      exact ⟨k1', k2', k3', HF.out⟩
end

section
/-
  The closure that extends a leading, where no voice is left: it hands a copy out.
-/
open Go.RowKit Go.Shelf
attribute [local go_sem] Oper.semAt_some
set_option maxRecDepth 100000

def encL (x : List Nat × Value) : Array Value := #[x.2]
/-- What is handed out is a row of its own, none of the iterator's blocks. -/
def VL (x : List Nat × Value) (Z : Nat → Prop) (W : World) : Prop := W.ownsRow 0 3 1 x.2 x.1.length (ivals (natI x.1)) ∧ ∀ g, x.2.ownBlock = some g → ¬ Z g
/-- And what holds of all leadings. -/
def VLP (P : List Nat → Prop) (x : List Nat × Value) (Z : Nat → Prop) (W : World) : Prop := VL x Z W ∧ P x.1
theorem VL.of_own {W : World} {B : Nat} {v : Value} {cur : List Nat} {Z : Nat → Prop} (h : W.ownsRow B 3 1 v (natI cur).length (ivals (natI cur))) (hz : ∀ k, Z k → k < B) : VL (cur, v) Z W := by
  rw [natI_length] at h
  refine ⟨?_, fun g e k => by have := (h.lt g e).1; have := hz g k; omega⟩
  obtain ⟨h0, h1 | ⟨g, cap, c, he, hg, h2⟩⟩ := h
  · exact ⟨h0, .inl h1⟩
  · exact ⟨h0, .inr ⟨g, cap, c, he, Nat.zero_le _, h2⟩⟩

set_option maxHeartbeats 4000000 in
theorem extend_leaf (n : Nat) (us bs L : List Nat) (lB aB yB bB nB rB eB l b1 o1 c1 b2 o2 c2 B0 B1 N : Nat) (P : List Nat → Prop) (S K : Nat → Prop) (J Jx : List (List Nat × Value) → (Nat → Prop) → World → Prop)
    (l1 : 1 ≤ us.length) (l6 : us.length ≤ 6) (k1 : K yB) (hS : ∀ k, S k → k < B0) (hB : B0 ≤ lB) (hlB : lB < B1) (hJ : SepO B0 J)
    (hY : YieldSepO Try.prog l encL (VLP P) (KeptOn S) J Jx N)
    (T : Nat) (cur : List Nat) (pre : List (List Nat × Value)) (Z : Nat → Prop) (W : World) (hf : cur.length = us.length) (hN : pre.length < N) (hPc : P cur) (hBW : B1 ≤ W.heap.size)
    (hbx : LBox n us bs L lB aB yB bB nB rB eB l b1 o1 c1 b2 o2 c2 W) (hKZ : ∀ k, K k → Z k) (hZl : Z lB) (hZ : ∀ k, Z k → k < W.heap.size) (hld : LeadAt W Z lB B1 cur) (hj : J pre Z W) :
    Calls Try.prog 94 #[.int .i64 T, .pointer (some ⟨lB, 0, none⟩), .pointer (some ⟨aB, 0, none⟩), .pointer (some ⟨yB, 0, none⟩), .pointer (some ⟨bB, 0, none⟩), .pointer (some ⟨nB, 0, none⟩), .pointer (some ⟨rB, 0, none⟩), .pointer (some ⟨eB, 0, none⟩)] W fun e W' =>
      KeepsBut l W W' ∧ KeptOn K W W' ∧ KeptOn S W W' ∧ LEnds J Jx pre Z lB B1 cur W [cur] e W' := by
  have HLd := Lib.hid hld
  obtain ⟨v0, hb0, hr0, hz0⟩ := hld
  obtain ⟨ao0, ca0, rfl⟩ := own_form hr0
  have hIv := IntsV.of_vals hr0
  have q1 := hb0.cell
  have q2 := hbx.a
  have q3 := hbx.y
  have HIv := Lib.hid hIv
  have HCl := Lib.hid (fun W' (hb : Below W.heap.size W W') => Clone_own (natI cur) _ W' (by rw [natI_length]; omega) (by rw [natI_length]; omega) (hIv.later hb))
  have HYd := Lib.hid hY
  have HJ0 := Lib.hid hj
  have HZ0 := Lib.hid hZ
  have HF := Lib.hid hf
  have hmx : Try.prog.follows .mixedOrders = true := by kernel_rfl
  have him : ((cur.length : Int) == (us.length : Int)) = true := by rw [beq_iff_eq, hf]
  have hSW : ∀ k, S k → k < W.heap.size := fun k hk => by have := hS k hk; omega
  have HSW := Lib.hid hSW
  have HFin := Lib.hid (fun (W1 W' : World) (b : Bool) (v' : Value) (hb : Below W.heap.size W W1) (h1 : KeepsBut l W1 W') (h2 : KeptOn Z W1 W') (h3 : KeptOn S W1 W') (h4 : (b = true ∧ J (pre ++ [(cur, v')]) Z W') ∨ (b = false ∧ Jx (pre ++ [(cur, v')]) Z W')) =>
    show KeepsBut l W W' ∧ KeptOn K W W' ∧ KeptOn S W W' ∧ LEnds J Jx pre Z lB B1 cur W [cur] (.returned (.bool b)) W' from by
      have kz : KeptOn Z W W' := ((KeptOn.refl _ _).below hb hZ).trans h2
      refine ⟨(KeepsBut.below hb (Nat.le_refl _)).trans h1, ⟨kz.size, fun k hk => kz.block k (hKZ k hk)⟩, ((KeptOn.refl _ _).below hb hSW).trans h3, Z, [(cur, v')], ⟨fun _ h => h, fun k hk => Nat.lt_of_lt_of_le (hZ k hk) kz.size, fun _ h => Or.inl h⟩, ?_⟩
      rcases h4 with ⟨rfl, h4⟩ | ⟨rfl, h4⟩
      · exact .inl ⟨rfl, rfl, h4, HLd.out.grow kz hZl⟩
      · exact .inr ⟨rfl, ⟨[], rfl⟩, h4⟩)
  clear hb0 hr0 hz0 hIv hY hj hZ hf hbx hSW
  refine (callsIn_wide (n := 9)).1 ?_
  refine callsIn_of_wp_marks Try.func94 rfl trivial ?_ rfl
  simp only [Try.ntmps94, List.size_toArray, List.length_cons, List.length_nil, Nat.reduceAdd, Nat.reduceSub, Array.replicate_succ, Array.replicate_zero, List.push_toArray, List.append_toArray, List.nil_append, List.cons_append]
  gi_wp2
  refine wpIn_mono ?_ OnlyN.imp
  gi_region_with (first
    | (refine ⟨trivial, ?_⟩; gi_at_call 42; refine (callsIn_wide.2 (HCl.out _ (Below.refl _ _).drew)).mono ?_; rintro e w1 ⟨v', rfl, iv, bv⟩; have B1 := Lib.hid (below_nx (Below.refl _ W).drew bv); have cy := cell_later B1.out q3; obtain ⟨fn, tmps, assign, body, hy, hR⟩ := HYd.out pre (cur, v') Z w1 (hJ.toSep.below HJ0.out B1.out) ⟨VL.of_own iv (fun k hk => HZ0.out k hk), hPc⟩ hN 8; dsimp only [encL] at hy; have HR := Lib.hid hR; clear hR iv bv)
    | (refine (roundIn_wide HR.out).mono ?_; rintro e W4 ⟨kb, kz, kp, hpost⟩; obtain ⟨b, rfl, h4⟩ : ∃ b, e = .returned (.bool b) ∧ ((b = true ∧ J (pre ++ [(cur, v')]) Z W4) ∨ (b = false ∧ Jx (pre ++ [(cur, v')]) Z W4)) := (by rcases hpost with ⟨rfl, h⟩ | ⟨rfl, h⟩; exact ⟨true, rfl, .inl ⟨rfl, h⟩⟩; exact ⟨false, rfl, .inr ⟨rfl, h⟩⟩); have HE := Lib.hid (HFin.out w1 W4 b v' B1.out kb kz kp h4); clear kb kz kp hpost h4))
  all_goals
    dsimp only [OnlyN]
    gi_wp2
    exact ⟨.bool b, by simp [results, Try.f94, go_sem], HE.out⟩
end

section
/-
  The iterator over the leadings with the least cost: its contract.
-/
open Go.RowKit Go.Shelf Go.ChangeShapes Go.WideShapes Go.ChangeAt
attribute [local go_sem] Oper.semAt_some
set_option maxRecDepth 100000

theorem extend_any (n : Nat) (us bs L : List Nat) (lB aB yB bB nB rB eB l b1 o1 c1 b2 o2 c2 B0 B1 N : Nat) (P : List Nat → Prop) (S K : Nat → Prop) (J Jx : List (List Nat × Value) → (Nat → Prop) → World → Prop)
    (hv : Vc n us bs) (hL : L.length = 64) (hG : Good n us.length us bs 0 L) (hc1 : us.length ≤ c1) (hc2 : us.length ≤ c2)
    (s1 : S nB) (s2 : S aB) (s3 : S bB) (s4 : S b1) (s5 : S b2) (k1 : K yB) (k2 : K eB) (k3 : K rB) (hS : ∀ k, S k → k < B0) (hK : ∀ k, K k → k < B1 ∧ k ≠ lB) (hB : B0 ≤ lB) (hlB : lB < B1) (hJ : SepO B0 J)
    (hY : YieldSepO Try.prog l encL (VLP P) (KeptOn S) J Jx N) (f : Nat) : LeadsAt n us bs L lB aB yB bB nB rB eB l b1 o1 c1 b2 o2 c2 B1 N P S K J Jx f := by
  induction f with
  | zero =>
    intro T cur pre Z W hT hp hf hN hBW hbx hKZ hZl hZ hld hj
    have e : us.drop cur.length = [] := List.drop_eq_nil_of_le (by omega)
    rw [e] at hN ⊢
    exact extend_leaf n us bs L lB aB yB bB nB rB eB l b1 o1 c1 b2 o2 c2 B0 B1 N P S K J Jx hv.l1 hv.l6 k1 hS hB hlB hJ hY T cur pre Z W (by omega) (by have h9 := hN.1; simp [lds] at h9; omega) (hN.2 cur (by simp [lds])) hBW hbx hKZ hZl hZ hld hj
  | succ f ih =>
    intro T cur pre Z W hT hp hf hN hBW hbx hKZ hZl hZ hld hj
    exact extend_more n us bs L lB aB yB bB nB rB eB l b1 o1 c1 b2 o2 c2 B0 B1 N P S K J Jx hv hL hG hc1 hc2 s1 s2 s3 s4 s5 k1 k2 k3 hS hK hB hlB hJ f ih T cur pre Z W hT hp hf hN hBW hbx hKZ hZl hZ hld hj

theorem cell_two_new (w : World) : ((w.alloc (.cells #[.slice none 0 0] 22)).alloc (.cells #[.nilFunc] 101)).cell? ⟨w.heap.size + 1, 0, none⟩ = some .nilFunc := by
  have := (Row.new (w.alloc (.cells #[.slice none 0 0] 22)) 101 [.nilFunc]).cell 0
  rw [World.size_alloc] at this
  exact this
theorem frozen_two_new (w : World) : ((w.alloc (.cells #[.slice none 0 0] 22)).alloc (.cells #[.nilFunc] 101)).frozen? ⟨w.heap.size + 1, 0, none⟩ = false := by
  have := (Row.new (w.alloc (.cells #[.slice none 0 0] 22)) 101 [.nilFunc]).frozen 0
  rw [World.size_alloc] at this
  exact this

/-- The table is stored as a whole, in a new block. -/
theorem least_stored {B0 : Nat} {J : List (List Nat × Value) → (Nat → Prop) → World → Prop} (hJ : SepO B0 J) {s : List (List Nat × Value)} {Z : Nat → Prop} (w2 : World) (old cs : Array Value) (t : TypeId) (hj : J s Z w2) :
    J s (fun k => (Z k ∨ k = w2.heap.size) ∨ (False ∧ k < ((w2.alloc (.cells old t)).setRow w2.heap.size cs).heap.size)) ((w2.alloc (.cells old t)).setRow w2.heap.size cs) ∧ Below w2.heap.size w2 ((w2.alloc (.cells old t)).setRow w2.heap.size cs) ∧
      ((w2.alloc (.cells old t)).setRow w2.heap.size cs).heap.size = w2.heap.size + 1 ∧ ((w2.alloc (.cells old t)).setRow w2.heap.size cs).heap[w2.heap.size]? = some (.cells cs t (0, 0)) := by
  have hg := World.alloc_heap_new w2 (.cells old t)
  have hss : ∀ (W : World) (g : Nat), (W.setRow g cs).heap.size = W.heap.size := fun W g => Array.size_modify ..
  have hs : ((w2.alloc (.cells old t)).setRow w2.heap.size cs).heap.size = w2.heap.size + 1 := (hss _ _).trans (World.size_alloc _ _)
  refine ⟨hJ.own _ _ _ _ (some w2.heap.size) (fun _ => False) (hJ.take _ _ _ _ hj) ⟨rfl, rfl, rfl, by rw [hs, World.size_alloc]; exact Nat.le_refl _, fun k _ hne => setRow_other _ _ _ _ (fun e => hne (by rw [e]))⟩ (fun r e => by cases e; exact Or.inr rfl) (fun _ h => h.elim),
    below_setRow ((Below.refl _ w2).alloc (Nat.le_refl _) _) (Nat.le_refl _) cs, hs, setRow_heap _ _ _ _ _ _ hg⟩

/-- All leadings with the least cost, in order. -/
def leads (n : Nat) (us bs : List Nat) : List (List Nat) := lds n bs us 0 []

set_option maxHeartbeats 400000 in
theorem leadings1_seq (n : Nat) (us bs : List Nat) (hv : Vc n us bs) (nB aB bB N : Nat) (S : Nat → Prop) (v u : Value) (w : World) (hN : (leads n us bs).length ≤ N) (h : IntsV w v (natI us)) (k : IntsV w u (natI bs))
    (hcn : w.cell? ⟨nB, 0, none⟩ = some (.int .i64 n)) (hca : w.cell? ⟨aB, 0, none⟩ = some v) (hcb : w.cell? ⟨bB, 0, none⟩ = some u)
    (s1 : S nB) (s2 : S aB) (s3 : S bB) (s4 : ∀ a m c, v = .slice (some a) m c → S a.block) (s5 : ∀ a m c, u = .slice (some a) m c → S a.block) (hS : ∀ k, S k → k < w.heap.size) :
    SeqSepO Try.prog 93 #[.pointer (some ⟨nB, 0, none⟩), .pointer (some ⟨aB, 0, none⟩), .pointer (some ⟨bB, 0, none⟩)] encL (VLP fun m => m ∈ leads n us bs) (KeptOn S) (fun xs => xs.map Prod.fst = leads n us bs) (fun p => ∃ q, leads n us bs = p.map Prod.fst ++ q) N w :=
  fun l J Jx W hb hl hJ hJx hY hj => by
  have l1 := hv.l1
  have l6 := hv.l6
  have hlen := hv.len
  obtain ⟨b1, o1, c1, rfl, hc1, ha⟩ := ints_nat h (by omega)
  obtain ⟨b2, o2, c2, rfl, hc2, hbs⟩ := ints_nat k (by omega)
  have t4 := s4 _ _ _ rfl
  have t5 := s5 _ _ _ rfl
  obtain ⟨H, hH⟩ : ∃ H, W.heap.size = H := ⟨_, rfl⟩
  have hSW : ∀ k, S k → k < H := fun k hk => by have := hS k hk; have := hb.size; omega
  have q1 := cell_later hb hcn
  have q2 := cell_later hb hca
  have q3 := cell_later hb hcb
  obtain ⟨W1, hW1⟩ : ∃ W1, W.alloc (.cells #[.func (.yield l) #[] #[]] 59) = W1 := ⟨_, rfl⟩
  have hB1 : Below W.heap.size W W1 := by rw [← hW1]; exact (Below.refl _ W).alloc (Nat.le_refl _) _
  have hj1 := hJ.take _ _ _ (.cells #[.func (.yield l) #[] #[]] 59) hj
  rw [hW1, hH] at hj1
  have hs1 : W1.heap.size = H + 1 := by rw [← hW1, World.size_alloc, hH]
  have u1 := cell_later hB1 q1
  have u2 := cell_later hB1 q2
  have u3 := cell_later hB1 q3
  have u4 : W1.cell? ⟨H, 0, none⟩ = some (.func (.yield l) #[] #[]) := by rw [← hW1, ← hH]; simp
  have hb1 := hb.trans (hB1.mono hb.size)
  have HLc := Lib.hid (leastCosts_any n us bs hv _ _ W1 (h.later hb1) (k.later hb1))
  have HJ1 := Lib.hid hj1
  have HH := Lib.hid hH
  have HV := Lib.hid hv
  have HB1 := Lib.hid hb1
  have HBW := Lib.hid hB1
  have HJ := Lib.hid hJ
  have HJx := Lib.hid hJx
  have HY := Lib.hid hY
  have HA := Lib.hid ha
  have HBs := Lib.hid hbs
  have HSW := Lib.hid hSW
  have HN := Lib.hid hN
  have HL := Lib.hid hl
  have HS1 := Lib.hid hs1

  have HLN := Lib.hid hlen
  clear hlen hj hj1 hv hb hJ hJx hY ha hbs hSW hN hl h k hcn hca hcb q1 q2 q3 hb1 hB1 hs1
  show Calls Try.prog 93 #[.func (.yield l) #[] #[], .pointer (some ⟨nB, 0, none⟩), .pointer (some ⟨aB, 0, none⟩), .pointer (some ⟨bB, 0, none⟩)] W _
  go_enter Try.func93, Try.ntmps93
  go_wp2_with fail
  refine HLc.out.mono ?_
  rintro e w2 ⟨L, rfl, hL, hG, bb⟩
  have HG := Lib.hid hG
  have HLL := Lib.hid hL
  have HL64 := Lib.hid hL
  have B2 := Lib.hid bb
  have x1 := cell_later bb u1
  have x2 := cell_later bb u2
  have x3 := cell_later bb u3
  have x4 := cell_later bb u4
  have HJ2 := Lib.hid (HJ.out.toSep.below HJ1.out bb)
  have hs2 := bb.size
  have hone := ints_one L
  have hsz : (ints L).toArray.size = 64 := by rw [ints_size, hL]
  have HSZ := Lib.hid hsz
  have HON := Lib.hid hone
  clear hL hG bb u1 u2 u3 u4 hsz hone
  obtain ⟨cs, hcs⟩ : ∃ cs, (ints L).toArray = cs := ⟨_, rfl⟩
  rw [hcs] at HSZ HON ⊢
  have HCS := Lib.hid hcs
  clear hcs
  have HST := Lib.hid (fun old => least_stored HJ.out w2 old cs 99 HJ2.out)
  go_wp2_with (refine wpList_store_row rfl 99 (.tmp 5) (.tmp 11) rfl w2.heap.size cs rfl rfl 99 (ints (List.replicate 64 0)).toArray (Row.new w2 _ _) (by rw [info_arr, HSZ.out]) (by rw [HSZ.out, ints_size]; rfl) HON.out ?_; have hst := HST.out (ints (List.replicate 64 0)).toArray; rw [zeros_lit] at hst; generalize World.setRow _ _ _ = w3 at hst ⊢; have HST3 := Lib.hid hst; have y4 := cell_later hst.2.1 x4; obtain ⟨lB, hlB⟩ : ∃ lB, w3.heap.size = lB := ⟨_, rfl⟩; clear hst HST)
  obtain ⟨j3, b3, hs3, hr3⟩ := HST3.out
  obtain ⟨F, hF⟩ : ∃ F : Value, F = .func (.func 94) #[] #[.pointer (some ⟨lB, 0, none⟩), .pointer (some ⟨aB, 0, none⟩), .pointer (some ⟨H, 0, none⟩), .pointer (some ⟨bB, 0, none⟩), .pointer (some ⟨nB, 0, none⟩), .pointer (some ⟨w2.heap.size, 0, none⟩), .pointer (some ⟨lB + 1, 0, none⟩)] := ⟨_, rfl⟩
  rw [← hF]
  have j4 := HJ.out.take _ _ _ (.cells #[.slice none 0 0] 22) j3
  have j5 := HJ.out.take _ _ _ (.cells #[F] 101) j4
  simp only [World.size_alloc, hlB] at j5
  have hx := Row.new w3 22 [.slice none 0 0]
  have hy := Row.new (w3.alloc (.cells #[.slice none 0 0] 22)) 101 [F]
  rw [World.size_alloc, hlB] at hy
  rw [hlB] at hx
  have hx' := hx.alloc (.cells #[F] 101)
  have b4 : Below w3.heap.size w3 ((w3.alloc (.cells #[.slice none 0 0] 22)).alloc (.cells #[F] 101)) := ((Below.refl _ w3).alloc (Nat.le_refl _) _).alloc (by simp) _
  have hs5 : ((w3.alloc (.cells #[.slice none 0 0] 22)).alloc (.cells #[F] 101)).heap.size = lB + 2 := by rw [World.size_alloc, World.size_alloc, hlB]
  obtain ⟨W5, hW5⟩ : ∃ W5, ((w3.alloc (.cells #[.slice none 0 0] 22)).alloc (.cells #[F] 101)) = W5 := ⟨_, rfl⟩
  have e5 : ((w3.alloc (.cells #[.slice none 0 0] 22)).alloc (.cells [F].toArray 101)) = W5 := hW5
  have e6 : ((w3.alloc (.cells [Value.slice none 0 0].toArray 22)).alloc (.cells #[F] 101)) = W5 := hW5
  rw [hW5] at j5 b4 hs5 ⊢
  rw [e5] at hy
  rw [e6] at hx'
  have bw5 : Below w.heap.size w W5 := ((HB1.out.trans (B2.out.mono HB1.out.size)).trans (b3.mono (Nat.le_trans HB1.out.size B2.out.size))).trans (b4.mono (Nat.le_trans (Nat.le_trans HB1.out.size B2.out.size) b3.size))
  have b24 : Below w2.heap.size w2 W5 := b3.trans (b4.mono b3.size)
  have hr5 : W5.heap[w2.heap.size]? = some (.cells cs 99 (0, 0)) := (b4.block _ (by omega)).trans hr3
  have hbx : LBox n us bs L lB aB H bB nB w2.heap.size (lB + 1) l b1 o1 c1 b2 o2 c2 W5 :=
    ⟨cell_later b24 x1, cell_later b24 x2, by rw [HLN.out]; exact cell_later b24 x3, cell_later b24 x4, by rw [← hF]; exact hy.cell 0, fun i hi => cell_later bw5 (HA.out i hi), fun i hi => cell_later bw5 (HBs.out i (by have := HLN.out; omega)),
      fun i hi => by
        have hrw : Row W5 w2.heap.size 99 (ints L) := by unfold Row; rw [hr5, HCS.out]
        rw [hrw.cell i, ints_at (by rw [HL64.out]; exact hi)]⟩
  have hld : LeadAt W5 (fun k => (((((fun _ => False) k ∨ k = H) ∨ k = w2.heap.size) ∨ (False ∧ k < lB)) ∨ k = lB) ∨ k = lB + 1) lB (lB + 2) [] := ⟨_, hx', World.ownsRow_nil _ _ _ _, fun g e => by cases e⟩
  have HE := Lib.hid (extend_any n us bs L lB aB H bB nB w2.heap.size (lB + 1) l b1 o1 c1 b2 o2 c2 W.heap.size (lB + 2) N (fun m => m ∈ leads n us bs) S (fun k => k = H ∨ k = w2.heap.size ∨ k = lB + 1) J Jx HV.out HL64.out HG.out hc1 (by rw [HLN.out]; exact hc2) s1 s2 s3 t4 t5 (.inl rfl) (.inr (.inr rfl)) (.inr (.inl rfl))
    (fun k hk => by rw [HH.out]; exact HSW.out k hk) (fun k hk => by have h1 := HS1.out; rcases hk with rfl | rfl | rfl <;> omega) (by have h1 := HS1.out; have h2 := HH.out; omega) (by omega) HJ.out HY.out us.length 0 [] [] _ W5 (Nat.two_pow_pos _) rfl (Nat.zero_add _) ⟨by rw [List.length_nil, Nat.zero_add]; exact HN.out, fun m hm => hm⟩ (by omega) hbx
    (fun k hk => by
      rcases hk with rfl | rfl | rfl
      · exact .inl (.inl (.inl (.inl (.inr rfl))))
      · exact .inl (.inl (.inl (.inr rfl)))
      · exact .inr rfl) (.inl (.inr rfl)) (fun k hk => by
      have h1 := HS1.out
      rcases hk with ((((hk | rfl) | rfl) | hk) | rfl) | rfl
      · exact hk.elim
      · omega
      · omega
      · exact hk.1.elim
      · omega
      · omega) hld j5)
  clear hld hbx hr5 b24 bw5 hx' hy hx b4 hs5 j3 j4 j5 b3 hs3 hr3
  refine HE.out.mono ?_
  rintro e W6 ⟨_, _, _, Z6, add, _, (⟨rfl, hm, hj6, _⟩ | ⟨rfl, ⟨q, hq⟩, hj6⟩)⟩
  · have HJ6 := Lib.hid hj6
    have HM := Lib.hid hm
    clear hj6 hm
    go_wp2
    go_end0
    exact ⟨⟨_, rfl⟩, .inl ⟨add, Z6, HM.out, HJ6.out⟩⟩
  · have HJ6 := Lib.hid hj6
    have HQ := Lib.hid hq
    clear hj6 hq
    go_wp2
    go_end0
    exact ⟨⟨_, rfl⟩, .inr ⟨add, Z6, ⟨q, HQ.out⟩, HJ6.out⟩⟩

theorem leadings_any (n : Int) (ao bo : Option Addr) (m k c d : Nat) (w : World) :
    Calls Try.prog 62 #[.int .i64 n, .slice ao m c, .slice bo k d] w fun e w' => e = .returned (.func (.func 93) #[] #[.pointer (some ⟨w.heap.size, 0, none⟩), .pointer (some ⟨w.heap.size + 1, 0, none⟩), .pointer (some ⟨w.heap.size + 1 + 1, 0, none⟩)]) ∧
      ((w.alloc (.cells #[.int .i64 n] 3)).alloc (.cells #[.slice ao m c] 22)).alloc (.cells #[.slice bo k d] 22) = w' := by
  go_enter Try.func62, Try.ntmps62
  go_wp2
  go_ret
  exact ⟨rfl, rfl⟩
end

end Go.Proofs.Ytkpiakoijkflmaa

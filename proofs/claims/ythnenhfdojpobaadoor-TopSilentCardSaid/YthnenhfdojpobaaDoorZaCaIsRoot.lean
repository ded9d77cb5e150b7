/-
  isRoot of package canon: the polynomial modulo x^s - 1.
-/
import Derived.Test.YthnenhfdojpobaaDoorZaLeafA
import Derived.Test.YthnenhfdojpobaaDoorZaCaRootFns
import Derived.Test.YthnenhfdojpobaaDoorCalmTail
import Derived.Test.YthnenhfdojpobaaDoorShelf
import Derived.WalkLawsBesides
namespace Go.Proofs.YthnenhfdojpobaaDoor.Za
open Go.RowKit Go.Shelf
attribute [local go_sem] Oper.semAt_some
set_option maxRecDepth 100000

theorem run_make_zeros (k : Nat) (hk : k ≤ 65536) (W : World) : (Instr.makeSlice 24 (.int .i64 (k : Int)) (.int .i64 (k : Int))).run Tryd.prog W = .ok (.slice (some ⟨W.heap.size, 0, none⟩) k k) (W.alloc (.cells (zrow (fun _ => 0) k).toArray 3)) := by
  have e : (zrow (fun _ => 0) k).toArray = madeCells #[Value.int .i64 0] k := by
    rw [madeCells_ints]
    congr 1
    unfold zrow ints
    apply List.ext_getElem?
    intro i
    by_cases hi : i < k
    · simp [hi]
    · rw [List.getElem?_eq_none (by simp; omega), List.getElem?_eq_none (by simp; omega)]
  rw [e]
  exact run_make_row' 24 3 (.int .i64 0) 8 Tryd.underlying24 (by kernel_rfl) rfl .i64 .i64 k (by omega) (by omega) W

/-- The length of a slice, wherever it lies. -/
theorem len_opq (P : Option Addr) (m cap : Nat) (W : World) : Sem.run Tryd.prog (Builtin.len_ #[24] 3 #[Value.slice P m cap]) W = Result.ok (.int .i64 m) W := by rfl

/-- The state of isRoot's loops. -/
structure RtS (w : World) (H D : Nat) (P : Option Addr) (L : List Nat) (s : Nat) (F : Nat → Int) (W : World) : Prop where
  row : Row W (H + 1) 3 (zrow F s)
  b0 : Boxed W H 3 (.int .i64 s)
  b2 : Boxed W (H + 1 + 1) 24 (.slice (some ⟨H + 1, 0, none⟩) s s)
  dd : W.heap[D]? = some (.deferred (some []))
  ps : ∀ i, i < L.length → ∃ g, P = some ⟨g, 0, none⟩ ∧ H + 4 ≤ g ∧ W.cell? ⟨g, i, none⟩ = some (.int .i64 ((L[i]?.getD 0 : Nat) : Int))
  bel : Below H w W
theorem RtS.later {w : World} {H D : Nat} {P : Option Addr} {L : List Nat} {s : Nat} {F : Nat → Int} {W W' : World} (h : RtS w H D P L s F W) (hb : Below W.heap.size W W') : RtS w H D P L s F W' :=
  ⟨h.row.later hb, (show Row W' H 3 [.int .i64 s] from (show Row W H 3 [.int .i64 s] from h.b0).later hb), (show Row W' (H + 1 + 1) 24 [.slice (some ⟨H + 1, 0, none⟩) s s] from (show Row W (H + 1 + 1) 24 [.slice (some ⟨H + 1, 0, none⟩) s s] from h.b2).later hb), (hb.block D (Array.getElem?_eq_some_iff.1 h.dd).1).trans h.dd,
   fun i hi => by obtain ⟨g, a, b, c⟩ := h.ps i hi; exact ⟨g, a, b, cell_later hb c⟩,
   h.bel.trans (hb.mono (Nat.le_of_lt (show Row W H 3 [.int .i64 s] from h.b0).lt))⟩
theorem RtS.put {w : World} {H D : Nat} {P : Option Addr} {L : List Nat} {s : Nat} {F G : Nat → Int} {W : World} (h : RtS w H D P L s F W) {j : Nat} {v : Int} (hj : j < s) (h1 : G j = v) (h2 : ∀ k, k < s → k ≠ j → G k = F k) :
    RtS w H D P L s G (W.setCell ⟨H + 1, j, none⟩ (.int .i64 v)) := by
  have hne : D ≠ H + 1 := by
    rintro rfl
    have e := h.row
    unfold Row at e
    rw [h.dd] at e
    cases e
  exact ⟨by rw [← zrow_set hj h1 h2]; exact h.row.set _ _, h.b0.other2 (by omega) _ _, h.b2.other2 (by omega) _ _, (Below.heap_setCell W ⟨H + 1, j, none⟩ _ D hne).trans h.dd,
    fun i hi => by obtain ⟨g, a, b, c⟩ := h.ps i hi; exact ⟨g, a, b, cell_set_other c (show g ≠ H + 1 by omega)⟩,
    h.bel.setCell (p := ⟨H + 1, j, none⟩) (show H ≤ H + 1 by omega) _⟩

set_option maxHeartbeats 2000000 in
theorem isRoot_any (a s : Nat) (ha : a < 2 ^ 24) (hs : 2 ≤ s) (hs2 : s ≤ 24) (w : World) (hT : Tab w) :
    Calls Tryd.prog 13 #[.int .i64 a, .int .i64 s] w fun e w' => e = .returned (.bool (rootB a s)) ∧ Below w.heap.size w w' := by
  have hTs := hT.size
  have hmk : ∀ W : World, (Instr.makeSlice 24 (.int .i64 (s : Int)) (.int .i64 (s : Int))).run Tryd.prog W = .ok (.slice (some ⟨W.heap.size, 0, none⟩) s s) (W.alloc (.cells (zrow (fun _ => 0) s).toArray 3)) := run_make_zeros s (by omega)
  refine (callsIn_wide (n := 9)).1 ?_
  refine callsIn_of_wp_marks Tryd.func13 rfl trivial ?_ rfl
  simp only [Tryd.ntmps13, List.size_toArray, List.length_cons, List.length_nil, Nat.reduceAdd, Nat.reduceSub, Array.replicate_succ, Array.replicate_zero, List.push_toArray, List.append_toArray, List.nil_append, List.cons_append]
  gi_wp2_with (refine ⟨trivial, ?_⟩; gi_at_call 24; refine (callsIn_wide.2 (beats_any _ _)).mono ?_; rintro e w' ⟨rfl, rfl⟩)
  obtain ⟨H, hH⟩ : ∃ H, w.heap.size = H := ⟨_, rfl⟩
  have hH' := Lib.hid hH
  have hHle : H ≤ w.heap.size := by omega
  have hHl1 : 1 < H := by omega
  obtain ⟨W0, hW0⟩ : ∃ W0, ((((w.alloc (Obj.cells #[Value.int IntKind.i64 ↑s] 3)).alloc (.cells (zrow (fun _ => 0) s).toArray 3)).alloc (Obj.cells #[.slice (some ⟨w.heap.size + 1, 0, none⟩) s s] 24)).alloc (Obj.cells #[Value.int IntKind.i64 ↑a] 3)) = W0 := ⟨_, rfl⟩
  have b0 : Boxed W0 H 3 (.int .i64 s) := by rw [← hW0, ← hH]; exact (((Boxed.new w _ _).alloc _).alloc _).alloc _
  have r1 : Row W0 (H + 1) 3 (zrow (fun _ => 0) s) := by
    rw [← hW0, ← hH]; have := Row.new (w.alloc (Obj.cells #[Value.int IntKind.i64 ↑s] 3)) 3 (zrow (fun _ => 0) s); rw [World.size_alloc] at this; exact (this.alloc _).alloc _
  have b2 : Boxed W0 (H + 1 + 1) 24 (.slice (some ⟨H + 1, 0, none⟩) s s) := by
    rw [← hW0, ← hH]; have := Boxed.new ((w.alloc (Obj.cells #[Value.int IntKind.i64 ↑s] 3)).alloc (.cells (zrow (fun _ => 0) s).toArray 3)) 24 (.slice (some ⟨w.heap.size + 1, 0, none⟩) s s); simp only [World.size_alloc] at this; exact this.alloc _
  have b3 : Boxed W0 (H + 1 + 1 + 1) 3 (.int .i64 a) := by
    rw [← hW0, ← hH]; have := Boxed.new (((w.alloc (Obj.cells #[Value.int IntKind.i64 ↑s] 3)).alloc (.cells (zrow (fun _ => 0) s).toArray 3)).alloc (Obj.cells #[.slice (some ⟨w.heap.size + 1, 0, none⟩) s s] 24)) 3 (.int .i64 a); simp only [World.size_alloc] at this; exact this
  have hB0 : Below H w W0 := by rw [← hW0, ← hH]; exact ((((Below.refl _ w).alloc (Nat.le_refl _) _).alloc (by simp) _).alloc (by simp; omega) _).alloc (by simp; omega) _
  have hS0 : H + 4 ≤ W0.heap.size ∧ W0.heap.size ≤ H + 4 := by rw [← hW0, ← hH]; simp
  have hT0 : Tab W0 := hT.below hB0 (by omega)
  have e0 : zrow (fun _ => 0) s = zrow (fun k => (cntMod [] s k : Int)) s := zrow_congr (fun k _ => by simp [cntMod])
  rw [e0] at r1
  rw [hW0, hH]
  clear hW0 hH hmk e0
  refine wpIn_rangeFunc_ownF rfl (by omega) (gf := 35) (lb := #[.pointer (some ⟨H + 1 + 1 + 1, 0, none⟩)]) rfl trivial (enters_of Tryd.func35 (by kernel_rfl) rfl)
    (tones1_stops (· < H) (9 - 1) 24 a (H + 1 + 1 + 1) (by omega) (by omega) ha W0 hT0 (show 1 < H by omega) b3.cell) keptOn_t (keptOn_b (fun k (hk : k < H) => by omega)) (Below.refl _ _) (fun _ => rfl)
    (fun pre W => ((Row W (H + 1) 3 (zrow (fun k => (cntMod (pre.map Fin.val) s k : Int)) s) ∧ Boxed W H 3 (.int .i64 s)) ∧ Boxed W (H + 1 + 1) 24 (.slice (some ⟨H + 1, 0, none⟩) s s)) ∧ Below H w W)
    (fun _ _ _ => False)
    (OwnFrom.and (OwnFrom.and (OwnFrom.and (Own.from (row_own _ _ _) _) (Own.from (boxed_own _ _ _) _)) (Own.from (boxed_own _ _ _) _)) (ownFrom_below hHle (by omega)))
    (fun _ _ _ _ _ hs _ _ => hs)
    ⟨⟨⟨r1, b0⟩, b2⟩, hB0⟩
    (fun x => { tmps := #[.int .i64 a, .int .i64 s, undef, .pointer (some ⟨H, 0, none⟩), .bool false, .pointer (some ⟨H + 1 + 1, 0, none⟩), .int .i64 x.val, undef, undef, undef, undef, undef, undef, .int .i64 s, .slice (some ⟨H + 1, 0, none⟩) s s, .int .i64 a, .func (.func 35) #[] #[.pointer (some ⟨H + 1 + 1 + 1, 0, none⟩)], .int .i64 x.val, undef, undef, undef, undef, undef, undef, undef, undef, undef, undef, undef, undef, undef, undef, undef, undef, undef, undef, undef, undef, undef, undef, undef, undef, undef, undef, undef, undef, undef, undef, undef, undef, undef, undef, undef, undef, undef, undef, undef, undef, undef, undef, undef, undef, undef, undef, undef, undef], defers := [] }) ?assign ?body ?done ?stop
  case assign =>
    intro l x W K hK
    gi_wp2
    exact hK
  case body =>
    rintro l pre x W ⟨⟨⟨r1, b0⟩, b2⟩, hB⟩ hlt
    have hd : 1 ≤ 9 - 1 - 1 := by omega
    have hxl := x.isLt
    have hmx : Tryd.prog.follows .mixedOrders = true := by kernel_rfl
    have hsz : ((s : Int) == 0) = false := by rw [beq_eq_false_iff_ne]; omega
    obtain ⟨y, hy, hy2, hyl⟩ : ∃ y : Nat, ((x.val : Int) % (s : Int) = (y : Int)) ∧ Hid (x.val % s = y) ∧ y < s := ⟨x.val % s, by simp, Lib.hid rfl, Nat.mod_lt _ (by omega)⟩
    have hle : cntMod (pre.map Fin.val) s y ≤ 64 := Nat.le_trans (cntMod_le _ _ _) (by simp; omega)
    have hat := Lib.hid ((r1.cell y).trans (zrow_at hyl))
    have hfr := Lib.hid (r1.frozen y)
    have hsn := Lib.hid (fun k => cntMod_snoc (pre.map Fin.val) x.val s k)
    have hR := Lib.hid (zrow_set (F := fun k => (cntMod (pre.map Fin.val) s k : Int)) (G := fun k => (cntMod ((pre ++ [x]).map Fin.val) s k : Int)) (j := y) (v := (cntMod (pre.map Fin.val) s y : Int) + 1) hyl
      (by rw [List.map_append, List.map_singleton, hsn.out, if_pos hy2.out]; simp) (fun k _ hne => by rw [List.map_append, List.map_singleton, hsn.out, if_neg (fun e => hne (e.symm.trans hy2.out))]))
    have hr1 := Lib.hid r1
    have hb0 := Lib.hid b0
    have hb2 := Lib.hid b2
    have HB := Lib.hid hB
    have c0 := b0.cell
    have c2 := b2.cell
    have hcl := hat.out
    have hfz := hfr.out
    generalize cntMod (pre.map Fin.val) s y = c at hle hcl hR hat
    clear hB r1 b0 b2 hsn
    gi_wp2
    refine region_quiet_tail 8 hmx (by kernel_rfl) (by kernel_rfl) ?_
    simp only [List.take_succ_cons, List.take_zero, List.drop_succ_cons, List.drop_zero]
    repeat (go_big_quiet_step (fail))
    refine wpQuiet_nil ?_
    rintro _ ⟨nq, rfl⟩
    gi_wp2
    refine ⟨(keeps_drewN W nq).trans (KeepsOthers.setCell _ _ _), ((KeptOn.refl _ W).drewN nq).setCell (p := ⟨H + 1, _, none⟩) (show ¬ H + 1 < H by omega) _,
      ⟨⟨?_, (show Boxed (W.drewN nq) H 3 (.int .i64 s) from hb0.out).other2 (by omega) _ _⟩, (show Boxed (W.drewN nq) (H + 1 + 1) 24 (.slice (some ⟨H + 1, 0, none⟩) s s) from hb2.out).other2 (by omega) _ _⟩, (below_drewN HB.out nq).setCell (p := ⟨H + 1, _, none⟩) (show H ≤ H + 1 by omega) _⟩
    rw [← hR.out]
    exact (hr1.out.drewN nq).set _ _
  case done =>
    rintro D ys W hD hys ⟨⟨⟨r1, b0⟩, b2⟩, hB⟩ hK
    have HB := Lib.hid hB
    have HK := Lib.hid hK
    rw [hys] at r1
    clear hys hB
    have c0 := b0.cell
    have c2 := b2.cell
    have HPr := Lib.hid (primes_any s (by omega) hs2 W)
    have HPl := Lib.hid (primes_len (n := s) (by omega) hs2)
    have HPm := Lib.hid (fun p hp => primes_mem (n := s) (p := p) (by omega) hs2 hp)
    have HTl := Lib.hid (tonesL_length a)
    have hmx : Tryd.prog.follows .mixedOrders = true := by kernel_rfl
    have hsz : ((s : Int) == 0) = false := by rw [beq_eq_false_iff_ne]; omega
    gi_wp2_with (refine ⟨trivial, ?_⟩; gi_at_call 25; refine (callsIn_wide.2 HPr.out).mono ?_; rintro e w1 ⟨v, rfl, hv, b1⟩)
    obtain ⟨P, cap, rfl, hps⟩ := hv.as
    have hR0 : RtS w H D P (primesL s) s (prodF (tonesL a) s ((primesL s).take 0)) w1 := by
      have h0 : RtS w H D P [] s (fun k => (cntMod (tonesL a) s k : Int)) W := ⟨r1, b0, b2, HK.out, fun i hi => by simp at hi, HB.out⟩
      have h1 := h0.later b1
      exact ⟨h1.row, h1.b0, h1.b2, h1.dd, fun i hi => by
        obtain ⟨g, x, y, z⟩ := hps i hi
        have := HB.out.size
        have := (Array.getElem?_eq_some_iff.1 HK.out).1
        exact ⟨g, x, by omega, z⟩, h1.bel⟩
    have HR0 := Lib.hid hR0
    clear r1 b0 b2 c0 c2 hps b1 hR0 hv
    gi_wp2
    rw [len_opq]
    gi_wp2
    refine wpIn_wide.2 ?_
    go_loopw [29] (fun i wr => ∃ j : Nat, j ≤ (primesL s).length ∧ i = .int .i64 j ∧ RtS w H D P (primesL s) s (prodF (tonesL a) s ((primesL s).take j)) wr) (fun i _ => (primesL s).length - (intOf i).toNat)
    case atStart => exact ⟨0, Nat.zero_le _, rfl, HR0.out⟩
    case round =>
      obtain ⟨j, hj, rfl, hst⟩ := hrel
      have hl33 : (primesL s).length ≤ 3 := HPl.out
      by_cases hjl : j < (primesL s).length
      · obtain ⟨g, rfl, hg, hgc⟩ := hst.ps j hjl
        obtain ⟨p, hp, HpT⟩ : ∃ p, (primesL s)[j]?.getD 0 = p ∧ Hid ((primesL s).take (j + 1) = (primesL s).take j ++ [p]) := by
          refine ⟨_, rfl, Lib.hid ?_⟩
          rw [List.take_succ_eq_append_getElem hjl, List.getElem?_eq_getElem hjl]; rfl
        have hpm : p ∈ primesL s := by rw [← hp, List.getElem?_eq_getElem hjl]; exact List.getElem_mem hjl
        obtain ⟨hp1, hp2, hp3⟩ := HPm.out p hpm
        rw [hp] at hgc
        have hbd := prodF_bd (tonesL a) s HTl.out ((primesL s).take j)
        have hl3 : ((primesL s).take j).length ≤ 3 := by rw [List.length_take]; have := HPl.out; omega
        have hbd2 : ∀ k, -512 ≤ prodF (tonesL a) s ((primesL s).take j) k ∧ prodF (tonesL a) s ((primesL s).take j) k ≤ 512 := fun k => by
          have := hbd k
          have h8 : (2 : Int) ^ ((primesL s).take j).length ≤ 8 := by
            rcases (show ((primesL s).take j).length = 0 ∨ ((primesL s).take j).length = 1 ∨ ((primesL s).take j).length = 2 ∨ ((primesL s).take j).length = 3 by omega) with e | e | e | e <;> rw [e] <;> decide
          omega
        have HF := Lib.hid (prodF_snoc (tonesL a) s ((primesL s).take j) p)
        rw [← HpT.out] at HF
        clear hbd hl3
        generalize prodF (tonesL a) s ((primesL s).take j) = F at *
        have HBd := Lib.hid hbd2
        have hr0 : 0 < s / p := Nat.div_pos hp2 (by omega)
        have hrs : s / p ≤ s := Nat.div_le_self _ _
        have hpz : ((p : Int) == 0) = false := by rw [beq_eq_false_iff_ne]; omega
        have HPs := Lib.hid (fun k jd a1 a2 => partF_succ (p := p) F (k := k) (j := jd) a1 a2 hr0)
        have HPe := Lib.hid (fun k a1 => partF_same (p := p) F (k := k) (s := s) a1)
        have HP0 := Lib.hid (partF_zero p s F)
        have HPf := Lib.hid (partF_full (p := p) F (show 0 < s by omega))
        obtain ⟨r, hr⟩ : ∃ r, s / p = r := ⟨_, rfl⟩
        rw [hr] at hr0 hrs HPs HPe
        have hq : (s : Int) / (p : Int) = (r : Int) := by rw [← hr]; simp
        have HCl : Hid (∀ V, (∀ i, i < s → V.cell? ⟨H + 1, i, none⟩ = some (.int .i64 (F i))) → Calls Tryd.prog 26 #[.slice (some ⟨H + 1, 0, none⟩) s s] V fun e w' => ∃ g' cap', e = .returned (.slice (some ⟨g', 0, none⟩) s cap') ∧ V.heap.size ≤ g' ∧ (∀ i, i < s → w'.cell? ⟨g', i, none⟩ = some (.int .i64 (F i))) ∧ Below V.heap.size V w') := Lib.hid (fun V hV => by
          have e1 : ((List.range s).map F).length = s := by simp
          refine (Tryd.slices_Clone_int (H + 1) 0 s s ((List.range s).map F) V (by rw [e1]; exact Nat.le_refl _) (by omega) (fun i hi => by
            rw [e1] at hi
            rw [Nat.zero_add, hV i hi, List.getD_eq_getElem?_getD, List.getElem?_map, List.getElem?_range hi]; rfl)).mono ?_
          rintro e w' ⟨v', rfl, hown, hne, hb⟩
          have hown' := hown
          obtain ⟨h0, h1 | ⟨g', cap', cur, hv, hg, hh, h2⟩⟩ := hown
          · exact absurd h1.1 hne
          · subst hv
            refine ⟨g', cap', rfl, hg, fun i hi => ?_, hb⟩
            have := hown'.cellAt i (by omega)
            rw [this, List.take_of_length_le (by rw [e1]; exact Nat.le_refl _)]
            simp [hi])
        have hcells : ∀ i, i < s → wr.cell? ⟨H + 1, i, none⟩ = some (.int .i64 (F i)) := fun i hi => (hst.row.cell i).trans (zrow_at hi)
        have HC2 := Lib.hid (HCl.out wr hcells)
        have hb2c := hst.b2.cell
        have hb0c := hst.b0.cell
        have hHlt : H + 1 < wr.heap.size := hst.row.lt
        have HST := Lib.hid hst
        clear HCl hcells hst hbd2 hp hpm hr HpT
        go_wp2_with fail
        refine HC2.out.mono ?_
        rintro e w3 ⟨g', cap', rfl, hg', hcl, b3⟩
        have hst3 := HST.out.later b3
        have hb0c := cell_later b3 hb0c
        have HST3 := Lib.hid hst3
        have HCL := Lib.hid hcl
        clear hst3 hcl b3 hb2c HC2
        go_wp2
        go_loopw [36] (fun i wv => ∃ k : Nat, k ≤ s ∧ i = .int .i64 k ∧ RtS w H D (some ⟨g, 0, none⟩) (primesL s) s (partF p s F k) wv ∧ (∀ i, i < s → wv.cell? ⟨g', i, none⟩ = some (.int .i64 (F i)))) (fun i _ => s - (intOf i).toNat)
        case atStart => exact ⟨0, Nat.zero_le _, rfl, by rw [HP0.out]; exact HST3.out, HCL.out⟩
        case round =>
          obtain ⟨k, hk, rfl, hsv, hcv⟩ := hrel
          by_cases hkl : k < s
          · obtain ⟨y, hy, Hy, hyl⟩ : ∃ y : Nat, (((k : Int) + (r : Int)) % (s : Int) = (y : Int)) ∧ Hid ((k + r) % s = y) ∧ y < s := ⟨(k + r) % s, by simp, Lib.hid rfl, Nat.mod_lt _ (by omega)⟩
            have hfy := HPe.out k hkl
            rw [Hy.out] at hfy
            have hc1 := (hsv.row.cell y).trans (zrow_at hyl)
            rw [hfy] at hc1
            have hc2 := hcv k hkl
            have hd1 := HBd.out y
            have hd2 := HBd.out k
            have hb0v := hsv.b0.cell
            have hb2v := hsv.b2.cell
            have HPut : Hid (∀ V, RtS w H D (some ⟨g, 0, none⟩) (primesL s) s (partF p s F k) V → RtS w H D (some ⟨g, 0, none⟩) (primesL s) s (partF p s F (k + 1)) (V.setCell ⟨H + 1, y, none⟩ (.int .i64 (F y - F k)))) := Lib.hid (fun V h => h.put hyl (by rw [HPs.out k y hkl hyl, if_pos Hy.out, hfy]) (fun i hi hne => by rw [HPs.out k i hkl hi, if_neg (fun e => hne (e.symm.trans Hy.out))]))
            have hfz := hsv.row.frozen y
            have HSV := Lib.hid hsv
            have HCV := Lib.hid hcv
            have hgne : g' ≠ H + 1 := by omega
            clear hsv hcv hfy Hy
            generalize F y = fy at *
            generalize hFk : F k = fk at *
            go_wp2_with fail
            refine region_calm_tail 16 hmx (by kernel_rfl) ?_
            simp only [List.take_succ_cons, List.take_zero, List.drop_succ_cons, List.drop_zero]
            intro S hSn f hS1 hS2
            have l0 : ∀ z, (f z).cell? ⟨H, 0, none⟩ = some (.int .i64 s) := fun z => cell_later (hS1 z) hb0v
            have l1 : ∀ z, (f z).cell? ⟨H + 1 + 1, 0, none⟩ = some (.slice (some ⟨H + 1, 0, none⟩) s s) := fun z => cell_later (hS1 z) hb2v
            have l2 : ∀ z, (f z).cell? ⟨H + 1, y, none⟩ = some (.int .i64 fy) := fun z => cell_later (hS1 z) hc1
            have l3 : ∀ z, (f z).cell? ⟨g', k, none⟩ = some (.int .i64 fk) := fun z => cell_later (hS1 z) hc2
            repeat (go_big_quiet_step (fail))
            refine wpQuiet_nil ?_
            rintro _ ⟨z, rfl⟩
            have hst4 := HSV.out.later (hS1 z)
            have hcv4 : ∀ i, i < s → (f z).cell? ⟨g', i, none⟩ = some (.int .i64 (F i)) := fun i hi => cell_later (hS1 z) (HCV.out i hi)
            have hcy := l2 z
            generalize f z = w4 at hst4 hcv4 hcy
            have hfz4 := hst4.row.frozen y
            have HS5 := Lib.hid (HPut.out w4 hst4)
            have HC5 : Hid (∀ i, i < s → (w4.setCell ⟨H + 1, y, none⟩ (.int .i64 (fy - fk))).cell? ⟨g', i, none⟩ = some (.int .i64 (F i))) := Lib.hid (fun i hi => cell_set_other (hcv4 i hi) hgne)
            clear l0 l1 l2 l3 hS1 hS2 hst4 hcv4 hc1 hc2 hb0v hb2v
            try dsimp only [Exit.then]
            go_wp2
            go_roundw
            case rel => exact ⟨k + 1, by omega, by go_num, HS5.out, HC5.out⟩
            case measure => simp only [intOf]; omega
          · have hks : k = s := by omega
            subst hks
            have HS6 : Hid (RtS w H D (some ⟨g, 0, none⟩) (primesL k) k (prodF (tonesL a) k ((primesL k).take (j + 1))) wr) := Lib.hid (by rw [HF.out, ← HPf.out]; exact hsv)
            clear hsv hcv
            go_wp2
            go_roundw
            case rel => exact ⟨j + 1, by omega, by go_num, HS6.out⟩
            case measure => simp only [intOf]; omega
      · have hjL : (primesL s).take j = primesL s := List.take_of_length_le (by omega)
        rw [hjL] at hst
        have HRB : Hid (rootB a s = (List.range s).all fun k => prodF (tonesL a) s (primesL s) k == 0) := Lib.hid rfl
        generalize prodF (tonesL a) s (primesL s) = F at *
        have hb2c := hst.b2.cell
        have HST := Lib.hid hst
        clear hst hjL
        have hcells : ∀ i, i < s → wr.cell? ⟨H + 1, i, none⟩ = some (.int .i64 (F i)) := fun i hi => (HST.out.row.cell i).trans (zrow_at hi)
        have HCE := Lib.hid hcells
        have HdD := Lib.hid HST.out.dd
        clear hcells
        go_wp2
        refine wpIn_wide.2 ?_
        go_wp2
        go_loopw [59] (fun i wq => ∃ m : Nat, m ≤ s ∧ i = .int .i64 m ∧ (∀ k, k < m → F k = 0) ∧ wr = wq) (fun i _ => s - (intOf i).toNat)
        case atStart => exact ⟨0, Nat.zero_le _, rfl, fun k hk => by omega, rfl⟩
        case round =>
          obtain ⟨m, hm, rfl, hz, rfl⟩ := hrel
          by_cases hml : m < s
          · have hcm := HCE.out m hml
            by_cases h0 : F m = 0
            · have hq : (F m != 0) = false := by rw [bne_eq_false_iff_eq]; exact h0
              have HZ : Hid (∀ k, k < m + 1 → F k = 0) := Lib.hid (fun k hk => by
                by_cases hkm : k < m
                · exact hz k hkm
                · obtain rfl : k = m := by omega
                  exact h0)
              clear h0 hz
              generalize F m = fm at *
              go_wp2
              go_roundw
              case rel => exact ⟨m + 1, by omega, by go_num, HZ.out, trivial⟩
              case measure => simp only [intOf]; omega
            · have hq : (F m != 0) = true := by rw [bne_iff_ne]; exact h0
              have HNo : Hid (rootB a s = false) := Lib.hid (by
                rw [HRB.out, List.all_eq_false]
                exact ⟨m, List.mem_range.2 hml, by simpa using h0⟩)
              clear h0 hz
              generalize F m = fm at *
              go_wp2
              refine ⟨by simp, .inl ⟨_, _, rfl, run_takeDeferred HdD.out, ?_⟩⟩
              refine ⟨_, results_tmp rfl _ _ _, ?_, by rw [hH'.out]; exact HST.out.bel.trans (belowK_b (n₀ := H) (w := W0) (by omega) wr D _ _ (by omega) HdD.out rfl rfl)⟩
              exact ret_bool HNo.out.symm
          · have HYes : Hid (rootB a s = true) := Lib.hid (by
              rw [HRB.out, List.all_eq_true]
              intro k hk
              rw [beq_iff_eq]
              exact hz k (by have := List.mem_range.1 hk; omega))
            clear hz
            go_wp2
            refine ⟨by simp, .inl ⟨_, _, rfl, run_takeDeferred HdD.out, ?_⟩⟩
            refine ⟨_, results_tmp rfl _ _ _, ?_, by rw [hH'.out]; exact HST.out.bel.trans (belowK_b (n₀ := H) (w := W0) (by omega) wr D _ _ (by omega) HdD.out rfl rfl)⟩
            exact ret_bool HYes.out.symm
  case stop =>
    rintro D c pre W _ _ h _
    exact h.elim
end Go.Proofs.YthnenhfdojpobaaDoor.Za

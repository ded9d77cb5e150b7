/-
  The statement on spectra of products and sums.
-/
import Derived.Test.YtcgaaebogkhefaaWhSpectraLaw
import Derived.Test.YtcgaaebogkhefaaHeldR
import Derived.Deep.AppendLies
namespace Go.Proofs.Ytcgaaebogkhefaa
open Go.ChangeShapes Go.WideShapes Go.ChangeAt Go.RowKit
set_option maxRecDepth 100000

/-- The sum of two wheels. -/
def adF (n : Nat) (f g : Nat → Nat) (x : Nat) : Nat := (f x + g x) % qN n
theorem ad_wh {n : Nat} (h : Circ n) {f g : Nat → Nat} (hf : IsWh n f) (hg : IsWh n g) : IsWh n (adF n f g) :=
  ⟨fun _ => Nat.mod_lt _ h.q_pos, fun x hx => by unfold adF; rw [hf.out x hx, hg.out x hx, Nat.zero_add, Nat.zero_mod]⟩
theorem tabN_succ' (k : Nat) (f : Nat → Nat) : natI (tabN (k + 1) f) = natI (tabN k f) ++ [((f k : Nat) : Int)] := by
  unfold tabN natI; rw [List.range_succ, List.map_append, List.map_append]; rfl

theorem wrap_mul {p : Int} (h : 0 ≤ p ∧ p ≤ 10000000000) : IntKind.i64.wrap p = p := by rw [IntKind.wrap_i64]; omega
theorem wrap_mul2 {p : Int} (h : 0 ≤ p ∧ p ≤ 10000000000) : wrap64 p = p := by unfold wrap64; omega
theorem two_bad {n : Int} {xs ys : List Int} (h : ¬ ((circB n && wheelB n.toNat xs) = true ∧ (circB n && wheelB n.toNat ys) = true)) : (circB n && [xs.take 19, ys.take 19].all (wheelB n.toNat)) = false := by
  rw [← wheelB_take n xs, ← wheelB_take n ys] at h
  cases hc : circB n
  · simp
  · rw [hc] at h
    simp only [Bool.true_and, List.all_cons, List.all_nil, Bool.and_true, Bool.and_eq_false_iff] at h ⊢
    cases h1 : wheelB n.toNat (xs.take 19)
    · exact .inl rfl
    · refine .inr ?_
      cases h2 : wheelB n.toNat (ys.take 19)
      · rfl
      · exact (h ⟨h1, h2⟩).elim

theorem prod_facts {q a b p d : Nat} (hq : q ≤ 97) (l1 : a < q) (l2 : b < q) (hp : p = a * b % q) (hd : d = (a + b) % q) :
    (0 ≤ (a : Int) * (b : Int) ∧ (a : Int) * (b : Int) ≤ 10000000000) ∧ ((a : Int) * (b : Int)) % (q : Int) = (p : Int) ∧ ((a : Int) * (b : Int)).tmod (q : Int) = (p : Int) ∧
    ((a : Int) + (b : Int)) % (q : Int) = (d : Int) ∧ ((a : Int) + (b : Int)).tmod (q : Int) = (d : Int) ∧ IntKind.i64.wrap ((a : Int) * (b : Int)) = (a : Int) * (b : Int) ∧ wrap64 ((a : Int) * (b : Int)) = (a : Int) * (b : Int) ∧
    p < q ∧ d < q ∧ ¬ q = 0 ∧ IntKind.i64.wrap ((a : Int) + (b : Int)) = (a : Int) + (b : Int) ∧ wrap64 ((a : Int) + (b : Int)) = (a : Int) + (b : Int) ∧
    decide ((q : Int) ≤ (a : Int)) = false ∧ decide ((q : Int) ≤ (b : Int)) = false ∧ decide ((a : Int) < 0) = false ∧ decide ((b : Int) < 0) = false ∧ decide (q ≤ a) = false ∧ decide (q ≤ b) = false := by
  have hm := mul_bd (show a ≤ 100000 by omega) (show b ≤ 100000 by omega)
  have e1 : ((a : Int) * (b : Int)) % (q : Int) = (p : Int) := by rw [hp]; simp
  have e2 : ((a : Int) + (b : Int)) % (q : Int) = (d : Int) := by rw [hd]; simp
  refine ⟨hm, e1, ?_, e2, ?_, wrap_mul hm, wrap_mul2 hm, ?_, ?_, by omega, wrap_mul (by omega), wrap_mul2 (by omega), ?_, ?_, ?_, ?_, ?_, ?_⟩
  · rw [Int.tmod_eq_emod_of_nonneg hm.1]; exact e1
  · rw [Int.tmod_eq_emod_of_nonneg (Int.add_nonneg (Int.natCast_nonneg _) (Int.natCast_nonneg _))]; exact e2
  · rw [hp]; exact Nat.mod_lt _ (by omega)
  · rw [hd]; exact Nat.mod_lt _ (by omega)
  all_goals (rw [decide_eq_false_iff_not]; omega)
theorem below_drewN' (w : World) (a b : Nat) : Below w.heap.size w ((w.drewN a).drewN b) := below_nx (below_drewN w a) (below_drewN (w.drewN a) b)

set_option maxHeartbeats 4000000 in
theorem WheelsProducts_walk (n : Int) (xs ys : List Int) (v u : Value) (w : World) (_wf : (Lit.int .i64 n).wf = true) (hl : xs.length ≤ maxLen) (h : IntsV w v xs) (hm' : ys.length ≤ maxLen) (h' : IntsV w u ys) :
    Calls Try.prog 10 #[.int .i64 n, v, u] w fun e w' => e = .returned (.bool true) ∧ Below w.heap.size w w' := by
  have hmx : Try.prog.follows .mixedOrders = true := by kernel_rfl
  have HAw := Lib.hid (fun W => wawake_any W)
  have HLf := Lib.hid (fun W (h : IntsV W v xs) => wlist_any xs v W hl h)
  have HLg := Lib.hid (fun W (h : IntsV W u ys) => wlist_any ys u W hm' h)
  have HRf := Lib.hid (fun W (h : IntsV W v xs) => RWheel_any n xs v W hl h)
  have HRg := Lib.hid (fun W (h : IntsV W u ys) => RWheel_any n ys u W hm' h)
  have HV := Lib.hid h
  have HU := Lib.hid h'
  by_cases hbb : (circB n && wheelB n.toNat xs) = true ∧ (circB n && wheelB n.toNat ys) = true
  · obtain ⟨hb, hb2⟩ := hbb
    rw [hb] at HRf
    rw [hb2] at HRg
    obtain ⟨m, l, rfl, rfl, hm, hw⟩ := good1 hb
    obtain ⟨m', l2, hmm, rfl, _, hx⟩ := good1 hb2
    have hx : WhL m l2 := by rw [show m = m' by omega]; exact hx
    rw [hw.take hm] at HLf
    rw [hx.take hm] at HLg
    have hm0 := hm.pos
    have hm17 := hm.2
    have hq := hm.q_le
    have hqn := hm.n_lt
    have hf := hw.wh hm
    have hg := hx.wh hm
    have HPr := Lib.hid (fun W => Prime_ok m hm W)
    have HSf := Lib.hid (fun a W (h : IntsV W a (natI l)) => Spectrum_ok m hm l hw a W h)
    have HSg := Lib.hid (fun a W (h : IntsV W a (natI l2)) => Spectrum_ok m hm l2 hx a W h)
    have HTf := Lib.hid (fun a b W (h : IntsV W a (natI l)) (k : IntsV W b (natI l2)) => Times_ok m hm l l2 hw hx a b W h k)
    have HTg := Lib.hid (fun a b W (h : IntsV W a (natI l2)) (k : IntsV W b (natI l)) => by have := Times_ok m hm l2 l hx hw a b W h k; rw [ti_comm hm] at this; exact this)
    have HSp := Lib.hid (fun a W (h : IntsV W a (natI (tabN m (tiF m (ofL l) (ofL l2))))) => by
      have := Spectrum_ok m hm _ (WhL.tab (ti_wh hm (ofL l) (ofL l2))) a W h
      rw [ofL_tab (ti_wh hm _ _)] at this
      exact this)
    have HSs := Lib.hid (fun a W (h : IntsV W a (natI (tabN m (adF m (ofL l) (ofL l2))))) => by
      have := Spectrum_ok m hm _ (WhL.tab (ad_wh hm hf hg)) a W h
      rw [ofL_tab (ad_wh hm hf hg)] at this
      exact this)
    have HBk := Lib.hid (fun a W (h : IntsV W a (natI (tabN m (spF m (ofL l))))) => by
      have := Back_ok m hm _ (WhL.tab (sp_wh hm (ofL l))) a W h
      rw [ofL_tab (sp_wh hm _), back_spec hm hf, hw.taf] at this
      exact this)
    have HCl := Lib.hid (fun f a W (h : IntsV W a (natI (tabN m f))) => Clone_any (natI (tabN m f)) a W (by rw [natI_len, tabN_length]; omega) h)
    have HE := Lib.hid (fun (zs : List Int) (hz : zs.length ≤ maxLen) a b W ha hb => by have := Equal_any zs zs a b W hz hz ha hb; rwa [show (zs == zs) = true from beq_self_eq_true _] at this)
    have HZ1 := Lib.hid (hw.max hm)
    have HZ2 := Lib.hid (tab_max hm (tiF m (ofL l) (ofL l2)))
    have HCv := Lib.hid (fun k (hk : k < m) => conv hm hk (ofL l) (ofL l2))
    have HAd := Lib.hid (fun k (hk : k < m) => show spF m (adF m (ofL l) (ofL l2)) k = (spF m (ofL l) k + spF m (ofL l2) k) % qN m from sp_add hm hk (ofL l) (ofL l2))
    have HSl1 := Lib.hid (sp_wh hm (ofL l)).lt
    have HSl2 := Lib.hid (sp_wh hm (ofL l2)).lt
    have HFl := Lib.hid hf.lt
    have HGl := Lib.hid hg.lt
    have HAb := Lib.hid (ad_wh hm hf hg).lt
    have HAs := Lib.hid (fun k => show ((((ofL l k : Nat) : Int) + ((ofL l2 k : Nat) : Int)) % ((qN m : Nat) : Int)) = ((adF m (ofL l) (ofL l2) k : Nat) : Int) from by unfold adF; simp)
    obtain ⟨fb, fo, fc, rfl, hfc, hfd⟩ := wh_cells h hw.len hm0
    obtain ⟨gb, go, gc, rfl, hgc, hgd⟩ := wh_cells h' hx.len hm0
    have HFd := Lib.hid hfd
    have HGd := Lib.hid hgd
    have HTs := Lib.hid (fun k => tabN_succ' k (adF m (ofL l) (ofL l2)))
    obtain ⟨i0, hi, hz0, hz1, hz2⟩ := info_parts info_intV
    clear hb hb2 hl hm' hm hw hx hf hg hfd hgd hmm h h'
    generalize spF m (adF m (ofL l) (ofL l2)) = sd at *
    generalize spF m (tiF m (ofL l) (ofL l2)) = sp at *
    generalize spF m (ofL l) = sa at *
    generalize spF m (ofL l2) = sb at *
    generalize tiF m (ofL l) (ofL l2) = ti at *
    generalize adF m (ofL l) (ofL l2) = ad at *
    generalize ofL l = f at *
    generalize ofL l2 = g at *
    generalize natI l = xs at *
    generalize natI l2 = ys at *
    generalize qN m = q at *
    go_enter Try.func10, Try.ntmps10
    go_wp2_with fail
    refine (HRf.out _ HV.out).mono ?_
    rintro e w1 ⟨rfl, rfl⟩
    go_wp2_with fail
    refine (HRg.out _ HU.out).mono ?_
    rintro e w1 ⟨rfl, rfl⟩
    go_wp2_with fail
    refine (HPr.out _).mono ?_
    rintro e w1 ⟨rfl, b1⟩
    have B1 := Lib.hid b1
    clear b1
    obtain ⟨B, hB⟩ : ∃ B, w1.heap.size = B := ⟨_, rfl⟩
    have HBB := Lib.hid hB
    clear hB
    have hq0' : ((q : Int) == 0) = false := by rw [beq_eq_false_iff_ne]; omega
    go_wp2_with fail
    go_loopw [11, 67] (fun o i wr => ∃ k : Nat, k ≤ m ∧ i = .int .i64 (k : Int) ∧ wr.ownsRow B 3 1 o k (ivals (natI (tabN k ad))) ∧ Below B w1 wr) (fun _ i _ => m - (intOf i).toNat)
    case atStart => exact ⟨0, Nat.zero_le _, rfl, World.ownsRow_nil _ _ _ _, by rw [← HBB.out]; exact Below.refl _ _⟩
    case round =>
      obtain ⟨k, hk, rfl, hown, hb⟩ := hrel
      have HO := Lib.hid hown
      have HBe := Lib.hid hb
      have hsz : B ≤ wr.heap.size := by have h1 := hb.size; have h2 := HBB.out; omega
      have hbw : Below w.heap.size w wr := B1.out.trans ((show Below w1.heap.size w1 wr by rw [HBB.out]; exact hb).mono B1.out.size)
      have HBw := Lib.hid hbw
      clear hown hb
      by_cases hlt : k < m
      · have HC1 := Lib.hid (fun W2 (q0 : Below w.heap.size w W2) => cell_later q0 (HFd.out k hlt))
        have HC2 := Lib.hid (fun W2 (q0 : Below w.heap.size w W2) => cell_later q0 (HGd.out k hlt))
        have h1 := HFl.out k
        have h2 := HGl.out k
        have HTk := Lib.hid (HTs.out k)
        have hwr : IntKind.i64.wrap (((f k : Nat) : Int) + ((g k : Nat) : Int)) = ((f k : Nat) : Int) + ((g k : Nat) : Int) := by rw [IntKind.wrap_i64]; omega
        have hwr2 : wrap64 (((f k : Nat) : Int) + ((g k : Nat) : Int)) = ((f k : Nat) : Int) + ((g k : Nat) : Int) := by unfold wrap64; omega
        have hq0 : ((q : Int) == 0) = false := by rw [beq_eq_false_iff_ne]; omega
        have hA : (((f k : Nat) : Int) + ((g k : Nat) : Int)).tmod (q : Int) = ((ad k : Nat) : Int) := by rw [Int.tmod_eq_emod_of_nonneg (Int.add_nonneg (Int.natCast_nonneg _) (Int.natCast_nonneg _))]; exact HAs.out k
        have hA2 := HAs.out k
        have hb3 := HAb.out k
        generalize f k = y at *
        generalize g k = z at *
        generalize ad k = az at *
        generalize hyz : (y : Int) + (z : Int) = yz at *
        go_upto_region 11 with fail
        have hS : Below w.heap.size w { wr with drawn := wr.drawn + 1 } := HBw.out.drew
        refine wp_region_noPanic (wp_region_held (S := fun w' => Below w.heap.size w w') hmx ?_)
        refine take_held (i := 0) (v := u11) rfl (by kernel_rfl) (by kernel_rfl) (by kernel_rfl) (fun _ _ _ h => h) (by rfl) (by rintro W2 q0; have c3 := HC1.out W2 q0; have c4 := HC2.out W2 q0; go_simp; try (intro hh; exfalso; omega)) hS ?_
        simp only [Act.put, List.setIfInBounds_toArray, List.set_cons_zero, List.set_cons_succ]
        refine take_held (i := 1) (v := .slice (some ⟨fb, fo, none⟩) m fc) rfl (by kernel_rfl) (by kernel_rfl) (by kernel_rfl) (fun _ _ _ h => h) (by rfl) (by rintro W2 q0; have c3 := HC1.out W2 q0; have c4 := HC2.out W2 q0; go_simp; try (intro hh; exfalso; omega)) hS ?_
        simp only [Act.put, List.setIfInBounds_toArray, List.set_cons_zero, List.set_cons_succ]
        refine take_held (i := 2) (v := .int .i64 k) rfl (by kernel_rfl) (by kernel_rfl) (by kernel_rfl) (fun _ _ _ h => h) (by rfl) (by rintro W2 q0; have c3 := HC1.out W2 q0; have c4 := HC2.out W2 q0; go_simp; try (intro hh; exfalso; omega)) hS ?_
        simp only [Act.put, List.setIfInBounds_toArray, List.set_cons_zero, List.set_cons_succ]
        refine take_held (i := 3) (v := .pointer (some ⟨fb, fo + k, none⟩)) rfl (by kernel_rfl) (by kernel_rfl) (by kernel_rfl) (fun _ _ _ h => h) (by rfl) (by rintro W2 q0; have c3 := HC1.out W2 q0; have c4 := HC2.out W2 q0; go_simp; try (intro hh; exfalso; omega)) hS ?_
        simp only [Act.put, List.setIfInBounds_toArray, List.set_cons_zero, List.set_cons_succ]
        refine take_held (i := 4) (v := .int .i64 y) rfl (by kernel_rfl) (by kernel_rfl) (by kernel_rfl) (fun _ _ _ h => h) (by rfl) (by rintro W2 q0; have c3 := HC1.out W2 q0; have c4 := HC2.out W2 q0; go_simp; try (intro hh; exfalso; omega)) hS ?_
        simp only [Act.put, List.setIfInBounds_toArray, List.set_cons_zero, List.set_cons_succ]
        refine take_held (i := 5) (v := .slice (some ⟨gb, go, none⟩) m gc) rfl (by kernel_rfl) (by kernel_rfl) (by kernel_rfl) (fun _ _ _ h => h) (by rfl) (by rintro W2 q0; have c3 := HC1.out W2 q0; have c4 := HC2.out W2 q0; go_simp; try (intro hh; exfalso; omega)) hS ?_
        simp only [Act.put, List.setIfInBounds_toArray, List.set_cons_zero, List.set_cons_succ]
        refine take_held (i := 6) (v := .int .i64 k) rfl (by kernel_rfl) (by kernel_rfl) (by kernel_rfl) (fun _ _ _ h => h) (by rfl) (by rintro W2 q0; have c3 := HC1.out W2 q0; have c4 := HC2.out W2 q0; go_simp; try (intro hh; exfalso; omega)) hS ?_
        simp only [Act.put, List.setIfInBounds_toArray, List.set_cons_zero, List.set_cons_succ]
        refine take_held (i := 7) (v := .pointer (some ⟨gb, go + k, none⟩)) rfl (by kernel_rfl) (by kernel_rfl) (by kernel_rfl) (fun _ _ _ h => h) (by rfl) (by rintro W2 q0; have c3 := HC1.out W2 q0; have c4 := HC2.out W2 q0; go_simp; try (intro hh; exfalso; omega)) hS ?_
        simp only [Act.put, List.setIfInBounds_toArray, List.set_cons_zero, List.set_cons_succ]
        refine take_held (i := 8) (v := .int .i64 z) rfl (by kernel_rfl) (by kernel_rfl) (by kernel_rfl) (fun _ _ _ h => h) (by rfl) (by rintro W2 q0; have c3 := HC1.out W2 q0; have c4 := HC2.out W2 q0; go_simp; try (intro hh; exfalso; omega)) hS ?_
        simp only [Act.put, List.setIfInBounds_toArray, List.set_cons_zero, List.set_cons_succ]
        refine take_held (i := 9) (v := .int .i64 yz) rfl (by kernel_rfl) (by kernel_rfl) (by kernel_rfl) (fun _ _ _ h => h) (by rfl) (by rintro W2 q0; have c3 := HC1.out W2 q0; have c4 := HC2.out W2 q0; go_simp; try (intro hh; exfalso; omega)) hS ?_
        simp only [Act.put, List.setIfInBounds_toArray, List.set_cons_zero, List.set_cons_succ]
        refine take_held (i := 10) (v := .int .i64 q) rfl (by kernel_rfl) (by kernel_rfl) (by kernel_rfl) (fun _ _ _ h => h) (by rfl) (by rintro W2 q0; have c3 := HC1.out W2 q0; have c4 := HC2.out W2 q0; go_simp; try (intro hh; exfalso; omega)) hS ?_
        simp only [Act.put, List.setIfInBounds_toArray, List.set_cons_zero, List.set_cons_succ]
        refine take_held (i := 11) (v := .int .i64 ((az : Nat) : Int)) rfl (by kernel_rfl) (by kernel_rfl) (by kernel_rfl) (fun _ _ _ h => h) (by rfl) (by rintro W2 q0; have c3 := HC1.out W2 q0; have c4 := HC2.out W2 q0; go_simp; try (intro hh; exfalso; omega)) hS ?_
        simp only [Act.put, List.setIfInBounds_toArray, List.set_cons_zero, List.set_cons_succ]
        refine step_held (i := 12) rfl (by kernel_rfl) (by rfl) (fun K' hK => ?_)
        go_simp
        have HSa := Lib.hid ((hS.alloc hS.size (.cells #[.int .i64 ((az : Nat) : Int)] 3)))
        refine hK.out _ _ HSa.out (fun hS => ?_)
        clear hK K'
        try simp only [Act.put, List.setIfInBounds_toArray, List.set_cons_zero, List.set_cons_succ]
        refine step_held (i := 13) rfl (by kernel_rfl) (by rfl) (fun K' hK => ?_)
        refine wp_append_lies _ _ _ 28 (by rfl) B 3 i0 (.int .i64 0) 1 8 Try.underlying28 hi hz0 hz1 hz2 rfl (by decide) _ _ _ (by rfl) ((HO.out.alloc _).drew) ⟨wr.heap.size, 0, none⟩ 1 1 [.int .i64 ((az : Nat) : Int)] (by rfl) rfl (fun j u h => cell_one_new wr _ _ j u h) (by simp [Value.oneCell']) (by decide) (by unfold maxLen; omega) (by omega) (by simp; omega) (wr.heap.size + 1) (by simp) ?_
        intro g2 cap2 w2 hown1 hgrow1 hat hlt1
        have HB2 := Lib.hid ((HBe.out.alloc hsz (.cells #[.int .i64 ((az : Nat) : Int)] 3)).drew.grown hgrow1 (by simp; omega) (fun j hj => (HO.out.lt j hj).1) : Below B w1 w2)
        have HBw2 := Lib.hid (B1.out.trans ((show Below w1.heap.size w1 w2 by rw [HBB.out]; exact HB2.out).mono B1.out.size) : Below w.heap.size w w2)
        refine hK.out _ _ HBw2.out (fun hS => ?_)
        clear hK K'
        try simp only [Act.put, List.setIfInBounds_toArray, List.set_cons_zero, List.set_cons_succ]
        refine step_held (i := 14) rfl (by kernel_rfl) (by rfl) (fun K' hK => ?_)
        go_simp
        refine hK.out _ _ hS (fun hS => ?_)
        clear hK K'
        try simp only [Act.put, List.setIfInBounds_toArray, List.set_cons_zero, List.set_cons_succ]
        refine wpAnyH_done (by kernel_rfl) ?_ _
        refine NoPanic.normal ?_
        try dsimp only [Exit.then]
        go_wp2
        go_roundw
        case rel =>
          refine ⟨k + 1, by omega, by go_num, ?_, HB2.out⟩
          unfold ivals at hown1 ⊢
          rw [HTk.out, List.map_append]
          exact hown1
        case measure => simp only [intOf]; omega
      · obtain rfl : k = m := by omega
        have IO := Lib.hid (IntsV.of_vals HO.out)
        clear HO HBe hlt hk
        have Bw0 := HBw
        try clear hsz
        go_wp2_with fail
        refine (HLf.out _ (HV.out.later Bw0.out)).mono ?_
        rintro e u1 ⟨v1, rfl, i1, b1⟩
        have IO1 := Lib.hid (IO.out.later b1)
        have I1 := Lib.hid i1
        have Bn1 := Lib.hid (below_nx Bw0.out b1)
        clear i1 b1
        go_wp2_with fail
        refine (HSf.out _ _ I1.out).mono ?_
        rintro e u2 ⟨v2, rfl, i2, b2⟩
        have IO2 := Lib.hid (IO1.out.later b2)
        have I12 := Lib.hid (I1.out.later b2)
        have A := Lib.hid i2
        have Bn2 := Lib.hid (below_nx Bn1.out b2)
        clear i2 b2
        go_wp2_with fail
        refine (HLg.out _ (HU.out.later Bn2.out)).mono ?_
        rintro e u3 ⟨v3, rfl, i3, b3⟩
        have IO3 := Lib.hid (IO2.out.later b3)
        have A3 := Lib.hid (A.out.later b3)
        have I3 := Lib.hid i3
        have Bn3 := Lib.hid (below_nx Bn2.out b3)
        clear i3 b3
        go_wp2_with fail
        refine (HSg.out _ _ I3.out).mono ?_
        rintro e u4 ⟨v4, rfl, i4, b4⟩
        have IO4 := Lib.hid (IO3.out.later b4)
        have A4 := Lib.hid (A3.out.later b4)
        have I34 := Lib.hid (I3.out.later b4)
        have C := Lib.hid i4
        have Bn4 := Lib.hid (below_nx Bn3.out b4)
        clear i4 b4
        go_wp2_with fail
        refine (HLf.out _ (HV.out.later Bn4.out)).mono ?_
        rintro e u5 ⟨v5, rfl, i5, b5⟩
        have IO5 := Lib.hid (IO4.out.later b5)
        have A5 := Lib.hid (A4.out.later b5)
        have C5 := Lib.hid (C.out.later b5)
        have I5 := Lib.hid i5
        have Bn5 := Lib.hid (below_nx Bn4.out b5)
        clear i5 b5
        go_wp2_with fail
        refine (HLg.out _ (HU.out.later Bn5.out)).mono ?_
        rintro e u6 ⟨v6, rfl, i6, b6⟩
        have IO6 := Lib.hid (IO5.out.later b6)
        have A6 := Lib.hid (A5.out.later b6)
        have C6 := Lib.hid (C5.out.later b6)
        have I56 := Lib.hid (I5.out.later b6)
        have I6 := Lib.hid i6
        have Bn6 := Lib.hid (below_nx Bn5.out b6)
        clear i6 b6
        go_wp2_with fail
        refine (HTf.out _ _ _ I56.out I6.out).mono ?_
        rintro e u7 ⟨v7, rfl, i7, b7⟩
        have IO7 := Lib.hid (IO6.out.later b7)
        have A7 := Lib.hid (A6.out.later b7)
        have C7 := Lib.hid (C6.out.later b7)
        have I57 := Lib.hid (I56.out.later b7)
        have I67 := Lib.hid (I6.out.later b7)
        have D := Lib.hid i7
        have Bn7 := Lib.hid (below_nx Bn6.out b7)
        clear i7 b7
        go_wp2_with fail
        refine (HLg.out _ (HU.out.later Bn7.out)).mono ?_
        rintro e u8 ⟨v8, rfl, i8, b8⟩
        have IO8 := Lib.hid (IO7.out.later b8)
        have A8 := Lib.hid (A7.out.later b8)
        have C8 := Lib.hid (C7.out.later b8)
        have D8 := Lib.hid (D.out.later b8)
        have I8 := Lib.hid i8
        have Bn8 := Lib.hid (below_nx Bn7.out b8)
        clear i8 b8
        go_wp2_with fail
        refine (HLf.out _ (HV.out.later Bn8.out)).mono ?_
        rintro e u9 ⟨v9, rfl, i9, b9⟩
        have IO9 := Lib.hid (IO8.out.later b9)
        have A9 := Lib.hid (A8.out.later b9)
        have C9 := Lib.hid (C8.out.later b9)
        have D9 := Lib.hid (D8.out.later b9)
        have I89 := Lib.hid (I8.out.later b9)
        have I9 := Lib.hid i9
        have Bn9 := Lib.hid (below_nx Bn8.out b9)
        clear i9 b9
        go_wp2_with fail
        refine (HTg.out _ _ _ I89.out I9.out).mono ?_
        rintro e u10 ⟨v10, rfl, i10, b10⟩
        have IO10 := Lib.hid (IO9.out.later b10)
        have A10 := Lib.hid (A9.out.later b10)
        have C10 := Lib.hid (C9.out.later b10)
        have D10 := Lib.hid (D9.out.later b10)
        have I810 := Lib.hid (I89.out.later b10)
        have I910 := Lib.hid (I9.out.later b10)
        have E := Lib.hid i10
        have Bn10 := Lib.hid (below_nx Bn9.out b10)
        clear i10 b10
        go_wp2_with fail
        refine (HCl.out _ _ _ D10.out).mono ?_
        rintro e u11 ⟨v11, rfl, i11, b11⟩
        have IO11 := Lib.hid (IO10.out.later b11)
        have A11 := Lib.hid (A10.out.later b11)
        have C11 := Lib.hid (C10.out.later b11)
        have D11 := Lib.hid (D10.out.later b11)
        have E11 := Lib.hid (E.out.later b11)
        have K := Lib.hid i11
        have Bn11 := Lib.hid (below_nx Bn10.out b11)
        clear i11 b11
        go_wp2_with fail
        refine (HSp.out _ _ K.out).mono ?_
        rintro e u12 ⟨v12, rfl, i12, b12⟩
        have IO12 := Lib.hid (IO11.out.later b12)
        have A12 := Lib.hid (A11.out.later b12)
        have C12 := Lib.hid (C11.out.later b12)
        have D12 := Lib.hid (D11.out.later b12)
        have E12 := Lib.hid (E11.out.later b12)
        have K12 := Lib.hid (K.out.later b12)
        have G := Lib.hid i12
        have Bn12 := Lib.hid (below_nx Bn11.out b12)
        clear i12 b12
        go_wp2_with fail
        refine (HSs.out _ _ IO12.out).mono ?_
        rintro e u13 ⟨v13, rfl, i13, b13⟩
        have IO13 := Lib.hid (IO12.out.later b13)
        have A13 := Lib.hid (A12.out.later b13)
        have C13 := Lib.hid (C12.out.later b13)
        have D13 := Lib.hid (D12.out.later b13)
        have E13 := Lib.hid (E12.out.later b13)
        have G13 := Lib.hid (G.out.later b13)
        have J := Lib.hid i13
        have Bn13 := Lib.hid (below_nx Bn12.out b13)
        clear i13 b13
        go_wp2_with fail
        refine (HCl.out _ _ _ A13.out).mono ?_
        rintro e u14 ⟨v14, rfl, i14, b14⟩
        have A14 := Lib.hid (A13.out.later b14)
        have C14 := Lib.hid (C13.out.later b14)
        have D14 := Lib.hid (D13.out.later b14)
        have E14 := Lib.hid (E13.out.later b14)
        have G14 := Lib.hid (G13.out.later b14)
        have J14 := Lib.hid (J.out.later b14)
        have M := Lib.hid i14
        have Bn14 := Lib.hid (below_nx Bn13.out b14)
        clear i14 b14
        go_wp2_with fail
        refine (HBk.out _ _ M.out).mono ?_
        rintro e u15 ⟨v15, rfl, i15, b15⟩
        have A15 := Lib.hid (A14.out.later b15)
        have C15 := Lib.hid (C14.out.later b15)
        have D15 := Lib.hid (D14.out.later b15)
        have E15 := Lib.hid (E14.out.later b15)
        have G15 := Lib.hid (G14.out.later b15)
        have J15 := Lib.hid (J14.out.later b15)
        have M15 := Lib.hid (M.out.later b15)
        have R := Lib.hid i15
        have Bn15 := Lib.hid (below_nx Bn14.out b15)
        clear i15 b15
        have Az := A15
        have Cz := C15
        have Dz := D15
        have Ez := E15
        have Gz := G15
        have Jz := J15
        have Rz := R
        have Bz := Bn15
        obtain ⟨ab, ao, ac, ea, hac, had⟩ := tab_cells Az.out hm0
        obtain ⟨cb, co, cc, ec, hcc, hcd⟩ := tab_cells Cz.out hm0
        obtain ⟨gb2, go2, gc2, eg, hgc2, hgd2⟩ := tab_cells Gz.out hm0
        obtain ⟨jb, jo, jc, ej, hjc, hjd⟩ := tab_cells Jz.out hm0
        have HEr := Lib.hid (HE.out _ HZ1.out _ _ _ Rz.out (HV.out.later Bz.out))
        have HEd := Lib.hid (fun q => HE.out _ HZ2.out _ _ _ (Dz.out.later (below_drewN u15 q)) (Ez.out.later (below_drewN u15 q)))
        have HAd2 := Lib.hid had
        have HCd2 := Lib.hid hcd
        have HGd2 := Lib.hid hgd2
        have HJd2 := Lib.hid hjd
        clear had hcd hgd2 hjd Rz Dz Ez
        subst ea ec eg ej
        have hqz : ((q : Int) == 0) = false := by rw [beq_eq_false_iff_ne]; omega
        go_wp2_with fail
        refine HEr.out.mono ?_
        rintro e x1 ⟨rfl, r1, rfl⟩
        go_wp2_with fail
        refine (HEd.out r1).mono ?_
        rintro e x2 ⟨rfl, r2, rfl⟩
        have hdd : Below u15.heap.size u15 ((u15.drewN r1).drewN r2) := below_drewN' u15 r1 r2
        have HX := Lib.hid (below_nx Bz.out hdd)
        have AX := Lib.hid (fun i (hi : i < k) => cell_later hdd (HAd2.out i hi))
        have CX := Lib.hid (fun i (hi : i < k) => cell_later hdd (HCd2.out i hi))
        have GX := Lib.hid (fun i (hi : i < k) => cell_later hdd (HGd2.out i hi))
        have JX := Lib.hid (fun i (hi : i < k) => cell_later hdd (HJd2.out i hi))
        clear hdd HAd2 HCd2 HGd2 HJd2 HEr HEd Bz
        generalize (u15.drewN r1).drewN r2 = X at *
        go_wp2_with fail
        go_loopw [201] (fun i xr => ∃ j : Nat, j ≤ k ∧ i = .int .i64 (j : Int) ∧ Below X.heap.size X xr) (fun i _ => k - (intOf i).toNat)
        case atStart => exact ⟨0, Nat.zero_le _, rfl, Below.refl _ _⟩
        case round =>
          obtain ⟨j, hj, rfl, hbx⟩ := hrel
          have HBX := Lib.hid hbx
          clear hbx
          by_cases hlt : j < k
          · have e1 := cell_later HBX.out (AX.out j hlt)
            have e2 := cell_later HBX.out (CX.out j hlt)
            have e3 := cell_later HBX.out (GX.out j hlt)
            have e4 := cell_later HBX.out (JX.out j hlt)
            have l1 := HSl1.out j
            have l2 := HSl2.out j
            have hcv := HCv.out j hlt
            have had := HAd.out j hlt
            obtain ⟨hmm2, ht, ht2, hu, hu2, hw1, hw2, hl3, hl4, hqn, hws, hws2, g1, g2, g3, g4, g5, g6⟩ := prod_facts hq l1 l2 hcv had
            have n1 : (((sp j : Nat) : Int) == ((sp j : Nat) : Int)) = true := beq_self_eq_true _
            have n2 : (((sd j : Nat) : Int) == ((sd j : Nat) : Int)) = true := beq_self_eq_true _
            clear hcv had
            generalize sa j = y at *
            generalize sb j = z at *
            generalize sp j = ys2 at *
            generalize sd j = zs2 at *
            go_upto_region 25 with fail
            go_quiet (fail)
            go_wp2
            go_roundw
            case rel => exact ⟨j + 1, by omega, by go_num, by first | exact HBX.out | exact bl_drewN HBX.out _⟩
            case measure => simp only [intOf]; omega
          · obtain rfl : j = k := by omega
            go_wp2_with fail
            refine (HAw.out _).mono ?_
            rintro e y1 ⟨rfl, by1⟩
            go_wp2
            go_ret
            exact ⟨rfl, below_nx (below_nx HX.out HBX.out) by1⟩
  · have hbad : (circB n && [xs.take 19, ys.take 19].all (wheelB n.toNat)) = false := two_bad hbb
    have HTb := Lib.hid (fun a b W (ha : IntsV W a (xs.take 19)) (hb : IntsV W b (ys.take 19)) => Times_bad n (xs.take 19) (ys.take 19) a b W take19 ha take19 hb hbad)
    have hor : ((circB n && wheelB n.toNat xs) = true ∧ (circB n && wheelB n.toNat ys) = false) ∨ (circB n && wheelB n.toNat xs) = false := by
      cases hx : (circB n && wheelB n.toNat xs)
      · exact .inr rfl
      · cases hy : (circB n && wheelB n.toNat ys)
        · exact .inl ⟨rfl, rfl⟩
        · exact (hbb ⟨hx, hy⟩).elim
    obtain ⟨ao, cap, rfl, _, _⟩ := h
    obtain ⟨ao2, cap2, rfl, _, _⟩ := h'
    clear hbad hbb hl hm'
    rcases hor with ⟨hx, hy⟩ | hx
    · rw [hx] at HRf
      rw [hy] at HRg
      clear hx hy
      generalize xs.take 19 = us at *
      generalize ys.take 19 = vs at *
      go_enter Try.func10, Try.ntmps10
      go_wp2_with fail
      refine (HRf.out _ HV.out).mono ?_
      rintro e w1 ⟨rfl, rfl⟩
      go_wp2_with fail
      refine (HRg.out _ HU.out).mono ?_
      rintro e w1 ⟨rfl, rfl⟩
      go_wp2_with fail
      refine (HLf.out _ HV.out).mono ?_
      rintro e w1 ⟨v1, rfl, i1, b1⟩
      have I1 := Lib.hid i1
      have B1 := Lib.hid b1
      clear i1 b1
      go_wp2_with fail
      refine (HLg.out _ (HU.out.later B1.out)).mono ?_
      rintro e w2 ⟨v2, rfl, i2, b2⟩
      have J1 := Lib.hid (I1.out.later b2)
      have I2 := Lib.hid i2
      have B2 := Lib.hid (below_nx B1.out b2)
      clear i2 b2
      go_wp2_with fail
      refine (HTb.out _ _ _ J1.out I2.out).mono ?_
      rintro e w3 ⟨rfl, b3⟩
      have B3 := Lib.hid (below_nx B2.out b3)
      clear b3
      go_wp2_with fail
      refine (HAw.out _).mono ?_
      rintro e w4 ⟨rfl, b4⟩
      go_wp2
      go_ret
      exact ⟨rfl, below_nx B3.out b4⟩
    · rw [hx] at HRf
      clear hx HRg
      generalize xs.take 19 = us at *
      generalize ys.take 19 = vs at *
      go_enter Try.func10, Try.ntmps10
      go_wp2_with fail
      refine (HRf.out _ HV.out).mono ?_
      rintro e w1 ⟨rfl, rfl⟩
      go_wp2_with fail
      refine (HLf.out _ HV.out).mono ?_
      rintro e w1 ⟨v1, rfl, i1, b1⟩
      have I1 := Lib.hid i1
      have B1 := Lib.hid b1
      clear i1 b1
      go_wp2_with fail
      refine (HLg.out _ (HU.out.later B1.out)).mono ?_
      rintro e w2 ⟨v2, rfl, i2, b2⟩
      have J1 := Lib.hid (I1.out.later b2)
      have I2 := Lib.hid i2
      have B2 := Lib.hid (below_nx B1.out b2)
      clear i2 b2
      go_wp2_with fail
      refine (HTb.out _ _ _ J1.out I2.out).mono ?_
      rintro e w3 ⟨rfl, b3⟩
      have B3 := Lib.hid (below_nx B2.out b3)
      clear b3
      go_wp2_with fail
      refine (HAw.out _).mono ?_
      rintro e w4 ⟨rfl, b4⟩
      go_wp2
      go_ret
      exact ⟨rfl, below_nx B3.out b4⟩
end Go.Proofs.Ytcgaaebogkhefaa

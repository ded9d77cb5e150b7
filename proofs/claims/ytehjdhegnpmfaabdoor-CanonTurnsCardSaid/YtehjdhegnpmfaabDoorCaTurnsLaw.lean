/-
  The walk of the statement on turned and multiplied rhythms.
-/
import Derived.Test.YtehjdhegnpmfaabDoorCaPartsLaw
import Derived.Test.YtehjdhegnpmfaabDoorCaTurn
import Derived.LoopIn
namespace Go.Proofs.YtehjdhegnpmfaabDoor
open Go.RowKit Go.Shelf
attribute [local go_sem] Oper.semAt_some
set_option maxRecDepth 100000

/-- What Tiles says of a rhythm and another number, and of the rhythm multiplied. -/
theorem tiles_both (n a : Nat) (b : Int) (hn : 2 ≤ n) (hn2 : n ≤ 24) (ha : a < 2 ^ n) (ha1 : a % 2 = 1) : ∃ (ok : Bool) (err : Nat),
    (∀ W : World, Tab W → Calls Tryd.prog 14 #[.int .i64 n, .int .i64 a, .int .i64 b] W fun e w' => e = .returned (.tuple #[.bool ok, .int .i64 err]) ∧ Below W.heap.size W w') ∧
    ((ok = false ∧ (err = 0 ∨ err = 2)) ∨ (ok = true ∧ err = 0 ∧ ∀ m : Nat, 1 ≤ m → Nat.gcd m n = 1 → ∀ W : World, Tab W → Calls Tryd.prog 14 #[.int .i64 n, .int .i64 ((turnN n m a : Nat) : Int), .int .i64 b] W fun e w' => e = .returned (.tuple #[.bool true, .int .i64 0]) ∧ Below W.heap.size W w')) := by
  cases hb : vldB n b
  · exact ⟨false, 2, fun W _ => Tiles_bad n a b (by rw [hb, Bool.and_false]) W, Or.inl ⟨rfl, Or.inr rfl⟩⟩
  · obtain ⟨n', b, hnn, rfl, _, _, hb2, hb1⟩ := vldB_nat hb
    obtain rfl : n = n' := by omega
    cases ht : tileB n a b
    · refine ⟨false, 0, fun W hT => ?_, Or.inl ⟨rfl, Or.inl rfl⟩⟩
      have := Tiles_ok n a b hn hn2 ha hb2 ha1 hb1 W hT
      rw [ht] at this
      exact this
    · refine ⟨true, 0, fun W hT => ?_, Or.inr ⟨rfl, rfl, fun m hm hg W hT => ?_⟩⟩
      · have := Tiles_ok n a b hn hn2 ha hb2 ha1 hb1 W hT
        rw [ht] at this
        exact this
      · have := Tiles_ok n (turnN n m a) b hn hn2 (turn_lt (by omega)) hb2 (turn_odd (by omega) ha1) hb1 W hT
        rw [tileB_true.2 (tile_turn (by omega) hm hg (tileB_true.1 ht))] at this
        exact this

/-- A region that draws its order, whose callees may make memory of their own: all worlds that lie upon this one are one class. -/
theorem region_calm {P : Program} {id : Nat} {Q : Exit → Act → World → Prop} {a : Act} {w : World} {l : List Oper} (hm : P.follows .mixedOrders = true) (hB : Region.lexB .any l.toArray = true)
    (h : ∀ (S : Type) (_ : Nonempty S) (f : S → World), (∀ s, Below w.heap.size w (f s)) → (∀ W, Below w.heap.size w W → ∃ s, W = f s) → wpQuiet P l.toArray (fun w' => ∃ s, w' = f s) (fun a' => ∀ w', (∃ s, w' = f s) → Q .normal a' w') l a) :
    (Code.region id l.toArray true).wp P Q a w :=
  wp_region_quiet (C := fun w' => ∃ s : {W : World // Below w.heap.size w W}, w' = s.val) hm hB ⟨⟨w.drew, (Below.refl _ w).drew⟩, rfl⟩ (by
    have := h {W : World // Below w.heap.size w W} ⟨⟨w.drew, (Below.refl _ w).drew⟩⟩ Subtype.val (fun s => s.property) (fun W hW => ⟨⟨W, hW⟩, rfl⟩)
    simpa using this)

set_option maxHeartbeats 2000000 in
theorem CanonTurns_walk (n a b x : Int) (_w0 : (Lit.int .i64 n).wf = true) (_w1 : (Lit.int .i64 a).wf = true) (_w2 : (Lit.int .i64 b).wf = true) (w3 : (Lit.int .i64 x).wf = true) (w : World) (hT : Tab w) :
    Calls Tryd.prog 12 #[.int .i64 n, .int .i64 a, .int .i64 b, .int .i64 x] w fun e w' => e = .returned (.bool true) ∧ Below w.heap.size w w' := by
  obtain ⟨W0, hW0⟩ : ∃ W0, (w.alloc (.cells #[.int .i64 n] 3)).alloc (.cells #[.int .i64 a] 3) = W0 := ⟨_, rfl⟩
  have b0 : Below w.heap.size w W0 := by rw [← hW0]; exact ((Below.refl _ w).alloc (Nat.le_refl _) _).alloc (by simp) _
  have t0 := hT.same b0
  have k0 : W0.cell? ⟨w.heap.size, 0, none⟩ = some (.int .i64 n) := by rw [← hW0]; exact cell_up (cell_at rfl)
  have k1 : W0.cell? ⟨w.heap.size + 1, 0, none⟩ = some (.int .i64 a) := by rw [← hW0]; exact cell_at (by simp)
  cases hv : vldB n a
  · have HVa := Lib.hid (Rhythm_any n a)
    rw [hv] at HVa
    have H2 := Lib.hid (Partners_bad n a hv)
    have HW := Lib.hid hW0
    clear hv hW0
    go_enter Tryd.func12, Tryd.ntmps12
    go_wp2_with fail
    rw [HW.out]
    refine (HVa.out _).mono ?_
    rintro e w3 ⟨rfl, rfl⟩
    go_wp2_with fail
    refine (H2.out _).mono ?_
    rintro e w2 ⟨rfl, b2⟩
    have t2 := t0.same b2
    have c2 := below_next b0 b2
    go_wp2_with fail
    refine (awake2_any _ t2).mono ?_
    rintro e w4 ⟨rfl, b4⟩
    go_wp2
    go_ret
    exact ⟨rfl, below_next c2 b4⟩
  · have HVa := Lib.hid (Rhythm_any n a)
    rw [hv] at HVa
    obtain ⟨n, a, rfl, rfl, hn, hn2, ha, ha1⟩ := vldB_nat hv
    have HPs := Lib.hid (Partners_ok n a hn hn2 ha ha1)
    have HPt := Lib.hid (Partners_ok n (turnN n (n - 1) a) hn hn2 (turn_lt (by omega)) (turn_odd (by omega) ha1))
    rw [turn_count hn hn2 ha ha1] at HPt
    have HPr := Lib.hid (Partner_ok n a hn hn2 ha ha1)
    have HTn := Lib.hid (turned_any n a (n - 1) w.heap.size (w.heap.size + 1) hn hn2 ha (by omega))
    have HTm := Lib.hid (fun m hm => turned_any n a m w.heap.size (w.heap.size + 1) hn hn2 ha hm)
    obtain ⟨ok, err, hti, hres⟩ := tiles_both n a b hn hn2 ha ha1
    have HTi := Lib.hid hti
    have HRes := Lib.hid hres
    have hnn : ((n - 1 : Nat) : Int) = (n : Int) - 1 := by omega
    rw [hnn] at HTn
    have HX : Hid (partners n a = [] ↔ (partners n a).length = 0) := Lib.hid List.length_eq_zero_iff.symm
    have HL := Lib.hid (show (partners n a).length ≤ 2 ^ n from nodup_length (partners_nodup (by omega) (by omega) ha) (fun x hx => ((mem_partners (by omega) (by omega) ha ha1).1 hx).1))
    have HW := Lib.hid hW0
    generalize partners n a = xs at HPs HPt HPr HX HL
    generalize xs.length = L at HPs HPt HX HL
    generalize hA' : turnN n (n - 1) a = A' at HPt HTn
    have hmx : Tryd.prog.follows .mixedOrders = true := by kernel_rfl
    clear hv ha ha1 hti hres hW0 hnn hA'
    go_enter Tryd.func12, Tryd.ntmps12
    go_wp2_with fail
    rw [HW.out]
    refine (HVa.out _).mono ?_
    rintro e w3 ⟨rfl, rfl⟩
    go_wp2_with fail
    refine (HPs.out _ t0).mono ?_
    rintro e w1 ⟨rfl, b1⟩
    have t1 := t0.same b1
    have c1 := below_next b0 b1
    have k0 := cell_later b1 k0
    have k1 := cell_later b1 k1
    go_wp2
    refine region_calm hmx (by kernel_rfl) ?_
    intro S hSn f hS1 hS2
    have hld : ∀ s, (f s).cell? ⟨w.heap.size, 0, none⟩ = some (.int .i64 n) := fun s => cell_later (hS1 s) k0
    have hTc := Lib.hid (show ∀ s, Calls Tryd.prog 45 #[.int .i64 ((n : Int) - 1), .pointer (some ⟨w.heap.size, 0, none⟩), .pointer (some ⟨w.heap.size + 1, 0, none⟩)] (f s) (fun e w' => e = .returned (.int .i64 (A' : Int)) ∧ ∃ s', w' = f s') from
      fun s => (HTn.out (f s) (cell_later (hS1 s) k0) (cell_later (hS1 s) k1)).mono fun e w' h => ⟨h.1, s, h.2.symm⟩)
    have hPc := Lib.hid (show ∀ s, Calls Tryd.prog 21 #[.int .i64 n, .int .i64 (A' : Int)] (f s) (fun e w' => e = .returned (.tuple #[.int .i64 (L : Nat), .int .i64 0]) ∧ ∃ s', w' = f s') from
      fun s => (HPt.out (f s) (t1.same (hS1 s))).mono fun e w' h => ⟨h.1, hS2 _ (below_next (hS1 s) h.2)⟩)
    repeat (go_big_quiet_step (first | exact hTc.out _ | exact hPc.out _))
    refine wpQuiet_nil ?_
    rintro _ ⟨s, rfl⟩
    have hbs := hS1 s
    generalize f s = w2 at hbs
    have t2 := t1.same hbs
    have c2 := below_next c1 hbs
    have k2 := cell_later hbs k0
    have k3 := cell_later hbs k1
    clear hld hTc hPc hS1 hS2 hbs t1 c1 k0 k1 b1
    dsimp only [Exit.then]
    go_wp2_with fail
    refine (HPr.out _ t2).mono ?_
    rintro e w4 ⟨hr4, b4⟩
    have t4 := t2.same b4
    have c4 := below_next c2 b4
    have k4 := cell_later b4 k2
    have k5 := cell_later b4 k3
    have key : ∃ q er : Nat, e = .returned (.tuple #[.int .i64 q, .int .i64 er]) ∧ ((er = 0 ∧ 0 < L) ∨ (er = 4 ∧ L = 0)) := by
      rcases hr4 with ⟨h1, rfl⟩ | ⟨q, h1, _, rfl⟩
      · exact ⟨0, 4, rfl, Or.inr ⟨rfl, HX.out.1 h1⟩⟩
      · refine ⟨q, 0, rfl, Or.inl ⟨rfl, ?_⟩⟩
        rcases Nat.eq_zero_or_pos L with h | h
        · rw [HX.out.2 h] at h1; cases h1
        · exact h
    obtain ⟨q, er, rfl, hq⟩ := key
    clear hr4 b4 t2 c2 k2 k3
    rcases hq with ⟨rfl, hL⟩ | ⟨rfl, rfl⟩
    all_goals
      go_wp2_with fail
      refine (HTi.out _ t4).mono ?_
      rintro e w5 ⟨rfl, b5⟩
      have t5 := t4.same b5
      have c5 := below_next c4 b5
      have k6 := cell_later b5 k4
      have k7 := cell_later b5 k5
      clear b5 t4 c4 k4 k5
      rcases HRes.out with ⟨rfl, rfl | rfl⟩ | ⟨rfl, rfl, hm⟩
      · go_wp2_with fail
        refine (awake2_any _ t5).mono ?_
        rintro e w6 ⟨rfl, b6⟩
        go_wp2
        go_ret
        exact ⟨rfl, below_next c5 b6⟩
      · go_wp2_with fail
        refine (awake2_any _ t5).mono ?_
        rintro e w6 ⟨rfl, b6⟩
        go_wp2
        go_ret
        exact ⟨rfl, below_next c5 b6⟩
      · have HM := Lib.hid hm
        obtain ⟨μ, hμ1, hμ2⟩ : ∃ μ : Nat, (IntKind.u64.wrap x).tmod (n : Int) = (μ : Int) ∧ μ < n := by
          obtain ⟨U, hU⟩ : ∃ U : Nat, IntKind.u64.wrap x = (U : Int) := Int.eq_ofNat_of_zero_le (wrap_u64_nonneg x)
          exact ⟨U % n, by rw [hU, Int.tmod_eq_emod_of_nonneg (by omega)]; simp, Nat.mod_lt _ (by omega)⟩
        clear hm HRes
        go_wp2
        go_quiet (fail)
        go_wp2
        have hg0 : Nat.gcd (μ + 1) n = Nat.gcd (μ + 1) n := rfl
        go_loopw [17, 18] (fun p q wr => ∃ u v k : Nat, p = .int .i64 u ∧ q = .int .i64 v ∧ u ≤ 24 ∧ v ≤ 24 ∧ Nat.gcd u v = Nat.gcd (μ + 1) n ∧ wr = w5.drewN k) (fun _ q _ => (intOf q).toNat)
        case atStart => exact ⟨μ + 1, n, _, by simp [Int.add_comm], rfl, by omega, hn2, rfl, rfl⟩
        case round =>
          obtain ⟨u, v, k, rfl, rfl, hu, hv, hg, rfl⟩ := hrel
          by_cases hv0 : v = 0
          · subst hv0
            rw [Nat.gcd_zero_right] at hg
            by_cases hu1 : u = 1
            · subst hu1
              have HG := Lib.hid hg.symm
              clear hg hg0
              go_wp2
              have t6 := t5.below (below_drewN (Below.refl _ _) k) t5.size
              have c6 := below_drewN c5 k
              have k8 : (w5.drewN k).cell? ⟨w.heap.size, 0, none⟩ = some (.int .i64 n) := k6
              have k9 : (w5.drewN k).cell? ⟨w.heap.size + 1, 0, none⟩ = some (.int .i64 a) := k7
              generalize w5.drewN k = w7 at t6 c6 k8 k9 ⊢
              refine region_calm hmx (by kernel_rfl) ?_
              intro S hSn f hS1 hS2
              have hld : ∀ s, (f s).cell? ⟨w.heap.size, 0, none⟩ = some (.int .i64 n) := fun s => cell_later (hS1 s) k8
              have hTc := Lib.hid (show ∀ s, Calls Tryd.prog 45 #[.int .i64 (1 + (μ : Int)), .pointer (some ⟨w.heap.size, 0, none⟩), .pointer (some ⟨w.heap.size + 1, 0, none⟩)] (f s) (fun e w' => e = .returned (.int .i64 ((turnN n (μ + 1) a : Nat) : Int)) ∧ ∃ s', w' = f s') from
                fun s => by
                  have := (HTm.out (μ + 1) (by omega) (f s) (cell_later (hS1 s) k8) (cell_later (hS1 s) k9)).mono fun e w' h => (⟨h.1, s, h.2.symm⟩ : e = .returned (.int .i64 ((turnN n (μ + 1) a : Nat) : Int)) ∧ ∃ s', w' = f s')
                  rwa [show ((μ + 1 : Nat) : Int) = 1 + (μ : Int) from by omega] at this)
              have hPc := Lib.hid (show ∀ s, Calls Tryd.prog 14 #[.int .i64 n, .int .i64 ((turnN n (μ + 1) a : Nat) : Int), .int .i64 b] (f s) (fun e w' => e = .returned (.tuple #[.bool true, .int .i64 0]) ∧ ∃ s', w' = f s') from
                fun s => (HM.out (μ + 1) (by omega) HG.out (f s) (t6.same (hS1 s))).mono fun e w' h => ⟨h.1, hS2 _ (below_next (hS1 s) h.2)⟩)
              repeat (go_big_quiet_step (first | exact hTc.out _ | exact hPc.out _))
              refine wpQuiet_nil ?_
              rintro _ ⟨s, rfl⟩
              have hbs := hS1 s
              generalize f s = w8 at hbs
              have t8 := t6.same hbs
              have c8 := below_next c6 hbs
              clear hld hTc hPc hS1 hS2 hbs
              dsimp only [Exit.then]
              go_wp2_with fail
              refine (awake2_any _ t8).mono ?_
              rintro e w9 ⟨rfl, b9⟩
              go_wp2
              go_ret
              exact ⟨rfl, below_next c8 b9⟩
            · have q1 : ((u : Int) != 1) = true := by rw [bne_iff_ne]; omega
              clear hg hg0
              go_wp2_with fail
              refine (awake2_any _ (t5.below (below_drewN (Below.refl _ _) k) t5.size)).mono ?_
              rintro e w6 ⟨rfl, b6⟩
              go_wp2
              go_ret
              exact ⟨rfl, below_next (below_drewN c5 k) b6⟩
          · have hg2 : Nat.gcd v (u % v) = Nat.gcd (μ + 1) n := by rw [← hg, Nat.gcd_comm u v, Nat.gcd_rec v u, Nat.gcd_comm]
            have hm1 : u % v < v := Nat.mod_lt _ (by omega)
            have hmod : (u : Int).tmod (v : Int) = ((u % v : Nat) : Int) := by rw [Int.tmod_eq_emod_of_nonneg (by omega)]; simp
            have hvz : ((v : Int) == 0) = false := by rw [beq_eq_false_iff_ne]; omega
            have HG := Lib.hid hg2
            clear hg hg2 hg0
            generalize u % v = r at hm1 hmod HG
            go_wp2
            go_quiet (fail)
            go_wp2
            go_roundw
            case rel => exact ⟨v, r, _, rfl, rfl, hv, by omega, HG.out, by rw [World.drewN_drewN]⟩
            case measure => simp only [intOf]; omega

end Go.Proofs.YtehjdhegnpmfaabDoor

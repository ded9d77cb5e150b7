/-
  The reference's product of wheels.
-/
import Derived.Test.YtlmfmfbnbbooaaaWhRef3
namespace Go.Proofs.Ytlmfmfbnbbooaaa
open Go.ChangeShapes Go.WideShapes Go.ChangeAt Go.RowKit
set_option linter.unusedVariables false
set_option maxRecDepth 100000

/-- The product's sums so far. -/
def tmF (n : Nat) (f g : Nat → Nat) (k m : Nat) : Nat := sumN m (fun y => f y * g ((k + n - y) % n)) % qN n
theorem tmF_succ {n : Nat} (f g : Nat → Nat) (k m : Nat) : (tmF n f g k m + f m * g ((k + n - m) % n)) % qN n = tmF n f g k (m + 1) := by
  unfold tmF; simp only [sumN]; rw [Nat.add_mod, Nat.mod_mod, ← Nat.add_mod]
theorem sub_factsT {n X Y : Nat} (hX : X < n) (hY : Y < n) (hn : n < 17) : ((X : Int) - (Y : Int) + (n : Int)) = ((X + n - Y : Nat) : Int) ∧ (((X + n - Y : Nat) : Int).tmod (n : Int)) = (((X + n - Y) % n : Nat) : Int) ∧ ((X + n - Y : Nat) : Int) % (n : Int) = (((X + n - Y) % n : Nat) : Int) := by
  refine ⟨by omega, ?_, ?_⟩
  · rw [Int.tmod_eq_emod_of_nonneg (Int.natCast_nonneg _)]; rfl
  · rfl

set_option maxHeartbeats 2000000 in
theorem RTimes_any (n : Nat) (h : Circ n) (f g : Nat → Nat) (hf : ∀ x, f x < qN n) (hg : ∀ x, g x < qN n) (v u : Value) (w : World) (hv : IntsV w v (natI (tabN n f))) (hu : IntsV w u (natI (tabN n g))) :
    Calls Try.prog 23 #[.int .i64 (n : Int), v, u] w fun r w' => ∃ B, r = .returned (.slice (some ⟨B, 0, none⟩) n n) ∧ w.heap.size ≤ B ∧ Out w B n (tiF n f g) w' := by
  have hmx : Try.prog.follows .mixedOrders = true := by kernel_rfl
  have hn17 := h.2
  have hn0 := h.pos
  have hq := h.q_le
  have hq0 := h.q_pos
  obtain ⟨fb, fo, fc, rfl, hfc, hfd⟩ := cells_of hv hn0
  obtain ⟨gb, go, gc, rfl, hgc, hgd⟩ := cells_of hu hn0
  have HFd := Lib.hid hfd
  have HGd := Lib.hid hgd
  have HPr := Lib.hid (fun W => RPrime_any n h W)
  have HFl := Lib.hid hf
  have HGl := Lib.hid hg
  have HSm := Lib.hid (fun k m => tmF_succ (n := n) f g k m)
  have HSl := Lib.hid (fun k m => show tmF n f g k m < qN n from Nat.mod_lt _ h.q_pos)
  have HS0 := Lib.hid (fun k => show tmF n f g k 0 = 0 by unfold tmF; simp [sumN])
  have hmk := fun W => run_make_zero n (by omega) W
  have HGk := Lib.hid (fun k (hk : k < n) => show tiF n f g k = tmF n f g k n by unfold tiF tmF; rw [if_pos hk])
  have HGa := Lib.hid (uptF_all (ti_wh h f g))
  clear hf hg hv hu hfd hgd h
  generalize tiF n f g = G at *
  have hn0' : ((n : Int) == 0) = false := by rw [beq_eq_false_iff_ne]; omega
  have hq0' : (((qN n : Nat) : Int) == 0) = false := by rw [beq_eq_false_iff_ne]; omega
  go_enter Try.func23, Try.ntmps23
  go_wp2_with fail
  refine (HPr.out _).mono ?_
  rintro r w1 ⟨rfl, rfl⟩
  obtain ⟨B, hB⟩ : ∃ B, w.heap.size = B := ⟨_, rfl⟩
  have HO0 := Lib.hid (Out.new n (Below.refl w.heap.size w) hB)
  go_wp2_with fail
  go_loopw [17] (fun i wr => ∃ k : Nat, k ≤ n ∧ i = .int .i64 (k : Int) ∧ Out w B n (uptF k G) wr) (fun i _ => n - (intOf i).toNat)
  case atStart => exact ⟨0, Nat.zero_le _, rfl, by rw [uptF_zero]; exact HO0.out⟩
  case round =>
    obtain ⟨k, hk, rfl, hO⟩ := hrel
    have HO := Lib.hid hO
    clear hO
    by_cases hlt : k < n
    · go_wp2_with fail
      go_loopw [22] (fun i wr => ∃ x : Nat, x ≤ n ∧ i = .int .i64 (x : Int) ∧ Out w B n (fun j => if j = k then tmF n f g k x else uptF k G j) wr) (fun i _ => n - (intOf i).toNat)
      case atStart =>
        refine ⟨0, Nat.zero_le _, rfl, ?_⟩
        have e0 : (fun j => if j = k then tmF n f g k 0 else uptF k G j) = uptF k G := by
          funext j
          by_cases hj : j = k
          · rw [if_pos hj, HS0.out, hj]; simp [uptF]
          · rw [if_neg hj]
        rw [e0]; exact HO.out
      case round =>
        obtain ⟨x, hx, rfl, hO⟩ := hrel
        have HO := Lib.hid hO
        clear hO
        by_cases hlt2 : x < n
        · have c1 := cell_later (show Below w.heap.size w wr from HO.out.hb) (HFd.out x hlt2)
          have hdn := Nat.mod_lt (k + n - x) hn0
          have c3 := cell_later (show Below w.heap.size w wr from HO.out.hb) (HGd.out _ hdn)
          have c2 := HO.out.at hlt
          rw [if_pos rfl] at c2
          have f2 := HO.out.row.frozen k
          obtain ⟨s1, s2, s3⟩ := sub_factsT hlt hlt2 hn17
          have s4 : IntKind.i64.wrap ((k : Int) - (x : Int)) = (k : Int) - (x : Int) := IntWalk.i64_in _ (by omega)
          have hsb : k + n - x ≤ 40 := by omega
          have hfx := HFl.out x
          have hgx := HGl.out ((k + n - x) % n)
          have hsl := HSl.out k x
          have hmb := mul_bd (show f x ≤ 100000 by omega) (show g ((k + n - x) % n) ≤ 100000 by omega)
          have HV := Lib.hid (show (((tmF n f g k x : Nat) : Int) + ((f x : Nat) : Int) * ((g ((k + n - x) % n) : Nat) : Int)) % ((qN n : Nat) : Int) = ((tmF n f g k (x + 1) : Nat) : Int) by rw [← HSm.out]; simp)
          have HNx := Lib.hid (fun W (hO : Out w B n (fun j => if j = k then tmF n f g k x else uptF k G j) W) => show Out w B n (fun j => if j = k then tmF n f g k (x + 1) else uptF k G j) (W.setCell ⟨B, k, none⟩ (.int .i64 ((((tmF n f g k x : Nat) : Int) + ((f x : Nat) : Int) * ((g ((k + n - x) % n) : Nat) : Int)) % ((qN n : Nat) : Int)))) from by
            have := hO.set (by omega) hlt (tmF n f g k (x + 1))
            rw [HV.out]
            have e1 : (fun j => if j = k then tmF n f g k (x + 1) else if j = k then tmF n f g k x else uptF k G j) = (fun j => if j = k then tmF n f g k (x + 1) else uptF k G j) := by
              funext j; by_cases hj : j = k <;> simp [hj]
            rw [e1] at this
            exact this)
          generalize g ((k + n - x) % n) = gx at *
          generalize (k + n - x) % n = d at *
          generalize k + n - x = sb at *
          generalize hsx : tmF n f g k x = sx at *
          generalize f x = fx at *
          clear HV
          go_upto_region 9 with fail
          refine region_calm_tail 25 hmx (by kernel_rfl) ?_
          simp only [List.take_succ_cons, List.take_zero, List.drop_succ_cons, List.drop_zero]
          intro S hSn fw hS1 hS2
          have l0 := fun z => cell_later (hS1 z) c1
          have l1 := fun z => cell_later (hS1 z) c2
          have l2 := fun z => cell_later (hS1 z) c3
          repeat (go_big_quiet_step (fail))
          refine wpQuiet_nil ?_
          rintro _ ⟨z, rfl⟩
          have hO4 := HO.out.later (hS1 z)
          generalize fw z = w4 at hO4
          have HO5 := Lib.hid (HNx.out _ hO4)
          have e1 := hO4.at hlt
          rw [if_pos rfl] at e1
          have e2 := hO4.row.frozen k
          clear l0 l1 l2 hS1 hS2 hO4 c1 c2 c3 f2
          try dsimp only [Exit.then]
          go_wp2
          go_roundw
          case rel => exact ⟨x + 1, by omega, by go_num, HO5.out⟩
          case measure => simp only [intOf]; omega
        · obtain rfl : x = n := by omega
          rw [show (fun j => if j = k then tmF x f g k x else uptF k G j) = uptF (k + 1) G from by rw [← HGk.out k hlt]; exact uptF_succ k G] at HO
          go_wp2
          go_roundw
          case rel => exact ⟨k + 1, by omega, by go_num, HO.out⟩
          case measure => simp only [intOf]; omega
    · obtain rfl : k = n := by omega
      rw [HGa.out] at HO
      go_wp2
      go_ret
      exact ⟨B, rfl, by omega, HO.out⟩

/-- The quotient's spectrum, as far as it is written. -/
theorem ivF_at {n k : Nat} (hk : k < n) (f : Nat → Nat) : ivF n f k = ivN n (f k) := by unfold ivF; rw [if_pos hk]
def qtF (n : Nat) (a b : Nat → Nat) (m x : Nat) : Nat := if x < m then piF n a (ivF n b) x else a x
theorem qtF_zero (n : Nat) (a b : Nat → Nat) : qtF n a b 0 = a := by funext x; simp [qtF]
theorem qtF_at {n k : Nat} (a b : Nat → Nat) : qtF n a b k k = a k := by simp [qtF]
theorem qtF_succ (n k : Nat) (a b : Nat → Nat) : (fun x => if x = k then piF n a (ivF n b) k else qtF n a b k x) = qtF n a b (k + 1) := by
  funext x
  unfold qtF
  by_cases e : x = k
  · rw [if_pos e, if_pos (by omega), e]
  · rw [if_neg e]
    by_cases e2 : x < k
    · rw [if_pos e2, if_pos (by omega)]
    · rw [if_neg e2, if_neg (by omega)]
theorem qtF_all {n : Nat} (h : Circ n) (a : Nat → Nat) {b : Nat → Nat} (ha : IsWh n a) : qtF n a b n = piF n a (ivF n b) := by
  funext x
  unfold qtF
  by_cases e : x < n
  · rw [if_pos e]
  · rw [if_neg e, ha.out x (by omega), (pi_wh h a (iv_wh h b)).out x (by omega)]

set_option maxHeartbeats 2000000 in
theorem RDivide_any (n : Nat) (h : Circ n) (f g : Nat → Nat) (hf : ∀ x, f x < qN n) (hg : ∀ x, g x < qN n) (v u : Value) (w : World) (hv : IntsV w v (natI (tabN n f))) (hu : IntsV w u (natI (tabN n g))) :
    Calls Try.prog 21 #[.int .i64 (n : Int), v, u] w fun r w' => ∃ v', Below w.heap.size w w' ∧ (((∃ k, k < n ∧ spF n g k = 0) ∧ r = .returned (.tuple #[.slice none 0 0, .int .i64 5]) ∧ v' = .slice none 0 0) ∨ ((∀ k, k < n → spF n g k ≠ 0) ∧ r = .returned (.tuple #[v', .int .i64 0]) ∧ IntsV w' v' (natI (tabN n (baF n (piF n (spF n f) (ivF n (spF n g)))))))) := by
  have hmx : Try.prog.follows .mixedOrders = true := by kernel_rfl
  have hn17 := h.2
  have hn0 := h.pos
  have hq := h.q_le
  have hq0 := h.q_pos
  have HPr := Lib.hid (fun W => RPrime_any n h W)
  have HSf := Lib.hid (fun W (hv : IntsV W v (natI (tabN n f))) => RSpectrum_any n h f hf v W hv)
  have HSg := Lib.hid (fun W (hu : IntsV W u (natI (tabN n g))) => RSpectrum_any n h g hg u W hu)
  have HVf := Lib.hid hv
  have HVg := Lib.hid hu
  have HIv := Lib.hid (fun x (hx : x ≤ 100) W => Rinverse_any n h x hx W)
  have HSlf := Lib.hid (sp_wh h f).lt
  have HSlg := Lib.hid (sp_wh h g).lt
  have HAll := Lib.hid (qtF_all h (spF n f) (b := spF n g) (sp_wh h f))
  have HBa := Lib.hid (fun a W (ha : IntsV W a (natI (tabN n (piF n (spF n f) (ivF n (spF n g)))))) => RBack_any n h _ (pi_wh h (spF n f) (iv_wh h (spF n g))).lt a W ha)
  have HNk := Lib.hid (fun k (hk : k < n) => show (((spF n f k : Nat) : Int) * ((ivN n (spF n g k) : Nat) : Int)) % ((qN n : Nat) : Int) = ((piF n (spF n f) (ivF n (spF n g)) k : Nat) : Int) from by unfold piF; rw [ivF_at hk]; simp)
  have HIl := Lib.hid (fun x => show ivN n x < qN n from Nat.mod_lt _ h.q_pos)
  obtain ⟨fb, fo, fc, rfl, _, _⟩ := cells_of hv hn0
  obtain ⟨gb, go, gc, rfl, _, _⟩ := cells_of hu hn0
  clear hv hu hf hg h
  have HQ0 := Lib.hid (qtF_zero n (spF n f) (spF n g))
  have HQa := Lib.hid (fun k => qtF_at (n := n) (k := k) (spF n f) (spF n g))
  have HQs := Lib.hid (fun k => qtF_succ n k (spF n f) (spF n g))
  generalize piF n (spF n f) (ivF n (spF n g)) = pf at *
  generalize qtF n (spF n f) (spF n g) = qt at *
  generalize spF n f = sf at *
  generalize spF n g = sg at *
  have hq0' : (((qN n : Nat) : Int) == 0) = false := by rw [beq_eq_false_iff_ne]; omega
  go_enter Try.func21, Try.ntmps21
  go_wp2_with fail
  refine (HPr.out _).mono ?_
  rintro r w1 ⟨rfl, rfl⟩
  go_wp2_with fail
  refine (HSf.out _ HVf.out).mono ?_
  rintro r w1 ⟨g0, rfl, hg0, hO0⟩
  have HO0 := Lib.hid hO0
  have hO0b := hO0.hb
  clear hO0
  go_wp2_with fail
  refine (HSg.out _ (HVg.out.later hO0b)).mono ?_
  rintro r w2 ⟨g1, rfl, hg1, hO1⟩
  have HO1 := Lib.hid hO1
  have HO2 := Lib.hid (HO0.out.later hO1.hb)
  have hgg : g0 < g1 := Nat.lt_of_lt_of_le HO0.out.row.lt hg1
  clear hO1 hO0b
  go_wp2_with fail
  go_loopw [23] (fun i wr => ∃ k : Nat, k ≤ n ∧ i = .int .i64 (k : Int) ∧ Out w g0 n (qt k) wr ∧ Row wr g1 3 (ints (tabN n sg)) ∧ ∀ j, j < k → sg j ≠ 0) (fun i _ => n - (intOf i).toNat)
  case atStart => exact ⟨0, Nat.zero_le _, rfl, by rw [HQ0.out]; exact HO2.out, HO1.out.row, by intros; omega⟩
  case round =>
    obtain ⟨k, hk, rfl, hO, hS, hz⟩ := hrel
    have HO := Lib.hid hO
    have HSS := Lib.hid hS
    have HZ := Lib.hid hz
    clear hO hS hz
    by_cases hlt : k < n
    · have c1 := HO.out.at hlt
      rw [HQa.out] at c1
      have c2 : wr.cell? ⟨g1, k, none⟩ = some (.int .i64 ((sg k : Nat) : Int)) := by rw [HSS.out.cell, ints_at (by rw [tabN_length]; exact hlt), tabN_at hlt]
      have b1 := HSlf.out k
      have b2 := HSlg.out k
      by_cases hz0 : sg k = 0
      · have HEx := Lib.hid (show ∃ k, k < n ∧ sg k = 0 from ⟨k, hlt, hz0⟩)
        rw [hz0] at c2
        go_wp2
        go_ret2
        exact ⟨.slice none 0 0, HO.out.hb, .inl ⟨HEx.out, rfl, rfl⟩⟩
      · have q1 : (((sg k : Nat) : Int) == 0) = false := by rw [beq_eq_false_iff_ne]; omega
        have HZ2 := Lib.hid (show ∀ j, j < k + 1 → sg j ≠ 0 from fun j hj => by
          by_cases e : j = k
          · rw [e]; exact hz0
          · exact HZ.out j (by omega))
        have HIk := Lib.hid (fun W => HIv.out (sg k) (by omega) W)
        have hil := HIl.out (sg k)
        have hmb := mul_bd (show sf k ≤ 100000 by omega) (show ivN n (sg k) ≤ 100000 by omega)
        have HNx := Lib.hid (fun W (hO : Out w g0 n (qt k) W) => show Out w g0 n (qt (k + 1)) (W.setCell ⟨g0, k, none⟩ (.int .i64 ((((sf k : Nat) : Int) * ((ivN n (sg k) : Nat) : Int)) % ((qN n : Nat) : Int)))) from by
          have := hO.set hg0 hlt (pf k)
          rw [HNk.out k hlt, ← HQs.out]
          exact this)
        generalize ivN n (sg k) = y2 at *
        generalize sf k = y at *
        generalize sg k = z0 at *
        clear hz0
        go_upto_region 8 with fail
        refine region_calm_tail 13 hmx (by kernel_rfl) ?_
        simp only [List.take_succ_cons, List.take_zero, List.drop_succ_cons, List.drop_zero]
        intro S hSn fw hS1 hS2
        have l0 := fun z => cell_later (hS1 z) c1
        have hC0 := Lib.hid (calm_call0 (fun z => HIk.out (fw z)))
        repeat (go_big_quiet_step (exact hC0.out _))
        refine wpQuiet_nil ?_
        rintro _ ⟨z, rfl⟩
        have hO4 := HO.out.later (hS1 z)
        have HS4 := Lib.hid (HSS.out.later (hS1 z))
        generalize fw z = w4 at hO4 HS4
        have HO5 := Lib.hid (HNx.out _ hO4)
        have e1 := hO4.at hlt
        have e2 := hO4.row.frozen k
        clear l0 hC0 hS1 hS2 hO4 c1 c2
        try dsimp only [Exit.then]
        go_wp2
        go_roundw
        case rel => exact ⟨k + 1, by omega, by go_num, HO5.out, HS4.out.other (by omega) _, HZ2.out⟩
        case measure => simp only [intOf]; omega
    · obtain rfl : k = n := by omega
      rw [HAll.out] at HO
      go_wp2_with fail
      refine (HBa.out _ _ HO.out.list).mono ?_
      rintro r w5 ⟨g5, rfl, hg5, hO5⟩
      have HO5 := Lib.hid hO5
      clear hO5
      go_wp2
      go_ret2
      exact ⟨_, HO.out.hb.trans (HO5.out.hb.mono HO.out.hb.size), .inr ⟨HZ.out, rfl, HO5.out.list⟩⟩
end Go.Proofs.Ytlmfmfbnbbooaaa

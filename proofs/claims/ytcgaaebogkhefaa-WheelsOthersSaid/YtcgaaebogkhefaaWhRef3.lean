/-
  The reference's spectrum, its undoing, the power, the wheel of a chord, where it is silent, flat, alike.
-/
import Derived.Test.YtcgaaebogkhefaaWhSums
import Derived.Maps.AppendAt
import Derived.OwnWalk
namespace Go.Proofs.Ytcgaaebogkhefaa
open Go.ChangeShapes Go.WideShapes Go.ChangeAt Go.RowKit
set_option maxRecDepth 100000

theorem cells_of {W : World} {v : Value} {n : Nat} {f : Nat → Nat} (h : IntsV W v (natI (tabN n f))) (h0 : 0 < n) : ∃ b off cap, v = .slice (some ⟨b, off, none⟩) n cap ∧ n ≤ cap ∧ ∀ i, i < n → W.cell? ⟨b, off + i, none⟩ = some (.int .i64 ((f i : Nat) : Int)) := tab_cells h h0

theorem RSpectrum_any (n : Nat) (h : Circ n) (f : Nat → Nat) (hf : ∀ x, f x < qN n) (v : Value) (w : World) (hv : IntsV w v (natI (tabN n f))) :
    Calls Try.prog 29 #[.int .i64 (n : Int), v] w fun r w' => ∃ g, r = .returned (.slice (some ⟨g, 0, none⟩) n n) ∧ w.heap.size ≤ g ∧ Out w g n (spF n f) w' := by
  have hc := cells_of hv h.pos
  have HS := Lib.hid (Rsums_any n h f hf 1 (Or.inl rfl) (fun k x => k * x % n) (fun k x => by have := ex_pos n k x h.pos; exact this) (fun k x => Nat.mod_lt _ h.pos) v w hc)
  have e : (fun k => if k < n then smF n (fun k x => k * x % n) f k n else 0) = spF n f := by
    funext k
    by_cases hk : k < n
    · rw [if_pos hk, smF_pos h hk]
    · rw [if_neg hk, (sp_wh h f).out k (by omega)]
  rw [e] at HS
  obtain ⟨b, off, cap, rfl, _, _⟩ := hc
  clear hv e
  go_enter Try.func29, Try.ntmps29
  go_wp2_with fail
  refine HS.out.mono ?_
  rintro r w1 ⟨g, rfl, hg, hO⟩
  have HO := Lib.hid hO
  clear hO
  go_wp2
  go_ret
  exact ⟨g, rfl, hg, HO.out⟩

theorem Rneg_any (n : Nat) (h : Circ n) (f : Nat → Nat) (hf : ∀ x, f x < qN n) (v : Value) (w : World) (hv : IntsV w v (natI (tabN n f))) :
    Calls Try.prog 66 #[.int .i64 (n : Int), v, .int .i64 (-1)] w fun r w' => ∃ g, r = .returned (.slice (some ⟨g, 0, none⟩) n n) ∧ w.heap.size ≤ g ∧ Out w g n (tuF n (spF n f)) w' := by
  have HS := Rsums_any n h f hf (-1) (Or.inr rfl) (fun k x => (n - k * x % n) % n) (fun k x => ex_neg n k x h.pos) (fun k x => Nat.mod_lt _ h.pos) v w (cells_of hv h.pos)
  have e : (fun k => if k < n then smF n (fun k x => (n - k * x % n) % n) f k n else 0) = tuF n (spF n f) := by
    funext k
    by_cases hk : k < n
    · rw [if_pos hk, smF_neg h hk]
    · rw [if_neg hk, (tu_wh h (sp_wh h f)).out k (by omega)]
  rwa [e] at HS

theorem Rinverse_any (n : Nat) (h : Circ n) (x : Nat) (hx : x ≤ 100) (w : World) :
    Calls Try.prog 67 #[.int .i64 (x : Int), .int .i64 ((qN n : Nat) : Int)] w fun r w' => r = .returned (.int .i64 ((ivN n x : Nat) : Int)) ∧ w = w' := by
  have hq := h.q_le
  have hq2 : 2 < qN n := by have := h.n_lt; have := h.1; omega
  have HP := Lib.hid (Rpower_any x (qN n - 2) (qN n) (by omega) (by omega) hx (by omega) w)
  rw [show (((qN n - 2 : Nat)) : Int) = ((qN n : Nat) : Int) - 2 by omega, show x ^ (qN n - 2) % qN n = ivN n x from rfl] at HP
  clear h
  generalize qN n = q at *
  generalize ivN n x = iv at *
  go_enter Try.func67, Try.ntmps67
  go_wp2_with fail
  refine HP.out.mono ?_
  rintro r w1 ⟨rfl, rfl⟩
  go_wp2
  go_ret
  exact ⟨rfl, rfl⟩

set_option maxHeartbeats 1000000 in
theorem RBack_any (n : Nat) (h : Circ n) (f : Nat → Nat) (hf : ∀ x, f x < qN n) (v : Value) (w : World) (hv : IntsV w v (natI (tabN n f))) :
    Calls Try.prog 30 #[.int .i64 (n : Int), v] w fun r w' => ∃ g, r = .returned (.slice (some ⟨g, 0, none⟩) n n) ∧ w.heap.size ≤ g ∧ Out w g n (baF n f) w' := by
  have hmx : Try.prog.follows .mixedOrders = true := by kernel_rfl
  have hn17 := h.2
  have hn0 := h.pos
  have hq := h.q_le
  have hq0 := h.q_pos
  have HPr := Lib.hid (fun W => RPrime_any n h W)
  have HS := Lib.hid (Rneg_any n h f hf v w hv)
  have HI := Lib.hid (fun W => Rinverse_any n h n (by omega) W)
  have hTl := (tu_wh h (sp_wh h f)).lt
  have HAll := Lib.hid (mixW_all (k := n) (f := baF n f) (g := tuF n (spF n f)) (fun x hx => by rw [(ba_wh h f).out x hx, (tu_wh h (sp_wh h f)).out x hx]))
  have HBa := Lib.hid (fun k => show (((tuF n (spF n f) k : Nat) : Int) * ((ivN n n : Nat) : Int)) % ((qN n : Nat) : Int) = ((baF n f k : Nat) : Int) from by rw [show baF n f k = tuF n (spF n f) k * ivN n n % qN n from rfl]; simp)
  have hIl : ivN n n < qN n := Nat.mod_lt _ hq0
  have HTl := Lib.hid hTl
  obtain ⟨b, off, cap, rfl, _, _⟩ := cells_of hv hn0
  clear hv hf hTl h
  generalize baF n f = bf at *
  generalize tuF n (spF n f) = tf at *
  generalize ivN n n = iv at *
  generalize qN n = q at *
  have hq0' : ((q : Int) == 0) = false := by rw [beq_eq_false_iff_ne]; omega
  go_enter Try.func30, Try.ntmps30
  go_wp2_with fail
  refine (HPr.out _).mono ?_
  rintro r w1 ⟨rfl, rfl⟩
  go_wp2_with fail
  refine HS.out.mono ?_
  rintro r w1 ⟨g, rfl, hg, hO⟩
  have HO := Lib.hid hO
  clear hO
  go_wp2_with fail
  go_loopw [15] (fun i wr => ∃ k : Nat, k ≤ n ∧ i = .int .i64 (k : Int) ∧ Out w g n (mixW k bf tf) wr) (fun i _ => n - (intOf i).toNat)
  case atStart => exact ⟨0, Nat.zero_le _, rfl, by rw [mixW_zero]; exact HO.out⟩
  case round =>
    obtain ⟨k, hk, rfl, hO⟩ := hrel
    have HO := Lib.hid hO
    clear hO
    by_cases hlt : k < n
    · have c1 := HO.out.at hlt
      rw [mixW_at] at c1
      have hb := HTl.out k
      have hmb := mul_bd (show tf k ≤ 100000 by omega) (show iv ≤ 100000 by omega)
      have HNx := Lib.hid (fun W (hO : Out w g n (mixW k bf tf) W) => show Out w g n (mixW (k + 1) bf tf) (W.setCell ⟨g, k, none⟩ (.int .i64 ((((tf k : Nat) : Int) * (iv : Int)) % (q : Int)))) from by
        have := hO.set hg hlt (bf k)
        rw [HBa.out, ← mixW_succ]
        exact this)
      generalize tf k = y at *
      go_upto_region 6 with fail
      refine region_calm_tail 12 hmx (by kernel_rfl) ?_
      simp only [List.take_succ_cons, List.take_zero, List.drop_succ_cons, List.drop_zero]
      intro S hSn fw hS1 hS2
      have l0 := fun z => cell_later (hS1 z) c1
      have hC0 := Lib.hid (calm_call0 (fun z => HI.out (fw z)))
      repeat (go_big_quiet_step (exact hC0.out _))
      refine wpQuiet_nil ?_
      rintro _ ⟨z, rfl⟩
      have hO4 := HO.out.later (hS1 z)
      generalize fw z = w4 at hO4
      have HO5 := Lib.hid (HNx.out _ hO4)
      have e1 := hO4.at hlt
      have e2 := hO4.row.frozen k
      clear l0 hC0 hS1 hS2 hO4 c1
      try dsimp only [Exit.then]
      go_wp2
      go_roundw
      case rel => exact ⟨k + 1, by omega, by go_num, HO5.out⟩
      case measure => simp only [intOf]; omega
    · obtain rfl : k = n := by omega
      rw [HAll.out] at HO
      go_wp2
      go_ret
      exact ⟨g, rfl, hg, HO.out⟩

set_option maxHeartbeats 1000000 in
theorem RPower_any (n : Nat) (h : Circ n) (f : Nat → Nat) (hf : ∀ x, f x < qN n) (v : Value) (w : World) (hv : IntsV w v (natI (tabN n f))) :
    Calls Try.prog 31 #[.int .i64 (n : Int), v] w fun r w' => ∃ g, r = .returned (.slice (some ⟨g, 0, none⟩) n n) ∧ w.heap.size ≤ g ∧ Out w g n (poF n f) w' := by
  have hmx : Try.prog.follows .mixedOrders = true := by kernel_rfl
  have hn17 := h.2
  have hn0 := h.pos
  have hq := h.q_le
  have hq0 := h.q_pos
  have HPr := Lib.hid (fun W => RPrime_any n h W)
  have HS := Lib.hid (RSpectrum_any n h f hf v w hv)
  have HSl := Lib.hid (sp_wh h f).lt
  have HAll := Lib.hid (uptF_all (po_wh h f))
  have HPo := Lib.hid (fun k (hk : k < n) => show (((spF n f k : Nat) : Int) * ((spF n f ((n - k) % n) : Nat) : Int)) % ((qN n : Nat) : Int) = ((poF n f k : Nat) : Int) from by rw [po_at hk]; simp)
  have hmk := fun W => run_make_zero n (by omega) W
  obtain ⟨b, off, cap, rfl, _, _⟩ := cells_of hv hn0
  clear hv hf h
  generalize poF n f = pf at *
  generalize spF n f = sf at *
  generalize qN n = q at *
  have hq0' : ((q : Int) == 0) = false := by rw [beq_eq_false_iff_ne]; omega
  have hn0' : ((n : Int) == 0) = false := by rw [beq_eq_false_iff_ne]; omega
  go_enter Try.func31, Try.ntmps31
  go_wp2_with fail
  refine (HPr.out _).mono ?_
  rintro r w1 ⟨rfl, rfl⟩
  go_wp2_with fail
  refine HS.out.mono ?_
  rintro r w1 ⟨g0, rfl, hg0, hO0⟩
  have HO0 := Lib.hid hO0
  obtain ⟨B, hB⟩ : ∃ B, w1.heap.size = B := ⟨_, rfl⟩
  have hBw : w.heap.size ≤ B := by rw [← hB]; exact hO0.hb.size
  have HOn := Lib.hid (Out.new n hO0.hb hB)
  have HO1 := Lib.hid (hO0.later ((Below.refl _ w1).alloc (Nat.le_refl _) (.cells (ints (List.replicate n 0)).toArray 3)))
  have hgB : g0 < B := by rw [← hB]; exact hO0.row.lt
  clear hO0
  go_wp2_with fail
  go_loopw [18] (fun i wr => ∃ k : Nat, k ≤ n ∧ i = .int .i64 (k : Int) ∧ Out w B n (uptF k pf) wr ∧ Out w g0 n sf wr) (fun i _ => n - (intOf i).toNat)
  case atStart => exact ⟨0, Nat.zero_le _, rfl, by rw [uptF_zero]; exact HOn.out, HO1.out⟩
  case round =>
    obtain ⟨k, hk, rfl, hO, hS⟩ := hrel
    have HO := Lib.hid hO
    have HSS := Lib.hid hS
    clear hO hS
    by_cases hlt : k < n
    · have c1 := HSS.out.at hlt
      have hkn := Nat.mod_lt (n - k) hn0
      have c2 := HSS.out.at hkn
      have hix : ((n : Int) - (k : Int)) % (n : Int) = (((n - k) % n : Nat) : Int) := by
        rw [show ((n : Int) - (k : Int)) = ((n - k : Nat) : Int) by omega]; simp
      have b1 := HSl.out k
      have b2 := HSl.out ((n - k) % n)
      have hmb := mul_bd (show sf k ≤ 100000 by omega) (show sf ((n - k) % n) ≤ 100000 by omega)
      have HNx := Lib.hid (fun W (hO : Out w B n (uptF k pf) W) => show Out w B n (uptF (k + 1) pf) (W.setCell ⟨B, k, none⟩ (.int .i64 ((((sf k : Nat) : Int) * ((sf ((n - k) % n) : Nat) : Int)) % (q : Int)))) from by
        have := hO.set hBw hlt (pf k)
        rw [HPo.out k hlt, ← uptF_succ]
        exact this)
      generalize sf ((n - k) % n) = y2 at *
      generalize (n - k) % n = kn at *
      generalize sf k = y at *
      go_upto_region 7 with fail
      refine region_calm_tail 17 hmx (by kernel_rfl) ?_
      simp only [List.take_succ_cons, List.take_zero, List.drop_succ_cons, List.drop_zero]
      intro S hSn fw hS1 hS2
      have l0 := fun z => cell_later (hS1 z) c1
      have l1 := fun z => cell_later (hS1 z) c2
      repeat (go_big_quiet_step (fail))
      refine wpQuiet_nil ?_
      rintro _ ⟨z, rfl⟩
      have hO4 := HO.out.later (hS1 z)
      have HS4 := Lib.hid (HSS.out.later (hS1 z))
      generalize fw z = w4 at hO4 HS4
      have HO5 := Lib.hid (HNx.out _ hO4)
      have e1 := hO4.at hlt
      have e2 := hO4.row.frozen k
      clear l0 l1 hS1 hS2 hO4 c1 c2
      try dsimp only [Exit.then]
      go_wp2
      go_roundw
      case rel => exact ⟨k + 1, by omega, by go_num, HO5.out, ⟨HO5.out.hb, HS4.out.row.other (by omega) _⟩⟩
      case measure => simp only [intOf]; omega
    · obtain rfl : k = n := by omega
      rw [HAll.out] at HO
      go_wp2
      go_ret
      exact ⟨B, rfl, hBw, HO.out⟩
end Go.Proofs.Ytcgaaebogkhefaa

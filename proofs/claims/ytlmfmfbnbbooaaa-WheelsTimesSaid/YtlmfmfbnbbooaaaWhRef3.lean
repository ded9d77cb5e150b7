/-
  The reference's spectrum, its undoing, the power, the wheel of a chord, where it is silent, flat, alike.
-/
import Derived.Test.YtlmfmfbnbbooaaaWhSums
import Derived.Maps.AppendAt
import Derived.OwnWalk
namespace Go.Proofs.Ytlmfmfbnbbooaaa
open Go.ChangeShapes Go.WideShapes Go.ChangeAt Go.RowKit
set_option maxRecDepth 100000

theorem cells_of {W : World} {v : Value} {n : Nat} {f : Nat → Nat} (h : IntsV W v (natI (tabN n f))) (h0 : 0 < n) : ∃ b off cap, v = .slice (some ⟨b, off, none⟩) n cap ∧ n ≤ cap ∧ ∀ i, i < n → W.cell? ⟨b, off + i, none⟩ = some (.int .i64 ((f i : Nat) : Int)) := tab_cells h h0

theorem RSpectrum_any (n : Nat) (h : Circ n) (f : Nat → Nat) (hf : ∀ x, f x < qN n) (v : Value) (w : World) (hv : IntsV w v (natI (tabN n f))) :
    Calls Try.prog 74 #[.int .i64 (n : Int), v] w fun r w' => ∃ g, r = .returned (.slice (some ⟨g, 0, none⟩) n n) ∧ w.heap.size ≤ g ∧ Out w g n (spF n f) w' := by
  have hc := cells_of hv h.pos
  have HS := Lib.hid (Rsums_any n h f hf 1 (Or.inl rfl) (fun k x => k * x % n) (fun k x => by have := ex_pos n k x h.pos; exact this) (fun k x => Nat.mod_lt _ h.pos) v w hc)
  have e : (fun k => if k < n then smF n (fun k x => k * x % n) f k n else 0) = spF n f := by
    funext k
    by_cases hk : k < n
    · rw [if_pos hk, smF_pos h hk]
    · rw [if_neg hk, (sp_wh h f).out k (by omega)]
  rw [e] at HS
  obtain ⟨b, off, cap, rfl, _, _⟩ := hc
  clear hv e
  go_enter Try.func74, Try.ntmps74
  go_wp2_with fail
  refine HS.out.mono ?_
  rintro r w1 ⟨g, rfl, hg, hO⟩
  have HO := Lib.hid hO
  clear hO
  go_wp2
  go_ret
  exact ⟨g, rfl, hg, HO.out⟩

theorem Rneg_any (n : Nat) (h : Circ n) (f : Nat → Nat) (hf : ∀ x, f x < qN n) (v : Value) (w : World) (hv : IntsV w v (natI (tabN n f))) :
    Calls Try.prog 109 #[.int .i64 (n : Int), v, .int .i64 (-1)] w fun r w' => ∃ g, r = .returned (.slice (some ⟨g, 0, none⟩) n n) ∧ w.heap.size ≤ g ∧ Out w g n (tuF n (spF n f)) w' := by
  have HS := Rsums_any n h f hf (-1) (Or.inr rfl) (fun k x => (n - k * x % n) % n) (fun k x => ex_neg n k x h.pos) (fun k x => Nat.mod_lt _ h.pos) v w (cells_of hv h.pos)
  have e : (fun k => if k < n then smF n (fun k x => (n - k * x % n) % n) f k n else 0) = tuF n (spF n f) := by
    funext k
    by_cases hk : k < n
    · rw [if_pos hk, smF_neg h hk]
    · rw [if_neg hk, (tu_wh h (sp_wh h f)).out k (by omega)]
  rwa [e] at HS

theorem Rinverse_any (n : Nat) (h : Circ n) (x : Nat) (hx : x ≤ 100) (w : World) :
    Calls Try.prog 75 #[.int .i64 (x : Int), .int .i64 ((qN n : Nat) : Int)] w fun r w' => r = .returned (.int .i64 ((ivN n x : Nat) : Int)) ∧ w = w' := by
  have hq := h.q_le
  have hq2 : 2 < qN n := by have := h.n_lt; have := h.1; omega
  have HP := Lib.hid (Rpower_any x (qN n - 2) (qN n) (by omega) (by omega) hx (by omega) w)
  rw [show (((qN n - 2 : Nat)) : Int) = ((qN n : Nat) : Int) - 2 by omega, show x ^ (qN n - 2) % qN n = ivN n x from rfl] at HP
  clear h
  generalize qN n = q at *
  generalize ivN n x = iv at *
  go_enter Try.func75, Try.ntmps75
  go_wp2_with fail
  refine HP.out.mono ?_
  rintro r w1 ⟨rfl, rfl⟩
  go_wp2
  go_ret
  exact ⟨rfl, rfl⟩

set_option maxHeartbeats 1000000 in
theorem RBack_any (n : Nat) (h : Circ n) (f : Nat → Nat) (hf : ∀ x, f x < qN n) (v : Value) (w : World) (hv : IntsV w v (natI (tabN n f))) :
    Calls Try.prog 76 #[.int .i64 (n : Int), v] w fun r w' => ∃ g, r = .returned (.slice (some ⟨g, 0, none⟩) n n) ∧ w.heap.size ≤ g ∧ Out w g n (baF n f) w' := by
  have hmx : Try.prog.follows .mixedOrders = true := by kernel_rfl
  have hn17 := h.2
  have hn0 := h.pos
  have hq := h.q_le
  have hq0 := h.q_pos
  have HPr := Lib.hid (fun W => RPrime_any n h W)
  have HS := Lib.hid (Rneg_any n h f hf v w hv)
  have HI := Lib.hid (fun W => Rinverse_any n h n (by omega) W)
  have hTl := (tu_wh h (sp_wh h f)).lt
  have HAll := Lib.hid (mixW_all (k := n) (f := baF n f) (g := tuF n (spF n f)) (fun x hx => by rw [(ba_wh h f).out x hx, (tu_wh h (sp_wh h f)).out x hx]))
  have HBa := Lib.hid (fun k => show (((tuF n (spF n f) k : Nat) : Int) * ((ivN n n : Nat) : Int)) % ((qN n : Nat) : Int) = ((baF n f k : Nat) : Int) from by rw [show baF n f k = tuF n (spF n f) k * ivN n n % qN n from rfl]; simp)
  have hIl : ivN n n < qN n := Nat.mod_lt _ hq0
  have HTl := Lib.hid hTl
  obtain ⟨b, off, cap, rfl, _, _⟩ := cells_of hv hn0
  clear hv hf hTl h
  generalize baF n f = bf at *
  generalize tuF n (spF n f) = tf at *
  generalize ivN n n = iv at *
  generalize qN n = q at *
  have hq0' : ((q : Int) == 0) = false := by rw [beq_eq_false_iff_ne]; omega
  go_enter Try.func76, Try.ntmps76
  go_wp2_with fail
  refine (HPr.out _).mono ?_
  rintro r w1 ⟨rfl, rfl⟩
  go_wp2_with fail
  refine HS.out.mono ?_
  rintro r w1 ⟨g, rfl, hg, hO⟩
  have HO := Lib.hid hO
  clear hO
  go_wp2_with fail
  go_loopw [15] (fun i wr => ∃ k : Nat, k ≤ n ∧ i = .int .i64 (k : Int) ∧ Out w g n (mixW k bf tf) wr) (fun i _ => n - (intOf i).toNat)
  case atStart => exact ⟨0, Nat.zero_le _, rfl, by rw [mixW_zero]; exact HO.out⟩
  case round =>
    obtain ⟨k, hk, rfl, hO⟩ := hrel
    have HO := Lib.hid hO
    clear hO
    by_cases hlt : k < n
    · have c1 := HO.out.at hlt
      rw [mixW_at] at c1
      have hb := HTl.out k
      have hmb := mul_bd (show tf k ≤ 100000 by omega) (show iv ≤ 100000 by omega)
      have HNx := Lib.hid (fun W (hO : Out w g n (mixW k bf tf) W) => show Out w g n (mixW (k + 1) bf tf) (W.setCell ⟨g, k, none⟩ (.int .i64 ((((tf k : Nat) : Int) * (iv : Int)) % (q : Int)))) from by
        have := hO.set hg hlt (bf k)
        rw [HBa.out, ← mixW_succ]
        exact this)
      generalize tf k = y at *
      go_upto_region 6 with fail
      refine region_calm_tail 12 hmx (by kernel_rfl) ?_
      simp only [List.take_succ_cons, List.take_zero, List.drop_succ_cons, List.drop_zero]
      intro S hSn fw hS1 hS2
      have l0 := fun z => cell_later (hS1 z) c1
      have hC0 := Lib.hid (calm_call0 (fun z => HI.out (fw z)))
      repeat (go_big_quiet_step (exact hC0.out _))
      refine wpQuiet_nil ?_
      rintro _ ⟨z, rfl⟩
      have hO4 := HO.out.later (hS1 z)
      generalize fw z = w4 at hO4
      have HO5 := Lib.hid (HNx.out _ hO4)
      have e1 := hO4.at hlt
      have e2 := hO4.row.frozen k
      clear l0 hC0 hS1 hS2 hO4 c1
      try dsimp only [Exit.then]
      go_wp2
      go_roundw
      case rel => exact ⟨k + 1, by omega, by go_num, HO5.out⟩
      case measure => simp only [intOf]; omega
    · obtain rfl : k = n := by omega
      rw [HAll.out] at HO
      go_wp2
      go_ret
      exact ⟨g, rfl, hg, HO.out⟩

end Go.Proofs.Ytlmfmfbnbbooaaa

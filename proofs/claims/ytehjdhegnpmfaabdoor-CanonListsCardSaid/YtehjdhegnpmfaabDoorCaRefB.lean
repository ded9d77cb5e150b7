/-
  The reference's search for the least partner; Partner and Partners.
-/
import Derived.Test.YtehjdhegnpmfaabDoorCaRef
namespace Go.Proofs.YtehjdhegnpmfaabDoor
open Go.RowKit Go.Shelf
attribute [local go_sem] Oper.semAt_some
set_option maxRecDepth 100000

/-- What the search for the least leaves in the cell. -/
def LeastAt (p m : Nat) (W W' : World) (e : Ending) : Prop := (∃ v, e = .returned v) ∧ W'.cell? ⟨p, 0, none⟩ = some (.int .i64 m) ∧ W'.frozen? ⟨p, 0, none⟩ = false ∧ Below p W W'

set_option maxHeartbeats 2000000 in
theorem least_any (n a p : Nat) (hn : 2 ≤ n) (hn2 : n ≤ 24) (ha : a < 2 ^ n) (f : Nat) : ∀ (b filled m : Nat), Inv n a b filled → n ≤ f + cardN n filled → m ≤ 2 ^ n → ∀ W : World, p ≤ W.heap.size → W.cell? ⟨p, 0, none⟩ = some (.int .i64 m) → W.frozen? ⟨p, 0, none⟩ = false →
    Calls Tryd.prog 54 #[.int .i64 n, .int .i64 a, .int .i64 filled, .int .i64 b, .pointer (some ⟨p, 0, none⟩)] W fun e W' => LeastAt p (minL m (partL n a f b filled)) W W' e := by
  have hp := pow_bd (n : Int) (by omega) (by omega)
  simp only [Int.toNat_natCast] at hp
  have cut : ∀ (f b filled m : Nat), m ≤ b → ∀ W : World, W.cell? ⟨p, 0, none⟩ = some (.int .i64 m) → W.frozen? ⟨p, 0, none⟩ = false →
      Calls Tryd.prog 54 #[.int .i64 n, .int .i64 a, .int .i64 filled, .int .i64 b, .pointer (some ⟨p, 0, none⟩)] W fun e W' => LeastAt p (minL m (partL n a f b filled)) W W' e := fun f b filled m hmb W hc hf => by
    rw [minL_more _ m (fun x hx => Nat.le_trans hmb (part_ge n a f hx))]
    have hc' := Lib.hid hc
    clear ha
    go_enter Tryd.func54, Tryd.ntmps54
    go_wp2
    refine bodyPost_ret (results_none rfl _ _ _) rfl ?_
    exact ⟨⟨_, rfl⟩, hc'.out, hf, Below.refl _ _⟩
  have full : ∀ (f b filled m : Nat), filled = 2 ^ n - 1 → b < m → b < 2 ^ n → m ≤ 2 ^ n → ∀ W : World, p ≤ W.heap.size → W.cell? ⟨p, 0, none⟩ = some (.int .i64 m) → W.frozen? ⟨p, 0, none⟩ = false →
      Calls Tryd.prog 54 #[.int .i64 n, .int .i64 a, .int .i64 filled, .int .i64 b, .pointer (some ⟨p, 0, none⟩)] W fun e W' => LeastAt p (minL m (partL n a f b filled)) W W' e := fun f b filled m hf hbm hb hm W hpW hc hfz => by
    rw [show minL m (partL n a f b filled) = b by rw [hf, partL_full, minL_one m b hbm]]
    have q1 : ((filled : Int) == (2 : Int) ^ n - 1) = true := by rw [beq_iff_eq, two_pow_sub n, hf]
    have hc' := Lib.hid hc
    clear ha hf
    go_enter Tryd.func54, Tryd.ntmps54
    go_wp2
    refine bodyPost_ret (results_none rfl _ _ _) rfl ?_
    exact ⟨⟨_, rfl⟩, cell_set_same hc'.out, frozen_set hfz, (Below.refl _ W).setCell (p := ⟨p, 0, none⟩) (Nat.le_refl _) _⟩
  induction f with
  | zero =>
    intro b filled m hi hfu hm W hpW hc hf
    by_cases hmb : m ≤ b
    · exact cut 0 b filled m hmb W hc hf
    · exact full 0 b filled m (fuel_zero hi.2.1 hfu) (by omega) hi.1 hm W hpW hc hf
  | succ f ih =>
    intro b filled m hi hfu hmn W hpW hc hfz
    by_cases hmb : m ≤ b
    · exact cut (f + 1) b filled m hmb W hc hfz
    by_cases hf : filled = 2 ^ n - 1
    · exact full (f + 1) b filled m hf (by omega) hi.1 hmn W hpW hc hfz
    have q1 : ((filled : Int) == (2 : Int) ^ n - 1) = false := by rw [beq_eq_false_iff_ne, two_pow_sub n]; omega
    have hfl := hi.2.1
    have hbl := hi.1
    have hp24 : 2 ^ n ≤ 2 ^ 24 := Nat.pow_le_pow_right (by omega) hn2
    obtain ⟨e1, e2⟩ := empty_spec (by omega) hfl hf
    have HLow := Lib.hid (fun i h => empty_low (n := n) (i := i) (by omega) hfl hf h)
    have HBf := Lib.hid (fun x => bit_int filled x (by omega))
    have HM := Lib.hid (fun k hk V => moved_any n a k hn hn2 ha hk V)
    have HBm := Lib.hid (fun k x => bit_int (mvN n a k) x (by have : mvN n a k < 2 ^ n := mv_lt; omega))
    have HA := Lib.hid (fun k => and_nat (mvN n a k) filled (by have : mvN n a k < 2 ^ n := mv_lt; omega) (by omega))
    have HO := Lib.hid (fun k => or_nat filled (mvN n a k) (by omega) (by have : mvN n a k < 2 ^ n := mv_lt; omega))
    have HOb : Hid (∀ k, k < n → bits .or .i64 (b : Int) (2 ^ k : Int) = ((b ||| 2 ^ k : Nat) : Int)) := Lib.hid (fun k hk => by
      have h1 : 2 ^ k < 2 ^ n := Nat.pow_lt_pow_right (by omega) hk
      have := or_nat b (2 ^ k) (by omega) (by omega)
      rw [← this]; simp)
    have HS := Lib.hid (fun k => min_step (n := n) (a := a) (f := f) (b := b) (filled := filled) (k := k) (m := m))
    have HT := Lib.hid (step_perm_min (b := b) (m := m) f ha (by omega) hfl hf)
    have HR : Hid (∀ k, k < n → (mvN n a k).testBit (emptyN filled) = true → mvN n a k &&& filled = 0 → ∀ (m : Nat) (W : World), m ≤ 2 ^ n → p ≤ W.heap.size → W.cell? ⟨p, 0, none⟩ = some (.int .i64 m) → W.frozen? ⟨p, 0, none⟩ = false →
        Calls Tryd.prog 54 #[.int .i64 n, .int .i64 a, .int .i64 ((filled ||| mvN n a k : Nat) : Int), .int .i64 ((b ||| 2 ^ k : Nat) : Int), .pointer (some ⟨p, 0, none⟩)] W fun e W' => LeastAt p (minL m (stepL n a f b filled k)) W W' e) := Lib.hid (fun k hk hb hv m W h1 h2 h3 h4 => by
      have hs : stepL n a f b filled k = partL n a f (b ||| 2 ^ k) (filled ||| mvN n a k) := if_pos ⟨hb, hv⟩
      rw [hs]
      exact ih (b ||| 2 ^ k) (filled ||| mvN n a k) m (inv_step ha hk e1 hb hv hi) (fuel_entry ha hfl (by omega) hf hb hv hfu) h1 W h2 h3 h4)
    have HZ : Hid (∀ k, ¬ ((mvN n a k).testBit (emptyN filled) = true ∧ mvN n a k &&& filled = 0) → stepL n a f b filled k = []) := Lib.hid (fun k h => if_neg h)
    have HML : Hid (∀ k, mvN n a k < 2 ^ n) := Lib.hid (fun k => mv_lt)
    have HPW : Hid (∀ k, k < n → (2 : Int) ^ k ≤ 16777216 ∧ (0 : Int) ≤ 2 ^ k) := Lib.hid (fun k hk => by
      have := pow_bd (k : Int) (by omega) (by omega)
      simp only [Int.toNat_natCast] at this
      omega)
    generalize emptyN filled = E at e1 e2 HLow HR HZ
    have HE2 := Lib.hid e2
    have HC := Lib.hid hc
    clear ih hi hfu e2 hf full cut ha
    go_enter Tryd.func54, Tryd.ntmps54
    go_wp2
    clear hc
    go_loop [10] (fun i => ∃ k : Nat, k ≤ E ∧ i = .int .i64 k) (fun i => n - (intOf i).toNat)
    case atStart => exact ⟨0, Nat.zero_le _, rfl⟩
    case round =>
      obtain ⟨k, hk, rfl⟩ := hrel
      by_cases hlt : k < E
      · have hb1 : (bits .and .i64 ((filled : Int) / 2 ^ k) 1 == 1) = true := by rw [HBf.out k, HLow.out k hlt]; rfl
        go_wp2
        go_round
        case rel => exact ⟨k + 1, by omega, by go_num⟩
        case measure => simp only [intOf]; omega
      · obtain rfl : k = E := by omega
        have hb1 : (bits .and .i64 ((filled : Int) / 2 ^ k) 1 == 1) = false := by rw [HBf.out k, HE2.out]; rfl
        go_wp2
        go_loopw [11, 12, 34] (fun _ _ i wr => ∃ k : Nat, k ≤ n ∧ i = .int .i64 k ∧ wr.cell? ⟨p, 0, none⟩ = some (.int .i64 (minL m (stepsL n a f b filled k) : Nat)) ∧ wr.frozen? ⟨p, 0, none⟩ = false ∧ Below p W wr) (fun _ _ i _ => n - (intOf i).toNat)
        case atStart => exact ⟨0, Nat.zero_le _, rfl, HC.out, hfz, Below.refl _ _⟩
        case round =>
          obtain ⟨y, hy, rfl, hc1, hf1, hB⟩ := hrel
          have HC1 := Lib.hid hc1
          have HF1 := Lib.hid hf1
          have HB1 := Lib.hid hB
          have hsz := hB.size
          clear hc1 hf1 hB
          by_cases hlt : y < n
          · have hse := Lib.hid (HS.out y)
            have hm := Lib.hid (HM.out y (by omega))
            have hml := HML.out y
            have hbm := HBm.out y k
            have hand := HA.out y
            have hor := Lib.hid (HO.out y)
            have hob := Lib.hid (HOb.out y hlt)
            have hr := Lib.hid (HR.out y hlt)
            have hz := Lib.hid (HZ.out y)
            have hpw := HPW.out y hlt
            have hLm := minL_le (stepsL n a f b filled y) m
            generalize minL m (stepsL n a f b filled y) = L at hse HC1 hLm
            generalize stepL n a f b filled y = S at hse hr hz
            generalize mvN n a y = mk at hm hml hbm hand hor hr hz
            cases hbt : mk.testBit k
            · rw [hbt] at hbm
              have q2 : (bits .and .i64 ((mk : Int) / 2 ^ k) 1 == 1) = false := by rw [hbm]; rfl
              have hs0 := Lib.hid (hz.out (fun h => by rw [hbt] at h; exact absurd h.1 (by decide)))
              clear hbm hand hbt
              go_wp2_with fail
              refine (hm.out _).mono ?_
              rintro e w' ⟨rfl, m1, rfl⟩
              go_wp2_with fail
              go_roundw
              case rel => exact ⟨y + 1, by omega, by go_num, by rw [hse.out, hs0.out]; exact HC1.out, HF1.out, below_drewN HB1.out m1⟩
              case measure => simp only [intOf]; omega
            · rw [hbt] at hbm
              have q2 : (bits .and .i64 ((mk : Int) / 2 ^ k) 1 == 1) = true := by rw [hbm]; rfl
              by_cases hv : mk &&& filled = 0
              · have q3 : (bits .and .i64 (mk : Int) (filled : Int) == 0) = true := by rw [hand, hv]; rfl
                have hr2 := Lib.hid (hr.out hbt hv)
                clear hbm hand hbt hv
                go_wp2_with fail
                refine (hm.out _).mono ?_
                rintro e w' ⟨rfl, m1, rfl⟩
                go_wp2_with fail
                rw [hor.out, hob.out]
                refine (hr2.out L (wr.drewN m1) (by omega) (Nat.le_trans hpW hsz) HC1.out HF1.out).mono ?_
                rintro e w' ⟨⟨v, rfl⟩, hc2, hf2, hb2⟩
                have HC2 := Lib.hid hc2
                have HF2 := Lib.hid hf2
                have HB2 := Lib.hid ((below_drewN HB1.out m1).trans hb2)
                clear hc2 hf2 hb2
                go_wp2_with fail
                go_roundw
                case rel => exact ⟨y + 1, by omega, by go_num, by rw [hse.out]; exact HC2.out, HF2.out, HB2.out⟩
                case measure => simp only [intOf]; omega
              · have q3 : (bits .and .i64 (mk : Int) (filled : Int) == 0) = false := by rw [hand, beq_eq_false_iff_ne]; omega
                have hs0 := Lib.hid (hz.out (fun h => hv h.2))
                clear hbm hand hbt hv
                go_wp2_with fail
                refine (hm.out _).mono ?_
                rintro e w' ⟨rfl, m1, rfl⟩
                go_wp2_with fail
                go_roundw
                case rel => exact ⟨y + 1, by omega, by go_num, by rw [hse.out, hs0.out]; exact HC1.out, HF1.out, below_drewN HB1.out m1⟩
                case measure => simp only [intOf]; omega
          · obtain rfl : y = n := by omega
            have ht := HT
            generalize minL m (stepsL y a f b filled y) = L at HC1 ht
            go_wp2_with fail
            go_end0
            exact ⟨⟨_, rfl⟩, by rw [← ht.out]; exact HC1.out, HF1.out, HB1.out⟩

theorem refParts (n a : Nat) (hn : 2 ≤ n) (hn2 : n ≤ 24) (ha : a < 2 ^ n) (ha1 : a % 2 = 1) (w : World) :
    Calls Tryd.prog 23 #[.int .i64 n, .int .i64 a] w fun e w' => e = .returned (.int .i64 ((partners n a).length : Nat)) ∧ Below w.heap.size w w' := by
  have H := Lib.hid (refParts_any n a hn hn2 ha n 1 a (inv_start (by omega) ha) (by omega))
  rw [part_start (by omega) (by omega) ha ha1] at H
  clear ha
  go_enter Tryd.func23, Tryd.ntmps23
  go_wp2_with fail
  refine (H.out _).mono ?_
  rintro e w' ⟨rfl, m, rfl⟩
  go_wp2_with fail
  go_ret
  exact ⟨rfl, below_drewN (Below.refl _ _) m⟩

set_option maxHeartbeats 1000000 in
theorem refPart (n a : Nat) (hn : 2 ≤ n) (hn2 : n ≤ 24) (ha : a < 2 ^ n) (ha1 : a % 2 = 1) (w : World) :
    Calls Tryd.prog 22 #[.int .i64 n, .int .i64 a] w fun e w' => PartnerIs (partners n a) e ∧ Below w.heap.size w w' := by
  have hp := pow_bd (n : Int) (by omega) (by omega)
  simp only [Int.toNat_natCast] at hp
  have H2 := Lib.hid (show (2 : Int) ^ n = ((2 ^ n : Nat) : Int) by simp)
  have HX : Hid (∀ x ∈ partners n a, x < 2 ^ n) := Lib.hid (fun x hx => ((mem_partners (by omega) (by omega) ha ha1).1 hx).1)
  have H := Lib.hid (fun W => least_any n a w.heap.size hn hn2 ha n 1 a (2 ^ n) (inv_start (by omega) ha) (by omega) (Nat.le_refl _) W)
  rw [part_start (by omega) (by omega) ha ha1] at H
  have HL := Lib.hid (minL_le (partners n a) (2 ^ n))
  have HA := Lib.hid (minL_all (partners n a) (2 ^ n))
  have HM := Lib.hid (minL_mem (partners n a) (2 ^ n))
  generalize partners n a = xs at HX H HL HA HM
  generalize minL (2 ^ n) xs = q at H HL HA HM
  clear ha
  go_enter Tryd.func22, Tryd.ntmps22
  go_wp2_with fail
  rw [H2.out]
  refine (H.out _ (by simp) (cell_at rfl) (frozen_at rfl)).mono ?_
  rintro e w' ⟨⟨v, rfl⟩, hc, hf, hb⟩
  have hB := ((Below.refl _ w).alloc (Nat.le_refl _) _).trans hb
  have HB := Lib.hid hB
  clear hb hf hB
  by_cases hq : q = 2 ^ n
  · have q1 : ((q : Int) == (2 : Int) ^ n) = true := by rw [beq_iff_eq, H2.out, hq]
    have hx : xs = [] := by
      apply List.eq_nil_iff_forall_not_mem.2
      intro x hx
      have h1 := HX.out x hx
      have h3 := HA.out x hx
      omega
    clear hq
    go_wp2_with fail
    go_quiet (fail)
    go_wp2
    go_ret2
    exact ⟨Or.inl ⟨hx, rfl⟩, below_drewN HB.out nq⟩
  · have q1 : ((q : Int) == (2 : Int) ^ n) = false := by rw [beq_eq_false_iff_ne, H2.out]; omega
    have hx : q ∈ xs := HM.out.resolve_left hq
    have HXX := Lib.hid hx
    clear hq hx
    go_wp2_with fail
    go_quiet (fail)
    go_wp2
    go_ret2
    exact ⟨Or.inr ⟨q, HXX.out, HA.out, rfl⟩, below_drewN HB.out nq⟩

end Go.Proofs.YtehjdhegnpmfaabDoor

/-
  Scales that a step makes: makes and Maker of package even.
-/
import Derived.Test.YtmemnkmmjejlgaaDoorEvSumsLaw
import Derived.Test.YtmemnkmmjejlgaaDoorEvMath2
namespace Go.Proofs.YtmemnkmmjejlgaaDoor
open Go.RowKit Go.Shelf
attribute [local go_sem] Oper.semAt_some
set_option maxRecDepth 100000

/-- k steps g from c on. -/
def mkN (n g k c : Nat) : Nat := orL (fun i => (c + i * g) % n) (List.range k)
theorem mkN_succ (n g k c : Nat) : mkN n g (k + 1) c = mkN n g k c ||| 2 ^ ((c + k * g) % n) := by
  unfold mkN
  rw [List.range_succ, orL_snoc, Nat.one_shiftLeft]
theorem mkN_lt {n g k c : Nat} (hn : 1 ≤ n) : mkN n g k c < 2 ^ n := orL_lt _ _ _ (fun _ _ => Nat.mod_lt _ hn)

/-- Some first one is found. -/
def anyMk (n g k s : Nat) (cs : List Nat) : Bool := cs.any fun c => mkN n g k c == s
/-- The step g makes the scale. -/
def makesB (n g s : Nat) : Bool := anyMk n g (tonesB n s).length s (tonesB n s)

theorem makesB_iff {n g s : Nat} (hk : 1 ≤ (tonesB n s).length) : makesB n g s = true ↔ ∃ c, c < n ∧ mkN n g (tonesB n s).length c = s := by
  unfold makesB anyMk
  rw [List.any_eq_true]
  constructor
  · rintro ⟨c, hc, h⟩
    exact ⟨c, (tonesB_lt hc).1, eq_of_beq h⟩
  · rintro ⟨c, hc, h⟩
    refine ⟨c, ?_, by rw [h]; simp⟩
    unfold tonesB
    rw [List.mem_filter, List.mem_range]
    refine ⟨hc, ?_⟩
    have h2 : (mkN n g (tonesB n s).length c).testBit c = true := by
      unfold mkN
      rw [testBit_orL, List.any_eq_true]
      exact ⟨0, List.mem_range.2 hk, decide_eq_true (by rw [Nat.zero_mul, Nat.add_zero, Nat.mod_eq_of_lt hc])⟩
    rw [h] at h2
    exact h2

theorem makes_any (n g s : Nat) (h1 : 2 ≤ n) (h2 : n ≤ 16) (h3 : 1 ≤ s) (h4 : s < 2 ^ n) (hg : g < n) (w : World) (hT : Tab w) :
    Calls Tryd.prog 56 #[.int .i64 n, .int .i64 g, .int .i64 s] w fun e w' => e = .returned (.bool (makesB n g s)) ∧ Below w.heap.size w w' := by
  have H := Lib.hid (tones_slice n s h2 h4 h3 w hT)
  have hL := tonesB_le n s
  have HSm := Lib.hid (tones_small (n := n) (s := s) h2)
  have HE : Hid (makesB n g s = anyMk n g (tonesB n s).length s (tonesB n s)) := Lib.hid rfl
  have hp16 : 2 ^ n ≤ 2 ^ 16 := Nat.pow_le_pow_right (by omega) h2
  have HP := Lib.hid hp16
  have hs16 : s < 65536 := by omega
  generalize makesB n g s = ans at HE
  generalize tonesB n s = ts at *
  obtain ⟨K, hK⟩ : ∃ K, ts.length = K := ⟨_, rfl⟩
  have HK := Lib.hid hK
  unfold ListAt at H
  rw [hK] at H HE hL
  have HMk := Lib.hid (fun k c => mkN_succ n g k c)
  have HMl : Hid (∀ k c, mkN n g k c < 2 ^ n) := Lib.hid (fun k c => mkN_lt (by omega))
  clear hT h4 h3 hK hp16
  go_enter Tryd.func56, Tryd.ntmps56
  go_wp2_with fail
  refine H.out.mono ?_
  rintro e w1 ⟨_, rfl, ⟨p, cap, rfl, hp, hcap, hc⟩, hb⟩
  have HC := Lib.hid hc
  clear hc
  go_wp2
  go_loopw [16] (fun i wr => ∃ a m : Nat, a ≤ K ∧ i = .int .i64 a ∧ anyMk n g K s (ts.take a) = false ∧ wr = w1.drewN m) (fun i _ => K - (intOf i).toNat)
  case atStart => exact ⟨0, 0, Nat.zero_le _, rfl, rfl, rfl⟩
  case round =>
    obtain ⟨a, m, ha, rfl, hno, rfl⟩ := hrel
    have HNo := Lib.hid hno
    clear hno
    by_cases hlt : a < K
    · have ca := HC.out a hlt
      have hcs := HSm.out a
      have HTk := Lib.hid (show ts.take (a + 1) = ts.take a ++ [ts[a]?.getD 0] by
        rw [List.take_succ_eq_append_getElem (by rw [HK.out]; exact hlt), List.getElem?_eq_getElem (by rw [HK.out]; exact hlt)]; rfl)
      have HMem := Lib.hid (show ts[a]?.getD 0 ∈ ts by
        rw [List.getElem?_eq_getElem (by rw [HK.out]; exact hlt)]; exact List.getElem_mem (by rw [HK.out]; exact hlt))
      generalize ts[a]?.getD 0 = c at ca hcs HTk HMem
      go_wp2
      go_loopw [10, 22] (fun t i wr => ∃ b m' : Nat, b ≤ K ∧ i = .int .i64 b ∧ t = .int .i64 (mkN n g b c : Nat) ∧ wr = w1.drewN m') (fun _ i _ => K - (intOf i).toNat)
      case atStart => exact ⟨0, m, Nat.zero_le _, rfl, rfl, rfl⟩
      case round =>
        obtain ⟨b, m', hb', rfl, rfl, rfl⟩ := hrel
        by_cases hlt2 : b < K
        · have hbg : (b : Int) * g ≤ 256 ∧ 0 ≤ (b : Int) * g := by
            have h9 : b * g ≤ 16 * 16 := Nat.mul_le_mul (by omega) (by omega)
            have : ((b * g : Nat) : Int) = (b : Int) * g := by simp
            omega
          have hu : (c + b * g) % n < n := Nat.mod_lt _ (by omega)
          have ht : ((c : Int) + (b : Int) * g).tmod n = (((c + b * g) % n : Nat) : Int) := by
            rw [Int.tmod_eq_emod_of_nonneg (by omega)]; simp
          have hpw := pow_bd (((c + b * g) % n : Nat) : Int) (by omega) (by omega)
          simp only [Int.toNat_natCast] at hpw
          have E2 : Hid (bits .or .i64 ((mkN n g b c : Nat) : Int) ((2 : Int) ^ ((c + b * g) % n)) = ((mkN n g (b + 1) c : Nat) : Int)) := by
            have b3 : 2 ^ ((c + b * g) % n) ≤ 2 ^ 16 := Nat.pow_le_pow_right (by omega) (by omega)
            have e : (2 : Int) ^ ((c + b * g) % n) = ((2 ^ ((c + b * g) % n) : Nat) : Int) := by simp
            have h5 := HMl.out b c
            have h6 := HP.out
            rw [e, or_nat _ _ (by omega) (by omega), HMk.out]
            exact Lib.hid rfl
          obtain ⟨s', hs2⟩ : ∃ s', mkN n g (b + 1) c = s' := ⟨_, rfl⟩
          rw [hs2] at E2
          have HS2 := Lib.hid hs2
          clear hs2
          generalize mkN n g b c = t at E2
          generalize (c + b * g) % n = u at *
          go_wp2
          go_roundw
          case rel => exact ⟨b + 1, m', by omega, by go_num, by rw [HS2.out, E2.out], rfl⟩
          case measure => simp only [intOf]; omega
        · have HB : Hid (b = K) := Lib.hid (by omega)
          obtain ⟨q, hq⟩ : ∃ q, (mkN n g K c == s) = q := ⟨_, rfl⟩
          have HQ := Lib.hid hq
          have hq2 : (((mkN n g b c : Nat) : Int) == (s : Int)) = q := by
            rw [← hq, HB.out, Bool.eq_iff_iff, beq_iff_eq, beq_iff_eq]; omega
          cases q
          · have HNo2 := Lib.hid (show anyMk n g K s (ts.take (a + 1)) = false by
              rw [HTk.out]; unfold anyMk; rw [List.any_append]
              have := HNo.out
              unfold anyMk at this
              rw [this]; simp only [List.any_cons, List.any_nil]; rw [HQ.out]; rfl)
            clear hq
            generalize ((mkN n g b c : Nat) : Int) = z at hq2
            go_wp2
            go_roundw
            case rel => exact ⟨a + 1, m', by omega, by go_num, HNo2.out, rfl⟩
            case measure => simp only [intOf]; omega
          · have HFin := Lib.hid (show true = ans by
              rw [HE.out]; symm
              unfold anyMk
              rw [List.any_eq_true]
              exact ⟨c, HMem.out, HQ.out⟩)
            clear hq
            generalize ((mkN n g b c : Nat) : Int) = z at hq2
            go_wp2
            go_ret
            exact ⟨ret_bool HFin.out, below_drewN hb m'⟩
    · have HFin := Lib.hid (show false = ans by
        rw [HE.out, ← HNo.out, List.take_of_length_le (by rw [HK.out]; omega)])
      go_wp2
      go_ret
      exact ⟨ret_bool HFin.out, below_drewN hb m⟩

theorem Maker_bad (n s : Int) (h : vldB n s = false) (w : World) :
    Calls Tryd.prog 25 #[.int .i64 n, .int .i64 s] w fun e w' => e = .returned (.tuple #[.int .i64 0, .int .i64 2]) ∧ Below w.heap.size w w' := by
  have HV := Lib.hid (valid1 n s _ h)
  clear h
  go_enter Tryd.func25, Tryd.ntmps25
  go_wp2_with (go_at_call 48; refine (HV.out _ _ _ (cell_at rfl)).mono ?_; rintro e w' ⟨rfl, rfl⟩)
  go_ret2
  exact ⟨rfl, below_two _ _⟩

/-- What Maker returns. -/
def MakerIs (n : Nat) (p : Nat → Bool) (e : Ending) : Prop :=
  (∃ g : Nat, 1 ≤ g ∧ g < n ∧ p g = true ∧ (∀ h, 1 ≤ h → h < g → p h = false) ∧ e = .returned (.tuple #[.int .i64 g, .int .i64 0])) ∨
  ((∀ h, 1 ≤ h → h < n → p h = false) ∧ e = .returned (.tuple #[.int .i64 0, .int .i64 4]))

theorem Maker_ok (n s : Nat) (h1 : 2 ≤ n) (h2 : n ≤ 16) (h3 : 1 ≤ s) (h4 : s < 2 ^ n) (w : World) (hT : Tab w) :
    Calls Tryd.prog 25 #[.int .i64 n, .int .i64 s] w fun e w' => MakerIs n (fun g => makesB n g s) e ∧ Below w.heap.size w w' := by
  have HV := Lib.hid (valid1 n s _ (vldB_of_nat h1 h2 h3 h4))
  have hB := below_two w (.cells #[.int .i64 s] 3)
  obtain ⟨W, hW⟩ : ∃ W, w.alloc (.cells #[.int .i64 s] 3) = W := ⟨_, rfl⟩
  rw [hW] at hB
  have hTW := hT.same hB
  have HM := Lib.hid (fun g hg W hW => makes_any n g s h1 h2 h3 h4 hg W hW)
  obtain ⟨p, hp⟩ : ∃ p : Nat → Bool, (fun g => makesB n g s) = p := ⟨_, rfl⟩
  have hpg : ∀ g, makesB n g s = p g := fun g => by rw [← hp]
  have HM2 : Hid (∀ g, g < n → ∀ W, Tab W → Calls Tryd.prog 56 #[.int .i64 n, .int .i64 g, .int .i64 s] W fun e w' => e = .returned (.bool (p g)) ∧ Below W.heap.size W w') := Lib.hid (fun g hg W hW => by rw [← hpg]; exact HM.out g hg W hW)
  rw [hp]
  have HW := Lib.hid hW
  clear hp hpg HM hT h3 h4 hW
  go_enter Tryd.func25, Tryd.ntmps25
  go_wp2_with (go_at_call 48; refine (HV.out _ _ _ (cell_at rfl)).mono ?_; rintro e w' ⟨rfl, rfl⟩)
  rw [HW.out]
  go_loopw [6] (fun gv wr => ∃ g : Nat, 1 ≤ g ∧ g ≤ n ∧ gv = .int .i64 g ∧ (∀ h, 1 ≤ h → h < g → p h = false) ∧ Below W.heap.size W wr) (fun gv _ => n - (intOf gv).toNat)
  case atStart => exact ⟨1, Nat.le_refl _, by omega, rfl, fun h a b => by omega, Below.refl _ _⟩
  case round =>
    obtain ⟨g, hg1, hg2, rfl, hno, hBr⟩ := hrel
    have HNo := Lib.hid hno
    clear hno
    have hTr := hTW.same hBr
    by_cases hlt : g < n
    · have hm := HM2.out g hlt wr hTr
      cases hq : p g
      · rw [hq] at hm
        have Hm := Lib.hid hm
        have HNo2 := Lib.hid (show ∀ h, 1 ≤ h → h < g + 1 → p h = false from fun h a b => by
          by_cases e : h = g
          · rw [e]; exact hq
          · exact HNo.out h a (by omega))
        clear hm hq
        go_wp2_with fail
        refine Hm.out.mono ?_
        rintro e w3 ⟨rfl, b3⟩
        have hbb := hBr.trans (b3.mono hBr.size)
        clear b3
        go_wp2
        go_roundw
        case rel => exact ⟨g + 1, by omega, by omega, by go_num, HNo2.out, hbb⟩
        case measure => simp only [intOf]; omega
      · rw [hq] at hm
        have Hm := Lib.hid hm
        have HQ := Lib.hid hq
        clear hm hq
        go_wp2_with fail
        refine Hm.out.mono ?_
        rintro e w3 ⟨rfl, b3⟩
        have hbb := hB.trans ((hBr.trans (b3.mono hBr.size)).mono hB.size)
        clear b3
        go_wp2
        go_ret2
        exact ⟨Or.inl ⟨g, hg1, hlt, HQ.out, HNo.out, rfl⟩, hbb⟩
    · have HNo2 := Lib.hid (show ∀ h, 1 ≤ h → h < n → p h = false from fun h a b => HNo.out h a (by omega))
      have hbb := hB.trans (hBr.mono hB.size)
      go_wp2
      go_ret2
      exact ⟨Or.inr ⟨HNo2.out, rfl⟩, hbb⟩

end Go.Proofs.YtmemnkmmjejlgaaDoor

/-
  The sum of a scale: the program's and the reference's; the statement on Sum.
-/
import Derived.Test.YtmemnkmmjejlgaaDoorEvTones
import Derived.Test.YtmemnkmmjejlgaaDoorCaMath
namespace Go.Proofs.YtmemnkmmjejlgaaDoor
open Go.RowKit Go.Shelf
attribute [local go_sem] Oper.semAt_some
set_option maxRecDepth 100000

/-- What two tones add. -/
def prN (n : Nat) (ts : List Nat) (a b : Nat) : Nat := (ts[b]?.getD 0 - ts[a]?.getD 0) * (n - (ts[b]?.getD 0 - ts[a]?.getD 0))
/-- The sum as the reference takes it: each tone with those before it. -/
def accR (n : Nat) (ts : List Nat) (i : Nat) : Nat := sumN i (fun a => sumN a (fun b => prN n ts b a))
/-- The sum as the program takes it: each tone with those behind it. -/
def accO (n : Nat) (ts : List Nat) (i : Nat) : Nat := sumN i (fun a => sumN (ts.length - (a + 1)) (fun b => prN n ts a (a + 1 + b)))
def sumS (n s : Nat) : Nat := accR n (tonesB n s) (tonesB n s).length

theorem sum_tri (k : Nat) (f : Nat → Nat → Nat) : sumN k (fun a => sumN (k - (a + 1)) (fun b => f a (a + 1 + b))) = sumN k (fun a => sumN a (fun b => f b a)) := by
  induction k with
  | zero => rfl
  | succ k ih =>
    simp only [sumN]
    rw [← ih, Nat.sub_self]
    simp only [sumN, Nat.add_zero]
    rw [← sum_add]
    refine sum_congr (fun a ha => ?_)
    rw [show k + 1 - (a + 1) = (k - (a + 1)) + 1 from by omega]
    simp only [sumN]
    rw [show a + 1 + (k - (a + 1)) = k from by omega]

theorem accO_all (n s : Nat) : accO n (tonesB n s) (tonesB n s).length = sumS n s := sum_tri _ _

theorem prN_le {n : Nat} {ts : List Nat} (hn : n ≤ 16) (h : ∀ i : Nat, ts[i]?.getD 0 ≤ 16) (a b : Nat) : prN n ts a b ≤ 256 := by
  unfold prN
  have h1 := h b
  exact Nat.mul_le_mul (show _ ≤ 16 by omega) (show _ ≤ 16 by omega)
theorem rows_le {f : Nat → Nat} (h : ∀ b, f b ≤ 256) {j : Nat} (hj : j ≤ 16) : sumN j f ≤ 4096 := by
  have h1 := sum_leq (n := j) (f := f) (g := fun _ => 256) (fun i _ => h i)
  rw [sum_const] at h1
  omega
theorem accs_le {f : Nat → Nat} (h : ∀ b, b < 16 → f b ≤ 4096) {j : Nat} (hj : j ≤ 16) : sumN j f ≤ 65536 := by
  have h1 := sum_leq (n := j) (f := f) (g := fun _ => 4096) (fun i hi => h i (by omega))
  rw [sum_const] at h1
  omega

theorem tones_small {n s : Nat} (hn : n ≤ 16) (i : Nat) : (tonesB n s)[i]?.getD 0 ≤ 16 := by
  by_cases h : i < (tonesB n s).length
  · have := (tonesB_at h).1; omega
  · rw [List.getElem?_eq_none (by omega)]; simp

/-- d (n - d) as the program reckons it. -/
theorem pr_int {n l h : Nat} (hl : l < h) (hh : h < n) : ((h : Int) - l) * ((n : Int) - ((h : Int) - l)) = (((h - l) * (n - (h - l)) : Nat) : Int) := by
  rw [Int.natCast_mul, Int.ofNat_sub (show h - l ≤ n by omega), Int.ofNat_sub (by omega)]

theorem sum_slice (n s : Nat) (h1 : 2 ≤ n) (h2 : n ≤ 16) (h3 : 1 ≤ s) (h4 : s < 2 ^ n) (w : World) (hT : Tab w) :
    Calls Tryd.prog 58 #[.int .i64 n, .int .i64 s] w fun e w' => e = .returned (.int .i64 (sumS n s : Nat)) ∧ Below w.heap.size w w' := by
  have H := Lib.hid (tones_slice n s h2 h4 h3 w hT)
  have hL := tonesB_le n s
  have HP := Lib.hid (prN_le (ts := tonesB n s) h2 (tones_small h2))
  have HE := Lib.hid (accO_all n s)
  have HR : Hid (∀ i j, i < j → j < (tonesB n s).length → (tonesB n s)[i]?.getD 0 < (tonesB n s)[j]?.getD 0 ∧ (tonesB n s)[j]?.getD 0 < n) := Lib.hid (fun i j hij hj => ⟨tonesB_rise hj hij, (tonesB_at hj).1⟩)
  generalize sumS n s = S at HE
  generalize tonesB n s = ts at *
  obtain ⟨K, hK⟩ : ∃ K, ts.length = K := ⟨_, rfl⟩
  have HK := Lib.hid hK
  unfold accO at HE
  unfold ListAt at H
  rw [hK] at H HE HR hL
  clear hT h4 h3 hK
  go_enter Tryd.func58, Tryd.ntmps58
  go_wp2_with fail
  refine H.out.mono ?_
  rintro e w1 ⟨_, rfl, ⟨g, cap, rfl, hg, hcap, hc⟩, hb⟩
  have HC := Lib.hid hc
  clear hc
  go_wp2
  go_loopw [6, 16] (fun t i wr => ∃ a m : Nat, a ≤ K ∧ i = .int .i64 a ∧ t = .int .i64 (sumN a (fun a => sumN (K - (a + 1)) (fun b => prN n ts a (a + 1 + b))) : Nat) ∧ wr = w1.drewN m) (fun _ i _ => K - (intOf i).toNat)
  case atStart => exact ⟨0, 0, Nat.zero_le _, rfl, rfl, rfl⟩
  case round =>
    obtain ⟨a, m, ha, rfl, rfl, rfl⟩ := hrel
    by_cases hlt : a < K
    · have ca := HC.out a hlt
      obtain ⟨low, hlow⟩ : ∃ low, ts[a]?.getD 0 = low := ⟨_, rfl⟩
      rw [hlow] at ca
      have HLow := Lib.hid hlow
      clear hlow
      have HAcc := Lib.hid (show sumN a (fun a => sumN (K - (a + 1)) (fun b => prN n ts a (a + 1 + b))) ≤ 65536 from accs_le (fun i _ => rows_le (HP.out i <| i + 1 + ·) (by omega)) (by omega))
      have HSt := Lib.hid (show sumN (a + 1) (fun a => sumN (K - (a + 1)) (fun b => prN n ts a (a + 1 + b))) = sumN a (fun a => sumN (K - (a + 1)) (fun b => prN n ts a (a + 1 + b))) + sumN (K - (a + 1)) (fun b => prN n ts a (a + 1 + b)) from rfl)
      obtain ⟨A, hA⟩ : ∃ A, sumN a (fun a => sumN (K - (a + 1)) (fun b => prN n ts a (a + 1 + b))) = A := ⟨_, rfl⟩
      rw [hA] at HAcc HSt
      rw [hA]
      clear hA
      by_cases hcc : cap = a + 1
      · go_wp2
        go_loopw [6, 26] (fun t i wr => i = .int .i64 0 ∧ t = .int .i64 A ∧ wr = w1.drewN m) (fun _ _ _ => 0)
        case atStart => exact ⟨rfl, rfl, rfl⟩
        case round =>
          obtain ⟨rfl, rfl, rfl⟩ := hrel
          go_wp2
          go_roundw
          case rel => exact ⟨a + 1, m, by omega, by go_num, by rw [HSt.out, show K - (a + 1) = 0 by omega]; rfl, rfl⟩
          case measure => simp only [intOf]; omega
      · go_wp2
        go_loopw [6, 26] (fun t i wr => ∃ b m' : Nat, b ≤ K - (a + 1) ∧ i = .int .i64 b ∧ t = .int .i64 ((A + sumN b (fun b => prN n ts a (a + 1 + b)) : Nat) : Int) ∧ wr = w1.drewN m') (fun _ i _ => K - (intOf i).toNat)
        case atStart => exact ⟨0, m, Nat.zero_le _, rfl, rfl, rfl⟩
        case round =>
          obtain ⟨b, m', hb', rfl, rfl, rfl⟩ := hrel
          by_cases hlt2 : b < K - (a + 1)
          · have cb := HC.out (a + 1 + b) (by omega)
            have hr := HR.out a (a + 1 + b) (by omega) (by omega)
            have hpr := HP.out a (a + 1 + b)
            have hacc := HAcc.out
            have hrow := rows_le (HP.out a <| a + 1 + ·) (j := b) (by omega)
            have HSn := Lib.hid (show sumN (b + 1) (fun b => prN n ts a (a + 1 + b)) = sumN b (fun b => prN n ts a (a + 1 + b)) + prN n ts a (a + 1 + b) from rfl)
            have HPr : Hid (prN n ts a (a + 1 + b) = (ts[a + 1 + b]?.getD 0 - ts[a]?.getD 0) * (n - (ts[a + 1 + b]?.getD 0 - ts[a]?.getD 0))) := Lib.hid rfl
            have hll := HLow.out
            rw [hll] at hr HPr
            generalize prN n ts a (a + 1 + b) = p at hpr HSn HPr
            generalize sumN b (fun b => prN n ts a (a + 1 + b)) = R at hrow HSn
            obtain ⟨hi, hhi⟩ : ∃ hi, ts[a + 1 + b]?.getD 0 = hi := ⟨_, rfl⟩
            rw [hhi] at cb hr HPr
            have hpi := pr_int hr.1 hr.2
            rw [← HPr.out] at hpi
            have hcell : w1.cell? ⟨g, 0 + (a + 1) + b, none⟩ = some (.int .i64 (hi : Int)) := by rw [Nat.zero_add]; exact cb
            clear hhi hll
            go_wp2
            go_roundw
            case rel => exact ⟨b + 1, m', by omega, by go_num, by rw [HSn.out]; go_num, rfl⟩
            case measure => simp only [intOf]; omega
          · go_wp2
            go_roundw
            case rel => exact ⟨a + 1, m', by omega, by go_num, by rw [HSt.out, show K - (a + 1) = b by omega], rfl⟩
            case measure => simp only [intOf]; omega
    · have hfin := Lib.hid (show sumN a (fun a => sumN (K - (a + 1)) (fun b => prN n ts a (a + 1 + b))) = S by rw [← HE.out, show a = K by omega])
      go_wp2
      go_ret
      exact ⟨ret_int (by rw [hfin.out]), below_drewN hb m⟩

end Go.Proofs.YtmemnkmmjejlgaaDoor

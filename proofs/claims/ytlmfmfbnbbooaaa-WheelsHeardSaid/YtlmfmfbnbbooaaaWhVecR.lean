/-
  The reference's vector, beside wheels.
-/
import Derived.Test.YtlmfmfbnbbooaaaLeafA
import Derived.Test.YtlmfmfbnbbooaaaSumMath
import Derived.Test.YtlmfmfbnbbooaaaMem
import Derived.WalkLawsBesides
namespace Go.Proofs.Ytlmfmfbnbbooaaa
open Go.RowKit Go.Shelf Go.ChangeShapes Go.WideShapes Go.ChangeAt
attribute [local go_sem] Oper.semAt_some
set_option maxRecDepth 100000

theorem bit_int (c x : Nat) (hc : c < 2 ^ 62) : bits .and .i64 ((c : Int) / 2 ^ x) 1 = if c.testBit x then 1 else 0 := by
  have e1 : (c : Int) / 2 ^ x = ((c / 2 ^ x : Nat) : Int) := by simp
  have e2 : (1 : Int) = ((1 : Nat) : Int) := rfl
  have hb : c / 2 ^ x < 2 ^ 63 := Nat.lt_of_le_of_lt (Nat.div_le_self _ _) (by omega)
  rw [e1, e2, and_nat _ _ hb (by omega), Nat.and_one_is_mod, Nat.testBit_eq_decide_div_mod_eq]
  have := Nat.mod_two_eq_zero_or_one (c / 2 ^ x)
  rcases this with h | h <;> simp [h]

theorem tonesB_succ (k c : Nat) : tonesB (k + 1) c = tonesB k c ++ if c.testBit k then [k] else [] := by
  unfold tonesB
  rw [List.range_succ, List.filter_append]
  congr 1
  cases h : c.testBit k <;> simp [h]

theorem mem_tonesB {n c t : Nat} : t ∈ tonesB n c ↔ t < n ∧ c.testBit t = true := by
  unfold tonesB; simp

theorem mod_any (x n : Int) (h0 : 1 ≤ n) (h1 : n ≤ 4294967296) (w : World) :
    Calls Try.prog 112 #[.int .i64 x, .int .i64 n] w fun e w' => e = .returned (.int .i64 (x % n)) ∧ w = w' := by
  have h2 : x.tmod n < n := Int.tmod_lt_of_pos x (by omega)
  have h3 : -n < x.tmod n := Int.lt_tmod_of_pos x (by omega)
  have H := Lib.hid (mod_fix x n)
  go_enter Try.func112, Try.ntmps112
  go_wp2
  go_ret
  exact ⟨ret_int H.out, rfl⟩

theorem run_make_ints (k : Nat) (hk : k ≤ 65536) (W : World) : (Instr.makeSlice 22 (.int .i64 (k : Int)) (.int .i64 (k : Int))).run Try.prog W = .ok (.slice (some ⟨W.heap.size, 0, none⟩) k k) (W.alloc (.cells (ints (List.replicate k 0)).toArray 3)) := by
  rw [← madeCells_ints]
  exact run_make_row' 22 3 (.int .i64 0) 8 Try.underlying22 (by kernel_rfl) rfl .i64 .i64 k (by omega) (by omega) W

/-- A slice of integers that the call has made. -/
def NewInts (w w' : World) (e : Ending) (k : Nat) (xs : List Nat) (ret : Value → Value) : Prop :=
  ∃ b, e = .returned (ret (.slice (some ⟨b, 0, none⟩) k k)) ∧ w.heap.size ≤ b ∧ Row w' b 3 (ints xs) ∧ Below w.heap.size w w'

/-! ### the reference's vector is the program's -/

def innerR (n x : Nat) (ys cs : List Nat) : List Nat := ys.foldl (fun cs y => stepV n cs y x) cs
def outerR (n c : Nat) (xs cs : List Nat) : List Nat := xs.foldl (fun cs x => innerR n x (tonesB x c) cs) cs
def refV (n c : Nat) : List Nat := outerR n c (tonesB n c) (List.replicate (n / 2) 0)

theorem innerR_length (n x : Nat) (ys : List Nat) : ∀ cs : List Nat, (innerR n x ys cs).length = cs.length := by
  induction ys with
  | nil => intro cs; rfl
  | cons y ys ih => intro cs; exact (ih _).trans (stepV_length _ _ _ _)
theorem outerR_length (n c : Nat) (xs : List Nat) : ∀ cs : List Nat, (outerR n c xs cs).length = cs.length := by
  induction xs with
  | nil => intro cs; rfl
  | cons x xs ih => intro cs; exact (ih _).trans (innerR_length _ _ _ _)

theorem stepV_at {n l h i : Nat} {cs : List Nat} (hi : i < cs.length) : (stepV n cs l h)[i]?.getD 0 = cs[i]?.getD 0 + if l < h ∧ dI n l h = i then 1 else 0 := by
  have := innerV_at (n := n) (l := l) [h] hi
  simpa [innerV] using this

theorem innerR_at {n x i : Nat} (ys : List Nat) : ∀ {cs : List Nat}, i < cs.length → (innerR n x ys cs)[i]?.getD 0 = cs[i]?.getD 0 + (ys.map fun y => if y < x ∧ dI n y x = i then 1 else 0).sum := by
  induction ys with
  | nil => intro cs _; simp [innerR]
  | cons y ys ih =>
    intro cs hi
    have e : innerR n x (y :: ys) cs = innerR n x ys (stepV n cs y x) := rfl
    rw [e, ih (by rw [stepV_length]; exact hi), stepV_at hi, List.map_cons, List.sum_cons]
    omega

theorem outerR_at {n c i : Nat} (xs : List Nat) : ∀ {cs : List Nat}, i < cs.length → (outerR n c xs cs)[i]?.getD 0 = cs[i]?.getD 0 + (xs.map fun x => ((tonesB x c).map fun y => if y < x ∧ dI n y x = i then 1 else 0).sum).sum := by
  induction xs with
  | nil => intro cs _; simp [outerR]
  | cons x xs ih =>
    intro cs hi
    have e : outerR n c (x :: xs) cs = outerR n c xs (innerR n x (tonesB x c) cs) := rfl
    rw [e, ih (by rw [innerR_length]; exact hi), innerR_at _ hi, List.map_cons, List.sum_cons]
    omega

/-- A sum over the tones below x, of what is nought from x on. -/
theorem sum_below {n x : Nat} (hx : x ≤ n) (f : Nat → Nat) (hf : ∀ y, x ≤ y → f y = 0) : sumN x f = sumN n f := by
  obtain ⟨k, rfl⟩ := Nat.exists_eq_add_of_le hx
  clear hx
  induction k with
  | zero => rfl
  | succ k ih => rw [show x + (k + 1) = (x + k) + 1 from by omega]; simp only [sumN]; rw [← ih, hf _ (by omega)]; rfl

theorem list_ext_nat {a b : List Nat} (hl : a.length = b.length) (h : ∀ i, i < a.length → a[i]?.getD 0 = b[i]?.getD 0) : a = b := by
  apply List.ext_getElem hl
  intro i h1 h2
  have := h i h1
  simpa [h1, h2] using this

theorem refV_eq {n c : Nat} (hn : n ≤ 64) (hc : c < 2 ^ n) : refV n c = vecN n c := by
  have hl : (refV n c).length = n / 2 := by unfold refV; rw [outerR_length]; simp
  refine list_ext_nat (by rw [hl, vecN_length]) (fun i hi => ?_)
  rw [hl] at hi
  unfold refV vecN
  rw [outerR_at _ (by simpa using hi), outerV_at _ _ (by simpa using hi), tonesL_eq c hn hc, sum_tones, sum_tones]
  congr 1
  have e1 : sumN n (fun t => bI c t * ((tonesB t c).map fun y => if y < t ∧ dI n y t = i then 1 else 0).sum) = sumN n (fun t => sumN n (fun y => bI c t * (bI c y * if y < t ∧ dI n y t = i then 1 else 0))) := by
    refine sum_congr (fun t ht => ?_)
    rw [sum_tones, sum_below (by omega : t ≤ n) _ (fun y hy => by rw [if_neg (fun e => by omega), Nat.mul_zero]), sum_mul]
  have e2 : sumN n (fun t => bI c t * ((tonesB n c).map fun h => if t < h ∧ dI n t h = i then 1 else 0).sum) = sumN n (fun t => sumN n (fun h => bI c t * (bI c h * if t < h ∧ dI n t h = i then 1 else 0))) := by
    refine sum_congr (fun t ht => ?_)
    rw [sum_tones, sum_mul]
  rw [e1, e2, sum_swap]
  refine sum_congr (fun y hy => sum_congr (fun t ht => ?_))
  rw [Nat.mul_left_comm]

theorem dist_any (n x y : Nat) (hy : y < x) (hx : x < n) (hn : n ≤ 16) (w : World) :
    Calls Try.prog 82 #[.int .i64 n, .int .i64 x, .int .i64 y] w fun e w' => e = .returned (.int .i64 ((dI n y x : Nat) + 1 : Int)) ∧ w = w' := by
  have m1 : ((x : Int) - y) % n = (x : Int) - y := Int.emod_eq_of_lt (by omega) (by omega)
  have m2 : ((y : Int) - x) % n = (n : Int) - (x - y) := by
    rw [← Int.add_emod_right, Int.emod_eq_of_lt (by omega) (by omega)]; omega
  have H1 : ∀ V : World, Calls Try.prog 112 #[.int .i64 ((x : Int) - y), .int .i64 n] V fun e w' => e = .returned (.int .i64 ((x : Int) - y)) ∧ V = w' := fun V => by
    have := mod_any ((x : Int) - y) n (by omega) (by omega) V
    rwa [m1] at this
  have H2 : ∀ V : World, Calls Try.prog 112 #[.int .i64 ((y : Int) - x), .int .i64 n] V fun e w' => e = .returned (.int .i64 ((n : Int) - (x - y))) ∧ V = w' := fun V => by
    have := mod_any ((y : Int) - x) n (by omega) (by omega) V
    rwa [m2] at this
  have H1' := Lib.hid H1
  have H2' := Lib.hid H2
  clear H1 H2 m1 m2
  by_cases hm : (n : Int) - (x - y) < x - y
  · have E := Lib.hid (show (n : Int) - (x - y) = (dI n y x : Nat) + 1 by unfold dI; omega)
    go_enter Try.func82, Try.ntmps82
    go_wp2_with fail
    refine (H1'.out _).mono ?_
    rintro e w1 ⟨rfl, rfl⟩
    go_wp2_with fail
    refine (H2'.out _).mono ?_
    rintro e w1 ⟨rfl, rfl⟩
    go_wp2
    go_ret
    exact ⟨ret_int (by have := E.out; omega), rfl⟩
  · have E := Lib.hid (show (x : Int) - y = (dI n y x : Nat) + 1 by unfold dI; omega)
    go_enter Try.func82, Try.ntmps82
    go_wp2_with fail
    refine (H1'.out _).mono ?_
    rintro e w1 ⟨rfl, rfl⟩
    go_wp2_with fail
    refine (H2'.out _).mono ?_
    rintro e w1 ⟨rfl, rfl⟩
    go_wp2
    go_ret
    exact ⟨ret_int (by have := E.out; omega), rfl⟩

theorem innerR_le {n x : Nat} (ys : List Nat) : ∀ {cs : List Nat} {M : Nat}, (∀ i : Nat, cs[i]?.getD 0 ≤ M) → ∀ i : Nat, (innerR n x ys cs)[i]?.getD 0 ≤ M + ys.length := by
  induction ys with
  | nil => intro cs M hM i; exact hM i
  | cons y ys ih =>
    intro cs M hM i
    have := ih (stepV_le (n := n) (l := y) (h := x) hM) i
    have e : innerR n x (y :: ys) cs = innerR n x ys (stepV n cs y x) := rfl
    rw [e, List.length_cons]; omega
theorem outerR_le {n c : Nat} (xs : List Nat) : ∀ {cs : List Nat} {M : Nat}, (∀ x ∈ xs, x ≤ 64) → (∀ i : Nat, cs[i]?.getD 0 ≤ M) → ∀ i : Nat, (outerR n c xs cs)[i]?.getD 0 ≤ M + xs.length * 64 := by
  induction xs with
  | nil => intro cs M _ hM i; have := hM i; show (cs[i]?.getD 0) ≤ _; omega
  | cons x xs ih =>
    intro cs M hx hM i
    have := ih (fun y hy => hx y (List.mem_cons_of_mem _ hy)) (innerR_le (n := n) (x := x) (tonesB x c) hM) i
    have e : outerR n c (x :: xs) cs = outerR n c xs (innerR n x (tonesB x c) cs) := rfl
    have hl : (tonesB x c).length ≤ 64 := by
      unfold tonesB
      have := List.length_filter_le (c.testBit ·) (List.range x)
      have := hx x List.mem_cons_self
      simp at *; omega
    rw [e, List.length_cons, Nat.succ_mul]; omega

theorem innerR_snoc (n x : Nat) (ys cs : List Nat) (y : Nat) : innerR n x (ys ++ [y]) cs = stepV n (innerR n x ys cs) y x := by
  unfold innerR; rw [List.foldl_append]; rfl
theorem outerR_snoc (n c : Nat) (xs cs : List Nat) (x : Nat) : outerR n c (xs ++ [x]) cs = innerR n x (tonesB x c) (outerR n c xs cs) := by
  unfold outerR; rw [List.foldl_append]; rfl

theorem refVector_any (n c : Nat) (h1 : 2 ≤ n) (h2 : n ≤ 16) (h3 : c < 2 ^ n) (w : World) :
    Calls Try.prog 31 #[.int .i64 n, .int .i64 c] w fun e w' => NewInts w w' e (n / 2) (vecN n c) (fun v => v) := by
  have hmk : ∀ W : World, (Instr.makeSlice 22 (.int .i64 ((n : Int) / 2)) (.int .i64 ((n : Int) / 2))).run Try.prog W = .ok (.slice (some ⟨W.heap.size, 0, none⟩) (n / 2) (n / 2)) (W.alloc (.cells (ints (List.replicate (n / 2) 0)).toArray 3)) := run_make_ints (n / 2) (by omega)
  have hn2 : 2 ^ n ≤ 2 ^ 16 := Nat.pow_le_pow_right (by omega) h2
  have HB := Lib.hid (fun x => bit_int c x (by omega))
  have HE := Lib.hid (refV_eq (n := n) (c := c) (by omega) h3)
  have HD := Lib.hid (fun x y hy hx => dist_any n x y hy hx h2)
  clear h3
  go_enter Try.func31, Try.ntmps31
  go_wp2
  have r0 := Row.new w 3 (ints (List.replicate (n / 2) 0))
  have B0 : Below w.heap.size w (w.alloc (.cells (ints (List.replicate (n / 2) 0)).toArray 3)) := (Below.refl _ w).alloc (Nat.le_refl _) _
  obtain ⟨H, hH⟩ : ∃ H, w.heap.size = H := ⟨_, rfl⟩
  have hH' := Lib.hid hH
  rw [hH] at r0 B0 ⊢
  generalize w.alloc (.cells (ints (List.replicate (n / 2) 0)).toArray 3) = W0 at r0 B0 ⊢
  clear hmk hH
  go_loopw [12] (fun i wr => ∃ k : Nat, k ≤ n ∧ i = .int .i64 k ∧ Row wr H 3 (ints (outerR n c (tonesB k c) (List.replicate (n / 2) 0))) ∧ Below H w wr) (fun i _ => n - (intOf i).toNat)
  case atStart => exact ⟨0, Nat.zero_le _, rfl, r0, B0⟩
  case round =>
    obtain ⟨k, hk, rfl, hr, hB⟩ := hrel
    by_cases hlt : k < n
    · have HL := Lib.hid (show (outerR n c (tonesB k c) (List.replicate (n / 2) 0)).length = n / 2 by rw [outerR_length]; simp)
      have HM := Lib.hid (outerR_le (n := n) (c := c) (tonesB k c) (M := 0) (fun x hx => by have := (mem_tonesB.1 hx).1; omega) (replicate_le (n / 2)))
      have hsl : (tonesB k c).length ≤ 16 := by
        unfold tonesB
        exact Nat.le_trans (List.length_filter_le _ _) (by simp; omega)
      have HS := Lib.hid (tonesB_succ k c)
      have HO := Lib.hid (outerR_snoc n c (tonesB k c) (List.replicate (n / 2) 0) k)
      generalize hcs : outerR n c (tonesB k c) (List.replicate (n / 2) 0) = cs at hr HL HM HO
      have HC := Lib.hid hcs
      clear hcs
      by_cases hb : c.testBit k = true
      · have hb1 : (bits .and .i64 ((c : Int) / 2 ^ k) 1 == 1) = true := by rw [HB.out k, if_pos hb]; rfl
        have Hb := Lib.hid hb
        clear hb
        obtain ⟨wo, rfl⟩ : ∃ wo : World, wo = wr := ⟨_, rfl⟩
        go_wp2
        go_loopw [16] (fun j wi => ∃ y : Nat, y ≤ k ∧ j = .int .i64 y ∧ Row wi H 3 (ints (innerR n k (tonesB y c) cs)) ∧ Below H w wi) (fun j _ => k - (intOf j).toNat)
        case atStart => exact ⟨0, Nat.zero_le _, rfl, hr, hB⟩
        case round =>
          obtain ⟨y, hy, rfl, hri, hBi⟩ := hrel
          by_cases hly : y < k
          · by_cases hby : c.testBit y = true
            · have hb2 : (bits .and .i64 ((c : Int) / 2 ^ y) 1 == 1) = true := by rw [HB.out y, if_pos hby]; rfl
              have HS2 := Lib.hid (show tonesB (y + 1) c = tonesB y c ++ [y] by rw [tonesB_succ, if_pos hby])
              have hidx := dI_lt hly hlt
              have hlen : (innerR n k (tonesB y c) cs).length = n / 2 := by rw [innerR_length, HL.out]
              have hbd : (innerR n k (tonesB y c) cs)[dI n y k]?.getD 0 ≤ 4096 := by
                have h8 := innerR_le (n := n) (x := k) (tonesB y c) HM.out (dI n y k)
                have h9 : (tonesB y c).length ≤ 16 := by
                  unfold tonesB
                  exact Nat.le_trans (List.length_filter_le _ _) (by simp; omega)
                omega
              have hall := Lib.hid (innerR_snoc n k (tonesB y c) cs y)
              have hstep := Lib.hid (show stepV n (innerR n k (tonesB y c) cs) y k = _ from if_pos hly)
              have hd := Lib.hid (HD.out k y hly hlt)
              generalize innerR n k (tonesB y c) cs = cs' at hri hlen hbd hall hstep
              generalize dI n y k = d at hidx hbd hstep hd
              have hcl := ints_at (xs := cs') (i := d) (by omega)
              obtain ⟨v, hv⟩ : ∃ v, cs'[d]?.getD 0 = v := ⟨_, rfl⟩
              rw [hv] at hcl hbd hstep
              have hset := Lib.hid (ints_set cs' d (v + 1))
              have hcl' := (hri.cell d).trans hcl
              have hfr' := hri.frozen d
              have HR := Lib.hid hri
              clear hcl hv hri hby hlen
              go_wp2_with (go_at_call 82; refine (hd.out _).mono ?_; rintro e w' ⟨rfl, rfl⟩)
              go_roundw
              case rel => exact ⟨y + 1, by omega, by go_num, by rw [HS2.out, hall.out, hstep.out, ← hset.out]; exact HR.out.set _ _, hBi.setCell (p := ⟨H, d, none⟩) (Nat.le_refl _) _⟩
              case measure => simp only [intOf]; omega
            · have hb2 : (bits .and .i64 ((c : Int) / 2 ^ y) 1 == 1) = false := by rw [HB.out y, if_neg hby]; rfl
              have HS2 := Lib.hid (show tonesB (y + 1) c = tonesB y c by rw [tonesB_succ, if_neg hby, List.append_nil])
              clear hby
              go_wp2
              go_roundw
              case rel => exact ⟨y + 1, by omega, by go_num, by rw [HS2.out]; exact hri, hBi⟩
              case measure => simp only [intOf]; omega
          · obtain rfl : y = k := by omega
            go_wp2
            go_roundw
            case rel => exact ⟨y + 1, by omega, by go_num, by rw [HS.out, if_pos Hb.out, HO.out]; exact hri, hBi⟩
            case measure => simp only [intOf]; omega
      · have hb1 : (bits .and .i64 ((c : Int) / 2 ^ k) 1 == 1) = false := by rw [HB.out k, if_neg hb]; rfl
        have Hb := Lib.hid (show tonesB (k + 1) c = tonesB k c by rw [tonesB_succ, if_neg hb, List.append_nil])
        clear hb
        obtain ⟨wo, rfl⟩ : ∃ wo : World, wo = wr := ⟨_, rfl⟩
        go_wp2
        go_loopw [16] (fun j wi => ∃ y : Nat, y ≤ k ∧ j = .int .i64 y ∧ wo = wi) (fun j _ => k - (intOf j).toNat)
        case atStart => exact ⟨0, Nat.zero_le _, rfl, rfl⟩
        case round =>
          obtain ⟨y, hy, rfl, rfl⟩ := hrel
          by_cases hly : y < k
          · go_wp2
            go_roundw
            case rel => exact ⟨y + 1, by omega, by go_num, trivial⟩
            case measure => simp only [intOf]; omega
          · obtain rfl : y = k := by omega
            have HR := Lib.hid hr
            clear hr
            go_wp2
            go_roundw
            case rel => exact ⟨y + 1, by omega, by go_num, by rw [Hb.out, HC.out]; exact HR.out, hB⟩
            case measure => simp only [intOf]; omega
    · obtain rfl : k = n := by omega
      go_wp2
      go_ret
      refine ⟨H, rfl, by rw [hH'.out]; exact Nat.le_refl _, ?_, by rw [hH'.out]; exact hB⟩
      rw [← HE.out]
      exact hr

end Go.Proofs.Ytlmfmfbnbbooaaa

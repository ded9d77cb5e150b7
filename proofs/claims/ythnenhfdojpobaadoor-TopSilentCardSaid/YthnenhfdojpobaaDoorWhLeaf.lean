/-
  Contracts of the small functions of package wheels: primes, orders, fields, places.
-/
import Derived.Test.YthnenhfdojpobaaDoorLeafA
import Derived.Test.YthnenhfdojpobaaDoorWhMath
import Derived.Test.YthnenhfdojpobaaDoorMem
import Derived.Test.YthnenhfdojpobaaDoorCalm
import Derived.Laws.StructEq
import Derived.Laws.Rows
import Derived.Great.BuildSlice
import Derived.Laws.CopyOwn
import Derived.BigQuiet
namespace Go.Proofs.YthnenhfdojpobaaDoor
open Go.ChangeShapes Go.WideShapes Go.ChangeAt Go.RowKit
set_option maxRecDepth 100000

theorem bl_drewN {B : Nat} {w0 W : World} (h : Below B w0 W) (n : Nat) : Below B w0 (W.drewN n) := below_drewN h n

/-- A field's value. -/
def fV (n q r : Nat) : Value := .agg #[.int .i64 (n : Int), .int .i64 (q : Int), .int .i64 (r : Int)]
def fC (n q r : Nat) : List Value := [.int .i64 (n : Int), .int .i64 (q : Int), .int .i64 (r : Int)]

theorem mul_bd {x y : Nat} (hx : x ≤ 100000) (hy : y ≤ 100000) : 0 ≤ (x : Int) * (y : Int) ∧ (x : Int) * (y : Int) ≤ 10000000000 := by
  have h : x * y ≤ 100000 * 100000 := Nat.mul_le_mul hx hy
  have e : (x : Int) * (y : Int) = ((x * y : Nat) : Int) := by simp
  rw [e]; omega
theorem tmod_nat (a b : Nat) : ((a : Int)).tmod (b : Int) = ((a % b : Nat) : Int) := by
  rw [Int.tmod_eq_emod_of_nonneg (by omega)]; simp
theorem tmod_mul (x y q : Nat) : ((x : Int) * (y : Int)).tmod (q : Int) = ((x * y % q : Nat) : Int) := by
  rw [← tmod_nat]; simp

theorem product_any (n q r x y : Nat) (hq : 0 < q) (hx : x ≤ 100000) (hy : y ≤ 100000) (w : World) :
    Calls Tryd.prog 31 #[fV n q r, .int .i64 x, .int .i64 y] w fun e w' => e = .returned (.int .i64 ((x * y % q : Nat) : Int)) ∧ Below w.heap.size w w' := by
  have hm := mul_bd hx hy
  have H := Lib.hid (tmod_mul x y q)
  have HB := Lib.hid ((Below.refl w.heap.size w).alloc (Nat.le_refl _) (.cells #[.int .i64 (n : Int), .int .i64 (q : Int), .int .i64 (r : Int)] 38))
  generalize x * y % q = z at *
  have hq' : ((q : Int) == 0) = false := by rw [beq_eq_false_iff_ne]; omega
  unfold fV
  go_enter Tryd.func31, Tryd.ntmps31
  go_wp2
  go_ret
  exact ⟨ret_int H.out, HB.out⟩

theorem isCircle_ok (n q r : Nat) (hn : 0 < n) (w : World) :
    Calls Tryd.prog 29 #[fV n q r] w fun e w' => e = .returned (.bool true) ∧ Below w.heap.size w w' := by
  have HB := Lib.hid ((Below.refl w.heap.size w).alloc (Nat.le_refl _) (.cells #[.int .i64 (n : Int), .int .i64 (q : Int), .int .i64 (r : Int)] 38))
  have h0 : ((n : Int) == 0) = false := by rw [beq_eq_false_iff_ne]; omega
  unfold fV
  go_enter Tryd.func29, Tryd.ntmps29
  go_wp2
  go_ret
  exact ⟨rfl, HB.out⟩
theorem isCircle_no (w : World) :
    Calls Tryd.prog 29 #[fV 0 0 0] w fun e w' => e = .returned (.bool false) ∧ Below w.heap.size w w' := by
  have HB := Lib.hid ((Below.refl w.heap.size w).alloc (Nat.le_refl _) (.cells #[.int .i64 0, .int .i64 0, .int .i64 0] 38))
  unfold fV
  go_enter Tryd.func29, Tryd.ntmps29
  go_wp2
  go_ret
  exact ⟨rfl, HB.out⟩

/-- Whether no number from 2 on, as far as its square goes, divides it. -/
def primB (x : Nat) : Bool := (List.range x).all fun d => decide (d < 2 ∨ x < d * d ∨ x % d ≠ 0)
theorem prim_iff {x : Nat} : primB x = true ↔ ∀ d, 2 ≤ d → d * d ≤ x → x % d ≠ 0 := by
  unfold primB
  rw [List.all_eq_true]
  constructor
  · intro h d h2 h3 h4
    by_cases hd : d < x
    · have := of_decide_eq_true (h d (List.mem_range.2 hd)); omega
    · have h5 : d * 2 ≤ d * d := Nat.mul_le_mul_left _ h2
      omega
  · intro h d _
    refine decide_eq_true ?_
    by_cases h2 : d < 2
    · exact .inl h2
    · by_cases h3 : x < d * d
      · exact .inr (.inl h3)
      · exact .inr (.inr (h d (by omega) (by omega)))

set_option maxHeartbeats 1000000 in
theorem isPrime_any (x : Nat) (h2 : 2 ≤ x) (hx : x ≤ 1000) (w : World) :
    Calls Tryd.prog 38 #[.int .i64 x] w fun e w' => e = .returned (.bool (primB x)) ∧ w = w' := by
  go_enter Tryd.func38, Tryd.ntmps38
  go_wp2
  go_loopw [3] (fun i wr => ∃ d : Nat, 2 ≤ d ∧ d ≤ 1000 ∧ i = .int .i64 d ∧ (∀ k, 2 ≤ k → k < d → k * k ≤ x → x % k ≠ 0) ∧ w = wr) (fun i _ => 1000 - (intOf i).toNat)
  case atStart => exact ⟨2, by omega, by omega, rfl, by intros; omega, rfl⟩
  case round =>
    obtain ⟨d, hd, hd2, rfl, hb, rfl⟩ := hrel
    have hm := mul_bd (show d ≤ 100000 by omega) (show d ≤ 100000 by omega)
    have he : (d : Int) * (d : Int) = ((d * d : Nat) : Int) := by simp
    have HB := Lib.hid hb
    clear hb
    have hdd : d * 2 ≤ d * d := Nat.mul_le_mul_left _ hd
    have HE := Lib.hid he
    have hd0 : ((d : Int) == 0) = false := by rw [beq_eq_false_iff_ne]; omega
    have HM := Lib.hid (tmod_nat x d)
    by_cases hle : d * d ≤ x
    · have hle' : (d : Int) * (d : Int) ≤ (x : Int) := by rw [HE.out]; omega
      by_cases h0 : x % d = 0
      · have HV := Lib.hid (show primB x = false by
          cases e : primB x
          · rfl
          · exact absurd h0 (prim_iff.1 e d hd hle))
        have ht : ((x : Int)).tmod (d : Int) = 0 := by rw [HM.out, h0]; rfl
        clear he
        go_wp2
        go_ret
        exact ⟨ret_bool HV.out.symm, rfl⟩
      · have ht : (((x : Int)).tmod (d : Int) == 0) = false := by rw [HM.out, beq_eq_false_iff_ne]; omega
        have HN := Lib.hid (show ∀ k, 2 ≤ k → k < d + 1 → k * k ≤ x → x % k ≠ 0 from fun k h3 h4 h5 => by
          by_cases e : k = d
          · rw [e]; exact h0
          · exact HB.out k h3 (by omega) h5)
        clear he
        go_wp2
        go_roundw
        case rel => exact ⟨d + 1, by omega, by omega, by go_num, HN.out, by trivial⟩
        case measure => simp only [intOf]; omega
    · have hle' : ¬ (d : Int) * (d : Int) ≤ (x : Int) := by rw [HE.out]; omega
      have HV := Lib.hid (show primB x = true from prim_iff.2 fun k h3 h4 => by
        by_cases e : k < d
        · exact HB.out k h3 e h4
        · have := Nat.mul_le_mul (show d ≤ k by omega) (show d ≤ k by omega); omega)
      clear he
      go_wp2
      go_ret
      exact ⟨ret_bool HV.out.symm, rfl⟩

/-! ### the prime of a circle -/
/-- How many steps beyond the first number. -/
theorem prime_all : ∀ n : Nat, n < 17 → 2 ≤ n → primB (qN n) = true ∧ (qN n - (2 * n + 1)) % n = 0 ∧ ∀ j : Nat, j < (qN n - (2 * n + 1)) / n → primB (2 * n + 1 + j * n) = false := by decide +kernel

theorem primeOf_any (n : Nat) (h : Circ n) (w : World) :
    Calls Tryd.prog 27 #[.int .i64 n] w fun e w' => e = .returned (.int .i64 ((qN n : Nat) : Int)) ∧ w = w' := by
  obtain ⟨p1, p2, p3⟩ := prime_all n h.2 h.1
  have hq := h.q_le
  have hn := h.n_lt
  have h2 := h.1
  have h17 := h.2
  obtain ⟨J, hJ⟩ : ∃ J, (qN n - (2 * n + 1)) / n = J := ⟨_, rfl⟩
  have hJn : 2 * n + 1 + J * n = qN n := by
    have := Nat.div_add_mod (qN n - (2 * n + 1)) n
    rw [hJ, p2, Nat.mul_comm] at this
    omega
  rw [hJ] at p3
  have HP := Lib.hid (fun x W (h2 : 2 ≤ x) (hx : x ≤ 1000) => isPrime_any x h2 hx W)
  have P1 := Lib.hid p1
  have P3 := Lib.hid p3
  have HJ := Lib.hid hJn
  clear p1 p2 p3 hJ hJn h
  generalize qN n = q at *
  go_enter Tryd.func27, Tryd.ntmps27
  go_wp2
  go_loopw [3] (fun i wr => ∃ j : Nat, j ≤ J ∧ i = .int .i64 ((2 * n + 1 + j * n : Nat) : Int) ∧ w = wr) (fun i _ => 1000 - (intOf i).toNat)
  case atStart => exact ⟨0, Nat.zero_le _, by simp, rfl⟩
  case round =>
    obtain ⟨j, hj, rfl, rfl⟩ := hrel
    have hle : j * n ≤ J * n := Nat.mul_le_mul_right _ hj
    have HX := Lib.hid (HP.out (2 * n + 1 + j * n) w (by omega) (by have := HJ.out; omega))
    by_cases hlt : j < J
    · rw [P3.out j hlt] at HX
      have hs : 2 * n + 1 + (j + 1) * n = 2 * n + 1 + j * n + n := by rw [Nat.add_mul j 1 n]; omega
      have HS := Lib.hid hs
      have hb : 2 * n + 1 + j * n ≤ 1000 := by have := HJ.out; omega
      have hb2 : 2 * n + 1 + j * n + n ≤ 1000 := by have := HJ.out; have := Nat.mul_le_mul_right n (show j + 1 ≤ J from hlt); rw [Nat.add_mul, Nat.one_mul] at this; omega
      obtain ⟨x, hx⟩ : ∃ x, 2 * n + 1 + j * n = x := ⟨_, rfl⟩
      rw [hx] at HX HS hb hb2 ⊢
      clear hx hs hle
      go_wp2_with fail
      refine HX.out.mono ?_
      rintro e w1 ⟨rfl, rfl⟩
      go_wp2
      go_roundw
      case rel => exact ⟨j + 1, by omega, by rw [HS.out]; go_num, by trivial⟩
      case measure => simp only [intOf]; omega
    · obtain rfl : j = J := by omega
      rw [HJ.out] at HX ⊢
      rw [P1.out] at HX
      go_wp2_with fail
      refine HX.out.mono ?_
      rintro e w1 ⟨rfl, rfl⟩
      go_wp2
      go_ret
      exact ⟨rfl, rfl⟩

/-! ### the order of a number -/
/-- The order is k: the k-th power is 1, and none before. -/
def OrdB (q x k : Nat) : Bool := decide (1 ≤ k) && x ^ k % q == 1 && (List.range k).all fun j => decide (j = 0) || x ^ j % q != 1
theorem ord_all : ∀ n : Nat, n < 17 → 2 ≤ n → OrdB (qN n) (wN n) n = true ∧ ∀ x : Nat, x < wN n → 2 ≤ x → ((List.range (qN n)).any fun k => OrdB (qN n) x k && k != n) = true := by decide +kernel
theorem ord_spec {q x k : Nat} (h : OrdB q x k = true) : 1 ≤ k ∧ x ^ k % q = 1 ∧ ∀ j, 1 ≤ j → j < k → x ^ j % q ≠ 1 := by
  unfold OrdB at h
  simp only [Bool.and_eq_true, decide_eq_true_eq, beq_iff_eq, List.all_eq_true, List.mem_range, Bool.or_eq_true, bne_iff_ne] at h
  refine ⟨h.1.1, h.1.2, fun j h1 h2 h3 => ?_⟩
  rcases h.2 j h2 with e | e
  · omega
  · exact e h3

/-- A field in its box, and what may have come later. -/
structure FAt (w0 : World) (b : Nat) (n q r : Nat) (W : World) : Prop where
  hb : Below w0.heap.size w0 W
  row : Row W b 38 [.int .i64 (n : Int), .int .i64 (q : Int), .int .i64 (r : Int)]
theorem FAt.new (n q r : Nat) (w : World) : FAt w w.heap.size n q r (w.alloc (.cells #[.int .i64 (n : Int), .int .i64 (q : Int), .int .i64 (r : Int)] 38)) :=
  ⟨(Below.refl _ w).alloc (Nat.le_refl _) _, Row.new w _ _⟩
theorem FAt.later {w0 : World} {b n q r : Nat} {W W' : World} (h : FAt w0 b n q r W) (k : Below W.heap.size W W') : FAt w0 b n q r W' :=
  ⟨h.hb.trans (k.mono h.hb.size), h.row.later k⟩
theorem FAt.cell {w0 : World} {b n q r : Nat} {W : World} (h : FAt w0 b n q r W) : W.cell? ⟨b, 0, none⟩ = some (.int .i64 (n : Int)) ∧ W.cell? ⟨b, 1, none⟩ = some (.int .i64 (q : Int)) ∧ W.cell? ⟨b, 2, none⟩ = some (.int .i64 (r : Int)) :=
  ⟨h.row.cell 0, h.row.cell 1, h.row.cell 2⟩

theorem order_any (n q r x k : Nat) (hq : 1 < q) (hq2 : q ≤ 100) (hx : x < q) (hk : k ≤ 100) (ho : OrdB q x k = true) (w : World) :
    Calls Tryd.prog 28 #[fV n q r, .int .i64 x] w fun e w' => e = .returned (.int .i64 (k : Int)) ∧ Below w.heap.size w w' := by
  obtain ⟨k1, k2, k3⟩ := ord_spec ho
  have HP := Lib.hid (fun y W (hy : y < q) => product_any n q r y x (by omega) (by omega) (by omega) W)
  have K2 := Lib.hid k2
  have K3 := Lib.hid k3
  have HF := Lib.hid (FAt.new n q r w)
  have h1 := Lib.hid (show x ^ 1 % q = x by rw [Nat.pow_one, Nat.mod_eq_of_lt hx])
  have HS := Lib.hid (fun j => show x ^ j % q * x % q = x ^ (j + 1) % q by rw [Nat.pow_succ, Nat.mod_mul_mod])
  have HL := Lib.hid (fun j => Nat.mod_lt (x ^ j) (show 0 < q by omega))
  clear k2 k3 ho
  obtain ⟨B, hB⟩ : ∃ B, w.heap.size = B := ⟨_, rfl⟩
  unfold fV at *
  go_enter Tryd.func28, Tryd.ntmps28
  go_wp2
  rw [hB] at HF
  go_loopw [5, 6] (fun t p wr => ∃ j : Nat, 1 ≤ j ∧ j ≤ k ∧ t = .int .i64 j ∧ p = .int .i64 ((x ^ j % q : Nat) : Int) ∧ FAt w B n q r wr) (fun t _ _ => 1000 - (intOf t).toNat)
  case atStart => exact ⟨1, by omega, k1, rfl, by rw [h1.out], HF.out⟩
  case round =>
    obtain ⟨j, hj1, hjk, rfl, rfl, hF⟩ := hrel
    have HF' := Lib.hid hF
    obtain ⟨c0, c1, c2⟩ := hF.cell
    clear hF
    have hl := HL.out j
    by_cases hlt : j < k
    · have hne := K3.out j hj1 hlt
      have HSj := Lib.hid (HS.out j)
      generalize x ^ j % q = y at *
      go_wp2_with fail
      refine (HP.out y _ hl).mono ?_
      rintro e w1 ⟨rfl, b1⟩
      rw [HSj.out]
      have HF1 := Lib.hid (HF'.out.later b1)
      clear b1
      go_wp2
      go_roundw
      case rel => exact ⟨j + 1, by omega, by omega, by go_num, rfl, HF1.out⟩
      case measure => simp only [intOf]; omega
    · obtain rfl : j = k := by omega
      rw [K2.out]
      go_wp2
      go_ret
      exact ⟨rfl, HF'.out.hb⟩

theorem FAt.setRoot {w0 : World} {b n q r : Nat} {W : World} (h : FAt w0 b n q r W) (hb : w0.heap.size ≤ b) (r' : Nat) : FAt w0 b n q r' (W.setCell ⟨b, 2, none⟩ (.int .i64 (r' : Int))) :=
  ⟨h.hb.setCell (p := ⟨b, 2, none⟩) hb _, h.row.set 2 _⟩
theorem FAt.other {w0 : World} {b b' i n q r : Nat} {W : World} (h : FAt w0 b n q r W) (hne : b ≠ b') (hb : w0.heap.size ≤ b') (v : Value) : FAt w0 b n q r (W.setCell ⟨b', i, none⟩ v) :=
  ⟨h.hb.setCell (p := ⟨b', i, none⟩) hb _, h.row.other hne v⟩

theorem any_spec {q x n : Nat} (h : ((List.range q).any fun k => OrdB q x k && k != n) = true) : ∃ k, k < q ∧ OrdB q x k = true ∧ k ≠ n := by
  rw [List.any_eq_true] at h
  obtain ⟨k, h1, h2⟩ := h
  simp only [Bool.and_eq_true, bne_iff_ne] at h2
  exact ⟨k, List.mem_range.1 h1, h2.1, h2.2⟩

theorem info_field : (Tryd.prog.info? 38).map (·.size) = some 3 := by kernel_rfl
theorem fields_new (n q r : Nat) (w : World) : FAt w (w.heap.size + 1) n q r ((w.alloc (.cells #[.int .i64 0, .int .i64 0, .int .i64 0] 38)).alloc (.cells #[.int .i64 (n : Int), .int .i64 (q : Int), .int .i64 (r : Int)] 38)) ∧ Row ((w.alloc (.cells #[.int .i64 0, .int .i64 0, .int .i64 0] 38)).alloc (.cells #[.int .i64 (n : Int), .int .i64 (q : Int), .int .i64 (r : Int)] 38)) w.heap.size 38 [.int .i64 0, .int .i64 0, .int .i64 0] := by
  refine ⟨⟨((Below.refl _ w).alloc (Nat.le_refl _) _).alloc (by simp) _, ?_⟩, (Row.new w _ _).alloc _⟩
  have := Row.new (w.alloc (.cells #[.int .i64 0, .int .i64 0, .int .i64 0] 38)) 38 [.int .i64 (n : Int), .int .i64 (q : Int), .int .i64 (r : Int)]
  rw [World.size_alloc] at this
  exact this
set_option maxHeartbeats 1000000 in
theorem fieldOf_ok (n : Nat) (h : Circ n) (w : World) :
    Calls Tryd.prog 14 #[.int .i64 n] w fun e w' => e = .returned (fV n (qN n) (wN n)) ∧ Below w.heap.size w w' := by
  obtain ⟨o1, o2⟩ := ord_all n h.2 h.1
  have hn1 := h.1
  have hn2 := h.2
  have hq := h.q_le
  have hqn := h.n_lt
  have hw2 := h.w_ge
  have hwl := h.w_lt
  have HP := Lib.hid (fun W => primeOf_any n h W)
  have HO1 := Lib.hid (fun W => order_any n (qN n) (wN n) (wN n) n (by omega) (by omega) (by omega) (by omega) o1 W)
  have HO2 := Lib.hid (fun r (h2 : 2 ≤ r) (h3 : r < wN n) W => show ∃ k : Nat, k ≤ 100 ∧ k ≠ n ∧ Calls Tryd.prog 28 #[fV n (qN n) r, .int .i64 r] W fun e w' => e = .returned (.int .i64 (k : Int)) ∧ Below W.heap.size W w' from by
    obtain ⟨k, a1, a2, a3⟩ := any_spec (o2 r h3 h2)
    exact ⟨k, by omega, a3, order_any n (qN n) r r k (by omega) (by omega) (by omega) (by omega) a2 W⟩)
  clear o1 o2 h
  generalize qN n = q at *
  generalize wN n = r0 at *
  obtain ⟨B, hB⟩ : ∃ B, w.heap.size = B := ⟨_, rfl⟩
  unfold fV at *
  go_enter Tryd.func14, Tryd.ntmps14
  go_wp2_with fail
  refine (HP.out _).mono ?_
  rintro e w1 ⟨rfl, rfl⟩
  have HF := Lib.hid (fields_new n q 2 w)
  rw [hB] at HF
  go_wp2_with fail
  have d1 : decide ((n : Int) < 2) = false := decide_eq_false (by omega)
  have d2 : decide ((16 : Int) < (n : Int)) = false := decide_eq_false (by omega)
  simp only [d1, d2, Bool.or_false]
  go_loopw [] (fun wr => ∃ r : Nat, 2 ≤ r ∧ r ≤ r0 ∧ FAt w (B + 1) n q r wr ∧ Row wr B 38 [.int .i64 0, .int .i64 0, .int .i64 0]) (fun wr => 1000 - (intOf ((wr.cell? ⟨B + 1, 2, none⟩).getD undef)).toNat)
  case atStart => exact ⟨2, by omega, hw2, HF.out.1, HF.out.2⟩
  case round =>
    obtain ⟨r, hr2, hr, hF, hR⟩ := hrel
    obtain ⟨c0, c1, c2⟩ := hF.cell
    have HF1 := Lib.hid hF
    have HR1 := Lib.hid hR
    have f2 := hF.row.frozen 2
    clear hF hR
    by_cases hlt : r < r0
    · obtain ⟨k, k1, k2, HC⟩ := HO2.out r hr2 hlt wr
      have HC' := Lib.hid HC
      clear HC
      have kn : ((k : Int) == (n : Int)) = false := by rw [beq_eq_false_iff_ne]; omega
      go_wp2_with fail
      refine HC'.out.mono ?_
      rintro e w2 ⟨rfl, b2⟩
      have HF2 := Lib.hid (HF1.out.later b2)
      have HR2 := Lib.hid (HR1.out.later b2)
      obtain ⟨e0, e1, e2⟩ := HF2.out.cell
      have f2' := HF2.out.row.frozen 2
      clear b2
      have HF3 := Lib.hid (show FAt w (B + 1) n q (r + 1) (w2.setCell ⟨B + 1, 2, none⟩ (.int .i64 ((r : Int) + 1))) from by rw [show ((r : Int) + 1) = ((r + 1 : Nat) : Int) by omega]; exact HF2.out.setRoot (by omega) _)
      have HE3 := Lib.hid HF3.out.cell.2.2
      have HC2 := Lib.hid c2
      go_wp2
      go_roundw
      case rel => exact ⟨r + 1, by omega, by omega, HF3.out, HR2.out.other (by omega) _⟩
      case measure => rw [HE3.out, HC2.out]; simp only [Option.getD_some, intOf]; omega
    · obtain rfl : r = r0 := by omega
      have HC' := Lib.hid (HO1.out wr)
      go_wp2_with fail
      refine HC'.out.mono ?_
      rintro e w2 ⟨rfl, b2⟩
      have HF2 := Lib.hid (HF1.out.later b2)
      have HR2 := Lib.hid (HR1.out.later b2)
      clear b2 c0 c1 c2
      obtain ⟨e0, e1, e2⟩ := HF2.out.cell
      have g0 : w2.cell? ⟨B, 0, none⟩ = some (.int .i64 0) := HR2.out.cell 0
      have g1 : w2.cell? ⟨B, 1, none⟩ = some (.int .i64 0) := HR2.out.cell 1
      have g2 : w2.cell? ⟨B, 2, none⟩ = some (.int .i64 0) := HR2.out.cell 2
      have f0 := HR2.out.frozen 0
      have f1 := HR2.out.frozen 1
      have f2 := HR2.out.frozen 2
      have HRR := Lib.hid (((HR2.out.set 0 (.int .i64 (n : Int))).set 1 (.int .i64 (q : Int))).set 2 (.int .i64 (r : Int)))
      have HBB := Lib.hid (((HF2.out.hb.setCell (p := ⟨B, 0, none⟩) (show w.heap.size ≤ B by omega) (.int .i64 (n : Int))).setCell (p := ⟨B, 1, none⟩) (show w.heap.size ≤ B by omega) (.int .i64 (q : Int))).setCell (p := ⟨B, 2, none⟩) (show w.heap.size ≤ B by omega) (.int .i64 (r : Int)))
      go_wp2
      refine bodyPost_ret (results_cell_row rfl _ _ B 38 #[.int .i64 (n : Int), .int .i64 (q : Int), .int .i64 (r : Int)] (0, 0) _ rfl HRR.out Tryd.underlying38 rfl info_field) rfl ?_
      exact ⟨rfl, HBB.out⟩

theorem fieldOf_bad (n : Int) (h : ¬ (2 ≤ n ∧ n ≤ 16)) (w : World) :
    Calls Tryd.prog 14 #[.int .i64 n] w fun e w' => e = .returned (fV 0 0 0) ∧ Below w.heap.size w w' := by
  have HB := Lib.hid ((Below.refl w.heap.size w).alloc (Nat.le_refl _) (.cells #[.int .i64 0, .int .i64 0, .int .i64 0] 38))
  have HR := Lib.hid (Row.new w 38 [.int .i64 0, .int .i64 0, .int .i64 0])
  unfold fV
  by_cases h2 : n < 2
  · go_enter Tryd.func14, Tryd.ntmps14
    go_wp2
    refine bodyPost_ret (results_cell_row rfl _ _ w.heap.size 38 #[.int .i64 0, .int .i64 0, .int .i64 0] (0, 0) _ rfl HR.out Tryd.underlying38 rfl info_field) rfl ?_
    exact ⟨rfl, HB.out⟩
  · have h3 : 16 < n := by omega
    go_enter Tryd.func14, Tryd.ntmps14
    go_wp2
    refine bodyPost_ret (results_cell_row rfl _ _ w.heap.size 38 #[.int .i64 0, .int .i64 0, .int .i64 0] (0, 0) _ rfl HR.out Tryd.underlying38 rfl info_field) rfl ?_
    exact ⟨rfl, HB.out⟩

end Go.Proofs.YthnenhfdojpobaaDoor

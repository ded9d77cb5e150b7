/-
  A root of a rhythm silences its wheel; two rhythms that fill the circle are silent together everywhere but at 0. Plain mathematics; no program is spoken of.
-/
import Derived.Test.YthnenhfdojpobaaDoorWhMath
import Derived.Test.YthnenhfdojpobaaDoorCaRootMath
import Derived.Test.YthnenhfdojpobaaDoorGrid
namespace Go.Proofs.YthnenhfdojpobaaDoor
set_option linter.unusedVariables false

/-! ### the same modulo q, with signs -/
def Mz (q : Nat) (a b : Int) : Prop := a % (q : Int) = b % (q : Int)
theorem Mz.rfl {q : Nat} {a : Int} : Mz q a a := Eq.refl _
theorem Mz.symm {q : Nat} {a b : Int} (h : Mz q a b) : Mz q b a := Eq.symm h
theorem Mz.trans {q : Nat} {a b c : Int} (h : Mz q a b) (k : Mz q b c) : Mz q a c := Eq.trans h k
theorem Mz.of_eq {q : Nat} {a b : Int} (h : a = b) : Mz q a b := by rw [h]; exact Mz.rfl
theorem Mz.add {q : Nat} {a b c d : Int} (h : Mz q a b) (k : Mz q c d) : Mz q (a + c) (b + d) := by
  unfold Mz at *; rw [Int.add_emod, h, k, ← Int.add_emod]
theorem Mz.sub {q : Nat} {a b c d : Int} (h : Mz q a b) (k : Mz q c d) : Mz q (a - c) (b - d) := by
  unfold Mz at *; rw [Int.sub_emod, h, k, ← Int.sub_emod]
theorem Mz.mul {q : Nat} {a b c d : Int} (h : Mz q a b) (k : Mz q c d) : Mz q (a * c) (b * d) := by
  unfold Mz at *; rw [Int.mul_emod, h, k, ← Int.mul_emod]
theorem Mz.of_md {q a b : Nat} (h : Md q a b) : Mz q (a : Int) (b : Int) := by
  unfold Mz; unfold Md at h
  rw [← Int.natCast_emod, ← Int.natCast_emod, h]
theorem Mz.to_md {q a b : Nat} (h : Mz q (a : Int) (b : Int)) : Md q a b := by
  unfold Mz at h; unfold Md
  rw [← Int.natCast_emod, ← Int.natCast_emod] at h
  exact Int.ofNat.inj h
theorem Mz.sum {q n : Nat} {f g : Nat → Int} (h : ∀ i, i < n → Mz q (f i) (g i)) : Mz q (sumZ n f) (sumZ n g) := by
  induction n with
  | zero => exact Mz.rfl
  | succ n ih => simp only [sumZ]; exact (ih fun i hi => h i (by omega)).add (h n (by omega))

/-! ### the value of a polynomial modulo x^s - 1 at W, where W^s is 1 -/
theorem pw_mod {q W s : Nat} (h : Md q (W ^ s) 1) (a : Nat) : Md q (W ^ a) (W ^ (a % s)) := by
  have e : W ^ a = (W ^ s) ^ (a / s) * W ^ (a % s) := by rw [← Nat.pow_mul, ← Nat.pow_add, Nat.div_add_mod]
  rw [e]
  refine ((h.pow (a / s)).mul (Md.refl _ _)).trans ?_
  rw [Nat.one_pow, Nat.one_mul]; exact Md.refl _ _
def valZ (s W : Nat) (F : Nat → Int) : Int := sumZ s fun j => F j * ((W ^ j : Nat) : Int)
theorem val_mulF {q W s p : Nat} (hs : 0 < s) (h : Md q (W ^ s) 1) (F : Nat → Int) : Mz q (valZ s W (mulF p s F)) (valZ s W F * (1 - ((W ^ (s / p) : Nat) : Int))) := by
  have hd : s / p ≤ s := Nat.div_le_self _ _
  have e1 : valZ s W (mulF p s F) = valZ s W F - sumZ s (fun j => F ((j + s - s / p) % s) * ((W ^ j : Nat) : Int)) := by
    unfold valZ
    rw [← sumZ_sub]
    exact sumZ_congr fun j _ => by unfold mulF; rw [Int.sub_mul]
  have e2 : Mz q (sumZ s (fun j => F ((j + s - s / p) % s) * ((W ^ j : Nat) : Int))) (sumZ s (fun j => F ((j + s - s / p) % s) * ((W ^ ((j + s - s / p) % s) : Nat) : Int) * ((W ^ (s / p) : Nat) : Int))) := by
    refine Mz.sum fun j hj => ?_
    rw [Int.mul_assoc]
    refine Mz.mul Mz.rfl ?_
    have hb := (back_mod hd hj (Nat.mod_lt (j + s - s / p) hs)).1 rfl
    have h1 := pw_mod h ((j + s - s / p) % s + s / p)
    rw [hb, Nat.pow_add] at h1
    have := (Mz.of_md h1).symm
    rwa [Int.natCast_mul] at this
  have e3 : sumZ s (fun j => F ((j + s - s / p) % s) * ((W ^ ((j + s - s / p) % s) : Nat) : Int) * ((W ^ (s / p) : Nat) : Int)) = valZ s W F * ((W ^ (s / p) : Nat) : Int) := by
    rw [sumZ_mulr]
    unfold valZ
    rw [sumZ_perm s (fun j => (j + s - s / p) % s) (fun i => (i + s / p) % s) (fun _ _ => Nat.mod_lt _ hs) (fun _ _ => Nat.mod_lt _ hs)
      (fun j hj => (back_mod hd hj (Nat.mod_lt (j + s - s / p) hs)).1 rfl)
      (fun i hi => (back_mod hd (Nat.mod_lt (i + s / p) hs) hi).2 rfl) (fun i => F i * ((W ^ i : Nat) : Int))]
  rw [e1, Int.mul_sub, Int.mul_one]
  rw [e3] at e2
  exact Mz.rfl.sub e2
/-- Where the differences can be undone, nothing left of the product means nothing ahead of it. -/
theorem val_prodF {q W s : Nat} (hs : 0 < s) (h : Md q (W ^ s) 1) (l : List Nat) : ∀ (m : Nat) (ps : List Nat), ps.length = m → (∀ p ∈ ps, ∃ v : Int, Mz q ((1 - ((W ^ (s / p) : Nat) : Int)) * v) 1) → Mz q (valZ s W (prodF l s ps)) 0 → Mz q (valZ s W fun k => (cntMod l s k : Int)) 0
  | 0, ps, hp, _, h0 => by
    obtain rfl := List.eq_nil_of_length_eq_zero hp
    exact h0
  | m + 1, ps, hp, hv, h0 => by
    obtain ⟨qs, p, rfl⟩ : ∃ qs p, ps = qs ++ [p] := ⟨ps.dropLast, ps.getLast (by intro e; rw [e] at hp; cases hp), (List.dropLast_concat_getLast _).symm⟩
    rw [List.length_append, List.length_singleton] at hp
    refine val_prodF hs h l m qs (by omega) (fun x hx => hv x (List.mem_append_left _ hx)) ?_
    obtain ⟨v, h1⟩ := hv p (by simp)
    rw [prodF_snoc] at h0
    have h2 := ((val_mulF (p := p) hs h (prodF l s qs)).symm.trans h0).mul (Mz.rfl (q := q) (a := v))
    rw [Int.mul_assoc, Int.zero_mul] at h2
    have h3 := (Mz.rfl (q := q) (a := valZ s W (prodF l s qs))).mul h1
    rw [Int.mul_one] at h3
    exact h3.symm.trans h2
theorem val_cnt {q W s : Nat} (hs : 0 < s) (h : Md q (W ^ s) 1) : ∀ l : List Nat, Mz q (valZ s W fun k => (cntMod l s k : Int)) (((l.map (W ^ ·)).sum : Nat) : Int)
  | [] => by
    refine Mz.of_eq ?_
    unfold valZ
    rw [sumZ_congr (g := fun _ => 0) (fun j _ => by show ((0 : Nat) : Int) * _ = 0; simp), sumZ_zero]
    rfl
  | x :: l => by
    have e : valZ s W (fun k => (cntMod (x :: l) s k : Int)) = valZ s W (fun k => (cntMod l s k : Int)) + ((W ^ (x % s) : Nat) : Int) := by
      unfold valZ
      rw [← sumZ_single (Nat.mod_lt x hs) (fun i => ((W ^ i : Nat) : Int)), ← sumZ_add]
      refine sumZ_congr fun j _ => ?_
      unfold cntMod
      by_cases hx : x % s = j
      · rw [if_pos hx.symm]
        have e : ((x :: l).filter fun y => y % s == j).length = (l.filter fun y => y % s == j).length + 1 := by
          rw [List.filter_cons_of_pos (by simp [hx]), List.length_cons]
        show (((((x :: l).filter fun y => y % s == j).length : Nat) : Int)) * _ = ((((l.filter fun y => y % s == j).length : Nat) : Int)) * _ + _
        rw [e, Int.natCast_add, Int.add_mul]
        simp
      · rw [if_neg (fun e => hx e.symm)]
        have e : ((x :: l).filter fun y => y % s == j).length = (l.filter fun y => y % s == j).length := by
          rw [List.filter_cons_of_neg (by simp [hx])]
        show (((((x :: l).filter fun y => y % s == j).length : Nat) : Int)) * _ = ((((l.filter fun y => y % s == j).length : Nat) : Int)) * _ + _
        rw [e, Int.add_zero]
    rw [e, List.map_cons, List.sum_cons, Int.natCast_add, Int.add_comm]
    exact (Mz.of_md (pw_mod h x)).symm.add (val_cnt hs h l)
theorem undo_chk : ((List.range 17).all fun n => (List.range 17).all fun k => if 2 ≤ n ∧ k < n ∧ 1 ≤ k then decide ((wN n ^ k) ^ (n / Nat.gcd n k) % qN n = 1) && (decide (1 ≤ n / Nat.gcd n k) && (primesL (n / Nat.gcd n k)).all fun p => decide ((wN n ^ k) ^ (n / Nat.gcd n k / p) % qN n ≠ 1)) else true) = true := by decide +kernel
theorem undo_all {n k : Nat} (h0 : n < 17) (h1 : 2 ≤ n) (hk : k < n) (hk1 : 1 ≤ k) : (wN n ^ k) ^ (n / Nat.gcd n k) % qN n = 1 ∧ 1 ≤ n / Nat.gcd n k ∧ ∀ p : Nat, p ∈ primesL (n / Nat.gcd n k) → ((wN n ^ k) ^ (n / Nat.gcd n k / p)) % qN n ≠ 1 := by
  have h := List.all_eq_true.1 undo_chk n (List.mem_range.2 h0)
  have h := List.all_eq_true.1 h k (List.mem_range.2 (by omega))
  rw [if_pos ⟨h1, hk, hk1⟩, Bool.and_eq_true, Bool.and_eq_true] at h
  exact ⟨of_decide_eq_true h.1, of_decide_eq_true h.2.1, fun p hp => of_decide_eq_true (List.all_eq_true.1 h.2.2 p hp)⟩
theorem undo {q y : Nat} (hq : 1 < q) (hi : ∀ x : Nat, x < q → x ≠ 0 → x * (x ^ (q - 2) % q) % q = 1) (h : y % q ≠ 1) : ∃ v : Int, Mz q ((1 - (y : Int)) * v) 1 := by
  have hl := Nat.mod_lt y (show 0 < q by omega)
  have h1 := hi ((1 + q - y % q) % q) (Nat.mod_lt _ (by omega)) (by
    by_cases h0 : y % q = 0
    · rw [h0, show 1 + q - 0 = 1 + q by omega, Nat.add_mod_right, Nat.mod_eq_of_lt hq]; omega
    · rw [Nat.mod_eq_of_lt (by omega)]; omega)
  generalize ((1 + q - y % q) % q) ^ (q - 2) % q = v at h1
  refine ⟨(v : Int), ?_⟩
  have h2 : Mz q (1 - (y : Int)) (((1 + q - y % q) % q : Nat) : Int) := by
    unfold Mz
    rw [Int.natCast_emod, Int.emod_emod_of_dvd _ (Int.dvd_refl _)]
    have := Nat.div_add_mod y q
    have e : (((1 + q - y % q : Nat)) : Int) = 1 - (y : Int) + (q : Int) * ((y / q : Nat) + 1 : Int) := by
      have e2 : (((1 + q - y % q : Nat)) : Int) = 1 + (q : Int) - ((y % q : Nat) : Int) := by omega
      have e3 : (y : Int) = (q : Int) * ((y / q : Nat) : Int) + ((y % q : Nat) : Int) := by
        rw [← Int.natCast_mul, ← Int.natCast_add, this]
      rw [e2, Int.mul_add, Int.mul_one]
      omega
    rw [e, Int.add_mul_emod_self_left]
  refine (h2.mul Mz.rfl).trans ?_
  rw [← Int.natCast_mul]
  refine Mz.of_md ?_
  unfold Md
  rw [h1, Nat.mod_eq_of_lt hq]
theorem root_silent {n a k : Nat} (h : Circ n) (ha : a < 2 ^ n) (hk : k < n) (hk1 : 1 ≤ k) (hr : rootB a (n / Nat.gcd n k) = true) : spF n (chF n a) k = 0 := by
  have hu := undo_all h.2 h.1 hk hk1
  obtain ⟨h1, h2, h3⟩ := hu
  have hq : 1 < qN n := by have := h.n_lt; have := h.1; omega
  generalize n / Nat.gcd n k = s at *
  have hW : Md (qN n) ((wN n ^ k) ^ s) 1 := by unfold Md; rw [h1, Nat.mod_eq_of_lt hq]
  have hz : Mz (qN n) (valZ s (wN n ^ k) (prodF (tonesL a) s (primesL s))) 0 := by
    refine Mz.of_eq ?_
    unfold valZ
    rw [sumZ_congr (g := fun _ => 0) (fun j hj => ?_), sumZ_zero]
    have := List.all_eq_true.1 hr j (List.mem_range.2 hj)
    rw [beq_iff_eq.1 this, Int.zero_mul]
  have hc := val_prodF (by omega) hW (tonesL a) _ (primesL s) rfl (fun p hp => undo hq (inv_all n h.2 h.1) (h3 p hp)) hz
  have h4 := ((val_cnt (by omega) hW (tonesL a)).symm.trans hc).to_md (b := 0)
  rw [tonesL_eq a (n := n) (by have := h.2; omega) ha, sum_tones] at h4
  have h5 : Md (qN n) (spF n (chF n a) k) (sumN n fun x => bI a x * (wN n ^ k) ^ x) := by
    refine (sp_md hk _).trans (Md.of_eq (sum_congr fun x hx => ?_))
    unfold chF
    rw [if_pos hx, Nat.pow_mul]
  exact (h5.trans h4).eq ((sp_wh h _).lt k) h.q_pos

theorem cnt_bound (n a b i : Nat) : cntN n a b i ≤ n := by
  have h : ∀ m : Nat, sumN m (fun y => bI b y * bI a ((i + n - y) % n)) ≤ m := fun m => by
    induction m with
    | zero => exact Nat.le_refl _
    | succ m ih =>
      simp only [sumN]
      have h1 : bI b m * bI a ((i + n - m) % n) ≤ 1 := Nat.le_trans (Nat.mul_le_mul (bI_le b m) (bI_le a _)) (Nat.le_refl _)
      omega
  exact h n
theorem ti_cnt {n a b i : Nat} (h : Circ n) (hi : i < n) : tiF n (chF n a) (chF n b) i = cntN n a b i := by
  rw [ti_comm h]
  unfold tiF
  rw [if_pos hi]
  have e : sumN n (fun y => chF n b y * chF n a ((i + n - y) % n)) = cntN n a b i := by
    show _ = sumN n (fun y => bI b y * bI a ((i + n - y) % n))
    exact sum_congr fun y hy => by
      unfold chF
      rw [if_pos hy, if_pos (Nat.mod_lt _ (by omega))]
  rw [e, Nat.mod_eq_of_lt (by have := cnt_bound n a b i; have := h.n_lt; omega)]
def oneB (f : Nat → Nat) (j : Nat) : Bool := (List.range j).all fun i => f i == 1
theorem oneB_succ (f : Nat → Nat) (j : Nat) : oneB f (j + 1) = (oneB f j && (f j == 1)) := by
  unfold oneB; rw [List.range_succ, List.all_append]; simp
theorem one_tile {n a b : Nat} (h : Circ n) : oneB (tiF n (chF n a) (chF n b)) n = tileB n a b := by
  unfold oneB tileB
  rw [Bool.eq_iff_iff, List.all_eq_true, decide_eq_true_eq]
  constructor
  · intro hh i hi
    have := hh i (List.mem_range.2 hi)
    rw [beq_iff_eq, ti_cnt h hi] at this
    exact this
  · intro hh i hi
    rw [beq_iff_eq, ti_cnt h (List.mem_range.1 hi)]
    exact hh i (List.mem_range.1 hi)
theorem tile_prod {n a b k : Nat} (h : Circ n) (ht : tileB n a b = true) (hk : k < n) : spF n (chF n a) k * spF n (chF n b) k % qN n = if k = 0 then n else 0 := by
  have h1 := one_tile (a := a) (b := b) h
  rw [ht] at h1
  unfold oneB at h1
  have h2 : spF n (tiF n (chF n a) (chF n b)) = spF n (fun _ => 1) := sp_congr fun x hx => Md.of_eq (beq_iff_eq.1 (List.all_eq_true.1 h1 x (List.mem_range.2 hx)))
  rw [← conv h hk, h2]
  have h3 := sp_md hk (n := n) (fun _ => 1)
  have h4 := orth h k
  have h5 : Md (qN n) (spF n (fun _ => 1) k) (if k = 0 then n else 0) := by
    refine h3.trans ((Md.of_eq (sum_congr fun x _ => by rw [Nat.one_mul, Nat.mul_comm])).trans (h4.trans (Md.of_eq ?_)))
    rw [Nat.mod_eq_of_lt hk]
  exact h5.eq ((sp_wh h _).lt k) (by have := h.n_lt; split <;> omega)
theorem tile_silent {n a b k : Nat} (h : Circ n) (ht : tileB n a b = true) (hk : k < n) : (spF n (chF n a) k = 0 ∨ spF n (chF n b) k = 0) ↔ k ≠ 0 := by
  have hp := tile_prod h ht hk
  have hA := (sp_wh h (chF n a)).lt k
  have hB := (sp_wh h (chF n b)).lt k
  generalize spF n (chF n a) k = x at *
  generalize spF n (chF n b) k = y at *
  by_cases h0 : k = 0
  · rw [if_pos h0] at hp
    have := h.1
    constructor
    · rintro (rfl | rfl)
      · rw [Nat.zero_mul, Nat.zero_mod] at hp; omega
      · rw [Nat.mul_zero, Nat.zero_mod] at hp; omega
    · intro h1; exact absurd h0 h1
  · rw [if_neg h0] at hp
    refine ⟨fun _ => h0, fun _ => ?_⟩
    by_cases hx : x = 0
    · exact .inl hx
    · right
      have hi := inv_all n h.2 h.1 x hA hx
      generalize x ^ (qN n - 2) % qN n = v at hi
      have e1 : Md (qN n) (x * y) 0 := by unfold Md; rw [hp, Nat.zero_mod]
      have e2 : Md (qN n) (x * v) 1 := by
        unfold Md; rw [hi, Nat.mod_eq_of_lt (by have := h.n_lt; have := h.1; omega)]
      have e3 := (Md.refl (qN n) y).mul e2
      rw [Nat.mul_one] at e3
      have e4 : y * (x * v) = x * y * v := by rw [Nat.mul_comm x y, Nat.mul_assoc]
      rw [e4] at e3
      have e5 := e1.mul (Md.refl (qN n) v)
      rw [Nat.zero_mul] at e5
      exact (e3.symm.trans e5).eq hB h.q_pos

end Go.Proofs.YthnenhfdojpobaaDoor

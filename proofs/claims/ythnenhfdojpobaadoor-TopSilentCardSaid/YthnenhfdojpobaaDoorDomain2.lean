/-
  The same, carried on: one of two functions repeats after a p-th part of the circle if the sum of the turns of one by the other does.
-/
import Derived.Test.YthnenhfdojpobaaDoorDomain
namespace Go.Proofs.YthnenhfdojpobaaDoor

def CongF (p : Nat) (f g : Nat → Int) : Prop := ∀ i, (p : Int) ∣ f i - g i
theorem CongF.trans {p : Nat} {f g h : Nat → Int} (a : CongF p f g) (b : CongF p g h) : CongF p f h := fun i => by
  have := Int.dvd_add (a i) (b i)
  rwa [show f i - g i + (g i - h i) = f i - h i from by omega] at this
theorem CongF.dif {p d : Nat} {f g : Nat → Int} (h : CongF p f g) (m : Nat) : CongF p (difN d m f) (difN d m g) := fun i => by
  induction m generalizing i with
  | zero => exact h i
  | succ m ih =>
    simp only [difN]
    have := Int.dvd_sub (ih i) (ih (i + d))
    rwa [show difN d m f i - difN d m g i - (difN d m f (i + d) - difN d m g (i + d)) = difN d m f i - difN d m f (i + d) - (difN d m g i - difN d m g (i + d)) from by omega] at this

theorem dif_pow {p : Nat} (hp : Prm p) (a : Nat) : ∀ (d : Nat) (f : Nat → Int), CongF p (difN d (p ^ a) f) (fun i => f i - f (i + p ^ a * d)) := by
  induction a with
  | zero =>
    intro d f i
    simp [difN]
  | succ a ih =>
    intro d f
    have key : ∀ k, CongF p (difN d (p ^ a * k) f) (difN (p ^ a * d) k f) := fun k => by
      induction k with
      | zero => intro i; simp [difN]
      | succ k ihk =>
        have e : ∀ i, difN d (p ^ a * (k + 1)) f i = difN d (p ^ a) (difN d (p ^ a * k) f) i := fun i => by
          rw [Nat.mul_succ, Nat.add_comm, dif_add]
        have h1 := (ihk.dif (d := d) (p ^ a)).trans (ih d (difN (p ^ a * d) k f))
        intro i
        have h2 := h1 i
        rw [← e] at h2
        exact h2
    have h1 := key p
    rw [← Nat.pow_succ] at h1
    refine h1.trans (fun i => ?_)
    have h2 := dif_frob hp (p ^ a * d) f i
    rwa [show p * (p ^ a * d) = p ^ (a + 1) * d from by rw [Nat.pow_succ, ← Nat.mul_assoc, Nat.mul_comm p]] at h2

section
variable {p a N : Nat}

/-- All differences of a function around the circle. -/
theorem dif_all (hp : Prm p) (hN : N = p ^ a) {f : Nat → Int} (hf : PeriZ N f) (t : Nat) : ∀ i, ((p ^ t : Nat) : Int) ∣ difN 1 (N * t) f i := by
  have one : ∀ {f : Nat → Int}, PeriZ N f → ∀ i, (p : Int) ∣ difN 1 N f i := fun {f} hf i => by
    have := dif_pow hp a 1 f i
    rw [← hN, Nat.mul_one] at this
    change (p : Int) ∣ difN 1 N f i - (f i - f (i + N)) at this
    rwa [hf, Int.sub_self, Int.sub_zero] at this
  induction t with
  | zero => intro i; simp
  | succ t ih =>
    intro i
    have hpt : ((p ^ t : Nat) : Int) ≠ 0 := by
      have : 0 < p ^ t := Nat.pow_pos (by have := hp.1; omega)
      omega
    have e1 : difN 1 (N * t) f = fun j => ((p ^ t : Nat) : Int) * (difN 1 (N * t) f j / ((p ^ t : Nat) : Int)) := funext fun j => (Int.mul_ediv_cancel' (ih j)).symm
    have hper : PeriZ N (fun j => difN 1 (N * t) f j / ((p ^ t : Nat) : Int)) := fun j => by
      show difN 1 (N * t) f (j + N) / _ = _
      rw [dif_peri hf (N * t) j]
    have e0 : difN 1 (N * (t + 1)) f i = difN 1 N (difN 1 (N * t) f) i := by rw [Nat.mul_succ, Nat.add_comm (N * t) N, dif_add]
    rw [e0, e1, dif_mul, Nat.pow_succ, Int.natCast_mul]
    exact Int.mul_dvd_mul_left _ (one hper i)

/-- What a function is but for differences. -/
def RepI (N P0 k : Nat) (f : Nat → Int) : Prop := ∃ f' u, PeriZ N f' ∧ PeriZ P0 u ∧ ∀ i, f i = difN 1 k f' i + u i

theorem rep_all (hp : Prm p) (hN : N = p ^ a) {P0 : Nat} {f : Nat → Int} (h : ∀ k, RepI N P0 k f) : PeriZ P0 f := fun i => by
  apply Classical.byContradiction
  intro hne
  obtain ⟨z, hz⟩ : ∃ z, z = f (i + P0) - f i := ⟨_, rfl⟩
  have hz0 : z ≠ 0 := by omega
  obtain ⟨T, hT⟩ : ∃ T, T = z.natAbs := ⟨_, rfl⟩
  obtain ⟨f', u, h1, h2, h3⟩ := h (N * T)
  have hd : ((p ^ T : Nat) : Int) ∣ z := by
    rw [hz, h3, h3, h2 i, show difN 1 (N * T) f' (i + P0) + u i - (difN 1 (N * T) f' i + u i) = difN 1 (N * T) f' (i + P0) - difN 1 (N * T) f' i from by omega]
    exact Int.dvd_sub (dif_all hp hN h1 _ _) (dif_all hp hN h1 _ _)
  have h4 := Nat.le_of_dvd (by omega) (Int.ofNat_dvd_left.1 hd)
  have h5 : 2 ^ T ≤ p ^ T := Nat.pow_le_pow_left hp.1 _
  have h6 := @Nat.lt_two_pow_self T
  omega

/-- A function whose sum is divisible is a difference, up to one that repeats. -/
theorem rep_div {P0 : Nat} (hP : 1 ≤ P0) (hN : N = p * P0) {f : Nat → Int} (hf : PeriZ N f) (hd : (p : Int) ∣ sumZ N f) : RepI N P0 1 f := by
  obtain ⟨c, hc⟩ := hd
  obtain ⟨u, hu⟩ : ∃ u : Nat → Int, u = fun i => if i % P0 = 0 then c else 0 := ⟨_, rfl⟩
  have hup : PeriZ P0 u := fun i => by rw [hu]; simp
  have hus : sumZ P0 u = c := by
    obtain ⟨q, rfl⟩ : ∃ q, P0 = q + 1 := ⟨P0 - 1, by omega⟩
    rw [sumZ_head, sumZ_congr (g := fun _ => 0) (fun i hi => by rw [hu]; simp only []; rw [Nat.mod_eq_of_lt (by omega), if_neg (by omega)]), sumZ_zero, hu]
    simp
  have huN : sumZ N u = p * c := by rw [hN, sumZ_blocks hup, hus]
  have hgN : PeriZ N (fun i => f i - u i) := fun i => by
    have := hup.mul p i
    rw [← hN] at this
    show f (i + N) - u (i + N) = f i - u i
    rw [hf, this]
  have hgs : sumZ N (fun i => f i - u i) = 0 := by rw [sumZ_sub, huN, hc]; omega
  refine ⟨fun i => - sumZ i (fun i => f i - u i), u, fun i => ?_, hup, fun i => ?_⟩
  · show - sumZ (i + N) _ = - sumZ i _
    rw [Nat.add_comm, sumZ_split, hgs, Int.zero_add]
    congr 1
    exact sumZ_congr (fun j _ => by rw [Nat.add_comm]; exact hgN j)
  · show f i = - sumZ i _ - - (sumZ i (fun i => f i - u i) + (f i - u i)) + u i
    omega

/-- Differences repeat only where the function does. -/
theorem dif_inj {P0 : Nat} (hp : 1 ≤ p) (hN : N = p * P0) {g : Nat → Int} (hg : PeriZ N g) (k : Nat) (h : PeriZ P0 (difN 1 k g)) : PeriZ P0 g := by
  have one : ∀ {g : Nat → Int}, PeriZ N g → PeriZ P0 (fun i => g i - g (i + 1)) → PeriZ P0 g := fun {g} hg h => by
    have hD : ∀ i, g (i + P0) - g i = g P0 - g 0 := fun i => by
      induction i with
      | zero => simp
      | succ i ih =>
        have h2 : g (i + P0) - g (i + P0 + 1) = g i - g (i + 1) := h i
        rw [show i + 1 + P0 = i + P0 + 1 from by omega]
        omega
    have hT : ∀ t : Nat, g (0 + t * P0) = g 0 + t * (g P0 - g 0) := fun t => by
      induction t with
      | zero => simp
      | succ t ih =>
        have h2 := hD (0 + t * P0)
        rw [Nat.succ_mul, ← Nat.add_assoc, Int.natCast_succ, Int.add_mul, Int.one_mul]
        omega
    have h3 := hT p
    rw [← hN, hg] at h3
    have h4 : (p : Int) * (g P0 - g 0) = 0 := by omega
    rcases Int.mul_eq_zero.1 h4 with h5 | h5
    · omega
    · intro i
      have := hD i
      omega
  induction k with
  | zero => exact h
  | succ k ih => exact ih (one (dif_peri hg k) h)

/-- The sum of the turns of one function by another. -/
def corZ (N : Nat) (f g : Nat → Int) (i : Nat) : Int := sumZ N (fun j => f j * g (i + j))

theorem cor_add (f g h : Nat → Int) (i : Nat) : corZ N f (fun j => g j + h j) i = corZ N f g i + corZ N f h i := by
  unfold corZ
  rw [← sumZ_add]
  exact sumZ_congr (fun j _ => Int.mul_add _ _ _)
theorem cor_dif (f g : Nat → Int) (k : Nat) : ∀ i, corZ N f (difN 1 k g) i = difN 1 k (corZ N f g) i := by
  induction k with
  | zero => intro i; rfl
  | succ k ih =>
    intro i
    show corZ N f (fun i => difN 1 k g i - difN 1 k g (i + 1)) i = difN 1 k (corZ N f g) i - difN 1 k (corZ N f g) (i + 1)
    rw [← ih, ← ih]
    unfold corZ
    rw [← sumZ_sub]
    exact sumZ_congr (fun j _ => by rw [Int.mul_sub, show i + 1 + j = i + j + 1 from by omega])
theorem cor_peri {d : Nat} {f g : Nat → Int} (h : PeriZ d g) : PeriZ d (corZ N f g) := fun i => by
  unfold corZ
  exact sumZ_congr (fun j _ => by rw [show i + d + j = i + j + d from by omega, h])
theorem cor_sum {f g : Nat → Int} (h : PeriZ N g) : sumZ N (corZ N f g) = sumZ N f * sumZ N g := by
  unfold corZ
  rw [sumZ_swap, ← sumZ_mulr]
  exact sumZ_congr (fun j _ => by rw [sumZ_mul, sumZ_shift h j])
theorem cor_back {f g : Nat → Int} (hf : PeriZ N f) (hg : PeriZ N g) {i i' q : Nat} (h : i + i' = q * N) : corZ N g f i' = corZ N f g i := by
  unfold corZ
  have hper : PeriZ N (fun k => g k * f (i' + k)) := fun k => by
    show g (k + N) * f (i' + (k + N)) = g k * f (i' + k)
    rw [hg, ← Nat.add_assoc, hf]
  rw [← sumZ_shift hper i]
  refine sumZ_congr (fun j _ => ?_)
  rw [show i' + (j + i) = j + q * N from by omega, hf.mul q, Int.mul_comm, Nat.add_comm]
theorem cor_rev {P0 : Nat} (hN1 : 1 ≤ N) {f g : Nat → Int} (hf : PeriZ N f) (hg : PeriZ N g) (h : PeriZ P0 (corZ N f g)) : PeriZ P0 (corZ N g f) := fun i => by
  have hle : i + P0 ≤ (i + P0) * N := Nat.le_mul_of_pos_right _ hN1
  obtain ⟨t, ht⟩ : ∃ t, t + (i + P0) = (i + P0) * N := ⟨(i + P0) * N - (i + P0), by omega⟩
  rw [cor_back hf hg (i := t) (i' := i + P0) ht, cor_back hf hg (i := t + P0) (i' := i) (q := i + P0) (by omega), h]

theorem prm_mulZ (hp : Prm p) {x y : Int} (h : (p : Int) ∣ x * y) : (p : Int) ∣ x ∨ (p : Int) ∣ y := by
  rw [Int.ofNat_dvd_left, Int.natAbs_mul] at h
  rcases hp.mul h with h | h
  · exact Or.inl (Int.ofNat_dvd_left.2 h)
  · exact Or.inr (Int.ofNat_dvd_left.2 h)

/-- One more difference. -/
theorem rep_step {P0 k : Nat} (hP : 1 ≤ P0) (hN : N = p * P0) {f f' u : Nat → Int} (hf : PeriZ N f') (hu : PeriZ P0 u) (e : ∀ i, f i = difN 1 k f' i + u i) (hd : (p : Int) ∣ sumZ N f') : RepI N P0 (k + 1) f := by
  obtain ⟨g, v, hg, hv, e2⟩ := rep_div hP hN hf hd
  refine ⟨g, fun i => difN 1 k v i + u i, hg, fun i => ?_, fun i => ?_⟩
  · show difN 1 k v (i + P0) + u (i + P0) = difN 1 k v i + u i
    rw [dif_peri hv k i, hu i]
  · rw [e, show f' = fun j => difN 1 1 g j + v j from funext e2, dif_lin, ← dif_add]
    show difN 1 (k + 1) g i + difN 1 k v i + u i = difN 1 (k + 1) g i + (difN 1 k v i + u i)
    omega

theorem cor_rep {P0 k : Nat} (hp : 1 ≤ p) (hN : N = p * P0) {f g g' u : Nat → Int} (hg' : PeriZ N g') (hu : PeriZ P0 u) (e : ∀ i, g i = difN 1 k g' i + u i) (h : PeriZ P0 (corZ N f g)) : PeriZ P0 (corZ N f g') := by
  refine dif_inj hp hN (cor_peri hg') k (fun i => ?_)
  have h1 : ∀ i, corZ N f g i = difN 1 k (corZ N f g') i + corZ N f u i := fun i => by
    rw [show g = fun j => difN 1 k g' j + u j from funext e, cor_add, cor_dif]
  have h2 := h i
  rw [h1, h1] at h2
  have h3 := cor_peri (N := N) (f := f) hu i
  omega

theorem domain_one {P0 : Nat} (hp : Prm p) (hP : 1 ≤ P0) (hNa : N = p ^ a) (hN : N = p * P0) {f g : Nat → Int} (hg : PeriZ N g) (hf : ¬ (p : Int) ∣ sumZ N f) (h : PeriZ P0 (corZ N f g)) : PeriZ P0 g := by
  have hp1 : 1 ≤ p := by have := hp.1; omega
  refine rep_all hp hNa (fun k => ?_)
  induction k with
  | zero => exact ⟨g, fun _ => 0, hg, fun _ => rfl, fun i => by simp [difN]⟩
  | succ k ih =>
    obtain ⟨g', u, h1, h2, h3⟩ := ih
    have h4 := cor_rep hp1 hN h1 h2 h3 h
    refine rep_step hP hN h1 h2 h3 ?_
    have h5 : sumZ N (corZ N f g') = p * sumZ P0 (corZ N f g') := by rw [hN]; exact sumZ_blocks (by rw [← hN]; exact h4) p
    rw [cor_sum h1] at h5
    exact (prm_mulZ hp ⟨_, h5⟩).resolve_left hf

theorem domain {P0 : Nat} (hp : Prm p) (hP : 1 ≤ P0) (hNa : N = p ^ a) (hN : N = p * P0) {f g : Nat → Int} (hf : PeriZ N f) (hg : PeriZ N g) (h : PeriZ P0 (corZ N f g)) : PeriZ P0 f ∨ PeriZ P0 g := by
  by_cases hgi : PeriZ P0 g
  · exact Or.inr hgi
  · have hp1 : 1 ≤ p := by have := hp.1; omega
    have hN1 : 1 ≤ N := by rw [hN]; exact Nat.mul_pos hp1 hP
    have hr := cor_rev hN1 hf hg h
    refine Or.inl (rep_all hp hNa (fun k => ?_))
    induction k with
    | zero => exact ⟨f, fun _ => 0, hf, fun _ => rfl, fun i => by simp [difN]⟩
    | succ k ih =>
      obtain ⟨f', u, h1, h2, h3⟩ := ih
      have h4 := cor_rev hN1 hg h1 (cor_rep hp1 hN h1 h2 h3 hr)
      refine rep_step hP hN h1 h2 h3 ?_
      apply Classical.byContradiction
      intro hne
      exact hgi (domain_one hp hP hNa hN hg hne h4)
end

end Go.Proofs.YthnenhfdojpobaaDoor

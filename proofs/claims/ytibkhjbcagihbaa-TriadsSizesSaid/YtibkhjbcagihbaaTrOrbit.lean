/-
  How many triads steps lead to: the bright ones are the multiples of a divisor of the circle.
-/
import Derived.Test.YtibkhjbcagihbaaTrChk
import Derived.Test.YtibkhjbcagihbaaTrVisitsLaw
namespace Go.Proofs.Ytibkhjbcagihbaa
set_option maxRecDepth 100000

theorem nodup_map {f : Nat → Nat} {l : List Nat} (h : ∀ x ∈ l, ∀ y ∈ l, f x = f y → x = y) (hn : l.Nodup) : (l.map f).Nodup := by
  rw [List.nodup_iff_pairwise_ne, List.pairwise_map]
  refine (List.nodup_iff_pairwise_ne.1 hn).imp_of_mem ?_
  intro x y hx hy hne e
  exact hne (h x hx y hy e)

/-- Whether a bright triad is found. -/
def RB (n a b : Nat) (cs : List Nat) (x : Nat) : Prop := x < n ∧ hasK (bfs n a b 0 cs) x = true

theorem tri_bright {n x : Nat} (h : x < n) : tri n false x = x := by
  unfold tri
  simp only [Bool.false_eq_true, if_false, Nat.zero_add]
  have : ((x : Int) % n).toNat = x % n := by rw [← Int.natCast_emod, Int.toNat_natCast]
  rw [this, Nat.mod_eq_of_lt h]

theorem RB.walk {n a b : Nat} (hk : KOk n a b) {cs : List Nat} {x : Nat} (h : RB n a b cs x) : ∃ w : List Nat, (∀ c ∈ w, c ∈ cs) ∧ walkN n a b 0 w = x := by
  have hI := (bfs_inv hk (s := 0) (by have := hk.pos; omega) cs).1
  obtain ⟨p, hp, e⟩ := List.mem_map.1 ((hasK_iff _ _).1 h.2)
  exact ⟨p.2, hI.lets p hp, by rw [hI.walk p hp, e]⟩

theorem walk_even {n a b : Nat} (hk : KOk n a b) {w : List Nat} {y : Nat} (hy : y < n) (h : walkN n a b 0 w = y) {x : Nat} (hx : x < n) : walkN n a b x w = (x + y) % n := by
  have hn := hk.pos
  have h0 : (0 : Nat) = tri n false ((0 : Nat) : Int) := (tri_bright hn).symm
  rw [h0, tri_walk hk, ← tri_bright hy, tri_inj hn] at h
  obtain ⟨h1, h2⟩ := h
  simp only [Bool.false_xor] at h1
  conv => lhs; rw [← tri_bright hx]
  rw [tri_walk hk, h1]
  simp only [Bool.false_eq_true, if_false, Bool.xor_false] at h2 ⊢
  have e : (x + y) % n = tri n false (((x + y) % n : Nat) : Int) := (tri_bright (Nat.mod_lt _ hn)).symm
  rw [e]
  refine tri_congr ?_
  rw [Int.natCast_emod, Int.emod_emod, Int.natCast_add, Int.add_emod, Int.add_emod (x : Int) y, ← h2]
  simp

theorem RB.zero {n a b : Nat} (hk : KOk n a b) (cs : List Nat) : RB n a b cs 0 :=
  ⟨hk.pos, bfs_reach hk (by have := hk.pos; omega) cs [] (by simp)⟩

theorem RB.add {n a b : Nat} (hk : KOk n a b) {cs : List Nat} {x y : Nat} (h1 : RB n a b cs x) (h2 : RB n a b cs y) : RB n a b cs ((x + y) % n) := by
  obtain ⟨w1, a1, a2⟩ := h1.walk hk
  obtain ⟨w2, b1, b2⟩ := h2.walk hk
  refine ⟨Nat.mod_lt _ hk.pos, ?_⟩
  have e : walkN n a b 0 (w1 ++ w2) = (x + y) % n := by rw [walk_append, a2, walk_even hk h2.1 b2 h1.1]
  rw [← e]
  refine bfs_reach hk (by have := hk.pos; omega) cs _ (fun c hc => ?_)
  rcases List.mem_append.1 hc with hc | hc
  · exact a1 c hc
  · exact b1 c hc

theorem RB.mul {n a b : Nat} (hk : KOk n a b) {cs : List Nat} {x : Nat} (h : RB n a b cs x) : ∀ k, RB n a b cs (k * x % n)
  | 0 => by rw [Nat.zero_mul, Nat.zero_mod]; exact RB.zero hk cs
  | k + 1 => by
    have := (RB.mul hk h k).add hk h
    rw [Nat.mod_add_mod] at this
    rw [Nat.add_mul, Nat.one_mul]; exact this

theorem RB.neg {n a b : Nat} (hk : KOk n a b) {cs : List Nat} {x : Nat} (h : RB n a b cs x) {z y : Nat} (hz : RB n a b cs z) (q : Nat) (e : z = y + q * x) (hy : y < n) : RB n a b cs y := by
  have h2 := hz.add hk (h.mul hk ((n - 1) * q))
  rw [Nat.add_mod_mod] at h2
  have hn := hk.pos
  have e2 : z + (n - 1) * q * x = y + n * (q * x) := by
    obtain ⟨m, rfl⟩ : ∃ m, n = m + 1 := ⟨n - 1, by omega⟩
    rw [e, Nat.add_sub_cancel, Nat.add_mul, Nat.one_mul, Nat.mul_assoc]
    omega
  rw [e2, Nat.add_mul_mod_self_left, Nat.mod_eq_of_lt hy] at h2
  exact h2

theorem orbit {n a b : Nat} (hk : KOk n a b) (cs : List Nat) : ∃ m, 1 ≤ m ∧ m ∣ n ∧ ∀ x, x < n → (hasK (bfs n a b 0 cs) x = true ↔ m ∣ x) := by
  have hn := hk.pos
  have hdec : DecidablePred (fun m => m = n ∨ RB n a b cs m) := fun m => by unfold RB; infer_instance
  obtain ⟨m, h1, h2, h3, h4⟩ := least_of (fun m => m = n ∨ RB n a b cs m) n (Or.inl rfl) hn
  have key : ∀ x, RB n a b cs x → m ∣ x := by
    intro x hx
    refine Decidable.byContradiction fun hd => ?_
    have hr : 1 ≤ x % m := Nat.pos_of_ne_zero (fun e => hd (Nat.dvd_of_mod_eq_zero e))
    have hrm : x % m < m := Nat.mod_lt _ h1
    refine h4 (x % m) hr hrm (Or.inr ?_)
    rcases h3 with h3 | h3
    · have hx1 := hx.1
      rw [h3, Nat.mod_eq_of_lt hx1]; exact hx
    · exact h3.neg hk hx (x / m) (by rw [Nat.mul_comm]; exact (Nat.mod_add_div x m).symm) (by omega)
  have hmn : m ∣ n := by
    rcases h3 with h3 | h3
    · rw [h3]; exact Nat.dvd_refl _
    · refine Decidable.byContradiction fun hd => ?_
      have hr : 1 ≤ n % m := Nat.pos_of_ne_zero (fun e => hd (Nat.dvd_of_mod_eq_zero e))
      have hrm : n % m < m := Nat.mod_lt _ h1
      refine h4 (n % m) hr hrm (Or.inr ?_)
      -- 0 and n are the same place
      have h5 := h3.mul hk ((n - 1) * (n / m))
      have e1 : n % m + m * (n / m) = n := Nat.mod_add_div n m
      have hq : 1 ≤ m * (n / m) := by omega
      have e2 : (n - 1) * (n / m) * m = n % m + n * (m * (n / m) - 1) := by
        obtain ⟨k, hk'⟩ : ∃ k, m * (n / m) = k + 1 := ⟨m * (n / m) - 1, by omega⟩
        rw [Nat.mul_assoc, Nat.mul_comm (n / m) m, hk', Nat.add_sub_cancel]
        have e3 : n % m = n - (k + 1) := by omega
        obtain ⟨j, rfl⟩ : ∃ j, n = j + 1 := ⟨n - 1, by omega⟩
        rw [e3, Nat.add_sub_cancel, Nat.mul_add, Nat.mul_one, Nat.add_mul, Nat.one_mul]
        omega
      rw [e2, Nat.add_mul_mod_self_left, Nat.mod_eq_of_lt (by have := h3.1; omega)] at h5
      exact h5
  refine ⟨m, h1, hmn, fun x hx => ⟨fun h => key x ⟨hx, h⟩, fun h => ?_⟩⟩
  obtain ⟨k, rfl⟩ := h
  rcases h3 with h3 | h3
  · have : k = 0 := by
      rcases Nat.eq_zero_or_pos k with h | h
      · exact h
      · have : n * 1 ≤ n * k := Nat.mul_le_mul_left n h
        rw [h3] at hx; omega
    subst this
    exact (RB.zero hk cs).2
  · have h5 := h3.mul hk k
    rw [Nat.mul_comm, Nat.mod_eq_of_lt hx] at h5
    exact h5.2

theorem orbit_length {n a b : Nat} (hk : KOk n a b) {cs : List Nat} {c : Nat} (hc : c ∈ cs) {m : Nat} (h1 : 1 ≤ m) (h2 : m ∣ n) (h3 : ∀ x, x < n → (hasK (bfs n a b 0 cs) x = true ↔ m ∣ x)) : (bfs n a b 0 cs).length = 2 * (n / m) := by
  have hn := hk.pos
  obtain ⟨hI, hC⟩ := bfs_inv hk (s := 0) (by omega) cs
  have hstep : ∀ x, hasK (bfs n a b 0 cs) x = true → hasK (bfs n a b 0 cs) (stepN n a b x c) = true := by
    intro x hx
    obtain ⟨p, hp, rfl⟩ := List.mem_map.1 ((hasK_iff _ _).1 hx)
    obtain ⟨j, hj⟩ := List.getElem?_of_mem hp
    exact hC j p (List.getElem?_eq_some_iff.1 hj).1 hj c hc
  have hdark : ∀ x, x < 2 * n → (x < n ↔ ¬ stepN n a b x c < n) := by
    intro x hx
    have hb := hk.by_le c
    unfold stepN
    by_cases h : x < n
    · rw [if_pos h]; omega
    · rw [if_neg h]
      have := Nat.mod_lt (x - n + (2 * n - byL a b c)) hn
      omega
  generalize hL : (bfs n a b 0 cs).map Prod.fst = K
  have hKn : K.Nodup := by rw [← hL]; exact hI.nodup
  have hKl : ∀ x ∈ K, x < 2 * n := by
    intro x hx; rw [← hL] at hx
    obtain ⟨p, hp, rfl⟩ := List.mem_map.1 hx
    exact hI.lt p hp
  have hKm : ∀ x, x ∈ K ↔ hasK (bfs n a b 0 cs) x = true := fun x => by rw [hasK_iff, hL]
  have hlen : (bfs n a b 0 cs).length = K.length := by rw [← hL, List.length_map]
  have hsum : ∀ l : List Nat, (l.filter (fun x => decide (x < n))).length + (l.filter (fun x => !decide (x < n))).length = l.length := by
    intro l
    induction l with
    | nil => rfl
    | cons x l ih =>
      rw [List.filter_cons, List.filter_cons]
      by_cases h : x < n
      · simp only [decide_eq_true h, if_true, Bool.not_true, Bool.false_eq_true, if_false, List.length_cons]; omega
      · simp only [decide_eq_false h, if_true, Bool.not_false, Bool.false_eq_true, if_false, List.length_cons]; omega
  have hs := hsum K
  have hB1 : (K.filter (fun x => decide (x < n))).length ≤ n / m := by
    have := nodup_subset (l := K.filter (fun x => decide (x < n))) (m := (List.range (n / m)).map (fun k => m * k)) (hKn.filter _) (fun x hx => by
      obtain ⟨a1, a2⟩ := List.mem_filter.1 hx
      have hx' : x < n := by simpa using a2
      obtain ⟨k, rfl⟩ := (h3 x hx').1 ((hKm x).1 a1)
      refine List.mem_map.2 ⟨k, List.mem_range.2 ?_, rfl⟩
      exact (Nat.lt_div_iff_mul_lt' h2 k).2 hx')
    rwa [List.length_map, List.length_range] at this
  have hB2 : n / m ≤ (K.filter (fun x => decide (x < n))).length := by
    have := nodup_subset (l := (List.range (n / m)).map (fun k => m * k)) (m := K.filter (fun x => decide (x < n))) (nodup_map (fun x _ y _ e => Nat.eq_of_mul_eq_mul_left h1 e) List.nodup_range) (fun x hx => by
      obtain ⟨k, hk', rfl⟩ := List.mem_map.1 hx
      have hlt : m * k < n := (Nat.lt_div_iff_mul_lt' h2 k).1 (List.mem_range.1 hk')
      exact List.mem_filter.2 ⟨(hKm _).2 ((h3 _ hlt).2 (Nat.dvd_mul_right m k)), by simpa using hlt⟩)
    rwa [List.length_map, List.length_range] at this
  have hinj : ∀ l : List Nat, (∀ x ∈ l, x ∈ K) → ∀ x ∈ l, ∀ y ∈ l, stepN n a b x c = stepN n a b y c → x = y := fun l hl x hx y hy e => step_inj hk (hKl x (hl x hx)) (hKl y (hl y hy)) e
  have hD1 : (K.filter (fun x => decide (x < n))).length ≤ (K.filter (fun x => !decide (x < n))).length := by
    have := nodup_subset (l := (K.filter (fun x => decide (x < n))).map (fun x => stepN n a b x c)) (m := K.filter (fun x => !decide (x < n))) (nodup_map (hinj _ (fun x hx => (List.mem_filter.1 hx).1)) (hKn.filter _)) (fun y hy => by
      obtain ⟨x, hx, rfl⟩ := List.mem_map.1 hy
      obtain ⟨a1, a2⟩ := List.mem_filter.1 hx
      refine List.mem_filter.2 ⟨(hKm _).2 (hstep x ((hKm x).1 a1)), ?_⟩
      have := (hdark x (hKl x a1)).1 (by simpa using a2)
      simpa using this)
    rwa [List.length_map] at this
  have hD2 : (K.filter (fun x => !decide (x < n))).length ≤ (K.filter (fun x => decide (x < n))).length := by
    have := nodup_subset (l := (K.filter (fun x => !decide (x < n))).map (fun x => stepN n a b x c)) (m := K.filter (fun x => decide (x < n))) (nodup_map (hinj _ (fun x hx => (List.mem_filter.1 hx).1)) (hKn.filter _)) (fun y hy => by
      obtain ⟨x, hx, rfl⟩ := List.mem_map.1 hy
      obtain ⟨a1, a2⟩ := List.mem_filter.1 hx
      refine List.mem_filter.2 ⟨(hKm _).2 (hstep x ((hKm x).1 a1)), ?_⟩
      have hx' : ¬ x < n := by simpa using a2
      have := (hdark x (hKl x a1))
      have h9 : stepN n a b x c < n := Decidable.byContradiction fun h => hx' (this.2 h)
      simpa using h9)
    rwa [List.length_map] at this
  rw [hlen]; omega

theorem orbit_divides {n a b : Nat} (hk : KOk n a b) {cs : List Nat} {c : Nat} (hc : c ∈ cs) : (2 * n) % (bfs n a b 0 cs).length = 0 ∧ 1 ≤ (bfs n a b 0 cs).length := by
  obtain ⟨m, h1, h2, h3⟩ := orbit hk cs
  rw [orbit_length hk hc h1 h2 h3]
  obtain ⟨k, rfl⟩ := h2
  have hn := hk.pos
  rw [Nat.mul_div_cancel_left k h1]
  have hk0 : 1 ≤ k := by
    rcases Nat.eq_zero_or_pos k with h | h
    · subst h; omega
    · exact h
  refine ⟨?_, by omega⟩
  rw [Nat.mul_comm m k, ← Nat.mul_assoc]
  exact Nat.mul_mod_right _ _

/-! ### rounds by two steps -/
theorem pair_gcd {n a b : Nat} (hk : KOk n a b) {c c' : Nat} {d : Nat} (hd : (byL a b c : Int) - byL a b c' = d ∨ (byL a b c' : Int) - byL a b c = d) : (bfs n a b 0 [c, c']).length = 2 * n / Nat.gcd n d := by
  have hn := hk.pos
  obtain ⟨m, h1, h2, h3⟩ := orbit hk [c, c']
  rw [orbit_length hk (List.mem_cons_self ..) h1 h2 h3]
  have hg1 : Nat.gcd n d ∣ n := Nat.gcd_dvd_left n d
  have hg2 : Nat.gcd n d ∣ d := Nat.gcd_dvd_right n d
  have hg0 : 0 < Nat.gcd n d := Nat.gcd_pos_of_pos_left d hn
  -- what both steps reach is a multiple of the common divisor
  have hinv : ∀ (w : List Nat) (t : Nat) (dk : Bool) (z : Int), (∀ e ∈ w, e ∈ [c, c']) → (if dk then ((Nat.gcd n d : Nat) : Int) ∣ z - byL a b c else ((Nat.gcd n d : Nat) : Int) ∣ z) → ∃ (dk' : Bool) (z' : Int), walkN n a b (tri n dk z) w = tri n dk' z' ∧ (if dk' then ((Nat.gcd n d : Nat) : Int) ∣ z' - byL a b c else ((Nat.gcd n d : Nat) : Int) ∣ z') := by
    intro w
    have hgd : ((Nat.gcd n d : Nat) : Int) ∣ (byL a b c : Int) - byL a b c' := by
      rcases hd with e | e
      · rw [e]; exact Int.natCast_dvd_natCast.2 hg2
      · have : (byL a b c : Int) - byL a b c' = -((d : Nat) : Int) := by omega
        rw [this]; exact Int.dvd_neg.2 (Int.natCast_dvd_natCast.2 hg2)
    induction w with
    | nil => intro t dk z _ h; exact ⟨dk, z, rfl, h⟩
    | cons e w ih =>
      intro t dk z hw h
      show ∃ dk' z', walkN n a b (stepN n a b (tri n dk z) e) w = _ ∧ _
      rw [tri_step hk]
      refine ih t _ _ (fun x hx => hw x (by simp [hx])) ?_
      have he := hw e (by simp)
      generalize ((Nat.gcd n d : Nat) : Int) = g at h hgd
      cases dk
      · simp only [Bool.false_eq_true, if_false, Bool.not_false, if_true] at h ⊢
        rcases List.mem_cons.1 he with rfl | he
        · have : z + (byL a b e : Int) - byL a b e = z := by omega
          rw [this]; exact h
        · rw [List.mem_singleton] at he; subst he
          have : z + (byL a b e : Int) - byL a b c = z - ((byL a b c : Int) - byL a b e) := by omega
          rw [this]; exact Int.dvd_sub h hgd
      · simp only [if_true, Bool.not_true, Bool.false_eq_true, if_false] at h ⊢
        rcases List.mem_cons.1 he with rfl | he
        · exact h
        · rw [List.mem_singleton] at he; subst he
          have : z - (byL a b e : Int) = (z - byL a b c) + ((byL a b c : Int) - byL a b e) := by omega
          rw [this]; exact Int.dvd_add h hgd
  have hbr : ∀ x, RB n a b [c, c'] x → Nat.gcd n d ∣ x := by
    intro x hx
    obtain ⟨w, hw1, hw2⟩ := hx.walk hk
    obtain ⟨dk, z, e1, e2⟩ := hinv w 0 false 0 hw1 (by simp)
    have e0 : (0 : Nat) = tri n false 0 := (tri_bright hn).symm
    rw [← e0, hw2, ← tri_bright hx.1, tri_inj hn] at e1
    obtain ⟨e3, e4⟩ := e1
    subst e3
    simp only [Bool.false_eq_true, if_false] at e2
    have hx1 : ((Nat.gcd n d : Nat) : Int) ∣ (x : Int) % n := by
      rw [e4]
      rw [Int.emod_def]
      exact Int.dvd_sub e2 (Int.dvd_trans (Int.natCast_dvd_natCast.2 hg1) (Int.dvd_mul_right _ _))
    rw [Int.emod_eq_of_lt (by omega) (by have := hx.1; omega)] at hx1
    exact Int.natCast_dvd_natCast.1 hx1
  have hgm : Nat.gcd n d ∣ m := by
    rcases Nat.lt_or_ge m n with h | h
    · exact hbr m ⟨h, (h3 m h).2 (Nat.dvd_refl m)⟩
    · have : m = n := Nat.le_antisymm (Nat.le_of_dvd hn h2) h
      rw [this]; exact hg1
  have hmd : m ∣ d := by
    -- one step after the other one is the difference
    have key : ∀ (c1 c2 : Nat), c1 ∈ [c, c'] → c2 ∈ [c, c'] → (byL a b c1 : Int) - byL a b c2 = d → m ∣ d := by
      intro c1 c2 m1 m2 e
      have hw : walkN n a b 0 [c1, c2] = d % n := by
        have e0 : (0 : Nat) = tri n false 0 := (tri_bright hn).symm
        show stepN n a b (stepN n a b 0 c1) c2 = _
        conv => lhs; rw [e0]
        rw [tri_step hk, tri_step hk]
        simp only [Bool.false_eq_true, if_false, Bool.not_false, if_true, Bool.not_true, Int.zero_add]
        rw [e, ← tri_bright (Nat.mod_lt d hn)]
        refine tri_congr ?_
        rw [Int.natCast_emod, Int.emod_emod]
      have hr : hasK (bfs n a b 0 [c, c']) (d % n) = true := by
        rw [← hw]
        refine bfs_reach hk (by omega) _ _ (fun x hx => ?_)
        rcases List.mem_cons.1 hx with rfl | hx
        · exact m1
        · rw [List.mem_singleton] at hx; subst hx; exact m2
      have h5 := (h3 _ (Nat.mod_lt d hn)).1 hr
      have h6 : m ∣ n * (d / n) := Nat.dvd_trans h2 (Nat.dvd_mul_right _ _)
      have := Nat.dvd_add h5 h6
      rwa [Nat.mod_add_div] at this
    rcases hd with e | e
    · exact key c c' (by simp) (by simp) e
    · exact key c' c (by simp) (by simp) e
  have hmg : m = Nat.gcd n d := Nat.dvd_antisymm (Nat.dvd_gcd h2 hmd) hgm
  rw [← hmg]
  exact (Nat.mul_div_assoc 2 h2).symm
end Go.Proofs.Ytibkhjbcagihbaa

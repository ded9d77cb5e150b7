/-
  What the reference's Round meets, sweep after sweep. Plain mathematics.
-/
import Derived.Test.YtibkhjbcagihbaaTrRound
namespace Go.Proofs.Ytibkhjbcagihbaa
set_option maxRecDepth 100000

/-- What is met. -/
abbrev Mt := Nat → Bool
def metC (n : Nat) (M : Mt) : List Value := (List.range (2 * n)).map (fun t => Value.bool (M t))
def putM (M : Mt) (t : Nat) : Mt := fun x => x == t || M x

theorem metC_length (n : Nat) (M : Mt) : (metC n M).length = 2 * n := by simp [metC]
theorem metC_get {n t : Nat} (M : Mt) (h : t < 2 * n) : (metC n M)[t]? = some (.bool (M t)) := by
  unfold metC; rw [List.getElem?_map, List.getElem?_range h]; rfl
theorem metC_set (n t : Nat) (M : Mt) : (metC n M).set t (.bool true) = metC n (putM M t) := by
  refine List.ext_getElem? (fun i => ?_)
  rw [List.getElem?_set]
  by_cases hi : i < 2 * n
  · rw [metC_get _ hi, metC_get _ hi, metC_length]
    unfold putM
    by_cases e : t = i
    · subst e; simp [hi]
    · have : (i == t) = false := by simp; omega
      simp [e, this]
  · have h1 : ∀ M', (metC n M')[i]? = none := fun M' => by rw [List.getElem?_eq_none_iff, metC_length]; omega
    rw [h1, h1, metC_length]
    by_cases e : t = i
    · subst e; simp [hi]
    · simp [e]

theorem bfs_closed {n a b s : Nat} (hk : KOk n a b) (hs : s < 2 * n) (cs : List Nat) {t : Nat} (h : hasK (bfs n a b s cs) t = true) {c : Nat} (hc : c ∈ cs) : hasK (bfs n a b s cs) (stepN n a b t c) = true := by
  obtain ⟨hI, hC⟩ := bfs_inv hk hs cs
  obtain ⟨p, hp, rfl⟩ := List.mem_map.1 ((hasK_iff _ _).1 h)
  obtain ⟨j, hj⟩ := List.getElem?_of_mem hp
  exact hC j p (List.getElem?_eq_some_iff.1 hj).1 hj c hc

/-- After r sweeps: only what can be reached, and all that r steps reach. -/
structure Swp (n a b s : Nat) (cs : List Nat) (r : Nat) (M : Mt) : Prop where
  sub : ∀ t, t < 2 * n → M t = true → hasK (bfs n a b s cs) t = true
  cov : ∀ l : List Nat, l.length ≤ r → (∀ c ∈ l, c ∈ cs) → M (walkN n a b s l) = true

/-- Within a sweep: the first u triads are done. -/
structure SwpU (n a b s : Nat) (cs : List Nat) (r u : Nat) (M0 M : Mt) : Prop where
  base0 : Swp n a b s cs r M0
  base : Swp n a b s cs r M
  mono : ∀ t, M0 t = true → M t = true
  done : ∀ t, t < u → M0 t = true → ∀ c ∈ cs, M (stepN n a b t c) = true

/-- Within a triad: the first i steps are done. -/
structure SwpI (n a b s : Nat) (cs : List Nat) (r u i : Nat) (M0 M : Mt) : Prop where
  bas : SwpU n a b s cs r u M0 M
  part : M0 u = true → ∀ c ∈ cs.take i, M (stepN n a b u c) = true

theorem Swp.start {n a b s : Nat} (hk : KOk n a b) (hs : s < 2 * n) (cs : List Nat) : Swp n a b s cs 0 (fun x => x == s) := by
  refine ⟨fun t _ h => ?_, fun l hl _ => ?_⟩
  · rw [beq_iff_eq] at h; subst h
    exact bfs_reach hk hs cs [] (by simp)
  · have := List.eq_nil_of_length_eq_zero (Nat.le_zero.1 hl); subst this
    show (s == s) = true; simp

theorem SwpU.start {n a b s : Nat} {cs : List Nat} {r : Nat} {M : Mt} (h : Swp n a b s cs r M) : SwpU n a b s cs r 0 M M := ⟨h, h, fun _ h => h, fun _ h => absurd h (Nat.not_lt_zero _)⟩
theorem SwpI.start {n a b s : Nat} {cs : List Nat} {r u : Nat} {M0 M : Mt} (h : SwpU n a b s cs r u M0 M) : SwpI n a b s cs r u 0 M0 M := ⟨h, fun _ c hc => by simp at hc⟩

theorem putM_mono {M : Mt} {t x : Nat} (h : M x = true) : putM M t x = true := by unfold putM; rw [h, Bool.or_true]
theorem putM_self (M : Mt) (t : Nat) : putM M t t = true := by unfold putM; simp

theorem SwpI.step {n a b s : Nat} {cs : List Nat} {r u i : Nat} {M0 M : Mt} (hk : KOk n a b) (hs : s < 2 * n) (h : SwpI n a b s cs r u i M0 M) (hu : u < 2 * n) (hi : i < cs.length) (hM : M u = true) : SwpI n a b s cs r u (i + 1) M0 (putM M (stepN n a b u cs[i])) := by
  refine ⟨⟨h.bas.base0, ⟨fun t ht hm => ?_, fun l h1 h2 => putM_mono (h.bas.base.cov l h1 h2)⟩, fun t ht => putM_mono (h.bas.mono t ht), fun t ht hm c hc => putM_mono (h.bas.done t ht hm c hc)⟩, fun hm c hc => ?_⟩
  · unfold putM at hm
    rw [Bool.or_eq_true, beq_iff_eq] at hm
    rcases hm with rfl | hm
    · exact bfs_closed hk hs cs (h.bas.base.sub u hu hM) (List.getElem_mem _)
    · exact h.bas.base.sub t ht hm
  · rw [List.take_add_one, List.getElem?_eq_getElem hi, Option.toList_some, List.mem_append, List.mem_singleton] at hc
    rcases hc with hc | rfl
    · exact putM_mono (h.part hm c hc)
    · exact putM_self _ _

theorem SwpI.skip {n a b s : Nat} {cs : List Nat} {r u i : Nat} {M0 M : Mt} (h : SwpI n a b s cs r u i M0 M) (hM : M u = false) : SwpI n a b s cs r u (i + 1) M0 M :=
  ⟨h.bas, fun hm => by rw [h.bas.mono u hm] at hM; cases hM⟩

theorem SwpI.fin {n a b s : Nat} {cs : List Nat} {r u i : Nat} {M0 M : Mt} (h : SwpI n a b s cs r u i M0 M) (hi : cs.length ≤ i) : SwpU n a b s cs r (u + 1) M0 M := by
  refine ⟨h.bas.base0, h.bas.base, h.bas.mono, fun t ht hm c hc => ?_⟩
  by_cases e : t = u
  · subst e; exact h.part hm c (by rwa [List.take_of_length_le hi])
  · exact h.bas.done t (by omega) hm c hc

theorem SwpU.fin {n a b s : Nat} {cs : List Nat} {r : Nat} {M0 M : Mt} (hk : KOk n a b) (hs : s < 2 * n) (h : SwpU n a b s cs r (2 * n) M0 M) : Swp n a b s cs (r + 1) M := by
  refine ⟨h.base.sub, fun l hl hc => ?_⟩
  by_cases e : l.length ≤ r
  · exact h.base.cov l e hc
  · have hne : l ≠ [] := by rintro rfl; simp at e
    have hl2 := List.dropLast_concat_getLast hne
    have hw : walkN n a b s l = stepN n a b (walkN n a b s l.dropLast) (l.getLast hne) := by
      conv => lhs; rw [← hl2]
      rw [walk_append]; rfl
    rw [hw]
    refine h.done _ (walk_lt hk _ _ hs) (h.base0.cov _ (by rw [List.length_dropLast]; omega) (fun c h1 => hc c ((List.dropLast_sublist l).subset h1))) _ (hc _ (List.getLast_mem hne))

theorem Swp.fin {n a b s : Nat} {cs : List Nat} {M : Mt} (hk : KOk n a b) (hs : s < 2 * n) (h : Swp n a b s cs (2 * n) M) {t : Nat} (ht : t < 2 * n) : M t = hasK (bfs n a b s cs) t := by
  rw [Bool.eq_iff_iff]
  refine ⟨h.sub t ht, fun hb => ?_⟩
  have hI := (bfs_inv hk hs cs).1
  obtain ⟨p, hp, rfl⟩ := List.mem_map.1 ((hasK_iff _ _).1 hb)
  obtain ⟨j, hj⟩ := List.getElem?_of_mem hp
  have h1 := hI.len j p hj
  have h2 := (List.getElem?_eq_some_iff.1 hj).1
  have h3 := hI.size
  have := h.cov p.2 (by omega) (hI.lets p hp)
  rwa [hI.walk p hp] at this

/-- The rising list up to u. -/
def riseTo (M : Mt) (u : Nat) : List Nat := (List.range u).filter M
theorem riseTo_succ (M : Mt) (u : Nat) : riseTo M (u + 1) = riseTo M u ++ if M u = true then [u] else [] := by
  unfold riseTo
  rw [List.range_succ, List.filter_append]
  congr 1
  by_cases h : M u = true <;> simp [h]
theorem riseTo_le (M : Mt) (u : Nat) : (riseTo M u).length ≤ u := by
  unfold riseTo
  exact Nat.le_trans (List.length_filter_le _ _) (by simp)
theorem riseTo_rise {n a b s : Nat} {cs : List Nat} {M : Mt} (hk : KOk n a b) (hs : s < 2 * n) (h : Swp n a b s cs (2 * n) M) : riseTo M (2 * n) = riseL n (bfs n a b s cs) := by
  unfold riseTo riseL
  exact List.filter_congr (fun t ht => h.fin hk hs (List.mem_range.1 ht))
end Go.Proofs.Ytibkhjbcagihbaa

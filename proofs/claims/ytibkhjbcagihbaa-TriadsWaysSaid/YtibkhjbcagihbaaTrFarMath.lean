/-
  How many triads are how far: the counts of the lengths, in any order. Plain mathematics.
-/
import Derived.Test.YtibkhjbcagihbaaTrVisitsLaw
namespace Go.Proofs.Ytibkhjbcagihbaa
set_option maxRecDepth 100000

/-- One more than the greatest. -/
def topL : List Nat → Nat
  | [] => 0
  | l :: ls => max (l + 1) (topL ls)
/-- How often 0 to m - 1 occur. -/
def cntU (m : Nat) (ls : List Nat) : List Nat := (List.range m).map (fun k => ls.count k)
def cntL (ls : List Nat) : List Nat := cntU (topL ls) ls

theorem topL_lt : ∀ {ls : List Nat} {l : Nat}, l ∈ ls → l < topL ls
  | x :: ls, l, h => by
    unfold topL
    rcases List.mem_cons.1 h with rfl | h
    · omega
    · have := topL_lt h; omega
theorem topL_le : ∀ {ls : List Nat} {m : Nat}, (∀ l ∈ ls, l < m) → topL ls ≤ m
  | [], _, _ => Nat.zero_le _
  | x :: ls, m, h => by
    unfold topL
    have h1 := h x (by simp)
    have h2 := topL_le (ls := ls) (m := m) (fun l hl => h l (by simp [hl]))
    omega
theorem topL_snoc (ls : List Nat) (l : Nat) : topL (ls ++ [l]) = max (topL ls) (l + 1) := by
  induction ls with
  | nil => simp [topL]
  | cons x ls ih =>
    show max (x + 1) (topL (ls ++ [l])) = max (max (x + 1) (topL ls)) (l + 1)
    rw [ih]; omega
theorem cntU_length (m : Nat) (ls : List Nat) : (cntU m ls).length = m := by simp [cntU]
theorem cntU_get {m k : Nat} (ls : List Nat) (h : k < m) : (cntU m ls)[k]? = some (ls.count k) := by
  unfold cntU; rw [List.getElem?_map, List.getElem?_range h]; rfl
theorem cntU_pad {m : Nat} {ls : List Nat} (h : topL ls ≤ m) : cntU (m + 1) ls = cntU m ls ++ [0] := by
  unfold cntU
  rw [List.range_succ, List.map_append, List.map_cons, List.map_nil]
  congr 2
  exact List.count_eq_zero.2 (fun hm => by have := topL_lt hm; omega)
theorem cntU_set {m l : Nat} (ls : List Nat) (h : l < m) : (cntU m ls).set l (ls.count l + 1) = cntU m (ls ++ [l]) := by
  refine List.ext_getElem? (fun i => ?_)
  rw [List.getElem?_set, cntU_length]
  by_cases hi : i < m
  · rw [cntU_get _ hi, cntU_get _ hi, List.count_append]
    by_cases e : l = i
    · subst e; simp [hi]
    · simp [e]
  · have h1 : ∀ L, (cntU m L)[i]? = none := fun L => by rw [List.getElem?_eq_none_iff, cntU_length]; omega
    rw [h1, h1]
    have e : l ≠ i := by omega
    simp [e]
theorem topL_perm {ls ms : List Nat} (h : ls.Perm ms) : topL ls = topL ms :=
  Nat.le_antisymm (topL_le (fun l hl => topL_lt (h.mem_iff.1 hl))) (topL_le (fun l hl => topL_lt (h.mem_iff.2 hl)))
theorem cntL_perm {ls ms : List Nat} (h : ls.Perm ms) : cntL ls = cntL ms := by
  unfold cntL cntU
  rw [topL_perm h]
  exact List.map_congr_left (fun k _ => h.count_eq k)
theorem topL_some : ∀ {ls : List Nat}, 0 < topL ls → ∃ l ∈ ls, topL ls = l + 1
  | [], h => by cases h
  | x :: ls, h => by
    by_cases e : topL ls ≤ x + 1
    · exact ⟨x, by simp, by unfold topL; omega⟩
    · obtain ⟨l, hl, hl2⟩ := topL_some (ls := ls) (by omega)
      exact ⟨l, by simp [hl], by unfold topL; omega⟩

def sumL (l : List Nat) : Nat := l.foldl (· + ·) 0
theorem foldl_add (l : List Nat) : ∀ z : Nat, l.foldl (· + ·) z = z + sumL l := by
  unfold sumL
  induction l with
  | nil => intro z; rfl
  | cons x l ih => intro z; rw [List.foldl_cons, List.foldl_cons, ih, ih (0 + x)]; omega
theorem sumL_append (l m : List Nat) : sumL (l ++ m) = sumL l + sumL m := by
  show (l ++ m).foldl (· + ·) 0 = _
  rw [List.foldl_append, foldl_add m]; rfl
theorem cnt_lt (ls : List Nat) (m : Nat) : ls.countP (fun x => decide (x < m + 1)) = ls.countP (fun x => decide (x < m)) + ls.count m := by
  induction ls with
  | nil => rfl
  | cons x ls ih =>
    rw [List.countP_cons, List.countP_cons, List.count_cons, ih]
    by_cases h1 : x < m
    · have h2 : x < m + 1 := by omega
      have h3 : ¬ x = m := by omega
      simp [h1, h2, h3]; omega
    · by_cases h3 : x = m
      · subst h3; simp; omega
      · have h2 : ¬ x < m + 1 := by omega
        simp [h1, h2, h3]
theorem sum_cntU (ls : List Nat) : ∀ m, sumL (cntU m ls) = ls.countP (fun x => decide (x < m))
  | 0 => by
    show 0 = _
    exact (List.countP_eq_zero.2 (fun x _ => by simp)).symm
  | m + 1 => by
    rw [cnt_lt, ← sum_cntU ls m]
    unfold cntU
    rw [List.range_succ, List.map_append, sumL_append]
    show _ + (0 + ls.count m) = _
    omega
theorem sum_cntL (ls : List Nat) : sumL (cntL ls) = ls.length := by
  unfold cntL
  rw [sum_cntU, List.countP_eq_length]
  intro x hx
  exact decide_eq_true (topL_lt hx)

/-- The lengths of the walks. -/
def lensL (L : St) : List Nat := L.map (fun p => p.2.length)
/-- How many triads are how far. -/
def farL (n a b : Nat) : List Nat := cntL (lensL (bfsA n a b 0))

theorem far_from {n a b s : Nat} (hk : KOk n a b) (hs : s < 2 * n) : cntL (lensL (bfsA n a b s)) = farL n a b := by
  obtain ⟨σ, _, _, _, _, h⟩ := bfs_from hk hs
  unfold farL bfsA
  rw [h lprL]
  unfold lensL mapS
  rw [List.map_map]
  rfl
theorem far_sum (n a b : Nat) : sumL (farL n a b) = (bfsA n a b 0).length := by
  unfold farL
  rw [sum_cntL]
  unfold lensL; rw [List.length_map]

/-- Each walk has one that is a step shorter. -/
def ParL (L : St) : Prop := ∀ p ∈ L, p.2 = [] ∨ ∃ q ∈ L, ∃ c, p.2 = q.2 ++ [c]
theorem ParL.add {n a b : Nat} {L : St} {p : Nat × List Nat} {c : Nat} (h : ParL L) (hp : p ∈ L) : ParL (addL n a b p L c) := by
  unfold addL
  split
  · exact h
  · intro q hq
    rcases List.mem_append.1 hq with hq | hq
    · rcases h q hq with e | ⟨r, hr, c', e⟩
      · exact Or.inl e
      · exact Or.inr ⟨r, List.mem_append_left _ hr, c', e⟩
    · rw [List.mem_singleton] at hq; subst hq
      exact Or.inr ⟨p, List.mem_append_left _ hp, c, rfl⟩
theorem ParL.visit {n a b : Nat} {p : Nat × List Nat} : ∀ (ds : List Nat) {L : St}, ParL L → p ∈ L → ParL (visit n a b ds p L)
  | [], _, h, _ => h
  | d :: ds, L, h, hp => ParL.visit ds (h.add hp) ((addL_prefix n a b p L d).subset hp)
theorem ParL.go {n a b : Nat} {cs : List Nat} : ∀ (f : Nat) {L : St} (i : Nat), ParL L → ParL (bfsGo n a b cs f L i)
  | 0, _, _, h => h
  | f + 1, L, i, h => by
    unfold bfsGo
    cases hp : L[i]? with
    | none => exact h
    | some p => exact ParL.go f _ (ParL.visit cs h (List.mem_of_getElem? hp))
theorem par_bfs (n a b s : Nat) (cs : List Nat) : ParL (bfs n a b s cs) :=
  ParL.go _ _ (fun p hp => by rw [List.mem_singleton] at hp; subst hp; exact Or.inl rfl)

theorem ParL.down {L : St} (h : ParL L) : ∀ (d : Nat) (p : Nat × List Nat), p ∈ L → d ≤ p.2.length → ∃ q ∈ L, q.2.length = p.2.length - d
  | 0, p, hp, _ => ⟨p, hp, rfl⟩
  | d + 1, p, hp, hd => by
    rcases h p hp with e | ⟨q, hq, c, e⟩
    · rw [e] at hd; cases hd
    · have hl : p.2.length = q.2.length + 1 := by rw [e, List.length_append]; rfl
      obtain ⟨r, hr, e2⟩ := h.down d q hq (by omega)
      exact ⟨r, hr, by omega⟩

theorem far_pos (n a b : Nat) : ∀ k ∈ farL n a b, 1 ≤ k := by
  intro k hk
  unfold farL cntL cntU at hk
  obtain ⟨m, hm, rfl⟩ := List.mem_map.1 hk
  have hm := List.mem_range.1 hm
  obtain ⟨l, hl, e⟩ := topL_some (ls := lensL (bfsA n a b 0)) (by omega)
  obtain ⟨p, hp, rfl⟩ := List.mem_map.1 hl
  obtain ⟨q, hq, e2⟩ := (par_bfs n a b 0 lprL).down (p.2.length - m) p hp (by omega)
  refine List.count_pos_iff.2 (List.mem_map.2 ⟨q, hq, by omega⟩)

theorem step_ne {n a b t : Nat} (hk : KOk n a b) (ht : t < 2 * n) (c : Nat) : stepN n a b t c ≠ t := by
  have hn := hk.pos
  intro e
  have h := tri_step hk (decide (n ≤ t)) t c
  rw [← tri_of ht, e] at h
  conv at h => lhs; rw [tri_of ht]
  rw [tri_inj hn] at h
  have := h.1
  cases decide (n ≤ t) <;> simp at this

theorem far_len {n a b : Nat} (hk : KOk n a b) : 1 < (farL n a b).length := by
  have hn := hk.pos
  unfold farL cntL
  rw [cntU_length]
  have h := bfs_reach hk (s := 0) (by omega) lprL [76] (by simp)
  obtain ⟨p, hp, e⟩ := List.mem_map.1 ((hasK_iff _ _).1 h)
  have hI := (bfs_inv hk (s := 0) (by omega) lprL).1
  have hw := hI.walk p hp
  have : p.2.length ≠ 0 := by
    intro h0
    rw [List.eq_nil_of_length_eq_zero h0] at hw
    have h2 : walkN n a b 0 [76] = 0 := by rw [← e, ← hw]; rfl
    exact step_ne hk (by omega) 76 h2
  have := topL_lt (ls := lensL (bfsA n a b 0)) (List.mem_map.2 ⟨p, hp, rfl⟩)
  omega

theorem far_zero {n a b : Nat} (hk : KOk n a b) : (farL n a b)[0]? = some 1 := by
  have hn := hk.pos
  have hl := far_len hk
  unfold farL cntL at hl ⊢
  rw [cntU_length] at hl
  rw [cntU_get _ (by omega)]
  have hI := (bfs_inv hk (s := 0) (by omega) lprL).1
  have hf := hI.first
  have hnd := hI.nodup
  have hwk := hI.walk
  unfold bfsA lensL
  cases hL : bfs n a b 0 lprL with
  | nil => rw [hL] at hf; cases hf
  | cons x L =>
    rw [hL] at hf hnd hwk
    simp only [List.getElem?_cons_zero, Option.some.injEq] at hf
    subst hf
    rw [List.map_cons, List.count_cons]
    have h0 : List.count 0 (L.map (fun p : Nat × List Nat => p.2.length)) = 0 := by
      rw [List.count_eq_zero]
      intro hm
      obtain ⟨p, hp, e⟩ := List.mem_map.1 hm
      have hw := hwk p (by simp [hp])
      rw [List.eq_nil_of_length_eq_zero e] at hw
      rw [List.map_cons, List.nodup_cons] at hnd
      exact hnd.1 (List.mem_map.2 ⟨p, hp, hw.symm⟩)
    rw [h0]; rfl

theorem count_filter (L : St) (k : Nat) : List.count k (lensL L) = (L.filter (fun p => p.2.length == k)).length := by
  unfold lensL
  rw [List.count, List.countP_map, List.countP_eq_length_filter]
  rfl

theorem far_one {n a b : Nat} (hk : KOk n a b) : ∃ k, (farL n a b)[1]? = some k ∧ k ≤ 3 := by
  have hn := hk.pos
  have hl := far_len hk
  unfold farL cntL at hl ⊢
  rw [cntU_length] at hl
  rw [cntU_get _ (by omega)]
  refine ⟨_, rfl, ?_⟩
  rw [count_filter]
  have hI := (bfs_inv hk (s := 0) (by omega) lprL).1
  have h1 := nodup_subset (l := ((bfsA n a b 0).filter (fun p => p.2.length == 1)).map Prod.fst) (m := [stepN n a b 0 76, stepN n a b 0 80, stepN n a b 0 82]) (hI.nodup.sublist ((List.filter_sublist).map _)) (by
    intro x hx
    obtain ⟨p, hp, rfl⟩ := List.mem_map.1 hx
    obtain ⟨hp1, hp2⟩ := List.mem_filter.1 hp
    have hlen : p.2.length = 1 := by simpa using hp2
    have hw := hI.walk p hp1
    have hle := hI.lets p hp1
    obtain ⟨c, hc⟩ := List.length_eq_one_iff.1 hlen
    rw [hc] at hw hle
    have hc2 := hle c (by simp)
    have e : p.1 = stepN n a b 0 c := hw.symm
    rw [e]
    simp only [lprL, List.mem_cons, List.not_mem_nil, or_false] at hc2
    rcases hc2 with rfl | rfl | rfl <;> simp)
  rw [List.length_map] at h1
  simpa using h1
end Go.Proofs.Ytibkhjbcagihbaa

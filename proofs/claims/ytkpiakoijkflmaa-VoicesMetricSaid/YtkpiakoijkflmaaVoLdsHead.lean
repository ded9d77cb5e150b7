/-
  The leadings with the least cost are those of all leadings, in the same order; the first of them is the first of the cheapest. Plain mathematics.
-/
import Derived.Test.YtkpiakoijkflmaaVoLds
import Derived.Test.YtkpiakoijkflmaaVoCostR
namespace Go.Proofs.Ytkpiakoijkflmaa

theorem flatMap_filter' {α β : Type} (q : α → Bool) (g : α → List β) : ∀ l : List α, (l.filter q).flatMap g = l.flatMap fun a => if q a then g a else []
  | [] => rfl
  | a :: l => by
    rw [List.filter_cons, List.flatMap_cons, ← flatMap_filter' q g l]
    by_cases h : q a = true
    · rw [if_pos h, if_pos h, List.flatMap_cons]
    · rw [if_neg h, if_neg h, List.nil_append]
theorem flatMap_congr' {α β : Type} {f g : α → List β} : ∀ {l : List α}, (∀ a ∈ l, f a = g a) → l.flatMap f = l.flatMap g
  | [], _ => rfl
  | a :: l, h => by rw [List.flatMap_cons, List.flatMap_cons, h a (by simp), flatMap_congr' (l := l) (fun b hb => h b (by simp [hb]))]
theorem leadL_pre {k : Nat} : ∀ {f : Nat} {c l : List Nat}, l ∈ leadL k f c → ∃ m, l = c ++ m
  | 0, c, l, h => ⟨[], by simpa [leadL] using h⟩
  | f + 1, c, l, h => by
    obtain ⟨x, _, hx⟩ := List.mem_flatMap.1 h
    by_cases e : x ∈ c
    · simp [e] at hx
    · simp only [e, if_false] at hx
      obtain ⟨m, rfl⟩ := leadL_pre hx
      exact ⟨x :: m, by simp⟩

theorem lds_filter {n : Nat} {bs : List Nat} : ∀ (us : List Nat) (T : Nat) (cur : List Nat), (∀ p, T.testBit p = decide (p ∈ cur)) → (∀ y ∈ cur, y < bs.length) → cur.Nodup →
    lds n bs us T cur = (leadL bs.length us.length cur).filter (fun l => decide (prT n bs us (l.drop cur.length) = costT n bs us T))
  | [], T, cur, _, _, _ => by simp [lds, leadL, prT, costT]
  | x :: us, T, cur, hT, hlt, hnd => by
    rw [lds_cons, List.length_cons]
    unfold ldsTo freeP leadL
    rw [flatMap_filter', List.filter_flatMap]
    refine flatMap_congr' fun p hp => ?_
    rw [List.mem_range] at hp
    by_cases hc : p ∈ cur
    · have ht : T.testBit p = true := by rw [hT]; exact decide_eq_true hc
      simp [ht, hc]
    · have ht : T.testBit p = false := by rw [hT]; exact decide_eq_false hc
      rw [ht, if_pos (show (!false) = true from rfl), if_neg hc]
      have hT' : ∀ q, (T ||| 1 <<< p).testBit q = decide (q ∈ cur ++ [p]) := fun q => by
        rw [Nat.testBit_or, hT, testBit_one_shl]
        by_cases e : p = q
        · subst e; simp
        · have e' : ¬ q = p := fun h => e h.symm
          simp [e, e']
      have hnd' : (cur ++ [p]).Nodup := by rw [List.nodup_append]; exact ⟨hnd, by simp, fun a ha b hb e => by rw [List.mem_singleton] at hb; subst hb; subst e; exact hc ha⟩
      have hlt' : ∀ y ∈ cur ++ [p], y < bs.length := fun y hy => by
        rcases List.mem_append.1 hy with h | h
        · exact hlt y h
        · rw [List.mem_singleton] at h; omega
      have hmin : costT n bs (x :: us) T ≤ dsN n x (bs[p]?.getD 0) + costT n bs us (T ||| 1 <<< p) := by
        rw [costT_cons]
        have hm : dsN n x (bs[p]?.getD 0) + costT n bs us (T ||| 1 <<< p) ∈ tryL n bs x us T bs.length := List.mem_map.2 ⟨p, freeP_mem.2 ⟨hp, ht⟩, rfl⟩
        cases e : minS (tryL n bs x us T bs.length) with
        | none => simp
        | some m => exact (minS_some e).2 _ hm
      have hpr : ∀ l ∈ leadL bs.length us.length (cur ++ [p]), prT n bs (x :: us) (l.drop cur.length) = dsN n x (bs[p]?.getD 0) + prT n bs us (l.drop (cur ++ [p]).length) ∧ costT n bs us (T ||| 1 <<< p) ≤ prT n bs us (l.drop (cur ++ [p]).length) := fun l hl => by
        obtain ⟨m, rfl⟩ := leadL_pre hl
        obtain ⟨h1, h2, h3⟩ := leadL_mem hlt' hnd' hl
        have e1 : ((cur ++ [p]) ++ m).drop (cur ++ [p]).length = m := List.drop_left
        have e2 : ((cur ++ [p]) ++ m).drop cur.length = p :: m := by rw [List.append_assoc, List.drop_left]; rfl
        rw [e1, e2]
        refine ⟨rfl, cost_le ?_ ⟨(List.nodup_append.1 h3).2.1, fun q hq => ⟨h2 q (List.mem_append.2 (.inr hq)), ?_⟩⟩⟩
        · rw [List.length_append] at h1; omega
        · rw [hT']
          refine decide_eq_false (fun h => ?_)
          exact (List.nodup_append.1 h3).2.2 q h q hq rfl
      unfold ldsAt
      by_cases hcost : dsN n x (bs[p]?.getD 0) + costT n bs us (T ||| 1 <<< p) = costT n bs (x :: us) T
      · rw [if_pos hcost, lds_filter us _ _ hT' hlt' hnd']
        refine List.filter_congr fun l hl => ?_
        obtain ⟨h1, _⟩ := hpr l hl
        rw [h1, ← hcost, decide_eq_decide]
        omega
      · rw [if_neg hcost, eq_comm, List.filter_eq_nil_iff]
        intro l hl
        obtain ⟨h1, h2⟩ := hpr l hl
        rw [h1, decide_eq_true_eq]
        omega

theorem best_head {pr : List Nat → Nat} (ls : List (List Nat)) : ∀ b, bestL pr ls = some b → (ls.filter (fun l => decide (pr l = pr b))).head? = some b := by
  refine snoc_ind (P := fun ls => ∀ b, bestL pr ls = some b → (ls.filter (fun l => decide (pr l = pr b))).head? = some b) (by simp [bestL]) (fun l x ih b h => ?_) ls
  rw [bestL_snoc] at h
  cases e : bestL pr l with
  | none =>
    rw [e] at h
    have h' : x = b := by simpa using h
    have := (bestL_none pr l).1 e
    subst this h'
    simp
  | some k =>
    rw [e] at h
    obtain ⟨h1, h2⟩ := bestL_some _ _ k e
    rw [List.filter_append]
    by_cases hx : pr x < pr k
    · have : x = b := by simpa [hx] using h
      subst this
      have hn : l.filter (fun y => decide (pr y = pr x)) = [] := by
        rw [List.filter_eq_nil_iff]
        intro y hy
        have := h2 y hy
        rw [decide_eq_true_eq]; omega
      rw [hn]
      simp
    · have : k = b := by simpa [hx] using h
      subst this
      rw [List.head?_append, ih k e]
      rfl
theorem leads_filter (n : Nat) (us bs : List Nat) (hl : us.length = bs.length) : lds n bs us 0 [] = (leadL us.length us.length []).filter (fun l => decide (prT n bs us l = costN n us bs)) := by
  rw [lds_filter us 0 [] (fun p => by simp) (by simp) List.nodup_nil, hl]
  rfl
theorem leads_head {n : Nat} {us bs : List Nat} (hv : Vc n us bs) : ∃ l, (lds n bs us 0 []).head? = some l ∧ bestL (prT n bs us) (leadL us.length us.length []) = some l ∧ l.length = us.length ∧ Fits us.length 0 l ∧ prT n bs us l = costN n us bs := by
  obtain ⟨l, h1, h2, h3, h4⟩ := lead_best hv
  refine ⟨l, ?_, h1, h2, h3, h4⟩
  rw [leads_filter n us bs hv.len, ← h4]
  exact best_head _ l h1
end Go.Proofs.Ytkpiakoijkflmaa

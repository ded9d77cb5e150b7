/-
  When two rows go together: the second half of the one has the tones of the first half of the other.
-/
import Derived.Test.YtaldfaecpcnomaaDoorRoWith2
namespace Go.Proofs.YtaldfaecpcnomaaDoor

theorem goes_nodup {n : Nat} {ys : List Nat} (hr : IsRow n ys) (k m : Nat) : goesB n ys (k, m) = decide ((ys.take (n / 2) ++ (formL n k m ys).take (n / 2)).Nodup) := by
  have h1 : ∀ z ∈ ys.take (n / 2) ++ (formL n k m ys).take (n / 2), z < n := fun z hz => by
    rcases List.mem_append.1 hz with hz | hz
    · exact hr.lt z (List.mem_of_mem_take hz)
    · exact formL_lt hr.pos k m ys z (List.mem_of_mem_take hz)
  have e : bothL n ys k m = natI (ys.take (n / 2) ++ (formL n k m ys).take (n / 2)) := by
    unfold bothL natI; rw [List.map_append, List.map_take, List.map_take]
  unfold goesB partB
  rw [Bool.eq_iff_iff, decide_eq_true_eq, decide_eq_true_eq, e, natI_nodup]
  refine ⟨fun h => h.2, fun h => ⟨fun x hx => ?_, h⟩⟩
  obtain ⟨y, hy, rfl⟩ := List.mem_map.1 hx
  have := h1 y hy
  omega

theorem goes_perm {n : Nat} {ys : List Nat} (hr : IsRow n ys) (he : n % 2 = 0) (k m : Nat) : goesB n ys (k, m) = true ↔ (ys.take (n / 2)).Perm ((formL n k m ys).drop (n / 2)) := by
  rw [goes_nodup hr, decide_eq_true_eq]
  have hF := hr.form k m
  generalize formL n k m ys = F at hF
  obtain ⟨j, hj⟩ : ∃ j, n / 2 = j := ⟨_, rfl⟩
  rw [hj]
  have hA : (ys.take j).Nodup := hr.nd.sublist (List.take_sublist _ _)
  have hD : (F.drop j).Nodup := hF.nd.sublist (List.drop_sublist _ _)
  have hlA : (ys.take j).length = j := by rw [List.length_take, hr.len]; omega
  have hlD : (F.drop j).length = j := by rw [List.length_drop, hF.len]; omega
  have hsp : F.take j ++ F.drop j = F := List.take_append_drop _ _
  have hnd : (F.take j ++ F.drop j).Nodup := by rw [hsp]; exact hF.nd
  rw [List.nodup_append] at hnd ⊢
  constructor
  · rintro ⟨_, _, h3⟩
    have hsub : ∀ x ∈ ys.take j, x ∈ F.drop j := fun x hx => by
      have h4 := hF.all (hr.lt x (List.mem_of_mem_take hx))
      rw [← hsp] at h4
      rcases List.mem_append.1 h4 with h5 | h5
      · exact (h3 x hx x h5 rfl).elim
      · exact h5
    refine (List.perm_ext_iff_of_nodup hA hD).2 fun x => ⟨hsub x, fun hx => ?_⟩
    refine Classical.byContradiction fun hn => ?_
    have h6 := nodup_subset (l := x :: ys.take j) (m := F.drop j) (List.nodup_cons.2 ⟨hn, hA⟩) (fun z hz => by
      rcases List.mem_cons.1 hz with rfl | hz
      · exact hx
      · exact hsub z hz)
    rw [List.length_cons, hlA, hlD] at h6
    omega
  · intro hp
    refine ⟨hA, hnd.1, fun a ha b hb e => ?_⟩
    subst e
    exact hnd.2.2 _ hb _ ((hp.mem_iff).1 ha) rfl

/-- The form backwards always goes with a row. -/
theorem goes_back {n : Nat} {ys : List Nat} (hr : IsRow n ys) (he : n % 2 = 0) : goesB n ys (2, 0) = true := by
  rw [goes_perm hr he]
  have e : formL n 2 0 ys = ys.reverse := by
    unfold formL
    rw [if_pos (by omega)]
    congr 1
    refine (List.map_congr_left (g := id) fun x hx => ?_).trans (List.map_id _)
    have := hr.lt x hx
    unfold fm
    rw [if_neg (by omega), Nat.add_zero, Nat.mod_eq_of_lt this]
    rfl
  rw [e, List.drop_reverse, hr.len, show n - n / 2 = n / 2 by omega]
  exact (List.reverse_perm _).symm

theorem mem_with {n : Nat} {ys : List Nat} (p : Nat × Nat) (h1 : p.1 < 4) (h2 : p.2 < n) : p ∈ withL n ys ↔ goesB n ys p = true := by
  unfold withL withN
  rw [List.mem_filter]
  refine ⟨fun h => h.2, fun h => ⟨?_, h⟩⟩
  unfold namesL
  refine List.mem_map.2 ⟨p.1 * n + p.2, List.mem_range.2 ?_, nmT_at h2⟩
  have : p.1 * n ≤ 3 * n := Nat.mul_le_mul_right n (by omega)
  omega
end Go.Proofs.YtaldfaecpcnomaaDoor

/-
  The reference's With.
-/
import Derived.Test.YtaldfaecpcnomaaDoorRoWith
import Derived.Test.YtaldfaecpcnomaaDoorRoWay3
namespace Go.Proofs.YtaldfaecpcnomaaDoor
open Go.ChangeShapes Go.WideShapes Go.ChangeAt Go.RowKit
set_option maxRecDepth 100000

theorem nodup_subset : ∀ {l m : List Nat}, l.Nodup → (∀ x ∈ l, x ∈ m) → l.length ≤ m.length
  | [], _, _, _ => Nat.zero_le _
  | x :: l, m, hn, h => by
    rw [List.nodup_cons] at hn
    have hm := h x (by simp)
    have h1 := nodup_subset (m := m.erase x) hn.2 (fun y hy => by
      refine (List.mem_erase_of_ne ?_).2 (h y (by simp [hy]))
      rintro rfl; exact hn.1 hy)
    rw [List.length_erase_of_mem hm] at h1
    have : 0 < m.length := List.length_pos_of_mem hm
    rw [List.length_cons]; omega

/-- Among n numbers below n all occur exactly if none occurs twice. -/
theorem full_iff {n : Nat} {zs : List Nat} (hl : zs.length = n) (hlt : ∀ z ∈ zs, z < n) : maskL zs = 2 ^ n - 1 ↔ zs.Nodup := by
  have h1 : maskL zs = 2 ^ n - 1 ↔ ∀ i, i < n → i ∈ zs := by
    constructor
    · intro h i hi
      have := mask_bit zs i
      rw [h, Nat.testBit_two_pow_sub_one, decide_eq_true hi] at this
      exact of_decide_eq_true this.symm
    · intro h
      refine Nat.eq_of_testBit_eq fun i => ?_
      rw [mask_bit, Nat.testBit_two_pow_sub_one]
      by_cases hi : i < n
      · rw [decide_eq_true hi, decide_eq_true (h i hi)]
      · rw [decide_eq_false hi, decide_eq_false (fun hm => hi (hlt i hm))]
  rw [h1]
  constructor
  · intro h
    refine Classical.byContradiction fun hd => ?_
    rw [List.nodup_iff_pairwise_ne] at hd
    have hx : ∃ (a c : List Nat) (y : Nat), zs = a ++ y :: c ∧ y ∈ c := by
      clear h1 h hl hlt
      induction zs with
      | nil => exact (hd List.Pairwise.nil).elim
      | cons z zs ih =>
        by_cases hz : z ∈ zs
        · exact ⟨[], zs, z, rfl, hz⟩
        · obtain ⟨a, c, y, e, hy⟩ := ih (fun hp => hd (List.pairwise_cons.2 ⟨fun x hx e => hz (e ▸ hx), hp⟩))
          exact ⟨z :: a, c, y, by rw [e]; rfl, hy⟩
    obtain ⟨a, c, y, rfl, hy⟩ := hx
    have h2 := nodup_subset (l := List.range n) (m := a ++ c) List.nodup_range (fun x hx => by
      have := h x (List.mem_range.1 hx)
      rcases List.mem_append.1 this with h3 | h3
      · exact List.mem_append_left _ h3
      · rcases List.mem_cons.1 h3 with rfl | h3
        · exact List.mem_append_right _ hy
        · exact List.mem_append_right _ h3)
    rw [List.length_range, List.length_append] at h2
    rw [List.length_append, List.length_cons] at hl
    omega
  · intro hd i hi
    refine Classical.byContradiction fun hm => ?_
    have h2 := nodup_subset (l := i :: zs) (m := List.range n) (List.nodup_cons.2 ⟨hm, hd⟩) (fun x hx => by
      rw [List.mem_range]
      rcases List.mem_cons.1 hx with rfl | hx
      · exact hi
      · exact hlt x hx)
    rw [List.length_range, List.length_cons] at h2
    omega

def uniM (ys fs : List Nat) (i : Nat) : Nat := maskL (ys.take i) ||| maskL (fs.take i)
theorem mask_append (a b : List Nat) : maskL (a ++ b) = maskL a ||| maskL b := by
  refine Nat.eq_of_testBit_eq fun i => ?_
  rw [Nat.testBit_or, mask_bit, mask_bit, mask_bit, Bool.eq_iff_iff]
  simp
theorem uni_succ {ys fs : List Nat} {i : Nat} (h1 : i < ys.length) (h2 : i < fs.length) : uniM ys fs (i + 1) = uniM ys fs i ||| ((1 <<< ys[i]?.getD 0) ||| (1 <<< fs[i]?.getD 0)) := by
  unfold uniM
  rw [List.take_succ_eq_append_getElem h1, List.take_succ_eq_append_getElem h2, mask_snoc, mask_snoc, List.getElem?_eq_getElem h1, List.getElem?_eq_getElem h2]
  simp only [Option.getD_some]
  generalize maskL (ys.take i) = a
  generalize maskL (fs.take i) = b
  generalize 1 <<< ys[i] = c
  generalize 1 <<< fs[i] = d
  refine Nat.eq_of_testBit_eq fun j => ?_
  simp only [Nat.testBit_or]
  cases a.testBit j <;> cases b.testBit j <;> cases c.testBit j <;> cases d.testBit j <;> rfl
theorem uni_lt {ys fs : List Nat} {n : Nat} (h1 : ∀ y ∈ ys, y < n) (h2 : ∀ y ∈ fs, y < n) (i : Nat) : uniM ys fs i < 2 ^ n := by
  unfold uniM
  rw [← mask_append]
  refine mask_lt fun y hy => ?_
  rcases List.mem_append.1 hy with hy | hy
  · exact h1 y (List.mem_of_mem_take hy)
  · exact h2 y (List.mem_of_mem_take hy)
theorem uni_goes {n : Nat} {ys : List Nat} (hr : IsRow n ys) (he : n % 2 = 0) (k m : Nat) : goesB n ys (k, m) = decide (uniM ys (formL n k m ys) (n / 2) = 2 ^ n - 1) := by
  have hlen := hr.len
  have hf : (formL n k m ys).length = n := by rw [formL_length, hlen]
  have h1 : ∀ z ∈ ys.take (n / 2) ++ (formL n k m ys).take (n / 2), z < n := fun z hz => by
    rcases List.mem_append.1 hz with hz | hz
    · exact hr.lt z (List.mem_of_mem_take hz)
    · exact formL_lt hr.pos k m ys z (List.mem_of_mem_take hz)
  have hl : (ys.take (n / 2) ++ (formL n k m ys).take (n / 2)).length = n := by
    rw [List.length_append, List.length_take, List.length_take, hlen, hf]; omega
  have e : bothL n ys k m = natI (ys.take (n / 2) ++ (formL n k m ys).take (n / 2)) := by
    unfold bothL natI; rw [List.map_append, List.map_take, List.map_take]
  unfold goesB partB uniM
  rw [← mask_append, Bool.eq_iff_iff, decide_eq_true_eq, decide_eq_true_eq, full_iff hl h1, e, natI_nodup]
  refine ⟨fun h => h.2, fun h => ⟨fun x hx => ?_, h⟩⟩
  obtain ⟨y, hy, rfl⟩ := List.mem_map.1 hx
  have := h1 y hy
  omega
theorem withN_snoc (n : Nat) (ys : List Nat) (l : List (Nat × Nat)) (p : Nat × Nat) : withN n ys (l ++ [p]) = if goesB n ys p = true then withN n ys l ++ [p] else withN n ys l := by
  unfold withN
  rw [List.filter_append]
  cases h : goesB n ys p <;> simp [h]

theorem pow_wrap {P : Nat} (h1 : 1 ≤ P) (h2 : P ≤ 1024) : IntKind.i64.wrap ((P : Int) - 1) = (P : Int) - 1 := IntWalk.i64_in _ (by omega)
theorem mask_eq {M P : Nat} (h1 : 1 ≤ P) : ((M : Int) == (P : Int) - 1) = decide (M = P - 1) := by
  rw [Bool.eq_iff_iff, beq_iff_eq, decide_eq_true_eq]; omega

end Go.Proofs.YtaldfaecpcnomaaDoor

/-
  How many tones have another one behind them: counting by places, and by tones.
-/
import Derived.Test.YtdfagnjdconkcaaRoMath
namespace Go.Proofs.Ytdfagnjdconkcaa

/-- Whether the tone at a place has the one that is k above it somewhere behind it. -/
def folI (n k : Nat) (ys : List Nat) (i : Nat) : Nat := if (ys[i]?.getD 0 + k) % n ∈ ys.drop (i + 1) then 1 else 0
def folN (n k : Nat) (ys : List Nat) : Nat := sumN n (folI n k ys)
/-- Of the places j, i: 1 if the tone at i is k above the one at j. -/
def isI (n k : Nat) (ys : List Nat) (i j : Nat) : Nat := if (ys[j]?.getD 0 + k) % n = ys[i]?.getD 0 then 1 else 0

theorem getD_inj {ys : List Nat} (hd : ys.Nodup) {i j : Nat} (hi : i < ys.length) (hj : j < ys.length) (h : ys[i]?.getD 0 = ys[j]?.getD 0) : i = j := by
  rw [List.getElem?_eq_getElem hi, List.getElem?_eq_getElem hj] at h
  have hp := List.pairwise_iff_getElem.1 hd
  rcases Nat.lt_trichotomy i j with hl | hl | hl
  · exact absurd h (hp i j hi hj hl)
  · exact hl
  · exact absurd h.symm (hp j i hj hi hl)
theorem mem_getD {ys : List Nat} {x : Nat} (h : x ∈ ys) : ∃ i, i < ys.length ∧ ys[i]?.getD 0 = x := by
  obtain ⟨i, hi, e⟩ := List.getElem_of_mem h
  exact ⟨i, hi, by rw [List.getElem?_eq_getElem hi]; exact e⟩

/-- The place of a tone. -/
def pos (ys : List Nat) (x : Nat) : Nat := ys.idxOf x
theorem pos_lt {n : Nat} {ys : List Nat} (h : IsRow n ys) {x : Nat} (hx : x < n) : pos ys x < n := by
  have := List.idxOf_lt_length_iff.2 (h.all hx)
  rw [h.len] at this; exact this
theorem at_pos {n : Nat} {ys : List Nat} (h : IsRow n ys) {x : Nat} (hx : x < n) : ys[pos ys x]?.getD 0 = x := by
  have h1 := List.idxOf_lt_length_iff.2 (h.all hx)
  unfold pos
  rw [List.getElem?_eq_getElem h1]
  exact List.getElem_idxOf h1
theorem pos_at {n : Nat} {ys : List Nat} (h : IsRow n ys) {i : Nat} (hi : i < n) : pos ys (ys[i]?.getD 0) = i := by
  have hl := h.len
  have hx : ys[i]?.getD 0 < n := getD_lt h.lt h.pos i
  have := pos_lt h hx
  exact getD_inj h.nd (by omega) (by omega) (at_pos h hx)
theorem pos_inj {n : Nat} {ys : List Nat} (h : IsRow n ys) {x y : Nat} (hx : x < n) (hy : y < n) (e : pos ys x = pos ys y) : x = y := by
  rw [← at_pos h hx, e, at_pos h hy]

/-- k above, and k below. -/
def upN (n k x : Nat) : Nat := (x + k) % n
theorem upN_lt {n k x : Nat} (h : 0 < n) : upN n k x < n := Nat.mod_lt _ h
theorem up_down {n k x : Nat} (hk : k ≤ n) (hx : x < n) : upN n k (upN n (n - k) x) = x := by
  unfold upN
  rw [Nat.mod_add_mod, show x + (n - k) + k = x + n by omega, Nat.add_mod_right, Nat.mod_eq_of_lt hx]
theorem down_up {n k x : Nat} (hk : k ≤ n) (hx : x < n) : upN n (n - k) (upN n k x) = x := by
  unfold upN
  rw [Nat.mod_add_mod, show x + k + (n - k) = x + n by omega, Nat.add_mod_right, Nat.mod_eq_of_lt hx]
theorem up_ne {n k x : Nat} (h1 : 1 ≤ k) (h2 : k < n) (hx : x < n) : upN n k x ≠ x := by
  unfold upN
  by_cases h : x + k < n
  · rw [Nat.mod_eq_of_lt h]; omega
  · rw [Nat.mod_eq_sub_mod (by omega), Nat.mod_eq_of_lt (by omega)]; omega

/-- Told by tones. -/
def folT (n k : Nat) (ys : List Nat) : Nat := sumN n (fun x => if pos ys x < pos ys (upN n k x) then 1 else 0)

theorem sum_row {n : Nat} {ys : List Nat} (h : IsRow n ys) (f : Nat → Nat) : sumN n (fun i => f (ys[i]?.getD 0)) = sumN n f :=
  sum_perm n (fun i => ys[i]?.getD 0) (pos ys) (fun i _ => getD_lt h.lt h.pos i) (fun j hj => pos_lt h hj) (fun i hi => pos_at h hi) (fun j hj => at_pos h hj) f

theorem mem_behind {n : Nat} {ys : List Nat} (h : IsRow n ys) {i x : Nat} (hx : x < n) : x ∈ ys.drop (i + 1) ↔ i < pos ys x := by
  have hl := h.len
  constructor
  · intro hm
    obtain ⟨m, hm1, e⟩ := mem_getD hm
    rw [List.length_drop] at hm1
    rw [List.getElem?_drop] at e
    rw [← e, pos_at h (by omega)]
    omega
  · intro hp
    have h1 := pos_lt h hx
    have h2 := at_pos h hx
    rw [List.mem_iff_getElem?]
    refine ⟨pos ys x - (i + 1), ?_⟩
    rw [List.getElem?_drop, show i + 1 + (pos ys x - (i + 1)) = pos ys x by omega]
    rw [List.getElem?_eq_getElem (by omega)] at h2 ⊢
    exact congrArg some h2

theorem folN_eq {n k : Nat} {ys : List Nat} (h : IsRow n ys) : folN n k ys = folT n k ys := by
  unfold folN folT
  rw [← sum_row h (fun x => if pos ys x < pos ys (upN n k x) then 1 else 0)]
  refine sum_congr (fun i hi => ?_)
  unfold folI
  have hx : upN n k (ys[i]?.getD 0) < n := upN_lt h.pos
  show (if upN n k (ys[i]?.getD 0) ∈ ys.drop (i + 1) then 1 else 0) = _
  by_cases hm : i < pos ys (upN n k (ys[i]?.getD 0))
  · rw [if_pos ((mem_behind h hx).2 hm), if_pos (by rw [pos_at h hi]; exact hm)]
  · rw [if_neg (fun hh => hm ((mem_behind h hx).1 hh)), if_neg (by rw [pos_at h hi]; exact hm)]

/-- The reference's count. -/
theorem ref_eq {n k : Nat} {ys : List Nat} (h : IsRow n ys) (hk : k ≤ n) : sumN n (fun i => sumN i (isI n k ys i)) = folN n k ys := by
  have hl := h.len
  rw [folN_eq h]
  have e1 : sumN n (fun i => sumN i (isI n k ys i)) = sumN n (fun i => (fun y => if pos ys (upN n (n - k) y) < pos ys y then 1 else 0) (ys[i]?.getD 0)) := by
    refine sum_congr (fun i hi => ?_)
    have hy : ys[i]?.getD 0 < n := getD_lt h.lt h.pos i
    have hd : upN n (n - k) (ys[i]?.getD 0) < n := upN_lt h.pos
    have e2 : sumN i (isI n k ys i) = sumN i (fun j => if j = pos ys (upN n (n - k) (ys[i]?.getD 0)) then 1 else 0) := by
      refine sum_congr (fun j hj => ?_)
      unfold isI
      by_cases e : j = pos ys (upN n (n - k) (ys[i]?.getD 0))
      · rw [if_pos e, if_pos]
        rw [e, at_pos h hd]
        exact up_down hk hy
      · rw [if_neg e, if_neg]
        intro e3
        apply e
        rw [← pos_at h (show j < n by omega)]
        congr 1
        rw [← e3]
        exact (down_up hk (getD_lt h.lt h.pos j)).symm
    rw [e2, sum_single i _ (fun _ => 1)]
    show _ = if _ then 1 else 0
    rw [pos_at h hi]
  rw [e1, sum_row h (fun y => if pos ys (upN n (n - k) y) < pos ys y then 1 else 0)]
  unfold folT
  rw [← sum_perm n (upN n k) (upN n (n - k)) (fun i _ => upN_lt h.pos) (fun i _ => upN_lt h.pos) (fun i hi => down_up hk hi) (fun i hi => up_down hk hi) (fun y => if pos ys (upN n (n - k) y) < pos ys y then 1 else 0)]
  refine sum_congr (fun x hx => ?_)
  rw [down_up hk hx]

theorem fol_back {n k : Nat} {ys : List Nat} (h : IsRow n ys) (hk : k ≤ n) : folT n (n - k) ys = sumN n (fun x => if pos ys (upN n k x) < pos ys x then 1 else 0) := by
  unfold folT
  rw [← sum_perm n (upN n k) (upN n (n - k)) (fun i _ => upN_lt h.pos) (fun i _ => upN_lt h.pos) (fun i hi => down_up hk hi) (fun i hi => up_down hk hi) (fun x => if pos ys x < pos ys (upN n (n - k) x) then 1 else 0)]
  refine sum_congr (fun x hx => ?_)
  rw [down_up hk hx]

/-- Both ways sum to all. -/
theorem fol_sum {n k : Nat} {ys : List Nat} (h : IsRow n ys) (h1 : 1 ≤ k) (h2 : k < n) : folN n k ys + folN n (n - k) ys = n := by
  rw [folN_eq h, folN_eq h, fol_back h (by omega)]
  unfold folT
  rw [← sum_add]
  have e : sumN n (fun i => (if pos ys i < pos ys (upN n k i) then 1 else 0) + (if pos ys (upN n k i) < pos ys i then 1 else 0)) = sumN n (fun _ => 1) := by
    refine sum_congr (fun x hx => ?_)
    have hne : pos ys x ≠ pos ys (upN n k x) := fun e => up_ne h1 h2 hx (pos_inj h hx (upN_lt h.pos) e).symm
    by_cases hl : pos ys x < pos ys (upN n k x)
    · rw [if_pos hl, if_neg (by omega)]
    · rw [if_neg hl, if_pos (by omega)]
  rw [e, sum_const, Nat.mul_one]

theorem form_back {n : Nat} {ys : List Nat} (h : ∀ y ∈ ys, y < n) : formL n 2 0 ys = ys.reverse := by
  unfold formL
  rw [if_pos (by decide)]
  congr 1
  have : ∀ l : List Nat, (∀ y ∈ l, y < n) → l.map (fm n 2 0) = l := by
    intro l hl
    induction l with
    | nil => rfl
    | cons x l ih =>
      rw [List.map_cons, ih (fun y hy => hl y (by simp [hy]))]
      congr 1
      unfold fm
      rw [if_neg (by decide), Nat.add_zero, Nat.mod_eq_of_lt (hl x (by simp))]
  exact this ys h

theorem pos_reverse {n : Nat} {ys : List Nat} (h : IsRow n ys) (h' : IsRow n ys.reverse) {x : Nat} (hx : x < n) : pos ys.reverse x = n - 1 - pos ys x := by
  have hl := h.len
  have hp := pos_lt h hx
  have e : ys.reverse[n - 1 - pos ys x]?.getD 0 = x := by
    rw [List.getElem?_reverse (by omega), hl, show n - 1 - (n - 1 - pos ys x) = pos ys x by omega]
    exact at_pos h hx
  rw [← e]
  rw [pos_at h' (by omega), e]

/-- Backward they are exchanged. -/
theorem fol_reverse {n k : Nat} {ys : List Nat} (h : IsRow n ys) (hk : k ≤ n) : folN n k (formL n 2 0 ys) = folN n (n - k) ys := by
  have h' : IsRow n ys.reverse := by have := h.form 2 0; rwa [form_back h.lt] at this
  rw [form_back h.lt, folN_eq h', folN_eq h, fol_back h hk]
  unfold folT
  refine sum_congr (fun x hx => ?_)
  have h1 := pos_lt h hx
  have h2 := pos_lt h (upN_lt (k := k) (x := x) h.pos)
  rw [pos_reverse h h' hx, pos_reverse h h' (upN_lt h.pos)]
  by_cases hl : pos ys (upN n k x) < pos ys x
  · rw [if_pos hl, if_pos (by omega)]
  · rw [if_neg hl, if_neg (by omega)]
end Go.Proofs.Ytdfagnjdconkcaa

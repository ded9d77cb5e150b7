/-
  Voices: distances, the least cost of a leading, by the places that are taken. Plain mathematics; no program is spoken of.
-/
import Derived.Test.YtkpiakoijkflmaaRoMath
namespace Go.Proofs.Ytkpiakoijkflmaa

/-! ### distances -/
/-- How far it is upward. -/
def upN (n x y : Nat) : Nat := (y + n - x) % n
def dsN (n x y : Nat) : Nat := min (upN n x y) (upN n y x)
/-- The movement the shorter way. -/
def mvN' (n x y : Nat) : Int := if n < 2 * upN n x y then (upN n x y : Int) - n else upN n x y

theorem upN_lt {n : Nat} (h : 0 < n) (x y : Nat) : upN n x y < n := Nat.mod_lt _ h
theorem up_int {n x y : Nat} (hx : x < n) : ((y : Int) - (x : Int)) % (n : Int) = (upN n x y : Int) := by
  unfold upN
  have e : ((y : Int) - (x : Int)) = ((y + n - x : Nat) : Int) - n := by omega
  rw [e, Int.sub_emod_right]; exact_mod_cast rfl
theorem upN_ge {n x y : Nat} (hx : x ≤ y) (hy : y < n) : upN n x y = y - x := by
  unfold upN
  rw [show y + n - x = (y - x) + n from by omega, Nat.add_mod_right, Nat.mod_eq_of_lt (by omega)]
theorem upN_lt' {n x y : Nat} (hx : y < x) (hy : x < n) : upN n x y = y + n - x := by
  unfold upN
  rw [Nat.mod_eq_of_lt (by omega)]
theorem dsN_ge {n x y : Nat} (hx : x ≤ y) (hy : y < n) : dsN n x y = min (y - x) (x + n - y) := by
  unfold dsN
  rw [upN_ge hx hy]
  by_cases e : x = y
  · subst e; rw [upN_ge (Nat.le_refl _) hy]; omega
  · rw [upN_lt' (by omega) hy]
theorem dsN_comm (n x y : Nat) : dsN n x y = dsN n y x := by unfold dsN; omega
theorem dsN_le {n : Nat} (h : 0 < n) (x y : Nat) : dsN n x y < n := by unfold dsN; have := upN_lt h x y; omega
theorem dsN_zero {n x y : Nat} (hx : x < n) (hy : y < n) : dsN n x y = 0 ↔ x = y := by
  by_cases h : x ≤ y
  · rw [dsN_ge h hy]; omega
  · rw [dsN_comm, dsN_ge (by omega) hx]; omega
theorem ds_mv {n x y : Nat} (hx : x < n) (hy : y < n) : max (mvN' n x y) (-(mvN' n x y)) = (dsN n x y : Int) := by
  unfold mvN'
  by_cases h : x ≤ y
  · rw [dsN_ge h hy, upN_ge h hy]; split <;> omega
  · rw [dsN_comm, dsN_ge (by omega) hx, upN_lt' (by omega) hx]; split <;> omega

theorem snoc_ind {α : Type} {P : List α → Prop} (h0 : P []) (h1 : ∀ l x, P l → P (l ++ [x])) (l : List α) : P l := by
  have h : ∀ r : List α, P r.reverse := fun r => by
    induction r with
    | nil => exact h0
    | cons x r ih => rw [List.reverse_cons]; exact h1 _ _ ih
  have := h l.reverse
  rwa [List.reverse_reverse] at this

/-! ### the least of some numbers -/
def minS (l : List Nat) : Option Nat := l.foldl (fun o x => match o with | none => some x | some m => if x < m then some x else some m) none
theorem minS_snoc (l : List Nat) (x : Nat) : minS (l ++ [x]) = (match minS l with | none => some x | some m => if x < m then some x else some m) := by
  unfold minS; rw [List.foldl_append]; rfl
theorem minS_nil : minS [] = none := rfl
theorem minS_none (l : List Nat) : minS l = none ↔ l = [] := by
  refine snoc_ind (P := fun l => minS l = none ↔ l = []) (by simp [minS]) (fun l x ih => ?_) l
  rw [minS_snoc]
  cases minS l with
  | none => simp
  | some m => by_cases h : x < m <;> simp [h]
theorem minS_some : ∀ {l : List Nat} {m : Nat}, minS l = some m → m ∈ l ∧ ∀ x ∈ l, m ≤ x := by
  intro l
  refine snoc_ind (P := fun l => ∀ {m : Nat}, minS l = some m → m ∈ l ∧ ∀ x ∈ l, m ≤ x) ?_ ?_ l
  · intro m h; simp [minS] at h
  · intro l x ih m h
    rw [minS_snoc] at h
    cases e : minS l with
    | none =>
      rw [e] at h
      have h' : x = m := by simpa using h
      have := (minS_none l).1 e
      subst this h'
      simp
    | some k =>
      rw [e] at h
      obtain ⟨h1, h2⟩ := ih e
      by_cases hx : x < k
      · have : x = m := by simpa [hx] using h
        subst this
        refine ⟨by simp, fun z hz => ?_⟩
        rcases List.mem_append.1 hz with hz | hz
        · have := h2 z hz; omega
        · rw [List.mem_singleton] at hz; omega
      · have : k = m := by simpa [hx] using h
        subst this
        refine ⟨by simp [h1], fun z hz => ?_⟩
        rcases List.mem_append.1 hz with hz | hz
        · exact h2 z hz
        · rw [List.mem_singleton] at hz; omega

/-! ### the least cost -/
/-- The places below j that are free. -/
def freeP (T j : Nat) : List Nat := (List.range j).filter (fun p => !T.testBit p)
theorem freeP_succ (T j : Nat) : freeP T (j + 1) = if T.testBit j then freeP T j else freeP T j ++ [j] := by
  unfold freeP
  rw [List.range_succ, List.filter_append]
  by_cases h : T.testBit j <;> simp [h]
theorem freeP_mem {T j p : Nat} : p ∈ freeP T j ↔ p < j ∧ T.testBit p = false := by
  unfold freeP; simp [List.mem_filter]

/-- The least cost of leading the voices to the places that are free. -/
def costT (n : Nat) (bs : List Nat) : List Nat → Nat → Nat
  | [], _ => 0
  | x :: as, T => (minS ((freeP T bs.length).map fun p => dsN n x (bs[p]?.getD 0) + costT n bs as (T ||| 1 <<< p))).getD 0
/-- What the places below j give. -/
def tryL (n : Nat) (bs : List Nat) (x : Nat) (as : List Nat) (T j : Nat) : List Nat := (freeP T j).map fun p => dsN n x (bs[p]?.getD 0) + costT n bs as (T ||| 1 <<< p)
theorem tryL_succ (n : Nat) (bs : List Nat) (x : Nat) (as : List Nat) (T j : Nat) :
    tryL n bs x as T (j + 1) = if T.testBit j then tryL n bs x as T j else tryL n bs x as T j ++ [dsN n x (bs[j]?.getD 0) + costT n bs as (T ||| 1 <<< j)] := by
  unfold tryL; rw [freeP_succ]; split <;> simp
theorem costT_cons (n : Nat) (bs : List Nat) (x : Nat) (as : List Nat) (T : Nat) : costT n bs (x :: as) T = (minS (tryL n bs x as T bs.length)).getD 0 := rfl
def costN (n : Nat) (as bs : List Nat) : Nat := costT n bs as 0

theorem costT_le {n : Nat} (hn : 0 < n) (bs : List Nat) : ∀ (as : List Nat) (T : Nat), costT n bs as T ≤ as.length * n
  | [], _ => by simp [costT]
  | x :: as, T => by
    rw [costT_cons]
    cases e : minS (tryL n bs x as T bs.length) with
    | none => simp
    | some m =>
      obtain ⟨h, _⟩ := minS_some e
      unfold tryL at h
      obtain ⟨p, _, rfl⟩ := List.mem_map.1 h
      have h1 := dsN_le hn x (bs[p]?.getD 0)
      have h2 := costT_le hn bs as (T ||| 1 <<< p)
      rw [List.length_cons, Nat.succ_mul]
      simp only [Option.getD_some]
      omega

/-! ### leadings as lists of places -/
/-- The price of leading the voices to places. -/
def prT (n : Nat) (bs : List Nat) : List Nat → List Nat → Nat
  | x :: as, p :: l => dsN n x (bs[p]?.getD 0) + prT n bs as l
  | _, _ => 0
/-- Different free places, one for each voice. -/
def Fits (k T : Nat) (l : List Nat) : Prop := l.Nodup ∧ ∀ p ∈ l, p < k ∧ T.testBit p = false

theorem fits_cons {k T p : Nat} {l : List Nat} : Fits k T (p :: l) ↔ (p < k ∧ T.testBit p = false) ∧ Fits k (T ||| 1 <<< p) l := by
  unfold Fits
  rw [List.nodup_cons]
  constructor
  · rintro ⟨⟨h1, h2⟩, h3⟩
    refine ⟨h3 p (by simp), h2, fun q hq => ?_⟩
    have h4 := h3 q (by simp [hq])
    refine ⟨h4.1, ?_⟩
    rw [Nat.testBit_or, h4.2, testBit_one_shl]
    have : p ≠ q := fun e => h1 (e ▸ hq)
    simp [this]
  · rintro ⟨h1, h2, h3⟩
    refine ⟨⟨fun hp => ?_, h2⟩, fun q hq => ?_⟩
    · have := (h3 p hp).2
      rw [Nat.testBit_or, testBit_one_shl] at this
      simp at this
    · rcases List.mem_cons.1 hq with rfl | hq
      · exact h1
      · have := h3 q hq
        rw [Nat.testBit_or] at this
        simp only [Bool.or_eq_false_iff] at this
        exact ⟨this.1, this.2.1⟩

theorem cost_le {n : Nat} {bs : List Nat} : ∀ {as l : List Nat} {T : Nat}, l.length = as.length → Fits bs.length T l → costT n bs as T ≤ prT n bs as l
  | [], _, _, _, _ => by simp [costT]
  | x :: as, [], _, h, _ => by simp at h
  | x :: as, p :: l, T, h, hf => by
    obtain ⟨h1, h2⟩ := fits_cons.1 hf
    have ih := cost_le (n := n) (bs := bs) (as := as) (l := l) (T := T ||| 1 <<< p) (by simpa using h) h2
    rw [costT_cons]
    cases e : minS (tryL n bs x as T bs.length) with
    | none => simp
    | some m =>
      have hm : dsN n x (bs[p]?.getD 0) + costT n bs as (T ||| 1 <<< p) ∈ tryL n bs x as T bs.length := List.mem_map.2 ⟨p, freeP_mem.2 h1, rfl⟩
      have := (minS_some e).2 _ hm
      simp only [Option.getD_some, prT]
      omega

/-- How many places are free. -/
theorem free_or {T k p : Nat} (h : p < k) (hp : T.testBit p = false) : (freeP (T ||| 1 <<< p) k).length + 1 = (freeP T k).length := by
  induction k with
  | zero => omega
  | succ k ih =>
    rw [freeP_succ, freeP_succ, Nat.testBit_or, testBit_one_shl]
    by_cases e : p = k
    · subst e
      simp only [hp, decide_true, Bool.or_true, if_true, Bool.false_eq_true, if_false, List.length_append, List.length_singleton]
      congr 2
      unfold freeP
      refine List.filter_congr (fun q hq => ?_)
      rw [List.mem_range] at hq
      rw [Nat.testBit_or, testBit_one_shl]
      have : p ≠ q := by omega
      simp [this]
    · have := ih (by omega)
      by_cases ht : T.testBit k <;> simp [ht, e] <;> omega

theorem cost_ex {n : Nat} {bs : List Nat} : ∀ {as : List Nat} {T : Nat}, as.length ≤ (freeP T bs.length).length → ∃ l, l.length = as.length ∧ Fits bs.length T l ∧ costT n bs as T = prT n bs as l
  | [], _, _ => ⟨[], rfl, ⟨List.nodup_nil, by simp⟩, rfl⟩
  | x :: as, T, h => by
    cases e : minS (tryL n bs x as T bs.length) with
    | none =>
      have := (minS_none _).1 e
      unfold tryL at this
      rw [List.map_eq_nil_iff] at this
      rw [this] at h
      simp at h
    | some m =>
      obtain ⟨hm, _⟩ := minS_some e
      obtain ⟨p, hp, em⟩ := List.mem_map.1 hm
      have hp' := freeP_mem.1 hp
      have hfo := free_or hp'.1 hp'.2
      obtain ⟨l, h1, h2, h3⟩ := cost_ex (n := n) (bs := bs) (as := as) (T := T ||| 1 <<< p) (by rw [List.length_cons] at h; omega)
      refine ⟨p :: l, by simp [h1], fits_cons.2 ⟨hp', h2⟩, ?_⟩
      rw [costT_cons, e]
      simp only [Option.getD_some, prT]
      omega
end Go.Proofs.Ytkpiakoijkflmaa

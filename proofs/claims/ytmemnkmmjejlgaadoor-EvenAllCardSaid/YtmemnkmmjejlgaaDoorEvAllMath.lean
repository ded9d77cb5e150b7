/-
  Even scales are one up to moving; how many there are; the strokes are one of them.
-/
import Derived.Test.YtmemnkmmjejlgaaDoorEvStrokes
import Derived.Test.YtmemnkmmjejlgaaDoorEvMostLaw
import Derived.Test.YtmemnkmmjejlgaaDoorEvTurnMath
namespace Go.Proofs.YtmemnkmmjejlgaaDoor
open Go.RowKit Go.Shelf
set_option maxRecDepth 100000

/-! ### counted out by the kernel -/

def mvK (n s u : Nat) : Nat := Nat.land (Nat.lor (Nat.shiftLeft s u) (Nat.shiftRight s (Nat.sub n u))) (Nat.sub (Nat.pow 2 n) 1)
theorem mvK_eq (n s u : Nat) : mvK n s u = mvN n s u := rfl

def allChk (f : Nat → Nat → Bool) : Bool := allLt (fun n => Bool.or (Nat.ble n 1) (allLt (fun k => Bool.or (Nat.beq k 0) (f n k)) (Nat.add n 1))) 17
theorem allChk_spec {f : Nat → Nat → Bool} (h : allChk f = true) {n k : Nat} (h1 : 2 ≤ n) (h2 : n ≤ 16) (h3 : 1 ≤ k) (h4 : k ≤ n) : f n k = true := by
  have c1 := allLt_spec _ _ h n (by omega)
  have c2 := (Bool.or_eq_true_iff.1 (show (_ || _) = true from c1)).resolve_left (fun h => by have := Nat.le_of_ble_eq_true h; omega)
  have c3 := allLt_spec _ _ c2 k (by show k < n + 1; omega)
  exact (Bool.or_eq_true_iff.1 (show (_ || _) = true from c3)).resolve_left (fun h => by have := Nat.eq_of_beq_eq_true h; omega)

/-- Each one is the other one moved. -/
def spinOk (n k : Nat) : Bool := allLt (fun m => allLt (fun m' => exLt (fun u => Nat.beq (mvK n (sprK n m k k) u) (sprK n m' k k)) n) n) n
theorem spinChk : allChk spinOk = true := by decide +kernel

theorem spin {n k m m' : Nat} (h1 : 2 ≤ n) (h2 : n ≤ 16) (h3 : 1 ≤ k) (h4 : k ≤ n) (hm : m < n) (hm' : m' < n) : ∃ u, u < n ∧ mvN n (sprN n k m) u = sprN n k m' := by
  have c := allLt_spec _ _ (allLt_spec _ _ (allChk_spec spinChk h1 h2 h3 h4) m hm) m' hm'
  obtain ⟨u, hu, h⟩ := (exLt_spec _ _).1 c
  have h := Nat.eq_of_beq_eq_true h
  rw [sprK_eq, sprK_eq, mvK_eq] at h
  exact ⟨u, hu, h⟩

/-- Those that are no earlier one. -/
def firsts (F : Nat → Nat) : Nat → List Nat
  | 0 => []
  | c + 1 => if exLt (fun i => Nat.beq (F i) (F c)) c = true then firsts F c else F c :: firsts F c
theorem firsts_mem (F : Nat → Nat) (x : Nat) : ∀ c, x ∈ firsts F c ↔ ∃ i, i < c ∧ F i = x := by
  intro c
  induction c with
  | zero => simp [firsts]
  | succ c ih =>
    have key : (∃ i, i < c + 1 ∧ F i = x) ↔ (F c = x ∨ ∃ i, i < c ∧ F i = x) := by
      constructor
      · rintro ⟨i, hi, e⟩
        by_cases h : i = c
        · exact Or.inl (by rw [← h]; exact e)
        · exact Or.inr ⟨i, by omega, e⟩
      · rintro (e | ⟨i, hi, e⟩)
        · exact ⟨c, by omega, e⟩
        · exact ⟨i, by omega, e⟩
    rw [key]
    unfold firsts
    by_cases h : exLt (fun i => Nat.beq (F i) (F c)) c = true
    · rw [if_pos h, ih]
      obtain ⟨i, hi, e⟩ := (exLt_spec _ _).1 h
      have e := Nat.eq_of_beq_eq_true e
      exact ⟨Or.inr, fun h2 => h2.elim (fun h3 => ⟨i, hi, by rw [e]; exact h3⟩) id⟩
    · rw [if_neg h, List.mem_cons, ih]
      exact ⟨fun h2 => h2.imp Eq.symm id, fun h2 => h2.imp Eq.symm id⟩
theorem firsts_nodup (F : Nat → Nat) : ∀ c, (firsts F c).Nodup := by
  intro c
  induction c with
  | zero => simp [firsts]
  | succ c ih =>
    unfold firsts
    by_cases h : exLt (fun i => Nat.beq (F i) (F c)) c = true
    · rw [if_pos h]; exact ih
    · rw [if_neg h, List.nodup_cons]
      refine ⟨fun hm => ?_, ih⟩
      obtain ⟨i, hi, e⟩ := (firsts_mem F (F c) c).1 hm
      apply h
      rw [exLt_spec]
      exact ⟨i, hi, by rw [e]; exact Nat.beq_refl _⟩

def cntOk (n k : Nat) : Bool := Nat.beq (Nat.mul (firsts (fun m => sprK n m k k) n).length (Nat.gcd n k)) n
theorem cntChk : allChk cntOk = true := by decide +kernel

theorem even_count {n k : Nat} (h1 : 2 ≤ n) (h2 : n ≤ 16) (h3 : 1 ≤ k) (h4 : k ≤ n) {l : List Nat} (hn : l.Nodup) (hm : ∀ x, x ∈ l ↔ ∃ m, m < n ∧ sprN n k m = x) : l.length = n / Nat.gcd n k := by
  have e : (fun m => sprK n m k k) = sprN n k := funext (fun m => sprK_eq n m k)
  have c := Nat.eq_of_beq_eq_true (allChk_spec cntChk h1 h2 h3 h4)
  rw [e] at c
  have hl : l.length = (firsts (sprN n k) n).length := List.Perm.length_eq ((List.perm_ext_iff_of_nodup hn (firsts_nodup _ _)).2 (fun x => (hm x).trans (firsts_mem _ _ _).symm))
  rw [hl]
  have hg : 0 < Nat.gcd n k := Nat.gcd_pos_of_pos_left _ (by omega)
  exact (Nat.div_eq_of_eq_mul_left hg (by rw [show (firsts (sprN n k) n).length * Nat.gcd n k = n from c])).symm

/-! ### the list of all even ones -/

theorem mem_listE {n k : Nat} (h1 : 2 ≤ n) (h2 : n ≤ 16) (h3 : 1 ≤ k) (h4 : k ≤ n) (x : Nat) : x ∈ listE n k ↔ ∃ m, m < n ∧ sprN n k m = x := by
  unfold listE
  rw [List.mem_filter]
  constructor
  · rintro ⟨hx, he⟩
    have hc := sc_card h2 hx
    rw [evenB_iff (by omega) (by omega), even_iff (by omega) (mem_sc.1 hx).1 (by omega)] at he
    obtain ⟨m, e⟩ := he
    rw [hc, spr_mod h3 h4] at e
    exact ⟨m % n, Nat.mod_lt _ (by omega), e.symm⟩
  · rintro ⟨m, _, rfl⟩
    exact ⟨spr_sc h2 h3 h4, spr_evB h3 h4⟩

theorem listE_rises (n k : Nat) : (listE n k).Pairwise (· < ·) := by
  unfold listE scTo
  exact (List.pairwise_lt_range.filter _).filter _

theorem listE_count {n k : Nat} (h1 : 2 ≤ n) (h2 : n ≤ 16) (h3 : 1 ≤ k) (h4 : k ≤ n) : (listE n k).length = n / Nat.gcd n k :=
  even_count h1 h2 h3 h4 ((listE_rises n k).imp (fun h => Nat.ne_of_lt h)) (mem_listE h1 h2 h3 h4)

/-- All moves. -/
def movesL (n s c : Nat) : List Nat := (List.range c).map (mvN n s)
theorem movesL_succ (n s c : Nat) : movesL n s (c + 1) = movesL n s c ++ [mvN n s c] := by
  unfold movesL
  rw [List.range_succ, List.map_append]; rfl

theorem listE_moves {n k m : Nat} (h1 : 2 ≤ n) (h2 : n ≤ 16) (h3 : 1 ≤ k) (h4 : k ≤ n) (hm : m < n) : listE n k = (List.range (2 ^ n)).filter fun x => decide (x ∈ movesL n (sprN n k m) n) := by
  have hlt := sprN_lt (n := n) (k := k) (m := m) (by omega)
  have hc := spr_card (m := m) h3 h4
  have key : ∀ x, x ∈ listE n k ↔ x ∈ movesL n (sprN n k m) n := by
    intro x
    unfold movesL
    rw [List.mem_map]
    constructor
    · intro hx
      obtain ⟨m', hm', rfl⟩ := (mem_listE h1 h2 h3 h4 x).1 hx
      obtain ⟨u, hu, e⟩ := spin h1 h2 h3 h4 hm hm'
      exact ⟨u, List.mem_range.2 hu, e⟩
    · rintro ⟨u, hu, rfl⟩
      have hu := List.mem_range.1 hu
      have hs := same_mv hlt hu
      unfold listE
      rw [List.mem_filter, mem_sc]
      refine ⟨⟨mv_lt, ?_⟩, ?_⟩
      · rw [← card_L h2 mv_lt, card_mv hlt hu, hc]
      · rw [hs.even (by omega) (by omega), spr_evB h3 h4]
  unfold listE scTo at *
  rw [List.filter_filter]
  refine List.filter_congr (fun x hx => ?_)
  have hk := key x
  rw [List.mem_filter, List.mem_filter] at hk
  rw [Bool.eq_iff_iff, decide_eq_true_eq, ← hk, Bool.and_eq_true]
  exact ⟨fun h => ⟨⟨hx, h.2⟩, h.1⟩, fun h => ⟨h.2, h.1.2⟩⟩

/-! ### the strokes -/

def setK : List Nat → Nat → Nat
  | [], _ => 0
  | x :: l, i => Nat.lor (Nat.shiftLeft x i) (setK l (Nat.add i 1))
def smallK : List Nat → Bool
  | [] => true
  | x :: l => Bool.and (Nat.ble x 1) (smallK l)
def strOk (n k : Nat) : Bool := Bool.and (Nat.beq (strokesN n k).length n) (Bool.and (smallK (strokesN n k)) (exLt (fun m => Nat.beq (setK (strokesN n k) 0) (sprK n m k k)) n))
theorem strChk : allChk strOk = true := by decide +kernel

theorem smallK_spec : ∀ {l : List Nat}, smallK l = true → ∀ x ∈ l, x ≤ 1
  | [], _, x, hx => by cases hx
  | y :: l, h, x, hx => by
    obtain ⟨h1, h2⟩ := Bool.and_eq_true_iff.1 (show (_ && _) = true from h)
    rcases List.mem_cons.1 hx with rfl | hx
    · exact Nat.le_of_ble_eq_true h1
    · exact smallK_spec h2 x hx

theorem strokes_ok {n k : Nat} (h1 : 2 ≤ n) (h2 : n ≤ 16) (h3 : 1 ≤ k) (h4 : k ≤ n) : (strokesN n k).length = n ∧ (∀ x ∈ strokesN n k, x ≤ 1) ∧ ∃ m, m < n ∧ setK (strokesN n k) 0 = sprN n k m := by
  obtain ⟨c1, c2⟩ := Bool.and_eq_true_iff.1 (show (_ && _) = true from allChk_spec strChk h1 h2 h3 h4)
  obtain ⟨c3, c4⟩ := Bool.and_eq_true_iff.1 (show (_ && _) = true from c2)
  obtain ⟨m, hm, e⟩ := (exLt_spec _ _).1 c4
  have e := Nat.eq_of_beq_eq_true e
  rw [sprK_eq] at e
  exact ⟨Nat.eq_of_beq_eq_true c1, smallK_spec c3, m, hm, e⟩

end Go.Proofs.YtmemnkmmjejlgaaDoor

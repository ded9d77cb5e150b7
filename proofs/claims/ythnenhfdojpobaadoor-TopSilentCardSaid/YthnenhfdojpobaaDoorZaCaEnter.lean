/-
  Tiles, Enter: their contracts.
-/
import Derived.Test.YthnenhfdojpobaaDoorZaLeafA
import Derived.Test.YthnenhfdojpobaaDoorZaCaTile
namespace Go.Proofs.YthnenhfdojpobaaDoor.Za
open Go.RowKit Go.Shelf
attribute [local go_sem] Oper.semAt_some
set_option maxRecDepth 100000

theorem below_two (w : World) (o : Obj) : Below w.heap.size w (w.alloc o) := (Below.refl _ w).alloc (Nat.le_refl _) _

theorem Tiles_bad (n a b : Int) (h : (vldB n a && vldB n b) = false) (w : World) :
    Calls Tryd.prog 9 #[.int .i64 n, .int .i64 a, .int .i64 b] w fun e w' => e = .returned (.tuple #[.bool false, .int .i64 2]) ∧ Below w.heap.size w w' := by
  have HV := Lib.hid (valid2 n a b _ h)
  clear h
  go_enter Tryd.func9, Tryd.ntmps9
  go_wp2_with (go_at_call 12; refine (HV.out _ _ _ (cell_two rfl).1 (cell_two rfl).2).mono ?_; rintro e w' ⟨rfl, rfl⟩)
  go_ret2
  exact ⟨rfl, below_two _ _⟩

theorem Tiles_ok (n a b : Nat) (hn : 2 ≤ n) (hn2 : n ≤ 24) (ha : a < 2 ^ n) (hb : b < 2 ^ n) (ha1 : a % 2 = 1) (hb1 : b % 2 = 1) (w : World) (hT : Tab w) :
    Calls Tryd.prog 9 #[.int .i64 n, .int .i64 a, .int .i64 b] w fun e w' => e = .returned (.tuple #[.bool (tileB n a b), .int .i64 0]) ∧ Below w.heap.size w w' := by
  have HV := Lib.hid (valid2 n a b true (by rw [vldB_of_nat hn hn2 ha ha1, vldB_of_nat hn hn2 hb hb1]; rfl))
  have hB := below_two w (.cells #[.int .i64 a, .int .i64 b] 3)
  have HM := Lib.hid (tile_any n a b hn hn2 ha hb (w.alloc (.cells #[.int .i64 a, .int .i64 b] 3)) (hT.same hB))
  clear hT
  generalize tileB n a b = q at HM
  go_enter Tryd.func9, Tryd.ntmps9
  go_wp2_with (first | (go_at_call 12; refine (HV.out _ _ _ (cell_two rfl).1 (cell_two rfl).2).mono ?_; rintro e w' ⟨rfl, rfl⟩) | (go_at_call 19; refine HM.out.mono ?_; rintro e w' ⟨rfl, hb⟩))
  go_ret2
  exact ⟨rfl, hB.trans ((by assumption : Below _ _ _).mono (by simp))⟩

/-- The last of a list that a beat comes from. -/
def lastE (n a beat : Nat) (l : List Nat) : Nat := l.foldl (fun e y => if a.testBit ((beat + n - y) % n) then y else e) 0
theorem lastE_snoc (n a beat : Nat) (l : List Nat) (y : Nat) : lastE n a beat (l ++ [y]) = if a.testBit ((beat + n - y) % n) then y else lastE n a beat l := by
  unfold lastE; rw [List.foldl_append]; rfl
theorem lastE_le (n a beat B : Nat) (l : List Nat) (h : ∀ y ∈ l, y ≤ B) : lastE n a beat l ≤ B := by
  unfold lastE
  have : ∀ (l : List Nat) (e : Nat), (∀ y ∈ l, y ≤ B) → e ≤ B → l.foldl (fun e y => if a.testBit ((beat + n - y) % n) then y else e) e ≤ B := by
    intro l
    induction l with
    | nil => intro e _ h; exact h
    | cons x l ih =>
      intro e hl he
      rw [List.foldl_cons]
      refine ih _ (fun y hy => hl y (List.mem_cons_of_mem _ hy)) ?_
      split
      · exact hl x (List.mem_cons_self ..)
      · exact he
  exact this l 0 h (Nat.zero_le _)
theorem lastE_only (n a beat y0 : Nat) (l : List Nat) (hm : y0 ∈ l) (h0 : a.testBit ((beat + n - y0) % n) = true) (h : ∀ z ∈ l, a.testBit ((beat + n - z) % n) = true → z = y0) : lastE n a beat l = y0 := by
  unfold lastE
  have : ∀ (l : List Nat) (e : Nat), (∀ z ∈ l, a.testBit ((beat + n - z) % n) = true → z = y0) → (e = y0 ∨ y0 ∈ l) → l.foldl (fun e y => if a.testBit ((beat + n - y) % n) then y else e) e = y0 := by
    intro l
    induction l with
    | nil => intro e _ h; rcases h with h | h; exact h; cases h
    | cons x l ih =>
      intro e hl he
      rw [List.foldl_cons]
      refine ih _ (fun y hy => hl y (List.mem_cons_of_mem _ hy)) ?_
      by_cases hx : a.testBit ((beat + n - x) % n) = true
      · rw [if_pos hx]; left; exact hl x (List.mem_cons_self ..) hx
      · rw [if_neg hx]
        rcases he with he | he
        · left; exact he
        · rcases List.mem_cons.1 he with e2 | e2
          · subst e2; exact absurd h0 hx
          · right; exact e2
  exact this l 0 h (Or.inr hm)

/-- What Enter takes. -/
def entOk (n a b beat : Int) : Prop := (vldB n a && vldB n b) = true ∧ 0 ≤ beat ∧ beat < n

theorem cells3 (w : World) (x y z : Value) (t : TypeId) : ((((w.alloc (.cells #[x] t)).alloc (.cells #[y] t)).alloc (.cells #[z] t))).cell? ⟨w.heap.size, 0, none⟩ = some x ∧
    ((((w.alloc (.cells #[x] t)).alloc (.cells #[y] t)).alloc (.cells #[z] t))).cell? ⟨w.heap.size + 1, 0, none⟩ = some y ∧
    ((((w.alloc (.cells #[x] t)).alloc (.cells #[y] t)).alloc (.cells #[z] t))).cell? ⟨w.heap.size + 1 + 1, 0, none⟩ = some z :=
  ⟨cell_up (cell_up (cell_at rfl)), cell_up (cell_at (by simp)), cell_at (by simp)⟩

end Go.Proofs.YthnenhfdojpobaaDoor.Za

/-
  Worth; what does not change when both parts are lifted.
-/
import Derived.Test.YtlmfmfbnbbooaaaDuWorth
namespace Go.Proofs.Ytlmfmfbnbbooaaa
open Go.ChangeShapes Go.WideShapes Go.ChangeAt Go.RowKit
set_option maxRecDepth 100000

/-- What Worth returns for a pair. -/
def worthV (gs ss : List Int) : Value := .tuple #[.int .i64 (if keptB gs ss = true then worthT gs ss ss.length else 0), .int .i64 (if keptB gs ss = true then 0 else 4)]
theorem Worth_ok (gs ss : List Int) (g s : Value) (w : World) (hp : pairB gs ss = true) (h : IntsV w g gs) (k : IntsV w s ss) :
    Calls Try.prog 48 #[g, s] w fun e w' => e = .returned (worthV gs ss) ∧ Below w.heap.size w w' := by
  obtain ⟨hg, hs, hl⟩ := pair_parts hp
  have g1 := dpart_len hg
  have s1 := dpart_len hs
  have HV := Lib.hid (validPair_any gs ss g s w (by unfold maxLen; omega) (by unfold maxLen; omega) h k)
  rw [hp] at HV
  have HK := Lib.hid (keepsRules_any gs ss g s w g1.2.1 g1.2.2 s1.2.2 (by omega) h k)
  have HW := Lib.hid (fun W (hb : Below w.heap.size w W) => worth_any gs ss g s W g1.2.1 g1.2.2 s1.2.2 (by omega) s1.1 (h.later hb) (k.later hb))
  obtain ⟨ao, cap, rfl, -⟩ := h
  obtain ⟨bo, cap', rfl, -⟩ := k
  clear hp hg hs hl g1 s1
  unfold worthV
  cases hk : keptB gs ss
  · rw [hk] at HK
    clear hk
    go_enter Try.func48, Try.ntmps48
    go_wp2_with fail
    refine HV.out.mono ?_
    rintro e w1 ⟨rfl, rfl⟩
    go_wp2_with fail
    refine HK.out.mono ?_
    rintro e w1 ⟨rfl, b1⟩
    have HB := Lib.hid b1
    clear b1
    go_wp2
    go_ret2
    exact ⟨by simp, HB.out⟩
  · rw [hk] at HK
    clear hk
    go_enter Try.func48, Try.ntmps48
    go_wp2_with fail
    refine HV.out.mono ?_
    rintro e w1 ⟨rfl, rfl⟩
    go_wp2_with fail
    refine HK.out.mono ?_
    rintro e w1 ⟨rfl, b1⟩
    have HB := Lib.hid b1
    clear b1
    go_wp2_with fail
    refine (HW.out _ HB.out).mono ?_
    rintro e w2 ⟨rfl, b2⟩
    have HB2 := Lib.hid (below_nx HB.out b2)
    clear b2
    go_wp2
    go_ret2
    exact ⟨by simp, HB2.out⟩
theorem Worth_bad (gs ss : List Int) (g s : Value) (w : World) (hl : gs.length ≤ maxLen) (hm : ss.length ≤ maxLen) (hp : pairB gs ss = false) (h : IntsV w g gs) (k : IntsV w s ss) :
    Calls Try.prog 48 #[g, s] w fun e w' => e = .returned (.tuple #[.int .i64 0, .int .i64 2]) ∧ w = w' := by
  have HV := Lib.hid (validPair_any gs ss g s w hl hm h k)
  rw [hp] at HV
  obtain ⟨ao, cap, rfl, _⟩ := h
  obtain ⟨bo, cap', rfl, _⟩ := k
  go_enter Try.func48, Try.ntmps48
  go_wp2_with fail
  refine HV.out.mono ?_
  rintro e w1 ⟨rfl, rfl⟩
  go_wp2
  go_ret2
  exact ⟨rfl, rfl⟩

theorem nAt_lift {b' : Int} {xs : List Int} {i : Nat} (hi : i < xs.length) : nAt (liftP b' xs) i = nAt xs i + b' := by
  unfold nAt liftP; rw [List.getElem?_map, List.getElem?_eq_getElem hi]; rfl
theorem mv_lift {b' : Int} {xs : List Int} {i : Nat} (hi : i < xs.length) : mvA (liftP b' xs) i = mvA xs i := by
  unfold mvA; rw [nAt_lift hi, nAt_lift (show i - 1 < xs.length by omega)]; omega
theorem iv_lift {b' : Int} {gs ss : List Int} {i : Nat} (hi : i < gs.length) (hj : i < ss.length) : ivA (liftP b' gs) (liftP b' ss) i = ivA gs ss i := by
  unfold ivA; rw [nAt_lift hi, nAt_lift hj]; omega
theorem fault_lift {b' : Int} {gs ss : List Int} {i : Nat} (hi : i < gs.length) (hj : i < ss.length) : faultN (liftP b' gs) (liftP b' ss) i = faultN gs ss i := by
  unfold faultN r1B r2B r3B r4B r5B r6B r7B r8B
  rw [liftP_len, iv_lift hi hj, iv_lift (show i - 1 < gs.length by omega) (show i - 1 < ss.length by omega), mv_lift hj, mv_lift (show i - 1 < ss.length by omega), mv_lift hi]
theorem find_same {α β : Type} (p q : α → Bool) (f g : α → β) : ∀ l : List α, (∀ a ∈ l, p a = q a ∧ f a = g a) → (l.find? p).map f = (l.find? q).map g
  | [], _ => rfl
  | a :: l, h => by
    have h1 := h a (by simp)
    have h2 := find_same p q f g l (fun b hb => h b (by simp [hb]))
    rw [List.find?_cons, List.find?_cons, ← h1.1]
    cases p a
    · exact h2
    · exact congrArg some h1.2
theorem first_lift {b' : Int} {gs ss : List Int} (hl : gs.length = ss.length) : firstF (liftP b' gs) (liftP b' ss) = firstF gs ss := by
  unfold firstF
  rw [liftP_len]
  refine find_same _ _ _ _ _ fun i hi => ?_
  have hi := List.mem_range.1 hi
  rw [fault_lift (by omega) hi]
  exact ⟨rfl, rfl⟩
theorem check_lift {b' : Int} {gs ss : List Int} (hl : gs.length = ss.length) : checkV (liftP b' gs) (liftP b' ss) = checkV gs ss := by
  unfold checkV faultP keptB
  rw [first_lift hl]
theorem worthT_lift {b' : Int} {gs ss : List Int} : ∀ n : Nat, n ≤ gs.length → n ≤ ss.length → worthT (liftP b' gs) (liftP b' ss) n = worthT gs ss n
  | 0, _, _ => rfl
  | n + 1, h, k => by
    rw [worthT, worthT, worthT_lift n (by omega) (by omega)]
    unfold worthAt
    rw [mv_lift (show n < gs.length by omega), mv_lift (show n < ss.length by omega)]
theorem worth_lift {b' : Int} {gs ss : List Int} (hl : gs.length = ss.length) : worthV (liftP b' gs) (liftP b' ss) = worthV gs ss := by
  unfold worthV keptB
  rw [first_lift hl, liftP_len, worthT_lift _ (by omega) (Nat.le_refl _)]
theorem part_lift {b' : Int} {xs : List Int} (h : dpartB xs = true) (hn : notesB (liftP b' xs) = true) : dpartB (liftP b' xs) = true := by
  unfold dpartB at *
  rw [Bool.and_eq_true] at h
  rw [Bool.and_eq_true, liftP_len]
  exact ⟨h.1, hn⟩
theorem lift_back {b' : Int} (xs : List Int) : liftP (-b') (liftP b' xs) = xs := by
  unfold liftP
  rw [List.map_map]
  refine (List.map_congr_left fun x _ => ?_).trans (List.map_id xs)
  simp only [Function.comp_apply, id]
  omega

end Go.Proofs.Ytlmfmfbnbbooaaa

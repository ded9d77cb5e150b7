/-
  Way, and the reference's.
-/
import Derived.Test.YtdfagnjdconkcaaRoWay
namespace Go.Proofs.Ytdfagnjdconkcaa
open Go.ChangeShapes Go.WideShapes Go.ChangeAt Go.RowKit
set_option maxRecDepth 100000

theorem wayT_hit {n t : Nat} {ys bs : List Nat} (ht : t < 4 * n) (h : formL n (t / n) (t % n) ys = bs) (hb : ∀ s, s < t → formL n (s / n) (s % n) ys ≠ bs) : wayT n ys bs = some t := by
  unfold wayT
  rw [List.find?_eq_some_iff_append]
  refine ⟨by rw [decide_eq_true_eq]; exact h, List.range t, (List.range (4 * n - (t + 1))).map (fun i => t + 1 + i), ?_, fun s hs => ?_⟩
  · rw [← List.singleton_append, ← List.append_assoc, ← List.range_succ, ← List.range_add]
    congr 1
    omega
  · have := hb s (List.mem_range.1 hs)
    simpa using this
theorem wayT_miss {n : Nat} {ys bs : List Nat} (h : ∀ s, s < 4 * n → formL n (s / n) (s % n) ys ≠ bs) : wayT n ys bs = none := by
  unfold wayT
  rw [List.find?_eq_none]
  intro t ht hh
  exact h t (List.mem_range.1 ht) (of_decide_eq_true hh)

/-! ### comparing -/
def lessL : List Nat → List Nat → Bool
  | x :: a, y :: b => if x = y then lessL a b else decide (x < y)
  | _, _ => false
theorem lessL_pre (p a b : List Nat) : lessL (p ++ a) (p ++ b) = lessL a b := by
  induction p with
  | nil => rfl
  | cons x p ih => simp [lessL, ih]
theorem lessL_self (a : List Nat) : lessL a a = false := by
  have := lessL_pre a [] []
  rw [List.append_nil] at this
  rw [this]; rfl
theorem lessL_both : ∀ {a b : List Nat}, a.length = b.length → lessL a b = false → lessL b a = false → a = b
  | [], [], _, _, _ => rfl
  | x :: a, y :: b, hl, h1, h2 => by
    unfold lessL at h1 h2
    by_cases e : x = y
    · subst e
      rw [if_pos rfl] at h1 h2
      rw [lessL_both (by simpa using hl) h1 h2]
    · rw [if_neg e] at h1
      rw [if_neg (fun e' => e e'.symm)] at h2
      have := of_decide_eq_false h1
      have := of_decide_eq_false h2
      omega
theorem lessL_at {a b : List Nat} {k : Nat} (hl : a.length = b.length) (hk : k < a.length) (h : a.take k = b.take k) (hne : a[k]?.getD 0 ≠ b[k]?.getD 0) : lessL a b = decide (a[k]?.getD 0 < b[k]?.getD 0) := by
  have ea : a = a.take k ++ a[k] :: a.drop (k + 1) := by rw [← List.drop_eq_getElem_cons hk, List.take_append_drop]
  have eb : b = b.take k ++ b[k] :: b.drop (k + 1) := by rw [← List.drop_eq_getElem_cons (by omega), List.take_append_drop]
  rw [List.getElem?_eq_getElem hk, List.getElem?_eq_getElem (by omega)] at hne ⊢
  simp only [Option.getD_some] at hne ⊢
  have : lessL a b = lessL (a.take k ++ a[k] :: a.drop (k + 1)) (b.take k ++ b[k] :: b.drop (k + 1)) := by rw [← ea, ← eb]
  rw [this, h, lessL_pre]
  unfold lessL
  rw [if_neg hne]

set_option maxHeartbeats 2000000 in
theorem less_any (al bs : List Nat) (hl : al.length = bs.length) (h1 : 0 < al.length) (h10 : al.length ≤ 1000) (ba : ∀ y ∈ al, y < 1000) (bb : ∀ y ∈ bs, y < 1000) (v u : Value) (w : World) (h : IntsV w v (natI al)) (k : IntsV w u (natI bs)) :
    Calls Try.prog 27 #[v, u] w fun e w' => e = .returned (.bool (lessL al bs)) ∧ w = w' := by
  obtain ⟨ao, ca, hv, _, hc⟩ := h
  obtain ⟨bo, cb, hu, _, hd⟩ := k
  rw [natI_length] at hv hu hc hd
  obtain ⟨b1, o1, rfl, hc1⟩ := hc h1
  obtain ⟨b2, o2, rfl, hd1⟩ := hd (by omega)
  subst hv hu
  have HC := Lib.hid (fun i hi => (hc1 i hi).trans (by rw [natI_at]))
  have HD := Lib.hid (fun i hi => (hd1 i hi).trans (by rw [natI_at]))
  have HA := Lib.hid (fun i => getD_lt ba (by omega) i)
  have HB := Lib.hid (fun i => getD_lt bb (by omega) i)
  have HAt := Lib.hid (fun i hi ht hne => lessL_at (k := i) hl hi ht hne)
  have HEnd := Lib.hid (fun (e : al = bs) => show lessL al bs = false by rw [e]; exact lessL_self bs)
  have HTk := Lib.hid (fun (i : Nat) (hi : i < al.length) (e : al[i]?.getD 0 = bs[i]?.getD 0) (ht : al.take i = bs.take i) => show al.take (i + 1) = bs.take (i + 1) by
    rw [List.take_succ_eq_append_getElem hi, List.take_succ_eq_append_getElem (by omega), ht]
    rw [List.getElem?_eq_getElem hi, List.getElem?_eq_getElem (by omega)] at e
    simp only [Option.getD_some] at e
    rw [e])
  have HFull := Lib.hid (fun (ht : al.take al.length = bs.take al.length) => show al = bs by rwa [List.take_length, hl, List.take_length] at ht)
  generalize hr : lessL al bs = r at *
  rw [← hl] at HD hd1 ⊢
  clear hc hd hc1 hd1 ba bb hr hl
  generalize hL : al.length = L at *
  go_enter Try.func27, Try.ntmps27
  go_wp2
  go_loopw [5, 6, 9] (fun _ _ i wr => ∃ k : Nat, k ≤ L ∧ i = .int .i64 k ∧ al.take k = bs.take k ∧ w = wr) (fun _ _ i _ => L - (intOf i).toNat)
  case atStart => exact ⟨0, Nat.zero_le _, rfl, by simp, rfl⟩
  case round =>
    obtain ⟨k, hk, rfl, ht, rfl⟩ := hrel
    have HT := Lib.hid ht
    clear ht
    by_cases hkl : k < L
    · have ca := HC.out k hkl
      have cb := HD.out k hkl
      have ba := HA.out k
      have bb := HB.out k
      have HAk := Lib.hid (fun hne => HAt.out k hkl HT.out hne)
      have HNx := Lib.hid (fun e => HTk.out k hkl e HT.out)
      generalize al[k]?.getD 0 = x at ca ba HAk HNx
      generalize bs[k]?.getD 0 = y at cb bb HAk HNx
      by_cases hxy : x = y
      · subst hxy
        have q : ((x : Int) != (x : Int)) = false := by simp
        have HN := Lib.hid (HNx.out rfl)
        clear HAk HNx
        go_wp2
        go_roundw
        case rel => exact ⟨k + 1, by omega, by go_num, HN.out, by first | trivial | rfl⟩
        case measure => simp only [intOf]; omega
      · have q : ((x : Int) != (y : Int)) = true := by rw [bne_iff_ne]; omega
        have HR := Lib.hid (HAk.out hxy)
        clear HAk HNx hxy
        go_wp2
        go_ret
        exact ⟨ret_bool (by rw [HR.out] <;> simp), rfl⟩
    · obtain rfl : k = L := by omega
      have HR := Lib.hid (HEnd.out (HFull.out HT.out))
      go_wp2
      go_ret
      exact ⟨ret_bool HR.out.symm, rfl⟩

theorem same_any (al bs : List Nat) (hl : al.length = bs.length) (h1 : 0 < al.length) (h10 : al.length ≤ 1000) (ba : ∀ y ∈ al, y < 1000) (bb : ∀ y ∈ bs, y < 1000) (v u : Value) (w : World) (h : IntsV w v (natI al)) (k : IntsV w u (natI bs)) :
    Calls Try.prog 19 #[v, u] w fun e w' => e = .returned (.bool (decide (al = bs))) ∧ w = w' := by
  have H1 := Lib.hid (less_any al bs hl h1 h10 ba bb v u w h k)
  have H2 := Lib.hid (less_any bs al hl.symm (by omega) (by omega) bb ba u v w k h)
  have HS := Lib.hid (show (!lessL al bs && !lessL bs al) = decide (al = bs) by
    rw [Bool.eq_iff_iff, Bool.and_eq_true, decide_eq_true_eq]
    constructor
    · rintro ⟨h1, h2⟩
      exact lessL_both hl (by simpa using h1) (by simpa using h2)
    · rintro rfl
      rw [lessL_self]; simp)
  clear h k
  cases e1 : lessL al bs
  · rw [e1] at H1 HS
    go_enter Try.func19, Try.ntmps19
    go_wp2_with fail
    refine H1.out.mono ?_
    rintro e w1 ⟨rfl, rfl⟩
    go_wp2_with fail
    refine H2.out.mono ?_
    rintro e w1 ⟨rfl, rfl⟩
    go_wp2
    go_ret
    exact ⟨ret_bool (by rw [← HS.out]; simp), rfl⟩
  · rw [e1] at H1 HS
    go_enter Try.func19, Try.ntmps19
    go_wp2_with fail
    refine H1.out.mono ?_
    rintro e w1 ⟨rfl, rfl⟩
    go_wp2
    go_ret
    exact ⟨ret_bool (by rw [← HS.out]; simp), rfl⟩

/-! ### Way -/
theorem wayV_ex (n : Nat) (o : Option Nat) : ∃ a b c : Int, wayV n o = .tuple #[.agg #[.int .i64 a, .int .i64 b], .int .i64 c] := by
  cases o with
  | none => exact ⟨0, 0, 4, rfl⟩
  | some t => exact ⟨_, _, 0, rfl⟩

end Go.Proofs.Ytdfagnjdconkcaa

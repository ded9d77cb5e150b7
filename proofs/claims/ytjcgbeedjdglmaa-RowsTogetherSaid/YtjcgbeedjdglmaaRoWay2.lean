/-
  Way, and the reference's.
-/
import Derived.Test.YtjcgbeedjdglmaaRoWay
namespace Go.Proofs.Ytjcgbeedjdglmaa
open Go.ChangeShapes Go.WideShapes Go.ChangeAt Go.RowKit
set_option maxRecDepth 100000

theorem wayT_hit {n t : Nat} {ys bs : List Nat} (ht : t < 4 * n) (h : formL n (t / n) (t % n) ys = bs) (hb : ∀ s, s < t → formL n (s / n) (s % n) ys ≠ bs) : wayT n ys bs = some t := by
  unfold wayT
  rw [List.find?_eq_some_iff_append]
  refine ⟨by rw [decide_eq_true_eq]; exact h, List.range t, (List.range (4 * n - (t + 1))).map (fun i => t + 1 + i), ?_, fun s hs => ?_⟩
  · rw [← List.singleton_append, ← List.append_assoc, ← List.range_succ, ← List.range_add]
    congr 1
    omega
  · have := hb s (List.mem_range.1 hs)
    simpa using this
theorem wayT_miss {n : Nat} {ys bs : List Nat} (h : ∀ s, s < 4 * n → formL n (s / n) (s % n) ys ≠ bs) : wayT n ys bs = none := by
  unfold wayT
  rw [List.find?_eq_none]
  intro t ht hh
  exact h t (List.mem_range.1 ht) (of_decide_eq_true hh)

/-! ### comparing -/
def lessL : List Nat → List Nat → Bool
  | x :: a, y :: b => if x = y then lessL a b else decide (x < y)
  | _, _ => false
theorem lessL_pre (p a b : List Nat) : lessL (p ++ a) (p ++ b) = lessL a b := by
  induction p with
  | nil => rfl
  | cons x p ih => simp [lessL, ih]
theorem lessL_self (a : List Nat) : lessL a a = false := by
  have := lessL_pre a [] []
  rw [List.append_nil] at this
  rw [this]; rfl
theorem lessL_both : ∀ {a b : List Nat}, a.length = b.length → lessL a b = false → lessL b a = false → a = b
  | [], [], _, _, _ => rfl
  | x :: a, y :: b, hl, h1, h2 => by
    unfold lessL at h1 h2
    by_cases e : x = y
    · subst e
      rw [if_pos rfl] at h1 h2
      rw [lessL_both (by simpa using hl) h1 h2]
    · rw [if_neg e] at h1
      rw [if_neg (fun e' => e e'.symm)] at h2
      have := of_decide_eq_false h1
      have := of_decide_eq_false h2
      omega
theorem lessL_at {a b : List Nat} {k : Nat} (hl : a.length = b.length) (hk : k < a.length) (h : a.take k = b.take k) (hne : a[k]?.getD 0 ≠ b[k]?.getD 0) : lessL a b = decide (a[k]?.getD 0 < b[k]?.getD 0) := by
  have ea : a = a.take k ++ a[k] :: a.drop (k + 1) := by rw [← List.drop_eq_getElem_cons hk, List.take_append_drop]
  have eb : b = b.take k ++ b[k] :: b.drop (k + 1) := by rw [← List.drop_eq_getElem_cons (by omega), List.take_append_drop]
  rw [List.getElem?_eq_getElem hk, List.getElem?_eq_getElem (by omega)] at hne ⊢
  simp only [Option.getD_some] at hne ⊢
  have : lessL a b = lessL (a.take k ++ a[k] :: a.drop (k + 1)) (b.take k ++ b[k] :: b.drop (k + 1)) := by rw [← ea, ← eb]
  rw [this, h, lessL_pre]
  unfold lessL
  rw [if_neg hne]

set_option maxHeartbeats 2000000 in
theorem less_any (al bs : List Nat) (hl : al.length = bs.length) (h1 : 0 < al.length) (h10 : al.length ≤ 1000) (ba : ∀ y ∈ al, y < 1000) (bb : ∀ y ∈ bs, y < 1000) (v u : Value) (w : World) (h : IntsV w v (natI al)) (k : IntsV w u (natI bs)) :
    Calls Try.prog 63 #[v, u] w fun e w' => e = .returned (.bool (lessL al bs)) ∧ w = w' := by
  obtain ⟨ao, ca, hv, _, hc⟩ := h
  obtain ⟨bo, cb, hu, _, hd⟩ := k
  rw [natI_length] at hv hu hc hd
  obtain ⟨b1, o1, rfl, hc1⟩ := hc h1
  obtain ⟨b2, o2, rfl, hd1⟩ := hd (by omega)
  subst hv hu
  have HC := Lib.hid (fun i hi => (hc1 i hi).trans (by rw [natI_at]))
  have HD := Lib.hid (fun i hi => (hd1 i hi).trans (by rw [natI_at]))
  have HA := Lib.hid (fun i => getD_lt ba (by omega) i)
  have HB := Lib.hid (fun i => getD_lt bb (by omega) i)
  have HAt := Lib.hid (fun i hi ht hne => lessL_at (k := i) hl hi ht hne)
  have HEnd := Lib.hid (fun (e : al = bs) => show lessL al bs = false by rw [e]; exact lessL_self bs)
  have HTk := Lib.hid (fun (i : Nat) (hi : i < al.length) (e : al[i]?.getD 0 = bs[i]?.getD 0) (ht : al.take i = bs.take i) => show al.take (i + 1) = bs.take (i + 1) by
    rw [List.take_succ_eq_append_getElem hi, List.take_succ_eq_append_getElem (by omega), ht]
    rw [List.getElem?_eq_getElem hi, List.getElem?_eq_getElem (by omega)] at e
    simp only [Option.getD_some] at e
    rw [e])
  have HFull := Lib.hid (fun (ht : al.take al.length = bs.take al.length) => show al = bs by rwa [List.take_length, hl, List.take_length] at ht)
  generalize hr : lessL al bs = r at *
  rw [← hl] at HD hd1 ⊢
  clear hc hd hc1 hd1 ba bb hr hl
  generalize hL : al.length = L at *
  go_enter Try.func63, Try.ntmps63
  go_wp2
  go_loopw [5, 6, 9] (fun _ _ i wr => ∃ k : Nat, k ≤ L ∧ i = .int .i64 k ∧ al.take k = bs.take k ∧ w = wr) (fun _ _ i _ => L - (intOf i).toNat)
  case atStart => exact ⟨0, Nat.zero_le _, rfl, by simp, rfl⟩
  case round =>
    obtain ⟨k, hk, rfl, ht, rfl⟩ := hrel
    have HT := Lib.hid ht
    clear ht
    by_cases hkl : k < L
    · have ca := HC.out k hkl
      have cb := HD.out k hkl
      have ba := HA.out k
      have bb := HB.out k
      have HAk := Lib.hid (fun hne => HAt.out k hkl HT.out hne)
      have HNx := Lib.hid (fun e => HTk.out k hkl e HT.out)
      generalize al[k]?.getD 0 = x at ca ba HAk HNx
      generalize bs[k]?.getD 0 = y at cb bb HAk HNx
      by_cases hxy : x = y
      · subst hxy
        have q : ((x : Int) != (x : Int)) = false := by simp
        have HN := Lib.hid (HNx.out rfl)
        clear HAk HNx
        go_wp2
        go_roundw
        case rel => exact ⟨k + 1, by omega, by go_num, HN.out, by first | trivial | rfl⟩
        case measure => simp only [intOf]; omega
      · have q : ((x : Int) != (y : Int)) = true := by rw [bne_iff_ne]; omega
        have HR := Lib.hid (HAk.out hxy)
        clear HAk HNx hxy
        go_wp2
        go_ret
        exact ⟨ret_bool (by rw [HR.out] <;> simp), rfl⟩
    · obtain rfl : k = L := by omega
      have HR := Lib.hid (HEnd.out (HFull.out HT.out))
      go_wp2
      go_ret
      exact ⟨ret_bool HR.out.symm, rfl⟩

theorem same_any (al bs : List Nat) (hl : al.length = bs.length) (h1 : 0 < al.length) (h10 : al.length ≤ 1000) (ba : ∀ y ∈ al, y < 1000) (bb : ∀ y ∈ bs, y < 1000) (v u : Value) (w : World) (h : IntsV w v (natI al)) (k : IntsV w u (natI bs)) :
    Calls Try.prog 64 #[v, u] w fun e w' => e = .returned (.bool (decide (al = bs))) ∧ w = w' := by
  have H1 := Lib.hid (less_any al bs hl h1 h10 ba bb v u w h k)
  have H2 := Lib.hid (less_any bs al hl.symm (by omega) (by omega) bb ba u v w k h)
  have HS := Lib.hid (show (!lessL al bs && !lessL bs al) = decide (al = bs) by
    rw [Bool.eq_iff_iff, Bool.and_eq_true, decide_eq_true_eq]
    constructor
    · rintro ⟨h1, h2⟩
      exact lessL_both hl (by simpa using h1) (by simpa using h2)
    · rintro rfl
      rw [lessL_self]; simp)
  clear h k
  cases e1 : lessL al bs
  · rw [e1] at H1 HS
    go_enter Try.func64, Try.ntmps64
    go_wp2_with fail
    refine H1.out.mono ?_
    rintro e w1 ⟨rfl, rfl⟩
    go_wp2_with fail
    refine H2.out.mono ?_
    rintro e w1 ⟨rfl, rfl⟩
    go_wp2
    go_ret
    exact ⟨ret_bool (by rw [← HS.out]; simp), rfl⟩
  · rw [e1] at H1 HS
    go_enter Try.func64, Try.ntmps64
    go_wp2_with fail
    refine H1.out.mono ?_
    rintro e w1 ⟨rfl, rfl⟩
    go_wp2
    go_ret
    exact ⟨ret_bool (by rw [← HS.out]; simp), rfl⟩

/-! ### Way -/
theorem Way_results (tmps : Array Value) (w : World) (g : Nat) (a b c : Value) (hp : tmps.getD 4 undef = .pointer (some ⟨g, 0, none⟩)) (hq : tmps.getD 5 undef = c)
    (h0 : w.cell? ⟨g, 0, none⟩ = some a) (h1 : w.cell? ⟨g, 1, none⟩ = some b) : (results Try.f33 tmps).run Try.prog w = .ok (.tuple #[.agg #[a, b], c]) w := by
  have hp' : tmps[4]?.getD undef = .pointer (some ⟨g, 0, none⟩) := by simpa using hp
  have hq' : tmps[5]?.getD undef = c := by simpa using hq
  simp [results, Try.f33, go_sem, hp', hq', h0, h1]
theorem RWay_results (tmps : Array Value) (w : World) (g : Nat) (a b c : Value) (hp : tmps.getD 4 undef = .pointer (some ⟨g, 0, none⟩)) (hq : tmps.getD 5 undef = c)
    (h0 : w.cell? ⟨g, 0, none⟩ = some a) (h1 : w.cell? ⟨g, 1, none⟩ = some b) : (results Try.f34 tmps).run Try.prog w = .ok (.tuple #[.agg #[a, b], c]) w := by
  have hp' : tmps[4]?.getD undef = .pointer (some ⟨g, 0, none⟩) := by simpa using hp
  have hq' : tmps[5]?.getD undef = c := by simpa using hq
  simp [results, Try.f34, go_sem, hp', hq', h0, h1]

theorem wayV_ex (n : Nat) (o : Option Nat) : ∃ a b c : Int, wayV n o = .tuple #[.agg #[.int .i64 a, .int .i64 b], .int .i64 c] := by
  cases o with
  | none => exact ⟨0, 0, 4, rfl⟩
  | some t => exact ⟨_, _, 0, rfl⟩

set_option maxHeartbeats 2000000 in
theorem Way_ok (n : Nat) (ys bs : List Nat) (hr : IsRow n ys) (hb : IsRow n bs) (v u : Value) (w : World) (h : IntsV w v (natI ys)) (k : IntsV w u (natI bs)) :
    Calls Try.prog 33 #[v, u] w fun e w' => e = .returned (wayV n (wayT n ys bs)) ∧ Below w.heap.size w w' := by
  have hlen := hr.len
  have hlen2 := hb.len
  obtain ⟨W0, hW0⟩ : ∃ W0, w.alloc (.cells #[.int .i64 0, .int .i64 0] 42) = W0 := ⟨_, rfl⟩
  have b0 : Below w.heap.size w W0 := by rw [← hW0]; exact (Below.refl _ w).alloc (Nat.le_refl _) _
  have r0 : Row W0 w.heap.size 42 [.int .i64 0, .int .i64 0] := by rw [← hW0]; exact Row.new w _ _
  have HR1 := Lib.hid (isRow_any (natI ys) v W0 (row_len hr) (h.later b0))
  rw [row_of hr] at HR1
  have HR2 := Lib.hid (isRow_any (natI bs) u W0 (row_len hb) (k.later b0))
  rw [row_of hb] at HR2
  have HWy := Lib.hid (way_any n ys bs hr.lo hr.hi hr.lt (by have := hr.hi; omega) (by have := hr.lo; omega) (by have := hb.hi; omega) v u W0 (h.later b0) (k.later b0))
  obtain ⟨a, b, c, e⟩ := wayV_ex n (wayT n ys bs)
  rw [e] at HWy ⊢
  obtain ⟨ao, cap, hv, _⟩ := h
  obtain ⟨bo, cap', hu, _⟩ := k
  rw [natI_length, hlen] at hv
  rw [natI_length, hlen2] at hu
  subst hv hu
  have HW := Lib.hid hW0
  have HR0 := Lib.hid r0
  clear hW0 r0 hr hb hlen hlen2 e
  go_enter Try.func33, Try.ntmps33
  go_wp2_with fail
  rw [HW.out]
  refine HR1.out.mono ?_
  rintro e w1 ⟨rfl, rfl⟩
  go_wp2_with fail
  refine HR2.out.mono ?_
  rintro e w1 ⟨rfl, rfl⟩
  go_wp2_with fail
  refine HWy.out.mono ?_
  rintro e w2 ⟨rfl, b2⟩
  have R2 := HR0.out.later b2
  have c0 : w2.cell? ⟨w.heap.size, 0, none⟩ = some (.int .i64 0) := R2.cell 0
  have c1 : w2.cell? ⟨w.heap.size, 1, none⟩ = some (.int .i64 0) := R2.cell 1
  have f0 := R2.frozen 0
  have f1 := R2.frozen 1
  have R3 := (R2.set 0 (.int .i64 a)).set 1 (.int .i64 b)
  have d0 := Lib.hid (R3.cell 0)
  have d1 := Lib.hid (R3.cell 1)
  have HB2 := Lib.hid (((below_nx b0 b2).setCell (p := ⟨w.heap.size, 0, none⟩) (Nat.le_refl _) (.int .i64 a)).setCell (p := ⟨w.heap.size, 1, none⟩) (Nat.le_refl _) (.int .i64 b))
  clear R2 R3 b2
  go_wp2
  refine bodyPost_ret (Way_results _ _ w.heap.size (.int .i64 a) (.int .i64 b) (.int .i64 c) rfl rfl d0.out d1.out) rfl ?_
  exact ⟨rfl, HB2.out⟩
end Go.Proofs.Ytjcgbeedjdglmaa

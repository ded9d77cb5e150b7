/-
  areHeights: where a table has no fit form.
-/
import Derived.Test.YtkpmkeklopfhdaaEdHts
namespace Go.Proofs.Ytkpmkeklopfhdaa
open Go.ChangeShapes Go.WideShapes Go.ChangeAt Go.RowKit
attribute [local go_sem] Oper.semAt_some
set_option linter.unusedVariables false
set_option maxRecDepth 100000

set_option maxHeartbeats 4000000 in
theorem areHeights_len (a b : ByteArray) (pi po ps : Nat) (ha : a.size ≤ 12) (n cap : Nat) (hn : n ≤ maxLen) (hne : n ≠ a.size + 1) (ao : Option Addr) (w : World) :
    Calls Try.prog 71 #[.string a, .string b, pv pi po ps, .slice ao n cap] w fun e w' => e = .returned (.bool false) ∧ Below w.heap.size w w' := by
  have hmx : Try.prog.follows .mixedOrders = true := by kernel_rfl
  refine (callsIn_wide (n := 9)).1 ?_
  refine callsIn_of_wp_marks Try.func71 rfl trivial ?_ rfl
  simp only [Try.ntmps71, List.size_toArray, List.length_cons, List.length_nil, Nat.reduceAdd, Nat.reduceSub, Array.replicate_succ, Array.replicate_zero, List.push_toArray, List.append_toArray, List.nil_append, List.cons_append]
  obtain ⟨Wx, hWx⟩ : ∃ Wx, (((((w.alloc (.cells #[.string a] 9)).alloc (.cells #[.string b] 9)).alloc (.cells #[.int .i64 (pi : Int), .int .i64 (po : Int), .int .i64 (ps : Int)] 28)).alloc (.cells #[.slice ao n cap] 47)).alloc (.cells #[.bool false] 4)) = Wx := ⟨_, rfl⟩
  have hbx : Below w.heap.size w Wx := by rw [← hWx]; exact bl_al (bl_al (bl_al (bl_al (bl_al (Below.refl _ w) _) _) _) _) _
  have rA : Boxed Wx w.heap.size 9 (.string a) := by
    rw [← hWx]; exact ((((Boxed.new w _ _).alloc _).alloc _).alloc _).alloc _
  have rB : Boxed Wx (w.heap.size + 1) 9 (.string b) := by
    rw [← hWx]
    have := Boxed.new (w.alloc (.cells #[.string a] 9)) 9 (.string b)
    simp only [World.size_alloc] at this
    exact ((this.alloc _).alloc _).alloc _
  have rP : Row Wx (w.heap.size + 1 + 1) 28 [.int .i64 (pi : Int), .int .i64 (po : Int), .int .i64 (ps : Int)] := by
    rw [← hWx]
    have := Row.new ((w.alloc (.cells #[.string a] 9)).alloc (.cells #[.string b] 9)) 28 [.int .i64 (pi : Int), .int .i64 (po : Int), .int .i64 (ps : Int)]
    simp only [World.size_alloc] at this
    exact (this.alloc _).alloc _
  have rH : Boxed Wx (w.heap.size + 1 + 1 + 1) 47 (.slice ao n cap) := by
    rw [← hWx]
    have := Boxed.new (((w.alloc (.cells #[.string a] 9)).alloc (.cells #[.string b] 9)).alloc (.cells #[.int .i64 (pi : Int), .int .i64 (po : Int), .int .i64 (ps : Int)] 28)) 47 (.slice ao n cap)
    simp only [World.size_alloc] at this
    exact this.alloc _
  have rF : Boxed Wx (w.heap.size + 1 + 1 + 1 + 1) 4 (.bool false) := by
    rw [← hWx]
    have := Boxed.new ((((w.alloc (.cells #[.string a] 9)).alloc (.cells #[.string b] 9)).alloc (.cells #[.int .i64 (pi : Int), .int .i64 (po : Int), .int .i64 (ps : Int)] 28)).alloc (.cells #[.slice ao n cap] 47)) 4 (.bool false)
    simp only [World.size_alloc] at this
    exact this

  have hne1 : ¬ ((n : Int) = (a.size : Int) + 1) := by omega
  have hne2 : ((n : Int) != (a.size : Int) + 1) = true := by simpa using hne1
  have y0 := rA.cell
  have xb := rB.cell
  have y3 := rH.cell
  have z1 := rF.cell
  have z2 : Wx.frozen? ⟨w.heap.size + 1 + 1 + 1 + 1, 0, none⟩ = false := (Row.ofBox rF).frozen _
  have HB := Lib.hid hbx
  clear hbx
  gi_wp2_with (refine ⟨trivial, ?_⟩)
  have hc5 := cell_set_same (u := .bool false) z1
  refine ⟨.bool false, ?_, rfl, HB.out.setCell (p := ⟨w.heap.size + 1 + 1 + 1 + 1, 0, none⟩) (show w.heap.size ≤ w.heap.size + 1 + 1 + 1 + 1 by omega) _⟩
  simp [results, Try.f71, go_sem, hc5]

set_option maxHeartbeats 4000000 in
theorem areHeights_rows (a b : ByteArray) (pi po ps : Nat) (ha : a.size ≤ 12) (hb : b.size ≤ 12) (t : List (List Int)) (hl : t.length = a.size + 1) (hr : ∀ r ∈ t, r.length ≤ maxLen) (hbad : t.all (hrowB b.size) = false) (cap : Nat) (ao : Option Addr) (w : World) (hV : TabV w (.slice ao (a.size + 1) cap) t) :
    Calls Try.prog 71 #[.string a, .string b, pv pi po ps, .slice ao (a.size + 1) cap] w fun e w' => e = .returned (.bool false) ∧ Below w.heap.size w w' := by
  have hmx : Try.prog.follows .mixedOrders = true := by kernel_rfl
  have HAr := Lib.hid (fun W B hc hV => all_rows b hb B t (by unfold maxLen; omega) hr (.slice ao (a.size + 1) cap) W hc hV)
  rw [hbad] at HAr
  have HV := Lib.hid hV
  clear hV hbad hr hl
  refine (callsIn_wide (n := 9)).1 ?_
  refine callsIn_of_wp_marks Try.func71 rfl trivial ?_ rfl
  simp only [Try.ntmps71, List.size_toArray, List.length_cons, List.length_nil, Nat.reduceAdd, Nat.reduceSub, Array.replicate_succ, Array.replicate_zero, List.push_toArray, List.append_toArray, List.nil_append, List.cons_append]
  obtain ⟨Wx, hWx⟩ : ∃ Wx, (((((w.alloc (.cells #[.string a] 9)).alloc (.cells #[.string b] 9)).alloc (.cells #[.int .i64 (pi : Int), .int .i64 (po : Int), .int .i64 (ps : Int)] 28)).alloc (.cells #[.slice ao (a.size + 1) cap] 47)).alloc (.cells #[.bool false] 4)) = Wx := ⟨_, rfl⟩
  have hbx : Below w.heap.size w Wx := by rw [← hWx]; exact bl_al (bl_al (bl_al (bl_al (bl_al (Below.refl _ w) _) _) _) _) _
  have rA : Boxed Wx w.heap.size 9 (.string a) := by
    rw [← hWx]; exact ((((Boxed.new w _ _).alloc _).alloc _).alloc _).alloc _
  have rB : Boxed Wx (w.heap.size + 1) 9 (.string b) := by
    rw [← hWx]
    have := Boxed.new (w.alloc (.cells #[.string a] 9)) 9 (.string b)
    simp only [World.size_alloc] at this
    exact ((this.alloc _).alloc _).alloc _
  have rP : Row Wx (w.heap.size + 1 + 1) 28 [.int .i64 (pi : Int), .int .i64 (po : Int), .int .i64 (ps : Int)] := by
    rw [← hWx]
    have := Row.new ((w.alloc (.cells #[.string a] 9)).alloc (.cells #[.string b] 9)) 28 [.int .i64 (pi : Int), .int .i64 (po : Int), .int .i64 (ps : Int)]
    simp only [World.size_alloc] at this
    exact (this.alloc _).alloc _
  have rH : Boxed Wx (w.heap.size + 1 + 1 + 1) 47 (.slice ao (a.size + 1) cap) := by
    rw [← hWx]
    have := Boxed.new (((w.alloc (.cells #[.string a] 9)).alloc (.cells #[.string b] 9)).alloc (.cells #[.int .i64 (pi : Int), .int .i64 (po : Int), .int .i64 (ps : Int)] 28)) 47 (.slice ao (a.size + 1) cap)
    simp only [World.size_alloc] at this
    exact this.alloc _
  have rF : Boxed Wx (w.heap.size + 1 + 1 + 1 + 1) 4 (.bool false) := by
    rw [← hWx]
    have := Boxed.new ((((w.alloc (.cells #[.string a] 9)).alloc (.cells #[.string b] 9)).alloc (.cells #[.int .i64 (pi : Int), .int .i64 (po : Int), .int .i64 (ps : Int)] 28)).alloc (.cells #[.slice ao (a.size + 1) cap] 47)) 4 (.bool false)
    simp only [World.size_alloc] at this
    exact this

  have y0 := rA.cell
  have xb := rB.cell
  have y3 := rH.cell
  have z1 := rF.cell
  have z2 : Wx.frozen? ⟨w.heap.size + 1 + 1 + 1 + 1, 0, none⟩ = false := (Row.ofBox rF).frozen _
  have HVx := Lib.hid (HV.out.later hbx)
  have HA2 := Lib.hid (HAr.out Wx (w.heap.size + 1) xb HVx.out)
  have HB := Lib.hid hbx
  clear hbx HVx HAr HV
  gi_wp2_with (first | (refine ⟨trivial, ?_⟩; gi_at_call 76; refine (callsIn_wide.2 HA2.out).mono ?_; rintro e w' ⟨rfl, rfl⟩) | (refine ⟨trivial, ?_⟩))
  have hc5 := cell_set_same (u := .bool false) z1
  refine ⟨.bool false, ?_, rfl, HB.out.setCell (p := ⟨w.heap.size + 1 + 1 + 1 + 1, 0, none⟩) (show w.heap.size ≤ w.heap.size + 1 + 1 + 1 + 1 by omega) _⟩
  simp [results, Try.f71, go_sem, hc5]

set_option maxHeartbeats 4000000 in
theorem areHeights_zero (a b : ByteArray) (pi po ps : Nat) (ha : a.size ≤ 12) (hb : b.size ≤ 12) (t : List (List Int)) (hl : t.length = a.size + 1) (hr : ∀ r ∈ t, r.length = b.size + 1) (hok : t.all (hrowB b.size) = true) (h00 : ht t 0 0 ≠ 0) (cap : Nat) (ao : Option Addr) (w : World) (hV : TabV w (.slice ao (a.size + 1) cap) t) :
    Calls Try.prog 71 #[.string a, .string b, pv pi po ps, .slice ao (a.size + 1) cap] w fun e w' => e = .returned (.bool false) ∧ Below w.heap.size w w' := by
  have hmx : Try.prog.follows .mixedOrders = true := by kernel_rfl
  have HAr := Lib.hid (fun W B hc hV => all_rows b hb B t (by unfold maxLen; omega) (fun r hr' => by rw [hr r hr']; unfold maxLen; omega) (.slice ao (a.size + 1) cap) W hc hV)
  rw [hok] at HAr
  have HV := Lib.hid hV
  obtain ⟨b0, off, rfl, hcell⟩ := tab_at hl.symm hV hr (by omega)
  obtain ⟨rb0, ro0, rc0, hz1, hz2, hz3⟩ := hcell 0 (by omega)
  have hz4 := hz3 0 (by omega)
  rw [Nat.add_zero] at hz1 hz4
  obtain ⟨z, hz⟩ : ∃ z, ht t 0 0 = z := ⟨_, rfl⟩
  rw [hz] at hz4 h00
  have hzb : (z != 0) = true := by simpa using h00
  clear hV hok hr hl hz hcell hz3
  refine (callsIn_wide (n := 9)).1 ?_
  refine callsIn_of_wp_marks Try.func71 rfl trivial ?_ rfl
  simp only [Try.ntmps71, List.size_toArray, List.length_cons, List.length_nil, Nat.reduceAdd, Nat.reduceSub, Array.replicate_succ, Array.replicate_zero, List.push_toArray, List.append_toArray, List.nil_append, List.cons_append]
  obtain ⟨Wx, hWx⟩ : ∃ Wx, (((((w.alloc (.cells #[.string a] 9)).alloc (.cells #[.string b] 9)).alloc (.cells #[.int .i64 (pi : Int), .int .i64 (po : Int), .int .i64 (ps : Int)] 28)).alloc (.cells #[.slice (some ⟨b0, off, none⟩) (a.size + 1) cap] 47)).alloc (.cells #[.bool false] 4)) = Wx := ⟨_, rfl⟩
  have hbx : Below w.heap.size w Wx := by rw [← hWx]; exact bl_al (bl_al (bl_al (bl_al (bl_al (Below.refl _ w) _) _) _) _) _
  have rA : Boxed Wx w.heap.size 9 (.string a) := by
    rw [← hWx]; exact ((((Boxed.new w _ _).alloc _).alloc _).alloc _).alloc _
  have rB : Boxed Wx (w.heap.size + 1) 9 (.string b) := by
    rw [← hWx]
    have := Boxed.new (w.alloc (.cells #[.string a] 9)) 9 (.string b)
    simp only [World.size_alloc] at this
    exact ((this.alloc _).alloc _).alloc _
  have rP : Row Wx (w.heap.size + 1 + 1) 28 [.int .i64 (pi : Int), .int .i64 (po : Int), .int .i64 (ps : Int)] := by
    rw [← hWx]
    have := Row.new ((w.alloc (.cells #[.string a] 9)).alloc (.cells #[.string b] 9)) 28 [.int .i64 (pi : Int), .int .i64 (po : Int), .int .i64 (ps : Int)]
    simp only [World.size_alloc] at this
    exact (this.alloc _).alloc _
  have rH : Boxed Wx (w.heap.size + 1 + 1 + 1) 47 (.slice (some ⟨b0, off, none⟩) (a.size + 1) cap) := by
    rw [← hWx]
    have := Boxed.new (((w.alloc (.cells #[.string a] 9)).alloc (.cells #[.string b] 9)).alloc (.cells #[.int .i64 (pi : Int), .int .i64 (po : Int), .int .i64 (ps : Int)] 28)) 47 (.slice (some ⟨b0, off, none⟩) (a.size + 1) cap)
    simp only [World.size_alloc] at this
    exact this.alloc _
  have rF : Boxed Wx (w.heap.size + 1 + 1 + 1 + 1) 4 (.bool false) := by
    rw [← hWx]
    have := Boxed.new ((((w.alloc (.cells #[.string a] 9)).alloc (.cells #[.string b] 9)).alloc (.cells #[.int .i64 (pi : Int), .int .i64 (po : Int), .int .i64 (ps : Int)] 28)).alloc (.cells #[.slice (some ⟨b0, off, none⟩) (a.size + 1) cap] 47)) 4 (.bool false)
    simp only [World.size_alloc] at this
    exact this

  have y0 := rA.cell
  have xb := rB.cell
  have y3 := rH.cell
  have z1 := rF.cell
  have z2 : Wx.frozen? ⟨w.heap.size + 1 + 1 + 1 + 1, 0, none⟩ = false := (Row.ofBox rF).frozen _
  have HVx := Lib.hid (HV.out.later hbx)
  have HA2 := Lib.hid (HAr.out Wx (w.heap.size + 1) xb HVx.out)
  have x1 := cell_later hbx hz1
  have x4 := cell_later hbx hz4
  have HB := Lib.hid hbx
  clear hbx HVx HAr HV hz1 hz4
  gi_wp2_with (first | (refine ⟨trivial, ?_⟩; gi_at_call 76; refine (callsIn_wide.2 HA2.out).mono ?_; rintro e w' ⟨rfl, rfl⟩) | (refine ⟨trivial, ?_⟩))
  have hc5 := cell_set_same (u := .bool false) z1
  refine ⟨.bool false, ?_, rfl, HB.out.setCell (p := ⟨w.heap.size + 1 + 1 + 1 + 1, 0, none⟩) (show w.heap.size ≤ w.heap.size + 1 + 1 + 1 + 1 by omega) _⟩
  simp [results, Try.f71, go_sem, hc5]

/-- Whether a table is one of heights. -/
def heightsB (A B : List Nat) (pi po ps : Nat) (t : List (List Int)) : Bool := decide (t.length = A.length + 1) && (t.all (hrowB B.length) && (decide (ht t 0 0 = 0) && (pairs A.length B.length).all (okP A B pi po ps t)))

theorem areHeights_any (a b : ByteArray) (pi po ps : Nat) (ha : a.size ≤ 12) (hb : b.size ≤ 12) (hpi : pi ≤ 9) (hpo : po ≤ 9) (hps : ps ≤ 9) (t : List (List Int)) (hl : t.length ≤ maxLen) (hr : ∀ r ∈ t, r.length ≤ maxLen) (v : Value) (w : World) (hV : TabV w v t) :
    Calls Try.prog 71 #[.string a, .string b, pv pi po ps, v] w fun e w' => e = .returned (.bool (heightsB (bsN a) (bsN b) pi po ps t)) ∧ Below w.heap.size w w' := by
  have hV' := hV
  obtain ⟨ao, cap, rfl, hlc, hd⟩ := hV
  unfold heightsB
  rw [bsN_length, bsN_length]
  by_cases h1 : t.length = a.size + 1
  · rw [decide_eq_true h1, Bool.true_and]
    rw [h1] at hV' ⊢
    cases h2 : t.all (hrowB b.size)
    · rw [Bool.false_and]
      exact areHeights_rows a b pi po ps ha hb t h1 hr h2 cap ao w hV'
    · rw [Bool.true_and]
      have h2' := List.all_eq_true.1 h2
      have hr2 : ∀ r ∈ t, r.length = b.size + 1 := fun r hm => by
        have := h2' r hm
        unfold hrowB at this
        rw [Bool.and_eq_true] at this
        exact of_decide_eq_true this.1
      by_cases h3 : ht t 0 0 = 0
      · rw [decide_eq_true h3, Bool.true_and]
        obtain ⟨b0, off, rfl, _⟩ := hd (by omega)
        refine areHeights_main a b pi po ps ha hb hpi hpo hps t h1 hr2 (fun r hm x hx => ?_) h3 cap b0 off w hV'
        have := h2' r hm
        unfold hrowB at this
        rw [Bool.and_eq_true] at this
        have := List.all_eq_true.1 this.2 x hx
        unfold numB at this
        rw [Bool.and_eq_true] at this
        exact ⟨of_decide_eq_true this.1, of_decide_eq_true this.2⟩
      · rw [decide_eq_false h3, Bool.false_and]
        exact areHeights_zero a b pi po ps ha hb t h1 hr2 h2 h3 cap ao w hV'
  · rw [decide_eq_false h1, Bool.false_and]
    exact areHeights_len a b pi po ps ha t.length cap hl h1 ao w
end Go.Proofs.Ytkpmkeklopfhdaa

/-
  areHeights: its two ranges.
-/
import Derived.Test.YtkpmkeklopfhdaaEdTab
namespace Go.Proofs.Ytkpmkeklopfhdaa

section
open Go.ChangeShapes Go.WideShapes Go.ChangeAt Go.RowKit
attribute [local go_sem] Oper.semAt_some
set_option linter.unusedVariables false
set_option maxRecDepth 100000

def ht (t : List (List Int)) (i j : Nat) : Int := (t[i]?.getD [])[j]?.getD 0
def okE (pi po ps : Nat) (t : List (List Int)) (p : Nat × Nat) (x : Nx) : Bool := decide (ht t x.i x.j ≤ ht t p.1 p.2 + (prc pi po ps x.k : Nat))
def okP (A B : List Nat) (pi po ps : Nat) (t : List (List Int)) (p : Nat × Nat) : Bool := (nextL A B p.1 p.2).all (okE pi po ps t p)

/-- A number of a table, where it lies. -/
theorem tab_at {W : World} {ao : Option Addr} {n cap : Nat} {t : List (List Int)} {m : Nat} (hn : n = t.length) (h : TabV W (.slice ao n cap) t) (hr : ∀ r ∈ t, r.length = m + 1) : 0 < t.length → ∃ b off, ao = some ⟨b, off, none⟩ ∧ ∀ i, i < t.length → ∃ rb ro rc, W.cell? ⟨b, off + i, none⟩ = some (.slice (some ⟨rb, ro, none⟩) (m + 1) rc) ∧ m + 1 ≤ rc ∧ ∀ j, j < m + 1 → W.cell? ⟨rb, ro + j, none⟩ = some (.int .i64 (ht t i j)) := by
  intro h0
  obtain ⟨ao', cap', e, hlc, hd⟩ := h
  cases e
  obtain ⟨b, off, rfl, hc⟩ := hd h0
  refine ⟨b, off, rfl, fun i hi => ?_⟩
  obtain ⟨rv, h1, h2⟩ := hc i hi
  have hm : (t[i]?.getD []).length = m + 1 := by
    rw [List.getElem?_eq_getElem hi]; exact hr _ (List.getElem_mem hi)
  obtain ⟨ao2, cap2, rfl, hlc2, hd2⟩ := h2
  rw [hm] at h1 hd2 hlc2
  obtain ⟨rb, ro, rfl, hc2⟩ := hd2 (by omega)
  exact ⟨rb, ro, cap2, h1, hlc2, fun j hj => hc2 j hj⟩

theorem ht_bd {t : List (List Int)} (h : ∀ r ∈ t, ∀ x ∈ r, -1000 ≤ x ∧ x ≤ 1000) (i j : Nat) : -1000 ≤ ht t i j ∧ ht t i j ≤ 1000 := by
  unfold ht
  rcases hr : t[i]? with _ | r
  · simp
  · simp only [Option.getD_some]
    rcases hx : r[j]? with _ | x
    · simp
    · exact h r (List.mem_of_getElem? hr) x (List.mem_of_getElem? hx)
theorem prc_le (k : Nat) (hk : k < 4) {pi po ps : Nat} (h1 : pi ≤ 9) (h2 : po ≤ 9) (h3 : ps ≤ 9) : prc pi po ps k ≤ 9 := by
  rcases (show k = 0 ∨ k = 1 ∨ k = 2 ∨ k = 3 by omega) with rfl | rfl | rfl | rfl <;> simp [prc] <;> omega

set_option maxHeartbeats 4000000 in
theorem areHeights_main (a b : ByteArray) (pi po ps : Nat) (ha : a.size ≤ 12) (hb : b.size ≤ 12) (hpi : pi ≤ 9) (hpo : po ≤ 9) (hps : ps ≤ 9) (t : List (List Int)) (hl : t.length = a.size + 1) (hr : ∀ r ∈ t, r.length = b.size + 1) (hnum : ∀ r ∈ t, ∀ x ∈ r, -1000 ≤ x ∧ x ≤ 1000) (h00 : ht t 0 0 = 0) (cap : Nat) (b0 off : Nat) (w : World) (hV : TabV w (.slice (some ⟨b0, off, none⟩) (a.size + 1) cap) t) :
    Calls Try.prog 71 #[.string a, .string b, pv pi po ps, .slice (some ⟨b0, off, none⟩) (a.size + 1) cap] w fun e w' => e = .returned (.bool ((pairs a.size b.size).all (okP (bsN a) (bsN b) pi po ps t))) ∧ Below w.heap.size w w' := by
  have hmx : Try.prog.follows .mixedOrders = true := by kernel_rfl
  have HP := Lib.hid (fun W => places_any a.size b.size W)
  have hall : t.all (hrowB b.size) = true := by
    rw [List.all_eq_true]
    intro r hr'
    unfold hrowB numB
    rw [decide_eq_true (hr r hr'), Bool.true_and, List.all_eq_true]
    intro x hx
    obtain ⟨q1, q2⟩ := hnum r hr' x hx
    rw [decide_eq_true q1, decide_eq_true q2]; rfl
  have HAr := Lib.hid (fun W B hc hV => all_rows b hb B t (by unfold maxLen; omega) (fun r hr' => by rw [hr r hr']; unfold maxLen; omega) (.slice (some ⟨b0, off, none⟩) (a.size + 1) cap) W hc hV)
  rw [hall] at HAr
  have HV := Lib.hid hV
  obtain ⟨b1, off1, e1, hcell⟩ := tab_at hl.symm hV hr (by omega)
  cases e1
  obtain ⟨rb0, ro0, rc0, hz1, hz2, hz3⟩ := hcell 0 (by omega)
  have hz4 := hz3 0 (by omega)
  rw [h00] at hz4
  rw [Nat.add_zero] at hz1 hz4
  have HCl := Lib.hid hcell
  have HNum := Lib.hid hnum
  have HRr := Lib.hid hr
  have Hl := Lib.hid hl
  clear hcell hall hV hz3 hz2 hnum hr hl h00
  refine (callsIn_wide (n := 9)).1 ?_
  refine callsIn_of_wp_marks Try.func71 rfl trivial ?_ rfl
  simp only [Try.ntmps71, List.size_toArray, List.length_cons, List.length_nil, Nat.reduceAdd, Nat.reduceSub, Array.replicate_succ, Array.replicate_zero, List.push_toArray, List.append_toArray, List.nil_append, List.cons_append]
  obtain ⟨Wx, hWx⟩ : ∃ Wx, (((((w.alloc (.cells #[.string a] 9)).alloc (.cells #[.string b] 9)).alloc (.cells #[.int .i64 (pi : Int), .int .i64 (po : Int), .int .i64 (ps : Int)] 28)).alloc (.cells #[.slice (some ⟨b0, off, none⟩) (a.size + 1) cap] 47)).alloc (.cells #[.bool false] 4)) = Wx := ⟨_, rfl⟩
  have hbx : Below w.heap.size w Wx := by rw [← hWx]; exact bl_al (bl_al (bl_al (bl_al (bl_al (Below.refl _ w) _) _) _) _) _
  have x1 := cell_later hbx hz1
  have x4 := cell_later hbx hz4
  have rA : Boxed Wx w.heap.size 9 (.string a) := by
    rw [← hWx]; exact ((((Boxed.new w _ _).alloc _).alloc _).alloc _).alloc _
  have rB : Boxed Wx (w.heap.size + 1) 9 (.string b) := by
    rw [← hWx]
    have := Boxed.new (w.alloc (.cells #[.string a] 9)) 9 (.string b)
    simp only [World.size_alloc] at this
    exact ((this.alloc _).alloc _).alloc _
  have rP : Row Wx (w.heap.size + 1 + 1) 28 [.int .i64 (pi : Int), .int .i64 (po : Int), .int .i64 (ps : Int)] := by
    rw [← hWx]
    have := Row.new ((w.alloc (.cells #[.string a] 9)).alloc (.cells #[.string b] 9)) 28 [.int .i64 (pi : Int), .int .i64 (po : Int), .int .i64 (ps : Int)]
    simp only [World.size_alloc] at this
    exact (this.alloc _).alloc _
  have rH : Boxed Wx (w.heap.size + 1 + 1 + 1) 47 (.slice (some ⟨b0, off, none⟩) (a.size + 1) cap) := by
    rw [← hWx]
    have := Boxed.new (((w.alloc (.cells #[.string a] 9)).alloc (.cells #[.string b] 9)).alloc (.cells #[.int .i64 (pi : Int), .int .i64 (po : Int), .int .i64 (ps : Int)] 28)) 47 (.slice (some ⟨b0, off, none⟩) (a.size + 1) cap)
    simp only [World.size_alloc] at this
    exact this.alloc _
  have rF : Boxed Wx (w.heap.size + 1 + 1 + 1 + 1) 4 (.bool false) := by
    rw [← hWx]
    have := Boxed.new ((((w.alloc (.cells #[.string a] 9)).alloc (.cells #[.string b] 9)).alloc (.cells #[.int .i64 (pi : Int), .int .i64 (po : Int), .int .i64 (ps : Int)] 28)).alloc (.cells #[.slice (some ⟨b0, off, none⟩) (a.size + 1) cap] 47)) 4 (.bool false)
    simp only [World.size_alloc] at this
    exact this
  have xb := rB.cell
  have y0 := rA.cell
  have y3 := rH.cell
  have HVx := Lib.hid (HV.out.later hbx)
  have HA2 := Lib.hid (HAr.out Wx (w.heap.size + 1) xb HVx.out)
  gi_wp2_with (first | (refine ⟨trivial, ?_⟩; gi_at_call 76; refine (callsIn_wide.2 HA2.out).mono ?_; rintro e w' ⟨rfl, rfl⟩) | (refine ⟨trivial, ?_⟩; gi_at_call 88; refine (callsIn_wide.2 (HP.out _)).mono ?_; rintro e w' ⟨rfl, rfl⟩))
  obtain ⟨H, hH⟩ : ∃ H, w.heap.size = H := ⟨_, rfl⟩
  have hH' := Lib.hid hH
  have hSx : Wx.heap.size = H + 1 + 1 + 1 + 1 + 1 := by rw [← hWx, ← hH]; simp
  clear hWx xb y0 y3 HA2 x1 x4 hz1 hz4 HAr HV HP
  rw [hSx]
  rw [hH] at rA rB rP rH rF hbx ⊢
  obtain ⟨W1, hW1⟩ : ∃ W1, (Wx.alloc (.cells #[.int .i64 (a.size : Int), .int .i64 (b.size : Int)] 65)) = W1 := ⟨_, rfl⟩
  have rT : Row W1 (H + 1 + 1 + 1 + 1 + 1) 65 [.int .i64 (a.size : Int), .int .i64 (b.size : Int)] := by
    rw [← hW1, ← hSx]; exact Row.new Wx _ _
  have hB1 : Below H w W1 := by rw [← hW1]; exact hbx.alloc (by rw [hSx]; omega) _
  have hS1 : W1.heap.size = H + 1 + 1 + 1 + 1 + 1 + 1 := by rw [← hW1, World.size_alloc, hSx]
  replace rA : Boxed W1 H 9 (.string a) := by rw [← hW1]; exact rA.alloc _
  replace rB : Boxed W1 (H + 1) 9 (.string b) := by rw [← hW1]; exact rB.alloc _
  replace rP : Row W1 (H + 1 + 1) 28 [.int .i64 (pi : Int), .int .i64 (po : Int), .int .i64 (ps : Int)] := by rw [← hW1]; exact rP.alloc _
  replace rH : Boxed W1 (H + 1 + 1 + 1) 47 (.slice (some ⟨b0, off, none⟩) (a.size + 1) cap) := by rw [← hW1]; exact rH.alloc _
  replace rF : Boxed W1 (H + 1 + 1 + 1 + 1) 4 (.bool false) := by rw [← hW1]; exact rF.alloc _
  rw [hW1]
  clear hW1 hSx hbx HVx
  have hC1 : ∀ i, i < t.length → ∃ rb ro rc, W1.cell? ⟨b0, off + i, none⟩ = some (.slice (some ⟨rb, ro, none⟩) (b.size + 1) rc) ∧ b.size + 1 ≤ rc ∧ ∀ j, j < b.size + 1 → W1.cell? ⟨rb, ro + j, none⟩ = some (.int .i64 (ht t i j)) := fun i hi => by
    obtain ⟨rb, ro, rc, g1, g2, g3⟩ := HCl.out i hi
    have hb' : Below w.heap.size w W1 := by rw [hH'.out]; exact hB1
    exact ⟨rb, ro, rc, cell_later hb' g1, g2, fun j hj => cell_later hb' (g3 j hj)⟩
  rename_i Q0 K0 hK0
  refine wpIn_rangeFunc_ownH rfl (by omega) (gf := 107) (lb := #[.pointer (some ⟨H + 1 + 1 + 1 + 1 + 1, 0, none⟩)]) rfl trivial (enters_of Try.func107 (by kernel_rfl) rfl)
    (places1_stops (fun k => k = H + 1 + 1 + 1 + 1 + 1) (9 - 1) a.size b.size (H + 1 + 1 + 1 + 1 + 1) (by omega) ha hb W1 rfl (rT.cell 0) (rT.cell 1)) keptOn_t (keptOn_b (fun k hk => by omega)) (Below.refl _ _) (fun _ => rfl)
    (fun pre W => (∀ p ∈ pre, okP (bsN a) (bsN b) pi po ps t p.val = true) ∧ Below W1.heap.size W1 W)
    (fun c pre W => (c = .ret ∧ ∃ p ∈ pre, okP (bsN a) (bsN b) pi po ps t p.val = false) ∧ (Boxed W (H + 1 + 1 + 1 + 1) 4 (.bool false) ∧ Below H w W))
    (OwnFrom.and (fun _ _ _ _ hs _ _ => hs) (ownFrom_below (Nat.le_refl _) (Nat.le_refl _)))
    (fun c => OwnFrom.and (fun _ _ _ _ hs _ _ => hs) (OwnFrom.and (Own.from (boxed_own _ _ _) _) (ownFrom_below (by have := hH'.out; omega) (by omega))))
    ⟨fun _ h => (by cases h), Below.refl _ _⟩
    (fun x a' W => ∃ Bx, W1.heap.size ≤ Bx ∧ Row W Bx 65 [.int .i64 (x.val.1 : Int), .int .i64 (x.val.2 : Int)] ∧ a' = { tmps := #[Value.string a, Value.string b, pv ↑pi ↑po ↑ps, .slice (some ⟨b0, off, none⟩) (a.size + 1) cap, .pointer (some ⟨H, 0, none⟩), .pointer (some ⟨H + 1, 0, none⟩), .pointer (some ⟨H + 1 + 1, 0, none⟩), .pointer (some ⟨H + 1 + 1 + 1, 0, none⟩), .pointer (some ⟨H + 1 + 1 + 1 + 1, 0, none⟩), .func (.func 97) #[] #[.pointer (some ⟨H + 1, 0, none⟩)], .pointer (some ⟨Bx, 0, none⟩), undef, undef, .func (.func 97) #[] #[.pointer (some ⟨H + 1, 0, none⟩)], .slice (some ⟨b0, off, none⟩) (a.size + 1) cap, .int .i64 ((a.size : Int) + 1), .string a, .int .i64 (a.size : Int), .int .i64 ((a.size : Int) + 1), .bool false, .bool false, .func (.func 97) #[] #[.pointer (some ⟨H + 1, 0, none⟩)], .slice (some ⟨b0, off, none⟩) (a.size + 1) cap, .bool true, .bool false, .bool false, .bool false, .slice (some ⟨b0, off, none⟩) (a.size + 1) cap, .pointer (some ⟨b0, off, none⟩), .slice (some ⟨rb0, ro0, none⟩) (b.size + 1) rc0, .pointer (some ⟨rb0, ro0, none⟩), .int .i64 0, .bool false, .bool false, .string a, .int .i64 (a.size : Int), .string b, .int .i64 (b.size : Int), .agg #[.int .i64 (a.size : Int), .int .i64 (b.size : Int)], .func (.func 107) #[] #[.pointer (some ⟨H + 1 + 1 + 1 + 1 + 1, 0, none⟩)], .agg #[.int .i64 (x.val.1 : Int), .int .i64 (x.val.2 : Int)], undef, undef, undef, undef, undef, undef, undef, undef, undef, undef, undef, undef, undef, undef, undef, undef, undef, undef, undef, undef, undef, undef, undef, undef, undef, undef, undef, undef, undef], defers := [] })
    (fun x a' _ X Y row hs hg hr => by obtain ⟨Bx, h1, h2, h3⟩ := hs; exact ⟨Bx, h1, row_own Bx 65 (fun (_ : Unit) => [Value.int .i64 (x.val.1 : Int), .int .i64 (x.val.2 : Int)]) () X Y row h2 hg (fun r e => (hr r e).2), h3⟩)
    ?assign ?body ?done ?stop
  case assign =>
    rintro l pre x W K ⟨hok, hB⟩ hK
    have hOk := Lib.hid hok
    clear hok
    dsimp only [encP, pairV] at *
    gi_wp2
    exact hK _ _ ((KeepsOthers.alloc _ _).from _) ((KeptOn.refl _ W).below (bl_al (Below.refl _ W) _) (fun k (hk : k = H + 1 + 1 + 1 + 1 + 1) => by have := hB.size; omega)) ⟨hOk.out, bl_al hB _⟩ ⟨W.heap.size, hB.size, Row.new W _ _, rfl⟩
  case body =>
    rintro l pre x a' W hl ⟨rl, hrl⟩ ⟨hok, hB⟩ ⟨Bx, hBx, rX, rfl⟩ hlt
    obtain ⟨⟨i, j⟩, hi, hj⟩ := x
    dsimp only at hi hj rX ⊢
    have hOk := Lib.hid hok
    clear hok
    refine wpIn_hide (fun Q' HQ => ?_)
    have x0 := rX.cell 0
    have x1 := rX.cell 1
    simp only [List.getElem?_cons_zero, List.getElem?_cons_succ] at x0 x1
    have cA := cell_later hB rA.cell
    have cB := cell_later hB rB.cell
    have HN := Lib.hid (nextEdits_any a b i j hi hj W)
    gi_wp2_with (refine ⟨trivial, ?_⟩; gi_at_call 89; refine (CallsIn.inRound l (callsIn_wide.2 HN.out)).mono ?_; rintro e w3 ⟨Bw, Br, Ba, Bt, rfl, ⟨g1, g2, g3, g4⟩, q1, q2, q3, q4, b3⟩)
    have hKO3 := keepsOthers_below b3
    have hrl3 : w3.heap[l]? = some (.loop rl) := hKO3.same l _ hrl rfl
    have hB3 : Below W1.heap.size W1 w3 := below_nx hB b3
    have rX3 := rX.later b3
    have HB3 := Lib.hid b3
    have hs3 := hB3.size
    clear HN cA cB x0 x1 hrl
    have h1' : 1 ≤ 9 - 1 - 1 := by omega
    have lw := World.block_lt_of_cell? _ _ q1
    have lr := World.block_lt_of_cell? _ _ q2
    have la := World.block_lt_of_cell? _ _ q3
    have lt := World.block_lt_of_cell? _ _ q4
    dsimp only at lw lr la lt
    have hWH : w.heap.size = H := hH'.out
    refine wpIn_rangeFunc_ownN (l₀ := l) (r₀ := rl) rfl hrl3 h1' (gf := 108) (lb := #[.pointer (some ⟨Bw, 0, none⟩), .pointer (some ⟨Br, 0, none⟩), .pointer (some ⟨Ba, 0, none⟩), .pointer (some ⟨Bt, 0, none⟩)]) rfl trivial (enters_of Try.func108 (by kernel_rfl) rfl)
      ((next1_stops (fun k => k < w3.heap.size) (9 - 1 - 1 - 1) a b i j Bw Br Ba Bt (by omega) ha hb hi hj w3 lw lr la lt q1 q2 q3 q4 (fun k hk => hk)).inRound l) keptOn_t (keptOn_b (fun k hk => hk)) (Below.refl _ _) (fun _ => rfl)
      (fun pre' W' => (∀ x ∈ pre', okE pi po ps t (i, j) x.val = true) ∧ Below w3.heap.size w3 W')
      (fun c pre' W' => (c = .ret ∧ ∃ x ∈ pre', okE pi po ps t (i, j) x.val = false) ∧ (Boxed W' (H + 1 + 1 + 1 + 1) 4 (.bool false) ∧ (Below H w W' ∧ KeepsFrom W1.heap.size W W')))
      (OwnFrom.and (fun _ _ _ _ hs _ _ => hs) (ownFrom_below (Nat.le_refl _) (Nat.le_refl _)))
      (fun c => OwnFrom.and (fun _ _ _ _ hs _ _ => hs) (OwnFrom.and (Own.from (boxed_own _ _ _) _) (OwnFrom.and (ownFrom_below (by omega) (by omega)) (ownFrom_keepsFrom (by omega)))))
      ⟨fun _ h => (by cases h), Below.refl _ _⟩
      (fun x a'' W' => ∃ Be Bo, (Row W' Be 77 [.int .i64 (x.val.k : Int), .int .i64 (x.val.b : Int)] ∧ Row W' Bo 65 [.int .i64 (x.val.i : Int), .int .i64 (x.val.j : Int)]) ∧ a'' = { tmps := #[Value.string a, Value.string b, pv ↑pi ↑po ↑ps, .slice (some ⟨b0, off, none⟩) (a.size + 1) cap, .pointer (some ⟨H, 0, none⟩), .pointer (some ⟨H + 1, 0, none⟩), .pointer (some ⟨H + 1 + 1, 0, none⟩), .pointer (some ⟨H + 1 + 1 + 1, 0, none⟩), .pointer (some ⟨H + 1 + 1 + 1 + 1, 0, none⟩), .func (.func 97) #[] #[.pointer (some ⟨H + 1, 0, none⟩)], .pointer (some ⟨Bx, 0, none⟩), .pointer (some ⟨Be, 0, none⟩), .pointer (some ⟨Bo, 0, none⟩), .func (.func 97) #[] #[.pointer (some ⟨H + 1, 0, none⟩)], .slice (some ⟨b0, off, none⟩) (a.size + 1) cap, .int .i64 ((a.size : Int) + 1), .string a, .int .i64 (a.size : Int), .int .i64 ((a.size : Int) + 1), .bool false, .bool false, .func (.func 97) #[] #[.pointer (some ⟨H + 1, 0, none⟩)], .slice (some ⟨b0, off, none⟩) (a.size + 1) cap, .bool true, .bool false, .bool false, .bool false, .slice (some ⟨b0, off, none⟩) (a.size + 1) cap, .pointer (some ⟨b0, off, none⟩), .slice (some ⟨rb0, ro0, none⟩) (b.size + 1) rc0, .pointer (some ⟨rb0, ro0, none⟩), .int .i64 0, .bool false, .bool false, .string a, .int .i64 (a.size : Int), .string b, .int .i64 (b.size : Int), .agg #[.int .i64 (a.size : Int), .int .i64 (b.size : Int)], .func (.func 107) #[] #[.pointer (some ⟨H + 1 + 1 + 1 + 1 + 1, 0, none⟩)], .agg #[.int .i64 (i : Int), .int .i64 (j : Int)], .string a, .string b, .agg #[.int .i64 (i : Int), .int .i64 (j : Int)], .func (.func 108) #[] #[.pointer (some ⟨Bw, 0, none⟩), .pointer (some ⟨Br, 0, none⟩), .pointer (some ⟨Ba, 0, none⟩), .pointer (some ⟨Bt, 0, none⟩)], .agg #[.int .i64 (x.val.k : Int), .int .i64 (x.val.b : Int)], .agg #[.int .i64 (x.val.i : Int), .int .i64 (x.val.j : Int)], undef, undef, undef, undef, undef, undef, undef, undef, undef, undef, undef, undef, undef, undef, undef, undef, undef, undef, undef, undef, undef, undef, undef], defers := [] })
      (fun x a'' _ X Y row hs hg hr => by obtain ⟨Be, Bo, ⟨h2, h3⟩, h4⟩ := hs; exact ⟨Be, Bo, ⟨row_own Be 77 (fun (_ : Unit) => [Value.int .i64 (x.val.k : Int), .int .i64 (x.val.b : Int)]) () X Y row h2 hg (fun r e => (hr r e).2), row_own Bo 65 (fun (_ : Unit) => [Value.int .i64 (x.val.i : Int), .int .i64 (x.val.j : Int)]) () X Y row h3 hg (fun r e => (hr r e).2)⟩, h4⟩)
      ?assign2 ?body2 ?done2 ?stop2
    case assign2 =>
      rintro l2 pre' x W' Kk ⟨hok', hBW⟩ hKk
      have hOk2 := Lib.hid hok'
      clear hok'
      dsimp only [encN] at *
      have hsz := hBW.size
      gi_wp2
      refine hKk _ _ (((KeepsOthers.alloc _ _).trans (KeepsOthers.alloc _ _)).from _) ((KeptOn.refl _ W').below (bl_al (bl_al (Below.refl _ W') _) _) (fun k (hk : k < w3.heap.size) => Nat.lt_of_lt_of_le hk hsz)) ⟨hOk2.out, bl_al (bl_al hBW _) _⟩ ⟨W'.heap.size, W'.heap.size + 1, ⟨(Row.new W' _ _).alloc _, ?_⟩, rfl⟩
      have hn := Row.new (W'.alloc (.cells #[.int .i64 (x.val.k : Int), .int .i64 (x.val.b : Int)] 77)) 65 [.int .i64 (x.val.i : Int), .int .i64 (x.val.j : Int)]
      rw [World.size_alloc] at hn
      exact hn
    case body2 =>
      rintro l2 pre' x a'' W' _ _ ⟨hok', hBW⟩ ⟨Be, Bo, ⟨rE, rO⟩, rfl⟩ hlt2
      have hOk2 := Lib.hid hok'
      clear hok'
      obtain ⟨⟨k, bb, ti, tj⟩, hk4, hbb, hti, htj⟩ := x
      dsimp only at hk4 hbb hti htj rE rO ⊢
      refine wpIn_hide (fun Q2 HQ2 => ?_)
      have hBA := below_nx hB3 hBW
      obtain ⟨ra, oa, ca, ga1, ga2, ga3⟩ := hC1 ti (by have := Hl.out; omega)
      obtain ⟨rb, ob, cb, gb1, gb2, gb3⟩ := hC1 i (by have := Hl.out; omega)
      have e1 := cell_later hBA ga1
      have e2 := cell_later hBA (ga3 tj (by omega))
      have e3 := cell_later hBA gb1
      have e4 := cell_later hBA (gb3 j (by omega))
      have e5 := cell_later hBA rH.cell
      have o0 := rO.cell 0
      have o1 := rO.cell 1
      have ec0 := rE.cell 0
      have ec1 := rE.cell 1
      have rX4 := rX3.later hBW
      have xc0 := rX4.cell 0
      have xc1 := rX4.cell 1
      have rP4 := rP.later hBA
      have pc0 := rP4.cell 0
      have pc1 := rP4.cell 1
      have pc2 := rP4.cell 2
      simp only [List.getElem?_cons_zero, List.getElem?_cons_succ] at o0 o1 ec0 ec1 xc0 xc1 pc0 pc1 pc2
      have htia : (ti : Int) < (a.size : Int) + 1 := by omega
      have htjb : (tj : Int) < (b.size : Int) + 1 := by omega
      have hia : (i : Int) < (a.size : Int) + 1 := by omega
      have hjb : (j : Int) < (b.size : Int) + 1 := by omega
      have hX := ht_bd HNum.out (t := t) ti tj
      have hY := ht_bd HNum.out (t := t) i j
      have hE := Lib.hid (show okE pi po ps t (i, j) ⟨k, bb, ti, tj⟩ = decide (ht t ti tj ≤ ht t i j + (prc pi po ps k : Nat)) from rfl)
      have hpk : prc pi po ps k ≤ 9 := prc_le k hk4 hpi hpo hps
      generalize ht t ti tj = X at e2 hX hE
      generalize ht t i j = Y at e4 hY hE
      have hwr : IntKind.i64.wrap (Y + ((prc pi po ps k : Nat) : Int)) = Y + ((prc pi po ps k : Nat) : Int) := IntWalk.i64_in _ (by omega)
      gi_wp2_with fail
      refine region_calmR 22 hmx (by kernel_rfl) (by kernel_rfl) ?_
      simp only [List.take_succ_cons, List.take_zero, List.drop_succ_cons, List.drop_zero]
      intro S2 hSn2 f2 hT1 hT2
      have m1 : ∀ s, (f2 s).cell? ⟨b0, off + ti, none⟩ = _ := fun s => cell_later (hT1 s) e1
      have m2 : ∀ s, (f2 s).cell? ⟨ra, oa + tj, none⟩ = _ := fun s => cell_later (hT1 s) e2
      have m3 : ∀ s, (f2 s).cell? ⟨b0, off + i, none⟩ = _ := fun s => cell_later (hT1 s) e3
      have m4 : ∀ s, (f2 s).cell? ⟨rb, ob + j, none⟩ = _ := fun s => cell_later (hT1 s) e4
      have m5 : ∀ s, (f2 s).cell? ⟨H + 1 + 1 + 1, 0, none⟩ = _ := fun s => cell_later (hT1 s) e5
      have n0 : ∀ s, (f2 s).cell? ⟨Bo, 0, none⟩ = _ := fun s => cell_later (hT1 s) o0
      have n1 : ∀ s, (f2 s).cell? ⟨Bo, 1, none⟩ = _ := fun s => cell_later (hT1 s) o1
      have n2 : ∀ s, (f2 s).cell? ⟨Be, 0, none⟩ = _ := fun s => cell_later (hT1 s) ec0
      have n3 : ∀ s, (f2 s).cell? ⟨Be, 1, none⟩ = _ := fun s => cell_later (hT1 s) ec1
      have n4 : ∀ s, (f2 s).cell? ⟨Bx, 0, none⟩ = _ := fun s => cell_later (hT1 s) xc0
      have n5 : ∀ s, (f2 s).cell? ⟨Bx, 1, none⟩ = _ := fun s => cell_later (hT1 s) xc1
      have n6 : ∀ s, (f2 s).cell? ⟨H + 1 + 1, 0, none⟩ = _ := fun s => cell_later (hT1 s) pc0
      have n7 : ∀ s, (f2 s).cell? ⟨H + 1 + 1, 1, none⟩ = _ := fun s => cell_later (hT1 s) pc1
      have n8 : ∀ s, (f2 s).cell? ⟨H + 1 + 1, 2, none⟩ = _ := fun s => cell_later (hT1 s) pc2
      have hPc := Lib.hid (calm_call hT1 hT2 (fun s => price_any k hk4 bb pi po ps (f2 s)))
      repeat (go_big_quiet_step (exact hPc.out _))
      refine wpQuiet_nil ?_
      rintro _ ⟨s, rfl⟩
      have hb5 := hT1 s
      generalize f2 s = W5 at hb5 ⊢
      clear m1 m2 m3 m4 m5 n0 n1 n2 n3 n4 n5 n6 n7 n8 hPc hT1 hT2 e1 e2 e3 e4 e5 o0 o1 ec0 ec1 xc0 xc1 pc0 pc1 pc2 ga1 ga3 gb1 gb3
      have hBA5 := below_nx hBA hb5
      have rF5 : Boxed W5 (H + 1 + 1 + 1 + 1) 4 (.bool false) := Row.box ((Row.ofBox rF).later hBA5)
      have z1 := rF5.cell
      have z2 : W5.frozen? ⟨H + 1 + 1 + 1 + 1, 0, none⟩ = false := (Row.ofBox rF5).frozen _
      have B5 := Lib.hid hb5
      have BA5 := Lib.hid hBA5
      clear hb5 hBA5
      rcases Decidable.em (X ≤ Y + ((prc pi po ps k : Nat) : Int)) with hle | hgt
      · have hlt' : ¬ (Y + ((prc pi po ps k : Nat) : Int) < X) := by omega
        have hE2 := Lib.hid (hE.out.trans (decide_eq_true hle))
        clear hle
        gi_wp2_with fail
        try dsimp only [Exit.inBlock]
        rw [HQ2.out]
        have ko : KeepsOthers W' W5 := keepsOthers_below B5.out
        refine ⟨ko.from _, (KeptOn.refl _ W').below B5.out (fun k (hk : k < w3.heap.size) => Nat.lt_of_lt_of_le hk hBW.size), ?_, below_nx hBW B5.out⟩
        intro y hy
        rcases List.mem_append.1 hy with h | h
        · exact hOk2.out y h
        · rcases List.mem_singleton.1 h with rfl
          exact hE2.out
      · have hlt' : Y + ((prc pi po ps k : Nat) : Int) < X := by omega
        have hE2 := Lib.hid (hE.out.trans (decide_eq_false hgt))
        clear hgt
        gi_wp2_with fail
        try dsimp only [Exit.inBlock]
        rw [HQ2.out]
        have ko : KeepsOthers W' (W5.setCell ⟨H + 1 + 1 + 1 + 1, 0, none⟩ (.bool false)) := (keepsOthers_below B5.out).trans (KeepsOthers.setCell _ _ _)
        refine ⟨ko.from _, ⟨rfl, _, List.mem_append_right _ (List.mem_singleton.2 rfl), hE2.out⟩, Row.box ((Row.ofBox rF5).set 0 (.bool false)), (hB1.trans (BA5.out.mono (by omega))).setCell (p := ⟨H + 1 + 1 + 1 + 1, 0, none⟩) (show H ≤ H + 1 + 1 + 1 + 1 by omega) _, ((hKO3.trans (keepsOthers_below hBW)).trans ko).from _⟩
    case done2 =>
      rintro ys' W' hys ⟨hok', hBW⟩
      dsimp only [Exit.inBlock]
      rw [HQ.out]
      have ko : KeepsOthers W W' := hKO3.trans (keepsOthers_below hBW)
      have hBW2 := below_nx HB3.out hBW
      refine ⟨ko.from _, (KeptOn.refl _ W).below hBW2 (fun k (hk : k = H + 1 + 1 + 1 + 1 + 1) => by have := hB.size; omega), ?_, below_nx hB hBW2⟩
      intro y hy
      rcases List.mem_append.1 hy with h | h
      · exact hOk.out y h
      · rcases List.mem_singleton.1 h with rfl
        show (nextL (bsN a) (bsN b) i j).all (okE pi po ps t (i, j)) = true
        rw [← hys, List.all_eq_true]
        intro x hx
        obtain ⟨z, hz, rfl⟩ := List.mem_map.1 hx
        exact hok' z hz
    case stop2 =>
      rintro c pre' W' ⟨tl, htl⟩ ⟨⟨rfl, z, hz, hzb⟩, rFx, hBy, hKF⟩
      have hbad : okP (bsN a) (bsN b) pi po ps t (i, j) = false := by
        show (nextL (bsN a) (bsN b) i j).all (okE pi po ps t (i, j)) = false
        rw [List.all_eq_false]
        exact ⟨z.val, by rw [htl]; exact List.mem_append_left _ (List.mem_map.2 ⟨z, hz, rfl⟩), by rw [hzb]; simp⟩
      have hbd := Lib.hid hbad
      have hKFh := Lib.hid hKF
      have rFh := Lib.hid rFx
      have hByh := Lib.hid hBy
      clear hbad htl hz hzb hKF rFx hBy
      gi_wp2
      try dsimp only [Exit.inBlock]
      rw [HQ.out]
      exact ⟨hKFh.out, ⟨rfl, _, List.mem_append_right _ (List.mem_singleton.2 rfl), hbd.out⟩, rFh.out, hByh.out⟩
  case done =>
    rintro D ys W hD hys ⟨hok, hB⟩ hKd
    have hpb : (pairs a.size b.size).all (okP (bsN a) (bsN b) pi po ps t) = true := by
      rw [← hys, List.all_eq_true]
      intro x hx
      obtain ⟨z, hz, rfl⟩ := List.mem_map.1 hx
      exact hok z hz
    have hpb' := Lib.hid hpb
    clear hys hok hpb
    have rF5 : Boxed W (H + 1 + 1 + 1 + 1) 4 (.bool false) := Row.box ((Row.ofBox rF).later hB)
    have z1 := rF5.cell
    have z2 : W.frozen? ⟨H + 1 + 1 + 1 + 1, 0, none⟩ = false := (Row.ofBox rF5).frozen _
    have HB := Lib.hid hB
    clear hB
    refine hK0 _ _ ?_
    gi_wp2
    have hK' := (KeepsOthers.setCell W ⟨H + 1 + 1 + 1 + 1, 0, none⟩ (.bool true)).same D _ hKd rfl
    refine ⟨by simp, .inl ⟨_, _, rfl, run_takeDeferred hK', ?_⟩⟩
    have hc5 := cell_kept (cell_set_same (u := .bool true) z1) (grownBy_putObj' _ D (.deferred none)) (fun r e => by cases e; exact ⟨_, hK', rfl⟩)
    have hlt3 : D < (W.setCell ⟨H + 1 + 1 + 1 + 1, 0, none⟩ (.bool true)).heap.size := (Array.getElem?_eq_some_iff.1 hK').1
    refine ⟨.bool true, ?_, by rw [hpb'.out], by rw [hH'.out]; exact ((hB1.trans (HB.out.mono (by omega))).setCell (p := ⟨H + 1 + 1 + 1 + 1, 0, none⟩) (show H ≤ H + 1 + 1 + 1 + 1 by omega) _).trans (belowK_b (w := W1) (by omega) _ D _ _ (by omega) hK' rfl rfl)⟩
    simp [results, Try.f71, go_sem, hc5]
  case stop =>
    rintro D c pre W hD ⟨tl, htl⟩ ⟨⟨rfl, z, hz, hzb⟩, rFx, hBy⟩ hKd
    have hpb : (pairs a.size b.size).all (okP (bsN a) (bsN b) pi po ps t) = false := by
      rw [List.all_eq_false]
      exact ⟨z.val, by rw [htl]; exact List.mem_append_left _ (List.mem_map.2 ⟨z, hz, rfl⟩), by rw [hzb]; simp⟩
    have hpb' := Lib.hid hpb
    clear hpb htl hz hzb
    have z1 := rFx.cell
    have HB := Lib.hid hBy
    clear hBy
    gi_wp2
    refine ⟨by simp, .inl ⟨_, _, rfl, run_takeDeferred hKd, ?_⟩⟩
    have hc5 := cell_kept z1 (grownBy_putObj' _ D (.deferred none)) (fun r e => by cases e; exact ⟨_, hKd, rfl⟩)
    have hlt3 : D < W.heap.size := (Array.getElem?_eq_some_iff.1 hKd).1
    refine ⟨.bool false, ?_, by rw [hpb'.out], by rw [hH'.out]; exact HB.out.trans (belowK_b (w := W1) (by omega) _ D _ _ (by omega) hKd rfl rfl)⟩
    simp [results, Try.f71, go_sem, hc5]
end

section
/-
  areHeights: where a table has no fit form.
-/
open Go.ChangeShapes Go.WideShapes Go.ChangeAt Go.RowKit
attribute [local go_sem] Oper.semAt_some
set_option linter.unusedVariables false
set_option maxRecDepth 100000

set_option maxHeartbeats 4000000 in
theorem areHeights_len (a b : ByteArray) (pi po ps : Nat) (ha : a.size ≤ 12) (n cap : Nat) (hn : n ≤ maxLen) (hne : n ≠ a.size + 1) (ao : Option Addr) (w : World) :
    Calls Try.prog 71 #[.string a, .string b, pv pi po ps, .slice ao n cap] w fun e w' => e = .returned (.bool false) ∧ Below w.heap.size w w' := by
  have hmx : Try.prog.follows .mixedOrders = true := by kernel_rfl
  refine (callsIn_wide (n := 9)).1 ?_
  refine callsIn_of_wp_marks Try.func71 rfl trivial ?_ rfl
  simp only [Try.ntmps71, List.size_toArray, List.length_cons, List.length_nil, Nat.reduceAdd, Nat.reduceSub, Array.replicate_succ, Array.replicate_zero, List.push_toArray, List.append_toArray, List.nil_append, List.cons_append]
  obtain ⟨Wx, hWx⟩ : ∃ Wx, (((((w.alloc (.cells #[.string a] 9)).alloc (.cells #[.string b] 9)).alloc (.cells #[.int .i64 (pi : Int), .int .i64 (po : Int), .int .i64 (ps : Int)] 28)).alloc (.cells #[.slice ao n cap] 47)).alloc (.cells #[.bool false] 4)) = Wx := ⟨_, rfl⟩
  have hbx : Below w.heap.size w Wx := by rw [← hWx]; exact bl_al (bl_al (bl_al (bl_al (bl_al (Below.refl _ w) _) _) _) _) _
  have rA : Boxed Wx w.heap.size 9 (.string a) := by
    rw [← hWx]; exact ((((Boxed.new w _ _).alloc _).alloc _).alloc _).alloc _
  have rB : Boxed Wx (w.heap.size + 1) 9 (.string b) := by
    rw [← hWx]
    have := Boxed.new (w.alloc (.cells #[.string a] 9)) 9 (.string b)
    simp only [World.size_alloc] at this
    exact ((this.alloc _).alloc _).alloc _
  have rP : Row Wx (w.heap.size + 1 + 1) 28 [.int .i64 (pi : Int), .int .i64 (po : Int), .int .i64 (ps : Int)] := by
    rw [← hWx]
    have := Row.new ((w.alloc (.cells #[.string a] 9)).alloc (.cells #[.string b] 9)) 28 [.int .i64 (pi : Int), .int .i64 (po : Int), .int .i64 (ps : Int)]
    simp only [World.size_alloc] at this
    exact (this.alloc _).alloc _
  have rH : Boxed Wx (w.heap.size + 1 + 1 + 1) 47 (.slice ao n cap) := by
    rw [← hWx]
    have := Boxed.new (((w.alloc (.cells #[.string a] 9)).alloc (.cells #[.string b] 9)).alloc (.cells #[.int .i64 (pi : Int), .int .i64 (po : Int), .int .i64 (ps : Int)] 28)) 47 (.slice ao n cap)
    simp only [World.size_alloc] at this
    exact this.alloc _
  have rF : Boxed Wx (w.heap.size + 1 + 1 + 1 + 1) 4 (.bool false) := by
    rw [← hWx]
    have := Boxed.new ((((w.alloc (.cells #[.string a] 9)).alloc (.cells #[.string b] 9)).alloc (.cells #[.int .i64 (pi : Int), .int .i64 (po : Int), .int .i64 (ps : Int)] 28)).alloc (.cells #[.slice ao n cap] 47)) 4 (.bool false)
    simp only [World.size_alloc] at this
    exact this

  have hne1 : ¬ ((n : Int) = (a.size : Int) + 1) := by omega
  have hne2 : ((n : Int) != (a.size : Int) + 1) = true := by simpa using hne1
  have y0 := rA.cell
  have xb := rB.cell
  have y3 := rH.cell
  have z1 := rF.cell
  have z2 : Wx.frozen? ⟨w.heap.size + 1 + 1 + 1 + 1, 0, none⟩ = false := (Row.ofBox rF).frozen _
  have HB := Lib.hid hbx
  clear hbx
  gi_wp2_with (refine ⟨trivial, ?_⟩)
  have hc5 := cell_set_same (u := .bool false) z1
  refine ⟨.bool false, ?_, rfl, HB.out.setCell (p := ⟨w.heap.size + 1 + 1 + 1 + 1, 0, none⟩) (show w.heap.size ≤ w.heap.size + 1 + 1 + 1 + 1 by omega) _⟩
  simp [results, Try.f71, go_sem, hc5]

set_option maxHeartbeats 4000000 in
theorem areHeights_rows (a b : ByteArray) (pi po ps : Nat) (ha : a.size ≤ 12) (hb : b.size ≤ 12) (t : List (List Int)) (hl : t.length = a.size + 1) (hr : ∀ r ∈ t, r.length ≤ maxLen) (hbad : t.all (hrowB b.size) = false) (cap : Nat) (ao : Option Addr) (w : World) (hV : TabV w (.slice ao (a.size + 1) cap) t) :
    Calls Try.prog 71 #[.string a, .string b, pv pi po ps, .slice ao (a.size + 1) cap] w fun e w' => e = .returned (.bool false) ∧ Below w.heap.size w w' := by
  have hmx : Try.prog.follows .mixedOrders = true := by kernel_rfl
  have HAr := Lib.hid (fun W B hc hV => all_rows b hb B t (by unfold maxLen; omega) hr (.slice ao (a.size + 1) cap) W hc hV)
  rw [hbad] at HAr
  have HV := Lib.hid hV
  clear hV hbad hr hl
  refine (callsIn_wide (n := 9)).1 ?_
  refine callsIn_of_wp_marks Try.func71 rfl trivial ?_ rfl
  simp only [Try.ntmps71, List.size_toArray, List.length_cons, List.length_nil, Nat.reduceAdd, Nat.reduceSub, Array.replicate_succ, Array.replicate_zero, List.push_toArray, List.append_toArray, List.nil_append, List.cons_append]
  obtain ⟨Wx, hWx⟩ : ∃ Wx, (((((w.alloc (.cells #[.string a] 9)).alloc (.cells #[.string b] 9)).alloc (.cells #[.int .i64 (pi : Int), .int .i64 (po : Int), .int .i64 (ps : Int)] 28)).alloc (.cells #[.slice ao (a.size + 1) cap] 47)).alloc (.cells #[.bool false] 4)) = Wx := ⟨_, rfl⟩
  have hbx : Below w.heap.size w Wx := by rw [← hWx]; exact bl_al (bl_al (bl_al (bl_al (bl_al (Below.refl _ w) _) _) _) _) _
  have rA : Boxed Wx w.heap.size 9 (.string a) := by
    rw [← hWx]; exact ((((Boxed.new w _ _).alloc _).alloc _).alloc _).alloc _
  have rB : Boxed Wx (w.heap.size + 1) 9 (.string b) := by
    rw [← hWx]
    have := Boxed.new (w.alloc (.cells #[.string a] 9)) 9 (.string b)
    simp only [World.size_alloc] at this
    exact ((this.alloc _).alloc _).alloc _
  have rP : Row Wx (w.heap.size + 1 + 1) 28 [.int .i64 (pi : Int), .int .i64 (po : Int), .int .i64 (ps : Int)] := by
    rw [← hWx]
    have := Row.new ((w.alloc (.cells #[.string a] 9)).alloc (.cells #[.string b] 9)) 28 [.int .i64 (pi : Int), .int .i64 (po : Int), .int .i64 (ps : Int)]
    simp only [World.size_alloc] at this
    exact (this.alloc _).alloc _
  have rH : Boxed Wx (w.heap.size + 1 + 1 + 1) 47 (.slice ao (a.size + 1) cap) := by
    rw [← hWx]
    have := Boxed.new (((w.alloc (.cells #[.string a] 9)).alloc (.cells #[.string b] 9)).alloc (.cells #[.int .i64 (pi : Int), .int .i64 (po : Int), .int .i64 (ps : Int)] 28)) 47 (.slice ao (a.size + 1) cap)
    simp only [World.size_alloc] at this
    exact this.alloc _
  have rF : Boxed Wx (w.heap.size + 1 + 1 + 1 + 1) 4 (.bool false) := by
    rw [← hWx]
    have := Boxed.new ((((w.alloc (.cells #[.string a] 9)).alloc (.cells #[.string b] 9)).alloc (.cells #[.int .i64 (pi : Int), .int .i64 (po : Int), .int .i64 (ps : Int)] 28)).alloc (.cells #[.slice ao (a.size + 1) cap] 47)) 4 (.bool false)
    simp only [World.size_alloc] at this
    exact this

  have y0 := rA.cell
  have xb := rB.cell
  have y3 := rH.cell
  have z1 := rF.cell
  have z2 : Wx.frozen? ⟨w.heap.size + 1 + 1 + 1 + 1, 0, none⟩ = false := (Row.ofBox rF).frozen _
  have HVx := Lib.hid (HV.out.later hbx)
  have HA2 := Lib.hid (HAr.out Wx (w.heap.size + 1) xb HVx.out)
  have HB := Lib.hid hbx
  clear hbx HVx HAr HV
  gi_wp2_with (first | (refine ⟨trivial, ?_⟩; gi_at_call 76; refine (callsIn_wide.2 HA2.out).mono ?_; rintro e w' ⟨rfl, rfl⟩) | (refine ⟨trivial, ?_⟩))
  have hc5 := cell_set_same (u := .bool false) z1
  refine ⟨.bool false, ?_, rfl, HB.out.setCell (p := ⟨w.heap.size + 1 + 1 + 1 + 1, 0, none⟩) (show w.heap.size ≤ w.heap.size + 1 + 1 + 1 + 1 by omega) _⟩
  simp [results, Try.f71, go_sem, hc5]

set_option maxHeartbeats 4000000 in
theorem areHeights_zero (a b : ByteArray) (pi po ps : Nat) (ha : a.size ≤ 12) (hb : b.size ≤ 12) (t : List (List Int)) (hl : t.length = a.size + 1) (hr : ∀ r ∈ t, r.length = b.size + 1) (hok : t.all (hrowB b.size) = true) (h00 : ht t 0 0 ≠ 0) (cap : Nat) (ao : Option Addr) (w : World) (hV : TabV w (.slice ao (a.size + 1) cap) t) :
    Calls Try.prog 71 #[.string a, .string b, pv pi po ps, .slice ao (a.size + 1) cap] w fun e w' => e = .returned (.bool false) ∧ Below w.heap.size w w' := by
  have hmx : Try.prog.follows .mixedOrders = true := by kernel_rfl
  have HAr := Lib.hid (fun W B hc hV => all_rows b hb B t (by unfold maxLen; omega) (fun r hr' => by rw [hr r hr']; unfold maxLen; omega) (.slice ao (a.size + 1) cap) W hc hV)
  rw [hok] at HAr
  have HV := Lib.hid hV
  obtain ⟨b0, off, rfl, hcell⟩ := tab_at hl.symm hV hr (by omega)
  obtain ⟨rb0, ro0, rc0, hz1, hz2, hz3⟩ := hcell 0 (by omega)
  have hz4 := hz3 0 (by omega)
  rw [Nat.add_zero] at hz1 hz4
  obtain ⟨z, hz⟩ : ∃ z, ht t 0 0 = z := ⟨_, rfl⟩
  rw [hz] at hz4 h00
  have hzb : (z != 0) = true := by simpa using h00
  clear hV hok hr hl hz hcell hz3
  refine (callsIn_wide (n := 9)).1 ?_
  refine callsIn_of_wp_marks Try.func71 rfl trivial ?_ rfl
  simp only [Try.ntmps71, List.size_toArray, List.length_cons, List.length_nil, Nat.reduceAdd, Nat.reduceSub, Array.replicate_succ, Array.replicate_zero, List.push_toArray, List.append_toArray, List.nil_append, List.cons_append]
  obtain ⟨Wx, hWx⟩ : ∃ Wx, (((((w.alloc (.cells #[.string a] 9)).alloc (.cells #[.string b] 9)).alloc (.cells #[.int .i64 (pi : Int), .int .i64 (po : Int), .int .i64 (ps : Int)] 28)).alloc (.cells #[.slice (some ⟨b0, off, none⟩) (a.size + 1) cap] 47)).alloc (.cells #[.bool false] 4)) = Wx := ⟨_, rfl⟩
  have hbx : Below w.heap.size w Wx := by rw [← hWx]; exact bl_al (bl_al (bl_al (bl_al (bl_al (Below.refl _ w) _) _) _) _) _
  have rA : Boxed Wx w.heap.size 9 (.string a) := by
    rw [← hWx]; exact ((((Boxed.new w _ _).alloc _).alloc _).alloc _).alloc _
  have rB : Boxed Wx (w.heap.size + 1) 9 (.string b) := by
    rw [← hWx]
    have := Boxed.new (w.alloc (.cells #[.string a] 9)) 9 (.string b)
    simp only [World.size_alloc] at this
    exact ((this.alloc _).alloc _).alloc _
  have rP : Row Wx (w.heap.size + 1 + 1) 28 [.int .i64 (pi : Int), .int .i64 (po : Int), .int .i64 (ps : Int)] := by
    rw [← hWx]
    have := Row.new ((w.alloc (.cells #[.string a] 9)).alloc (.cells #[.string b] 9)) 28 [.int .i64 (pi : Int), .int .i64 (po : Int), .int .i64 (ps : Int)]
    simp only [World.size_alloc] at this
    exact (this.alloc _).alloc _
  have rH : Boxed Wx (w.heap.size + 1 + 1 + 1) 47 (.slice (some ⟨b0, off, none⟩) (a.size + 1) cap) := by
    rw [← hWx]
    have := Boxed.new (((w.alloc (.cells #[.string a] 9)).alloc (.cells #[.string b] 9)).alloc (.cells #[.int .i64 (pi : Int), .int .i64 (po : Int), .int .i64 (ps : Int)] 28)) 47 (.slice (some ⟨b0, off, none⟩) (a.size + 1) cap)
    simp only [World.size_alloc] at this
    exact this.alloc _
  have rF : Boxed Wx (w.heap.size + 1 + 1 + 1 + 1) 4 (.bool false) := by
    rw [← hWx]
    have := Boxed.new ((((w.alloc (.cells #[.string a] 9)).alloc (.cells #[.string b] 9)).alloc (.cells #[.int .i64 (pi : Int), .int .i64 (po : Int), .int .i64 (ps : Int)] 28)).alloc (.cells #[.slice (some ⟨b0, off, none⟩) (a.size + 1) cap] 47)) 4 (.bool false)
    simp only [World.size_alloc] at this
    exact this

  have y0 := rA.cell
  have xb := rB.cell
  have y3 := rH.cell
  have z1 := rF.cell
  have z2 : Wx.frozen? ⟨w.heap.size + 1 + 1 + 1 + 1, 0, none⟩ = false := (Row.ofBox rF).frozen _
  have HVx := Lib.hid (HV.out.later hbx)
  have HA2 := Lib.hid (HAr.out Wx (w.heap.size + 1) xb HVx.out)
  have x1 := cell_later hbx hz1
  have x4 := cell_later hbx hz4
  have HB := Lib.hid hbx
  clear hbx HVx HAr HV hz1 hz4
  gi_wp2_with (first | (refine ⟨trivial, ?_⟩; gi_at_call 76; refine (callsIn_wide.2 HA2.out).mono ?_; rintro e w' ⟨rfl, rfl⟩) | (refine ⟨trivial, ?_⟩))
  have hc5 := cell_set_same (u := .bool false) z1
  refine ⟨.bool false, ?_, rfl, HB.out.setCell (p := ⟨w.heap.size + 1 + 1 + 1 + 1, 0, none⟩) (show w.heap.size ≤ w.heap.size + 1 + 1 + 1 + 1 by omega) _⟩
  simp [results, Try.f71, go_sem, hc5]

/-- Whether a table is one of heights. -/
def heightsB (A B : List Nat) (pi po ps : Nat) (t : List (List Int)) : Bool := decide (t.length = A.length + 1) && (t.all (hrowB B.length) && (decide (ht t 0 0 = 0) && (pairs A.length B.length).all (okP A B pi po ps t)))

theorem areHeights_any (a b : ByteArray) (pi po ps : Nat) (ha : a.size ≤ 12) (hb : b.size ≤ 12) (hpi : pi ≤ 9) (hpo : po ≤ 9) (hps : ps ≤ 9) (t : List (List Int)) (hl : t.length ≤ maxLen) (hr : ∀ r ∈ t, r.length ≤ maxLen) (v : Value) (w : World) (hV : TabV w v t) :
    Calls Try.prog 71 #[.string a, .string b, pv pi po ps, v] w fun e w' => e = .returned (.bool (heightsB (bsN a) (bsN b) pi po ps t)) ∧ Below w.heap.size w w' := by
  have hV' := hV
  obtain ⟨ao, cap, rfl, hlc, hd⟩ := hV
  unfold heightsB
  rw [bsN_length, bsN_length]
  by_cases h1 : t.length = a.size + 1
  · rw [decide_eq_true h1, Bool.true_and]
    rw [h1] at hV' ⊢
    cases h2 : t.all (hrowB b.size)
    · rw [Bool.false_and]
      exact areHeights_rows a b pi po ps ha hb t h1 hr h2 cap ao w hV'
    · rw [Bool.true_and]
      have h2' := List.all_eq_true.1 h2
      have hr2 : ∀ r ∈ t, r.length = b.size + 1 := fun r hm => by
        have := h2' r hm
        unfold hrowB at this
        rw [Bool.and_eq_true] at this
        exact of_decide_eq_true this.1
      by_cases h3 : ht t 0 0 = 0
      · rw [decide_eq_true h3, Bool.true_and]
        obtain ⟨b0, off, rfl, _⟩ := hd (by omega)
        refine areHeights_main a b pi po ps ha hb hpi hpo hps t h1 hr2 (fun r hm x hx => ?_) h3 cap b0 off w hV'
        have := h2' r hm
        unfold hrowB at this
        rw [Bool.and_eq_true] at this
        have := List.all_eq_true.1 this.2 x hx
        unfold numB at this
        rw [Bool.and_eq_true] at this
        exact ⟨of_decide_eq_true this.1, of_decide_eq_true this.2⟩
      · rw [decide_eq_false h3, Bool.false_and]
        exact areHeights_zero a b pi po ps ha hb t h1 hr2 h2 h3 cap ao w hV'
  · rw [decide_eq_false h1, Bool.false_and]
    exact areHeights_len a b pi po ps ha t.length cap hl h1 ao w
end

end Go.Proofs.Ytkpmkeklopfhdaa

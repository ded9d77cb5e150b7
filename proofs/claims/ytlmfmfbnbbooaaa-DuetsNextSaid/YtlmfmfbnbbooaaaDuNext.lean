/-
  Next: a range that appends, in a drawn region, to a list in a box.
-/
import Derived.Test.YtlmfmfbnbbooaaaDuFirst
import Derived.Test.YtlmfmfbnbbooaaaHeldR
import Derived.Deep.AppendLies
namespace Go.Proofs.Ytlmfmfbnbbooaaa
open Go.RowKit Go.Shelf Go.ChangeShapes Go.WideShapes Go.ChangeAt
attribute [local go_sem] Oper.semAt_some
set_option maxRecDepth 100000

section
variable {P : Program} {ops : Array Oper} {md : Region.Mode} {Q : Exit → Act → World → Prop} {S : World → Prop}
/-- Two operations may come up. -/
theorem two_held {i j : Nat} {oi oj : Oper} {fuel : Nat} {listed : Array Bool} {a : Act} {w : World} (hi : ops[i]? = some oi) (hj : ops[j]? = some oj) (hr : Region.ready md ops listed = [i, j]) (hwi : Region.wanted oi (yielded ops a.tmps) = true) (hwj : Region.wanted oj (yielded ops a.tmps) = true)
    (h1 : ∀ K' : Act → World → Prop, Shut (∀ a' w', S w' → (S w' → wpAnyH P md ops Q S fuel (listed.setIfInBounds i true) a' w') → K' a' w') → oi.wp P a w K' Q)
    (h2 : ∀ K' : Act → World → Prop, Shut (∀ a' w', S w' → (S w' → wpAnyH P md ops Q S fuel (listed.setIfInBounds j true) a' w') → K' a' w') → oj.wp P a w K' Q) : wpAnyH P md ops Q S (fuel + 1) listed a w :=
  wpAnyH_all hr (by simp) (fun k hk => by
    have hk : k = i ∨ k = j := by simpa using hk
    rcases hk with rfl | rfl
    · unfold wpOp
      rw [hi]
      simp only [hwi, if_true]
      exact .inl (h1 _ (fun a' w' h1 h2 => ⟨h1, h2 h1⟩))
    · unfold wpOp
      rw [hj]
      simp only [hwj, if_true]
      exact .inl (h2 _ (fun a' w' h1 h2 => ⟨h1, h2 h1⟩)))
end

theorem own_cellsD {W : World} {base g : Nat} {e : TypeId} {size n : Nat} {v : Value} {xs : List Value} (h : W.ownsRow base e size v n xs) (hg : v.ownBlock = some g) : ∃ cur, W.heap[g]? = some (.cells cur e (0, 0)) := by
  rcases h.2 with ⟨rfl, _⟩ | ⟨g', cap, cur, rfl, _, hh, _⟩
  · cases hg
  · simp only [Value.ownBlock, Option.some.injEq] at hg
    subst hg
    exact ⟨cur, hh⟩
theorem own_grownD {W W' : World} {row : Option Nat} {base : Nat} {e : TypeId} {size n : Nat} {v : Value} {xs : List Value} (h : W.ownsRow base e size v n xs) (hg : W.grownBy W' row) (hr : ∀ r, row = some r → ∃ o : Obj, W.heap[r]? = some o ∧ o.isCells = false) : W'.ownsRow base e size v n xs := by
  refine h.kept hg ?_
  cases ho : v.ownBlock with
  | none => exact Or.inl rfl
  | some g =>
    refine Or.inr (fun e => ?_)
    obtain ⟨o, ho2, hc⟩ := hr g e.symm
    obtain ⟨cur, h3⟩ := own_cellsD h ho
    rw [h3] at ho2; cases ho2; cases hc
theorem own_apartD {W W' : World} {row : Option Nat} {base : Nat} {e : TypeId} {size n : Nat} {v : Value} {xs : List Value} (h : W.ownsRow base e size v n xs) (hg : W.grownBy W' row) (hr : ∀ g, v.ownBlock = some g → some g ≠ row) : W'.ownsRow base e size v n xs := by
  refine h.kept hg ?_
  cases ho : v.ownBlock with
  | none => exact Or.inl rfl
  | some g => exact Or.inr (hr g ho)
theorem grow_setD (W : World) (r i : Nat) (u : Value) : W.grownBy (W.setCell ⟨r, i, none⟩ u) (some r) :=
  ⟨rfl, rfl, rfl, by simp [World.setCell], fun k _ hne => Below.heap_setCell W ⟨r, i, none⟩ u k (fun e => hne (by rw [e]))⟩

theorem appendedD {W w1 : World} {n₀ B : Nat} {t e : TypeId} {size : Nat} {v v' : Value} {k m : Nat} {xs ys : List Value} {tmp : Obj}
    (hv : Boxed W B t v) (hte : t ≠ e) (hB : B < n₀) (hrow : W.ownsRow n₀ e size v k xs) (hn : n₀ ≤ W.heap.size) (hown' : w1.ownsRow n₀ e size v' m ys) (hgrow : (W.alloc tmp).grownBy w1 v.ownBlock) :
    Boxed w1 B t v ∧ Boxed (w1.setCell ⟨B, 0, none⟩ v') B t v' ∧ (w1.setCell ⟨B, 0, none⟩ v').ownsRow n₀ e size v' m ys ∧ KeepsOthers W (w1.setCell ⟨B, 0, none⟩ v') ∧
      (∀ i, i < W.heap.size → i ≠ B → some i ≠ v.ownBlock → (w1.setCell ⟨B, 0, none⟩ v').heap[i]? = W.heap[i]?) ∧ Below B W (w1.setCell ⟨B, 0, none⟩ v') := by
  have weak : ∀ {A : World} {u : Value} {j : Nat} {zs : List Value}, A.ownsRow n₀ e size u j zs → A.ownsRow B e size u j zs := by
    intro A u j zs h
    obtain ⟨h0, h | ⟨g, cap, cur, h1, h2, h3⟩⟩ := h
    · exact ⟨h0, Or.inl h⟩
    · exact ⟨h0, Or.inr ⟨g, cap, cur, h1, by omega, h3⟩⟩
  obtain ⟨a1, a2, a3, a4, a5⟩ := hv.appended hte (weak hrow) (by omega) (Nat.le_refl _) (weak hown') hgrow
  refine ⟨a1, a2, hown'.kept (grownBy_setCell' w1 B v') (.inr (a1.not_row hte hown').symm), a4, fun i hi hne hno => ?_, a5⟩
  refine (Below.heap_setCell w1 ⟨B, 0, none⟩ v' i hne).trans ?_
  refine (hgrow.block i (by simp; omega) hno).trans ?_
  exact Below.heap_alloc W tmp i (by omega)

/-- A list in a box, to which each round appends. -/
def NHold (B : Nat) (w : World) (f : DX → Int) (pre : List DX) (Z : Nat → Prop) (V : World) : Prop :=
  (∃ v, Row V B 22 [v] ∧ V.ownsRow (B + 3) 3 1 v pre.length (ivals (pre.map f)) ∧ ∀ g, v.ownBlock = some g → ¬ Z g) ∧ (∀ k, Z k → B + 3 ≤ k) ∧ Below B w V ∧ B + 3 ≤ V.heap.size
theorem NHold.sep {B : Nat} {w : World} {f : DX → Int} (hB : B ≤ w.heap.size) : SepO (B + 3) (NHold B w f) :=
  { grow := fun s Z W W' row ⟨⟨v, h1, h6, h7⟩, h3, h4, h5⟩ hg hr => ⟨⟨v, h1.kept hg (fun r e => (hr r e).2), own_grownD h6 hg (fun r e => (hr r e).2), h7⟩, h3, h4.grown hg (by omega) (fun k e => by have := (hr k e).1; omega), Nat.le_trans h5 hg.size⟩
    priv := fun s Z W r i u ⟨⟨v, h1, h6, h7⟩, h3, h4, h5⟩ hz => by
      have h8 := h3 r hz
      exact ⟨⟨v, h1.other (by omega) u, own_apartD h6 (grow_setD W r i u) (fun g hg e => by cases e; exact h7 _ hg hz), h7⟩, h3, h4.setCell (p := ⟨r, i, none⟩) (show B ≤ r by omega) u, by simpa [World.setCell] using h5⟩
    take := fun s Z W o ⟨⟨v, h1, h6, h7⟩, h3, h4, h5⟩ => ⟨⟨v, h1.alloc o, h6.alloc o, fun g hg hk => by
      rcases hk with hk | e
      · exact h7 g hg hk
      · have := (h6.lt _ hg).2; omega⟩, fun k hk => by
      rcases hk with hk | rfl
      · exact h3 k hk
      · exact h5, h4.alloc (by omega) o, by rw [World.size_alloc]; omega⟩
    draw := fun s Z W ⟨⟨v, h1, h6, h7⟩, h3, h4, h5⟩ => ⟨⟨v, h1, h6, h7⟩, h3, h4.drew, h5⟩
    own := fun s Z W W' row N ⟨⟨v, h1, h6, h7⟩, h3, h4, h5⟩ hg hr hN => by
      have h8 : ∀ r, row = some r → B + 3 ≤ r := fun r e => h3 r (hr r e)
      refine ⟨⟨v, h1.loneD hg (fun r e => by have := h8 r e; omega), own_apartD h6 hg (fun g hg2 e => h7 g hg2 (hr g e.symm)), fun g hg2 hk => ?_⟩, fun k hk => ?_, h4.grown hg (by omega) (fun k e => by have := h8 k e; omega), Nat.le_trans h5 hg.size⟩
      · rcases hk with hk | ⟨hk, _⟩
        · exact h7 g hg2 hk
        · have h9 := hN g hk
          have := (h6.lt _ hg2).2
          omega
      · rcases hk with hk | ⟨hk, _⟩
        · exact h3 k hk
        · have := hN k hk; omega }

set_option maxHeartbeats 4000000 in
theorem Next_ok (gs bs : List Int) (g b : Value) (w : World) (hp : dpartB gs = true) (hbn : notesB bs = true) (hlt : bs.length < gs.length) (hk : keptB gs bs = true) (h : IntsV w g gs) (k : IntsV w b bs) :
    Calls Try.prog 52 #[g, b] w fun e w' => ∃ v', e = .returned (.tuple #[v', .int .i64 0]) ∧ IntsV w' v' ((nextL gs bs).map fun (x : Nat) => (x : Int)) ∧ Below w.heap.size w w' := by
  have g1 := dpart_len hp
  obtain ⟨W1, hW1⟩ : ∃ W1, w.alloc (.cells #[b] 22) = W1 := ⟨_, rfl⟩
  have b1 : Below w.heap.size w W1 := by rw [← hW1]; exact (Below.refl _ w).alloc (Nat.le_refl _) _
  obtain ⟨H, hH⟩ : ∃ H, w.heap.size = H := ⟨_, rfl⟩
  have hs1 : W1.heap.size = H + 1 := by rw [← hW1, World.size_alloc, hH]
  have r0 : Row W1 H 22 [b] := by rw [← hW1, ← hH]; exact Row.new w _ _
  have h1 := h.later b1
  have k1 := k.later b1
  have HV := Lib.hid (isPart_any gs g W1 (by unfold maxLen; omega) h1)
  rw [hp] at HV
  have HN := Lib.hid (areNotes_any bs b W1 (by unfold maxLen; omega) k1)
  rw [hbn] at HN
  have HK := Lib.hid (keepsRules_any gs bs g b W1 g1.2.1 g1.2.2 hbn (by omega) h1 k1)
  rw [hk] at HK
  have hlow := ints_low h (by omega)
  have H1 := Lib.hid h1
  have K1 := Lib.hid k1
  obtain ⟨ga, gc, rfl, -⟩ := h
  obtain ⟨ba, bc, rfl, -⟩ := k
  have HW1 := Lib.hid hW1
  have HR0 := Lib.hid r0
  have c0 := r0.cell 0
  have HB1 := Lib.hid b1
  have HLow := Lib.hid hlow
  have HH := Lib.hid hH
  have g8 := g1.2.1
  have gn := g1.2.2
  have hge : decide ((gs.length : Int) ≤ (bs.length : Int)) = false := decide_eq_false (by omega)
  clear hW1 r0 b1 hlow hp hk h1 k1 g1
  refine (callsIn_wide (n := 9)).1 ?_
  refine callsIn_of_wp_marks Try.func52 rfl trivial ?_ rfl
  simp only [Try.ntmps52, List.size_toArray, List.length_cons, List.length_nil, Nat.reduceAdd, Nat.reduceSub, Array.replicate_succ, Array.replicate_zero, List.push_toArray, List.append_toArray, List.nil_append, List.cons_append]
  gi_wp2_with fail
  refine ⟨trivial, ?_⟩
  rw [HW1.out]
  refine (callsIn_wide.2 HV.out).mono ?_
  rintro e w2 ⟨rfl, rfl⟩
  gi_wp2_with fail
  refine ⟨trivial, ?_⟩
  refine (callsIn_wide.2 HN.out).mono ?_
  rintro e w2 ⟨rfl, rfl⟩
  gi_wp2_with fail
  refine ⟨trivial, ?_⟩
  refine (callsIn_wide.2 HK.out).mono ?_
  rintro e W2 ⟨rfl, b2⟩
  have c0 := cell_later b2 c0
  obtain ⟨B, hB⟩ : ∃ B, W2.heap.size = B := ⟨_, rfl⟩
  have hHB : H + 1 ≤ B := by have := b2.size; omega
  have hs3 : (W2.alloc (.cells #[.slice none 0 0] 22)).heap.size = B + 1 := by rw [World.size_alloc, hB]
  have c3 := cell_later ((Below.refl _ W2).alloc (Nat.le_refl _) (.cells #[.slice none 0 0] 22)) c0
  have r3 : Row (W2.alloc (.cells #[.slice none 0 0] 22)) B 22 [.slice none 0 0] := by rw [← hB]; exact Row.new W2 _ _
  have HI := longer_any ga ba gs.length gc bs.length bc (W2.alloc (.cells #[.slice none 0 0] 22))
  rw [hs3] at HI
  obtain ⟨W0, hW0⟩ : ∃ W0, ((W2.alloc (.cells #[.slice none 0 0] 22)).alloc (.cells #[.slice ga gs.length gc] 22)).alloc (.cells #[.slice ba bs.length bc] 22) = W0 := ⟨_, rfl⟩
  have b20 : Below W2.heap.size W2 W0 := by rw [← hW0]; exact (((Below.refl _ W2).alloc (Nat.le_refl _) _).alloc (by simp) _).alloc (by simp; omega) _
  have hs0 : W0.heap.size = B + 3 := by rw [← hW0, World.size_alloc, World.size_alloc, hs3]
  have r0 : Row W0 B 22 [.slice none 0 0] := by rw [← hW0]; exact (r3.alloc _).alloc _
  have c1 : W0.cell? ⟨B + 1, 0, none⟩ = some (.slice ga gs.length gc) := by
    have := Row.new (W2.alloc (.cells #[.slice none 0 0] 22)) 22 [.slice ga gs.length gc]
    rw [hs3] at this
    rw [← hW0]; exact (this.alloc _).cell 0
  have c2 : W0.cell? ⟨B + 1 + 1, 0, none⟩ = some (.slice ba bs.length bc) := by
    have := Row.new ((W2.alloc (.cells #[.slice none 0 0] 22)).alloc (.cells #[.slice ga gs.length gc] 22)) 22 [.slice ba bs.length bc]
    rw [World.size_alloc, hs3] at this
    rw [← hW0]; exact this.cell 0
  have HI := Lib.hid HI
  have HB20 := Lib.hid b20
  have HB12 := Lib.hid b2
  have HRB := Lib.hid r0
  have HC1 := Lib.hid c1
  have HC2 := Lib.hid c2
  have HC0 := Lib.hid c0
  have HBB := Lib.hid hB
  clear b2 b20 r0 r3 c1 c2
  gi_wp2_with fail
  refine ⟨trivial, ?_⟩
  refine (callsIn_wide.2 HI.out).mono ?_
  rintro e W9 ⟨rfl, rfl⟩
  rw [hW0]
  clear hW0 c3 hs3 c0
  gi_wp2_with fail
  have hlW : ∀ a m c, (Value.slice ga gs.length gc) = .slice (some a) m c → a.block < B := fun a m c e => by have := HLow.out a m c e; have := HH.out; omega
  have hGI := (H1.out.later HB12.out).later HB20.out
  have hBI := (K1.out.later HB12.out).later HB20.out
  have hSS : ∀ k, (k < B ∨ k = B + 1) → k < W0.heap.size := fun k h => by omega
  have hmx : Try.prog.follows .mixedOrders = true := by kernel_rfl
  obtain ⟨i0, hi, hz0, hz1, hz2⟩ := info_partsD info_intD
  refine wpIn_rangeFunc_sepX (α := DX) (by omega) (gf := 121) (lb := #[.pointer (some ⟨B + 1 + 1, 0, none⟩), .pointer (some ⟨B + 1, 0, none⟩)]) rfl longer_enters
    (longer1_seq gs bs (B + 1) (B + 1 + 1) (fun k => k < B ∨ k = B + 1) (fun m => ∃ k : Nat, m = bs ++ [(k : Int)]) _ _ W0 g8 hlt gn hbn hGI hBI HC1.out HC2.out (.inr rfl) (fun a m c e => .inl (hlW a m c e)) hSS (fun x _ => ⟨x, rfl⟩)) VDP_put keptOn_t (keptOn_b hSS) (Below.refl _ _) (fun _ => rfl)
    (NHold B W2 (fun x => nAt x.1 bs.length)) (fun _ _ _ _ => False) (by rw [hs0]; exact NHold.sep (by omega)) (fun _ => noneSep)
    ⟨⟨_, HRB.out, World.ownsRow_nil _ _ _ _, fun g h => by cases h⟩, fun k h => h.elim, by rw [← HBB.out]; exact HB20.out, by omega⟩
    (fun x => { tmps := #[.slice ga gs.length gc, .slice ba bs.length bc, undef, .pointer (some ⟨H, 0, none⟩), .slice none 0 0, .int .i64 0, .pointer (some ⟨B, 0, none⟩), x.2, .slice ga gs.length gc, .bool true, .bool false, .bool false, .slice ba bs.length bc, .bool true, .bool false, .bool false, .bool false, .slice ba bs.length bc, .int .i64 bs.length, .slice ga gs.length gc, .int .i64 gs.length, .bool false, .bool false, .slice ga gs.length gc, .slice ba bs.length bc, .bool true, .bool false, .slice ga gs.length gc, .slice ba bs.length bc, .func (.func 121) #[] #[.pointer (some ⟨B + 1 + 1, 0, none⟩), .pointer (some ⟨B + 1, 0, none⟩)], x.2, undef, undef, undef, undef, undef, undef, undef, undef, undef], defers := [] }) ?assign ?body ?done ?stop
  case assign =>
    intro l x W K hK
    simp only [encD]
    gi_wp2
    simpa using hK
  case body =>
    rintro l pre ⟨xl, xv⟩ Z V hl hrec ⟨⟨v, r1, ho, hnz⟩, hz, hbe, hsz⟩ ⟨hV, hVz, ⟨kx, hP⟩⟩ hZb hlen
    dsimp only at hV hVz hP ⊢
    have hxl : xl.length = bs.length + 1 := by rw [hP, List.length_append]; rfl
    obtain ⟨xa, xo, xc, rfl, hxd⟩ := d_cells hV (by omega)
    have hZx := hVz ⟨xa, xo, none⟩ _ _ rfl
    dsimp only at hZx
    have s1 := hxd bs.length (by omega)
    have s0 : V.cell? ⟨H, 0, none⟩ = some (.slice ba bs.length bc) := (hbe.cell (p := ⟨H, 0, none⟩) (show H < B by omega)).trans HC0.out
    have c1 := r1.cell 0
    have f1 := r1.frozen 0
    rw [hxl]
    generalize hxe : nAt xl bs.length = xe at s1
    have R1 := Lib.hid r1
    have HO := Lib.hid ho
    have HNz := Lib.hid hnz
    have HZ := Lib.hid (And.intro hz hZb)
    have HBe := Lib.hid hbe
    have HXe := Lib.hid hxe
    have HSame := Lib.hid (fun (W' : World) (h1 : W'.heap[H]? = V.heap[H]?) (h2 : W'.heap[xa]? = V.heap[xa]?) => show W'.cell? ⟨H, 0, none⟩ = some (.slice ba bs.length bc) ∧ W'.cell? ⟨xa, xo + bs.length, none⟩ = some (.int .i64 xe) from ⟨(cell_same h1 _).trans s0, (cell_same h2 _).trans s1⟩)
    have HAl := Lib.hid (fun (p : Addr) (u : Value) (h : V.drew.cell? p = some u) => cell_later ((Below.refl _ V.drew).alloc (Nat.le_refl _) (.cells #[.int .i64 xe] 3)) h)
    have hlen21 : pre.length < 21 := hlen
    clear hV hVz hP hxl hxd r1 ho hnz hz hZb hbe hxe
    gi_wp2
    refine region_heldR (fun w' => w'.cell? ⟨H, 0, none⟩ = some (.slice ba bs.length bc) ∧ w'.cell? ⟨xa, xo + bs.length, none⟩ = some (.int .i64 xe)) hmx (by kernel_rfl) ⟨s0, s1⟩ (fun hS => ?_)
    refine take_held (i := 1) (v := .slice (some ⟨xa, xo, none⟩) (bs.length + 1) xc) rfl (by kernel_rfl) (by kernel_rfl) (by kernel_rfl) (fun _ _ _ h => h) (by rfl) (by rintro W2 ⟨q0, q1⟩; go_simp) hS ?_
    simp only [Act.put, List.setIfInBounds_toArray, List.set_cons_zero, List.set_cons_succ]
    refine take_held (i := 2) (v := .slice ba bs.length bc) rfl (by kernel_rfl) (by kernel_rfl) (by kernel_rfl) (fun _ _ _ h => h) (by rfl) (by rintro W2 ⟨q0, q1⟩; go_simp) hS ?_
    simp only [Act.put, List.setIfInBounds_toArray, List.set_cons_zero, List.set_cons_succ]
    refine take_held (i := 3) (v := .int .i64 bs.length) rfl (by kernel_rfl) (by kernel_rfl) (by kernel_rfl) (fun _ _ _ h => h) (by rfl) (by rintro W2 ⟨q0, q1⟩; go_simp) hS ?_
    simp only [Act.put, List.setIfInBounds_toArray, List.set_cons_zero, List.set_cons_succ]
    refine take_held (i := 4) (v := .pointer (some ⟨xa, xo + bs.length, none⟩)) rfl (by kernel_rfl) (by kernel_rfl) (by kernel_rfl) (fun _ _ _ h => h) (by rfl) (by rintro W2 ⟨q0, q1⟩; go_simp; try (intro hh; exfalso; omega)) hS ?_
    simp only [Act.put, List.setIfInBounds_toArray, List.set_cons_zero, List.set_cons_succ]
    refine take_held (i := 5) (v := .int .i64 xe) rfl (by kernel_rfl) (by kernel_rfl) (by kernel_rfl) (fun _ _ _ h => h) (by rfl) (by rintro W2 ⟨q0, q1⟩; go_simp) hS ?_
    simp only [Act.put, List.setIfInBounds_toArray, List.set_cons_zero, List.set_cons_succ]
    refine two_held (i := 0) (j := 6) rfl rfl (by kernel_rfl) (by rfl) (by rfl) (fun K' hK => ?_) (fun K' hK => ?_)
    · go_simp
      refine hK.out _ _ hS (fun hS => ?_)
      clear hK K'
      try simp only [Act.put, List.setIfInBounds_toArray, List.set_cons_zero, List.set_cons_succ]
      refine step_held (i := 6) rfl (by kernel_rfl) (by rfl) (fun K' hK => ?_)
      go_simp
      refine hK.out _ _ ⟨HAl.out _ _ hS.1, HAl.out _ _ hS.2⟩ (fun hS => ?_)
      clear hK K'
      try simp only [Act.put, List.setIfInBounds_toArray, List.set_cons_zero, List.set_cons_succ]
      refine step_held (i := 7) rfl (by kernel_rfl) (by rfl) (fun K' hK => ?_)
      refine wp_append_lies _ _ _ 22 (by rfl) (B + 3) 3 i0 (.int .i64 0) 1 8 Try.underlying22 hi hz0 hz1 hz2 rfl (by decide) _ _ _ (by rfl) ((HO.out.alloc _).drew) ⟨V.heap.size, 0, none⟩ 1 1 [.int .i64 xe] (by rfl) rfl (fun j u h => cell_one_new V _ _ j u h) (by simp [Value.oneCell']) (by decide) (by unfold maxLen; omega) (by omega) (by simp; omega) (V.heap.size + 1) (by simp) ?_
      intro g2 cap2 w2 hown1 hgrow1 hat hlt1
      obtain ⟨hv1, hv2, hr2, hk2, hblk, hb2⟩ := appendedD (W := V.drew) (B := B) R1.out.box (by decide) (by omega) HO.out.drew hsz hown1 hgrow1
      have hnH : some H ≠ v.ownBlock := fun e => by have := (HO.out.lt H e.symm).1; omega
      have hnX : some xa ≠ v.ownBlock := fun e => HNz.out xa e.symm hZx
      have hgb : ∀ k, k < V.heap.size → some k ≠ v.ownBlock → w2.heap[k]? = V.heap[k]? := fun k hk hne => (hgrow1.block k (by simp; omega) hne).trans (Below.heap_alloc V.drew _ k (by simpa using hk))
      refine hK.out _ _ (HSame.out _ (hgb H (by omega) hnH) (hgb xa (HZ.out.2 xa hZx).2 hnX)) (fun hS => ?_)
      clear hK K'
      try simp only [Act.put, List.setIfInBounds_toArray, List.set_cons_zero, List.set_cons_succ]
      refine step_held (i := 8) rfl (by kernel_rfl) (by rfl) (fun K' hK => ?_)
      have c9 := hv1.cell
      have f9 := hv1.frozen
      go_simp
      refine hK.out _ _ (HSame.out _ (hblk H (by simp; omega) (by omega) hnH) (hblk xa (by simpa using (HZ.out.2 xa hZx).2) (by have := HZ.out.1 xa hZx; omega) hnX)) (fun hS => ?_)
      clear hK K'
      refine wpAnyH_done (by kernel_rfl) ?_ _
      dsimp only [OnlyN, Exit.then]
      have hsz2 : V.heap.size ≤ (w2.setCell ⟨B, 0, none⟩ (.slice (some ⟨g2, 0, none⟩) (pre.length + 1) cap2)).heap.size := hb2.size
      refine ⟨(show KeepsOthers V _ from ⟨hk2.1, hk2.2⟩).from _, ⟨hsz2, fun k hk => hblk k (by simpa using (HZ.out.2 k hk).2) (by have := HZ.out.1 k hk; omega) (fun e => HNz.out k e.symm hk)⟩, ⟨hsz2, fun k hk => hblk k (by rcases hk with h | h <;> (simp; omega)) (by rcases hk with h | h <;> omega) (fun e => by have := (HO.out.lt k e.symm).1; rcases hk with h | h <;> omega)⟩, ⟨⟨_, Row.ofBox hv2, ?_, fun g3 hg3 hZ3 => ?_⟩, HZ.out.1, HBe.out.trans (((Below.refl B V).drew).trans hb2), by omega⟩⟩
      · rw [List.length_append, List.map_append]
        unfold ivals at hr2 ⊢
        rw [List.map_append]
        simpa [HXe.out] using hr2
      · simp only [Value.ownBlock, Option.some.injEq] at hg3
        subst hg3
        rcases hat with h | h
        · exact HNz.out _ h hZ3
        · have := (HZ.out.2 _ hZ3).2; omega
    · go_simp
      refine hK.out _ _ ⟨HAl.out _ _ hS.1, HAl.out _ _ hS.2⟩ (fun hS => ?_)
      clear hK K'
      try simp only [Act.put, List.setIfInBounds_toArray, List.set_cons_zero, List.set_cons_succ]
      have c8 := cell_later ((Below.refl _ V).alloc (Nat.le_refl _) (.cells #[.int .i64 xe] 3)) c1
      refine step_held (i := 0) rfl (by kernel_rfl) (by rfl) (fun K' hK => ?_)
      go_simp
      refine hK.out _ _ hS (fun hS => ?_)
      clear hK K'
      try simp only [Act.put, List.setIfInBounds_toArray, List.set_cons_zero, List.set_cons_succ]
      refine step_held (i := 7) rfl (by kernel_rfl) (by rfl) (fun K' hK => ?_)
      refine wp_append_lies _ _ _ 22 (by rfl) (B + 3) 3 i0 (.int .i64 0) 1 8 Try.underlying22 hi hz0 hz1 hz2 rfl (by decide) _ _ _ (by rfl) ((HO.out.alloc _).drew) ⟨V.heap.size, 0, none⟩ 1 1 [.int .i64 xe] (by rfl) rfl (fun j u h => cell_one_new V _ _ j u h) (by simp [Value.oneCell']) (by decide) (by unfold maxLen; omega) (by omega) (by simp; omega) (V.heap.size + 1) (by simp) ?_
      intro g2 cap2 w2 hown1 hgrow1 hat hlt1
      obtain ⟨hv1, hv2, hr2, hk2, hblk, hb2⟩ := appendedD (W := V.drew) (B := B) R1.out.box (by decide) (by omega) HO.out.drew hsz hown1 hgrow1
      have hnH : some H ≠ v.ownBlock := fun e => by have := (HO.out.lt H e.symm).1; omega
      have hnX : some xa ≠ v.ownBlock := fun e => HNz.out xa e.symm hZx
      have hgb : ∀ k, k < V.heap.size → some k ≠ v.ownBlock → w2.heap[k]? = V.heap[k]? := fun k hk hne => (hgrow1.block k (by simp; omega) hne).trans (Below.heap_alloc V.drew _ k (by simpa using hk))
      refine hK.out _ _ (HSame.out _ (hgb H (by omega) hnH) (hgb xa (HZ.out.2 xa hZx).2 hnX)) (fun hS => ?_)
      clear hK K'
      try simp only [Act.put, List.setIfInBounds_toArray, List.set_cons_zero, List.set_cons_succ]
      refine step_held (i := 8) rfl (by kernel_rfl) (by rfl) (fun K' hK => ?_)
      have c9 := hv1.cell
      have f9 := hv1.frozen
      go_simp
      refine hK.out _ _ (HSame.out _ (hblk H (by simp; omega) (by omega) hnH) (hblk xa (by simpa using (HZ.out.2 xa hZx).2) (by have := HZ.out.1 xa hZx; omega) hnX)) (fun hS => ?_)
      clear hK K'
      refine wpAnyH_done (by kernel_rfl) ?_ _
      dsimp only [OnlyN, Exit.then]
      have hsz2 : V.heap.size ≤ (w2.setCell ⟨B, 0, none⟩ (.slice (some ⟨g2, 0, none⟩) (pre.length + 1) cap2)).heap.size := hb2.size
      refine ⟨(show KeepsOthers V _ from ⟨hk2.1, hk2.2⟩).from _, ⟨hsz2, fun k hk => hblk k (by simpa using (HZ.out.2 k hk).2) (by have := HZ.out.1 k hk; omega) (fun e => HNz.out k e.symm hk)⟩, ⟨hsz2, fun k hk => hblk k (by rcases hk with h | h <;> (simp; omega)) (by rcases hk with h | h <;> omega) (fun e => by have := (HO.out.lt k e.symm).1; rcases hk with h | h <;> omega)⟩, ⟨⟨_, Row.ofBox hv2, ?_, fun g3 hg3 hZ3 => ?_⟩, HZ.out.1, HBe.out.trans (((Below.refl B V).drew).trans hb2), by omega⟩⟩
      · rw [List.length_append, List.map_append]
        unfold ivals at hr2 ⊢
        rw [List.map_append]
        simpa [HXe.out] using hr2
      · simp only [Value.ownBlock, Option.some.injEq] at hg3
        subst hg3
        rcases hat with h | h
        · exact HNz.out _ h hZ3
        · have := (HZ.out.2 _ hZ3).2; omega
  case done =>
    rintro D xs Z W hD hS ⟨⟨v, r1, ho, hnz⟩, hz, hbe, hsz⟩ hK
    have c9 := r1.cell 0
    have HX := Lib.hid (show xs.map (fun x => nAt x.1 bs.length) = (nextL gs bs).map fun (x : Nat) => (x : Int) by
      have e1 : xs.map (fun x => nAt x.1 bs.length) = (xs.map Prod.fst).map fun l => nAt l bs.length := by rw [List.map_map]; rfl
      rw [e1, hS, longL_next, List.map_map]
      refine List.map_congr_left fun x _ => ?_
      simp only [Function.comp_apply]
      unfold nAt
      rw [List.getElem?_append_right (Nat.le_refl _), Nat.sub_self]
      rfl)
    have HO := Lib.hid ho
    have HBe := Lib.hid hbe
    clear r1 ho hnz hz hbe hS
    gi_wp2
    refine ⟨by simp, .inl ⟨_, _, rfl, run_takeDeferred hK, ?_⟩⟩
    have O' := own_grownD HO.out (grownBy_putObj' W D (.deferred none)) (fun r e => by cases e; exact ⟨_, hK, rfl⟩)
    refine ⟨.tuple #[v, .int .i64 0], by simp [results, Try.f52, go_sem], v, rfl, ?_, ?_⟩
    · rw [← HX.out]
      exact IntsV.of_own (by rw [List.length_map]; exact O')
    · have hBW : Below B W2 (W.putObj D (.deferred none)) := HBe.out.trans (belowK_b (w := W0) (by omega) W D _ _ (by omega) hK rfl rfl)
      have hB2 : Below w.heap.size w W2 := HB1.out.trans (HB12.out.mono HB1.out.size)
      refine hB2.trans (hBW.mono ?_)
      have := HH.out
      omega
  case stop =>
    rintro D c pre' Z' V hD _ h _
    exact h.elim

theorem Next_none (gs bs : List Int) (g b : Value) (w : World) (hp : dpartB gs = true) (hbn : notesB bs = true) (hlt : bs.length < gs.length) (hk : keptB gs bs = false) (h : IntsV w g gs) (k : IntsV w b bs) :
    Calls Try.prog 52 #[g, b] w fun e w' => e = .returned (.tuple #[.slice none 0 0, .int .i64 0]) ∧ Below w.heap.size w w' := by
  have g1 := dpart_len hp
  obtain ⟨W1, hW1⟩ : ∃ W1, w.alloc (.cells #[b] 22) = W1 := ⟨_, rfl⟩
  have b1 : Below w.heap.size w W1 := by rw [← hW1]; exact (Below.refl _ w).alloc (Nat.le_refl _) _
  have r0 : Row W1 w.heap.size 22 [b] := by rw [← hW1]; exact Row.new w _ _
  have h1 := h.later b1
  have k1 := k.later b1
  have HV := Lib.hid (isPart_any gs g W1 (by unfold maxLen; omega) h1)
  rw [hp] at HV
  have HN := Lib.hid (areNotes_any bs b W1 (by unfold maxLen; omega) k1)
  rw [hbn] at HN
  have HK := Lib.hid (keepsRules_any gs bs g b W1 g1.2.1 g1.2.2 hbn (by omega) h1 k1)
  rw [hk] at HK
  obtain ⟨ga, gc, rfl, -⟩ := h
  obtain ⟨ba, bc, rfl, -⟩ := k
  have HW1 := Lib.hid hW1
  have c0 := r0.cell 0
  have HB1 := Lib.hid b1
  have hge : decide ((gs.length : Int) ≤ (bs.length : Int)) = false := decide_eq_false (by omega)
  clear hW1 r0 b1 hp hk h1 k1 g1
  go_enter Try.func52, Try.ntmps52
  go_wp2_with fail
  rw [HW1.out]
  refine HV.out.mono ?_
  rintro e w2 ⟨rfl, rfl⟩
  go_wp2_with fail
  refine HN.out.mono ?_
  rintro e w2 ⟨rfl, rfl⟩
  go_wp2_with fail
  refine HK.out.mono ?_
  rintro e W2 ⟨rfl, b2⟩
  have HB2 := Lib.hid (below_nx HB1.out b2)
  clear b2
  go_wp2
  go_ret2
  exact ⟨rfl, HB2.out⟩

set_option maxHeartbeats 1000000 in
theorem Next_bad (gs bs : List Int) (g b : Value) (w : World) (hl : gs.length ≤ maxLen) (hm : bs.length ≤ maxLen) (hx : dpartB gs = false ∨ notesB bs = false ∨ gs.length ≤ bs.length) (h : IntsV w g gs) (k : IntsV w b bs) :
    Calls Try.prog 52 #[g, b] w fun e w' => e = .returned (.tuple #[.slice none 0 0, .int .i64 2]) ∧ Below w.heap.size w w' := by
  obtain ⟨W1, hW1⟩ : ∃ W1, w.alloc (.cells #[b] 22) = W1 := ⟨_, rfl⟩
  have b1 : Below w.heap.size w W1 := by rw [← hW1]; exact (Below.refl _ w).alloc (Nat.le_refl _) _
  have r0 : Row W1 w.heap.size 22 [b] := by rw [← hW1]; exact Row.new w _ _
  have HV := Lib.hid (isPart_any gs g W1 hl (h.later b1))
  have HN := Lib.hid (areNotes_any bs b W1 hm (k.later b1))
  obtain ⟨ga, gc, rfl, -⟩ := h
  obtain ⟨ba, bc, rfl, -⟩ := k
  have HW1 := Lib.hid hW1
  have c0 := r0.cell 0
  have HB1 := Lib.hid b1
  clear hW1 r0 b1
  cases hp : dpartB gs
  · rw [hp] at HV
    clear hx hp
    go_enter Try.func52, Try.ntmps52
    go_wp2_with fail
    rw [HW1.out]
    refine HV.out.mono ?_
    rintro e w2 ⟨rfl, rfl⟩
    go_wp2
    go_ret2
    exact ⟨rfl, HB1.out⟩
  · rw [hp] at HV
    cases hbn : notesB bs
    · rw [hbn] at HN
      clear hx hp hbn
      go_enter Try.func52, Try.ntmps52
      go_wp2_with fail
      rw [HW1.out]
      refine HV.out.mono ?_
      rintro e w2 ⟨rfl, rfl⟩
      go_wp2_with fail
      refine HN.out.mono ?_
      rintro e w2 ⟨rfl, rfl⟩
      go_wp2
      go_ret2
      exact ⟨rfl, HB1.out⟩
    · rw [hbn] at HN
      have hle : gs.length ≤ bs.length := by
        rcases hx with h | h | h
        · rw [hp] at h; cases h
        · rw [hbn] at h; cases h
        · exact h
      have hge : decide ((gs.length : Int) ≤ (bs.length : Int)) = true := decide_eq_true (by omega)
      clear hx hp hbn
      go_enter Try.func52, Try.ntmps52
      go_wp2_with fail
      rw [HW1.out]
      refine HV.out.mono ?_
      rintro e w2 ⟨rfl, rfl⟩
      go_wp2_with fail
      refine HN.out.mono ?_
      rintro e w2 ⟨rfl, rfl⟩
      go_wp2
      go_ret2
      exact ⟨rfl, HB1.out⟩
end Go.Proofs.Ytlmfmfbnbbooaaa

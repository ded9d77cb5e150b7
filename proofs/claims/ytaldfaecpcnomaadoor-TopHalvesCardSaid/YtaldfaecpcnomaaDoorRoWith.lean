/-
  With: the forms that go together with a row.
-/
import Derived.Test.YtaldfaecpcnomaaDoorRoWay
import Derived.Test.YtaldfaecpcnomaaDoorRoConcat
import Derived.Test.YtaldfaecpcnomaaDoorHeldR
import Derived.Maps.OwnIn
namespace Go.Proofs.YtaldfaecpcnomaaDoor
open Go.ChangeShapes Go.WideShapes Go.ChangeAt Go.RowKit Go.Shelf
attribute [local go_sem] Oper.semAt_some
set_option maxRecDepth 100000

/-- The tones of both first halves. -/
def bothL (n : Nat) (ys : List Nat) (k m : Nat) : List Int := (natI ys).take (n / 2) ++ (natI (formL n k m ys)).take (n / 2)
def goesB (n : Nat) (ys : List Nat) (p : Nat × Nat) : Bool := partB n (bothL n ys p.1 p.2)
def withN (n : Nat) (ys : List Nat) (l : List (Nat × Nat)) : List (Nat × Nat) := l.filter (goesB n ys)
def withL (n : Nat) (ys : List Nat) : List (Nat × Nat) := withN n ys (namesL n (4 * n))
def pairsV (l : List (Nat × Nat)) : List Value := l.flatMap fun p => [.int .i64 (p.1 : Int), .int .i64 (p.2 : Int)]
theorem pairsV_snoc (l : List (Nat × Nat)) (p : Nat × Nat) : pairsV (l ++ [p]) = pairsV l ++ [.int .i64 (p.1 : Int), .int .i64 (p.2 : Int)] := by
  simp [pairsV, List.flatMap_append]
theorem pairsV_length (l : List (Nat × Nat)) : (pairsV l).length = l.length * 2 := by
  induction l with
  | nil => rfl
  | cons p l ih => simp [pairsV] at ih ⊢; omega

/-- What holds between the rounds. -/
def WithI (n : Nat) (ys : List Nat) (rv : Value) (H : Nat) (w : World) (pre : List FX) (Z : Nat → Prop) (W : World) : Prop :=
  (∃ v, Boxed W (H + 2) 24 v ∧ W.ownsRow (H + 5) 38 2 v (withN n ys (pre.map nm)).length (pairsV (withN n ys (pre.map nm))) ∧ ∀ k, Z k → some k ≠ v.ownBlock) ∧
  (Row W H 22 [rv] ∧ Row W (H + 1) 3 [.int .i64 n]) ∧ (∀ k, Z k → H + 5 ≤ k) ∧ Below H w W ∧ H + 5 ≤ W.heap.size

theorem ownCells {W : World} {base g : Nat} {e : TypeId} {size n : Nat} {v : Value} {xs : List Value} (h : W.ownsRow base e size v n xs) (hg : v.ownBlock = some g) : ∃ cur, W.heap[g]? = some (.cells cur e (0, 0)) := by
  rcases h.2 with ⟨rfl, _⟩ | ⟨g', cap, cur, rfl, _, hh, _⟩
  · cases hg
  · simp only [Value.ownBlock, Option.some.injEq] at hg
    subst hg
    exact ⟨cur, hh⟩

theorem WithI.sep {n : Nat} {ys : List Nat} {rv : Value} {H B : Nat} {w : World} (hH : H = w.heap.size) (hB : H + 5 ≤ B) : Sep B (WithI n ys rv H w) :=
  { grow := fun s Z W W' row ⟨⟨v, hv, hr, hz⟩, ⟨h1, h2⟩, h3, h4, h5⟩ hg hrow => by
      refine ⟨⟨v, hv.kept hg (fun e => by have := (hrow _ e.symm).1; omega), hr.kept hg ?_, hz⟩, ⟨h1.kept hg (fun r e => (hrow r e).2), h2.kept hg (fun r e => (hrow r e).2)⟩, h3, h4.grown hg (by omega) (fun k e => by have := (hrow k e).1; omega), Nat.le_trans h5 hg.size⟩
      cases ho : v.ownBlock with
      | none => exact Or.inl rfl
      | some g => exact Or.inr (fun e => by
          obtain ⟨o, ho2, hc⟩ := (hrow g e.symm).2
          obtain ⟨cur, h3⟩ := ownCells hr ho
          rw [h3] at ho2; cases ho2; cases hc)
    priv := fun s Z W r i u ⟨⟨v, hv, hr, hz⟩, ⟨h1, h2⟩, h3, h4, h5⟩ hzr => by
      have h6 := h3 r hzr
      have z2 := hz r hzr
      have hg : W.grownBy (W.setCell ⟨r, i, none⟩ u) (some r) := ⟨rfl, rfl, rfl, by simp [World.setCell], fun k _ hne => Below.heap_setCell W ⟨r, i, none⟩ u k (fun e => hne (by rw [e]))⟩
      refine ⟨⟨v, hv.kept hg (fun e => by cases e; omega), hr.kept hg ?_, hz⟩, ⟨h1.other (by omega) u, h2.other (by omega) u⟩, h3, h4.setCell (p := ⟨r, i, none⟩) (show H ≤ r by omega) u, by simpa [World.setCell] using h5⟩
      cases ho : v.ownBlock with
      | none => exact Or.inl rfl
      | some g => exact Or.inr (fun e => by rw [ho] at z2; exact z2 e.symm)
    take := fun s Z W o ⟨⟨v, hv, hr, hz⟩, ⟨h1, h2⟩, h3, h4, h5⟩ => by
      refine ⟨⟨v, hv.alloc o, hr.alloc o, fun k hk => ?_⟩, ⟨h1.alloc o, h2.alloc o⟩, fun k hk => ?_, h4.alloc (by omega) o, by rw [World.size_alloc]; omega⟩
      · rcases hk with hk | rfl
        · exact hz k hk
        · intro e
          have := (hr.lt _ e.symm).2
          omega
      · rcases hk with hk | rfl
        · exact h3 k hk
        · exact h5
    draw := fun s Z W ⟨⟨v, hv, hr, hz⟩, ⟨h1, h2⟩, h3, h4, h5⟩ => ⟨⟨v, hv, hr, hz⟩, ⟨h1, h2⟩, h3, h4.drew, h5⟩ }

theorem info_pair : (Tryd.prog.info? 38).map (fun i => (i.zero, i.size, i.bytes)) = some (some (.agg #[.int .i64 0, .int .i64 0]), 2, 16) := by kernel_rfl

theorem own_later {W W' : World} {base : Nat} {e : TypeId} {size n : Nat} {v : Value} {xs : List Value} (h : W.ownsRow base e size v n xs) (hb : Below W.heap.size W W') : W'.ownsRow base e size v n xs := by
  obtain ⟨h0, h | ⟨g, cap, cur, h1, h2, h3, h4⟩⟩ := h
  · exact ⟨h0, .inl h⟩
  · exact ⟨h0, .inr ⟨g, cap, cur, h1, h2, (hb.block g (Array.getElem?_eq_some_iff.1 h3).1).trans h3, h4⟩⟩

theorem rows_new (W : World) (t : TypeId) (vs : List Value) : ∀ j u, vs[j]? = some u → (W.alloc (.cells vs.toArray t)).cell? ((⟨W.heap.size, 0, none⟩ : Addr).add j) = some u := by
  intro j u h
  rw [add_addr, Nat.zero_add]
  exact ((Row.new W t vs).cell j).trans h

/-- An append to a variable in a box below the row's own blocks. -/
theorem appendedS {W w1 : World} {n₀ B : Nat} {t e : TypeId} {size : Nat} {v v' : Value} {k m : Nat} {xs ys : List Value} {tmp : Obj}
    (hv : Boxed W B t v) (hte : t ≠ e) (hB : B < n₀) (hrow : W.ownsRow n₀ e size v k xs) (hn : n₀ ≤ W.heap.size) (hown' : w1.ownsRow n₀ e size v' m ys) (hgrow : (W.alloc tmp).grownBy w1 v.ownBlock) :
    Boxed w1 B t v ∧ Boxed (w1.setCell ⟨B, 0, none⟩ v') B t v' ∧ (w1.setCell ⟨B, 0, none⟩ v').ownsRow n₀ e size v' m ys ∧ KeepsOthers W (w1.setCell ⟨B, 0, none⟩ v') ∧
      (∀ i, i < W.heap.size → i ≠ B → some i ≠ v.ownBlock → (w1.setCell ⟨B, 0, none⟩ v').heap[i]? = W.heap[i]?) ∧ Below B W (w1.setCell ⟨B, 0, none⟩ v') := by
  have weak : ∀ {A : World} {u : Value} {j : Nat} {zs : List Value}, A.ownsRow n₀ e size u j zs → A.ownsRow B e size u j zs := by
    intro A u j zs h
    obtain ⟨h0, h | ⟨g, cap, cur, h1, h2, h3⟩⟩ := h
    · exact ⟨h0, Or.inl h⟩
    · exact ⟨h0, Or.inr ⟨g, cap, cur, h1, by omega, h3⟩⟩
  obtain ⟨a1, a2, a3, a4, a5⟩ := hv.appended hte (weak hrow) (by omega) (Nat.le_refl _) (weak hown') hgrow
  refine ⟨a1, a2, hown'.kept (grownBy_setCell' w1 B v') (.inr (a1.not_row hte hown').symm), a4, fun i hi hne hno => ?_, a5⟩
  refine (Below.heap_setCell w1 ⟨B, 0, none⟩ v' i hne).trans ?_
  refine (hgrow.block i (by simp; omega) hno).trans ?_
  exact Below.heap_alloc W tmp i (by omega)

theorem With_bad (xs : List Int) (hl : xs.length ≤ maxLen) (hr : rowB xs = false) (v : Value) (w : World) (h : IntsV w v xs) :
    Calls Tryd.prog 5 #[v] w fun e w' => e = .returned (.tuple #[.slice none 0 0, .int .i64 2]) ∧ Below w.heap.size w w' := by
  obtain ⟨W0, hW0⟩ : ∃ W0, (w.alloc (.cells #[v] 22)).alloc (.cells #[.int .i64 (xs.length : Int)] 3) = W0 := ⟨_, rfl⟩
  have b0 : Below w.heap.size w W0 := by rw [← hW0]; exact ((Below.refl _ w).alloc (Nat.le_refl _) _).alloc (by simp) _
  have HR := Lib.hid (isRow_any xs v W0 hl (h.later b0))
  rw [hr] at HR
  obtain ⟨ao, cap, rfl, _⟩ := h
  have HW := Lib.hid hW0
  clear hr hW0
  go_enter Tryd.func5, Tryd.ntmps5
  go_wp2_with fail
  rw [HW.out]
  refine HR.out.mono ?_
  rintro e w1 ⟨rfl, rfl⟩
  go_wp2
  go_ret2
  exact ⟨rfl, b0⟩

set_option maxHeartbeats 2000000 in
theorem With_odd (n : Nat) (ys : List Nat) (hr : IsRow n ys) (ho : n % 2 = 1) (v : Value) (w : World) (h : IntsV w v (natI ys)) :
    Calls Tryd.prog 5 #[v] w fun e w' => e = .returned (.tuple #[.slice none 0 0, .int .i64 2]) ∧ Below w.heap.size w w' := by
  have hlen := hr.len
  have hhi := hr.hi
  obtain ⟨W0, hW0⟩ : ∃ W0, (w.alloc (.cells #[v] 22)).alloc (.cells #[.int .i64 (n : Int)] 3) = W0 := ⟨_, rfl⟩
  have b0 : Below w.heap.size w W0 := by rw [← hW0]; exact ((Below.refl _ w).alloc (Nat.le_refl _) _).alloc (by simp) _
  have R1 : Row W0 (w.heap.size + 1) 3 [.int .i64 (n : Int)] := by
    rw [← hW0]
    have := Row.new (w.alloc (.cells #[v] 22)) 3 [.int .i64 (n : Int)]
    rwa [World.size_alloc] at this
  have HR := Lib.hid (isRow_any (natI ys) v W0 (row_len hr) (h.later b0))
  rw [row_of hr] at HR
  have R0 : Row W0 w.heap.size 22 [v] := by rw [← hW0]; exact (Row.new w _ _).alloc _
  obtain ⟨ao, cap, hv, _⟩ := h
  rw [natI_length, hlen] at hv
  subst hv
  have HW := Lib.hid hW0
  have c1 : W0.cell? ⟨w.heap.size + 1, 0, none⟩ = some (.int .i64 (n : Int)) := R1.cell 0
  have hq : ((n : Int) % 2 != 0) = true := by rw [bne_iff_ne]; omega
  clear hr hW0 R1 R0 ho hlen
  go_enter Tryd.func5, Tryd.ntmps5
  go_wp2_with fail
  rw [HW.out]
  refine HR.out.mono ?_
  rintro e w1 ⟨rfl, rfl⟩
  go_wp2
  go_ret2
  exact ⟨rfl, b0⟩

set_option maxHeartbeats 4000000 in
theorem With_ok (n : Nat) (ys : List Nat) (hr : IsRow n ys) (ho : n % 2 = 0) (v : Value) (w : World) (h : IntsV w v (natI ys)) :
    Calls Tryd.prog 5 #[v] w fun e w' => ∃ v', e = .returned (.tuple #[v', .int .i64 0]) ∧ w'.ownsRow w.heap.size 38 2 v' (withL n ys).length (pairsV (withL n ys)) ∧ Below w.heap.size w w' := by
  have hlen := hr.len
  have hhi := hr.hi
  have hlo := hr.lo
  have H1 := Lib.hid h
  obtain ⟨i0, hi, hz0, hz1, hz2⟩ := info_parts info_pair
  have hmx : Tryd.prog.follows .mixedOrders = true := by kernel_rfl
  obtain ⟨H, hH⟩ : ∃ H, w.heap.size = H := ⟨_, rfl⟩
  obtain ⟨W0, hW0⟩ : ∃ W0, (w.alloc (.cells #[v] 22)).alloc (.cells #[.int .i64 (n : Int)] 3) = W0 := ⟨_, rfl⟩
  have b0 : Below w.heap.size w W0 := by rw [← hW0]; exact ((Below.refl _ w).alloc (Nat.le_refl _) _).alloc (by simp) _
  have R1 : Row W0 (w.heap.size + 1) 3 [.int .i64 (n : Int)] := by
    rw [← hW0]
    have := Row.new (w.alloc (.cells #[v] 22)) 3 [.int .i64 (n : Int)]
    rwa [World.size_alloc] at this
  have R0 : Row W0 w.heap.size 22 [v] := by rw [← hW0]; exact (Row.new w _ _).alloc _
  have HR := Lib.hid (isRow_any (natI ys) v W0 (row_len hr) (h.later b0))
  rw [row_of hr] at HR
  obtain ⟨ao, cap, hv, hlc, _⟩ := h
  rw [natI_length, hlen] at hv hlc
  subst hv
  have HI := Lib.hid (fun W => forms_any (n : Int) ao n cap W)
  have HRw := Lib.hid hr
  have HW := Lib.hid hW0
  have hs0 : W0.heap.size = H + 2 := by rw [← hW0, ← hH]; simp
  have c1 : W0.cell? ⟨w.heap.size + 1, 0, none⟩ = some (.int .i64 (n : Int)) := R1.cell 0
  have c0 : W0.cell? ⟨w.heap.size, 0, none⟩ = some (.slice ao n cap) := R0.cell 0
  have hq : ((n : Int) % 2 != 0) = false := by rw [bne_eq_false_iff_eq]; omega
  rw [hH] at c0 c1 R0 R1
  clear hr hW0
  refine (callsIn_wide (n := 9)).1 ?_
  refine callsIn_of_wp_marks Tryd.func5 rfl trivial ?_ rfl
  simp only [Tryd.ntmps5, List.size_toArray, List.length_cons, List.length_nil, Nat.reduceAdd, Nat.reduceSub, Array.replicate_succ, Array.replicate_zero, List.push_toArray, List.append_toArray, List.nil_append, List.cons_append]
  gi_wp2_with fail
  rw [HW.out]
  refine ⟨trivial, ?_⟩
  refine (callsIn_wide.2 HR.out).mono ?_
  rintro e w1 ⟨rfl, rfl⟩
  gi_wp2_with (refine ⟨trivial, ?_⟩; gi_at_call 15; refine (callsIn_wide.2 (HI.out _)).mono ?_; rintro e w' ⟨rfl, rfl⟩)
  obtain ⟨W1, hW1⟩ : ∃ W1, ((W0.alloc (Obj.cells #[Value.slice none 0 0] 24)).alloc (Obj.cells #[Value.int IntKind.i64 ↑n] 3)).alloc (Obj.cells #[Value.slice ao n cap] 22) = W1 := ⟨_, rfl⟩
  have hs1 : W1.heap.size = H + 5 := by rw [← hW1]; simp [hs0]
  rw [hH] at b0
  have hB1 : Below H w W1 := by rw [← hW1]; exact ((b0.alloc (by omega) _).alloc (by simp; omega) _).alloc (by simp; omega) _
  have r0 : Row W1 H 22 [.slice ao n cap] := by rw [← hW1]; exact ((R0.alloc _).alloc _).alloc _
  have r1 : Row W1 (H + 1) 3 [.int .i64 n] := by rw [← hW1]; exact ((R1.alloc _).alloc _).alloc _
  have rb : Boxed W1 (H + 2) 24 (.slice none 0 0) := by rw [← hW1, ← hs0]; exact ((Boxed.new W0 _ _).alloc _).alloc _
  have r3 : Row W1 (H + 2 + 1) 3 [.int .i64 n] := by
    rw [← hW1]
    have := Row.new (W0.alloc (Obj.cells #[Value.slice none 0 0] 24)) 3 [.int .i64 n]
    rw [World.size_alloc, hs0] at this
    exact this.alloc _
  have r4 : Row W1 (H + 2 + 1 + 1) 22 [.slice ao n cap] := by
    rw [← hW1]
    have := Row.new ((W0.alloc (Obj.cells #[Value.slice none 0 0] 24)).alloc (Obj.cells #[Value.int IntKind.i64 ↑n] 3)) 22 [.slice ao n cap]
    rw [World.size_alloc, World.size_alloc, hs0] at this
    exact this
  rw [hW1]
  have HH := Lib.hid hH
  clear hW1 hH
  generalize (n : Int) % 2 = m2
  have hSS : ∀ k, k < H + 5 ∧ k ≠ H + 2 → k < W1.heap.size := fun k h => by omega
  have hkeep : ∀ W', KeptOn (fun k => k < H + 5 ∧ k ≠ H + 2) W1 W' → IntsV W' (.slice ao n cap) (natI ys) := fun W' hk =>
    IntsV.kept (S := fun k => k < H) H1.out ⟨Nat.le_trans (by have := HH.out; omega) hk.size, fun k hk2 => (hk.block k ⟨by omega, by omega⟩).trans (hB1.block k hk2)⟩ (fun k hk => by have := HH.out; omega)
  refine wpIn_rangeFunc_sepA (α := FX) (by omega) (gf := 25) (lb := #[.pointer (some ⟨H + 2 + 1, 0, none⟩), .pointer (some ⟨H + 2 + 1 + 1, 0, none⟩)]) rfl forms_enters
    (forms1_seq n ys hlo hhi HRw.out.lt (by omega) (by omega) (H + 2 + 1) (H + 2 + 1 + 1) (.slice ao n cap) (fun k => k < H + 5 ∧ k ≠ H + 2) W1 hSS ⟨by omega, by omega⟩ ⟨by omega, by omega⟩ hkeep (r3.cell 0) (r4.cell 0)) keptOn_t (keptOn_b hSS) (Below.refl _ _) (fun _ => rfl)
    (WithI n ys (.slice ao n cap) H w) (fun _ _ _ _ => False) (WithI.sep HH.out.symm (by omega)) (fun _ => ⟨fun _ _ _ _ _ h _ _ => h, fun _ _ _ _ _ _ h _ => h, fun _ _ _ _ h => h, fun _ _ _ h => h⟩)
    ⟨⟨_, rb, World.ownsRow_nil _ _ _ _, fun k h => h.elim⟩, ⟨r0, r1⟩, fun k h => h.elim, hB1, by omega⟩
    (fun pre x Z a' W => ∃ r, a' = { tmps := #[.slice ao n cap, .pointer (some ⟨H, 0, none⟩), .slice none 0 0, .int .i64 0, .pointer (some ⟨H + 1, 0, none⟩), .pointer (some ⟨H + 2, 0, none⟩), .pointer (some ⟨r, 0, none⟩), x.2.2, .slice ao n cap, .int .i64 n, .slice ao n cap, .bool true, .bool false, .bool false, .int .i64 n, .int .i64 m2, .bool false, .bool false, .int .i64 n, .slice ao n cap,
        .func (.func 25) #[] #[.pointer (some ⟨H + 2 + 1, 0, none⟩), .pointer (some ⟨H + 2 + 1 + 1, 0, none⟩)], .agg #[.int .i64 (x.1 : Int), .int .i64 (x.2.1 : Int)], x.2.2, undef, undef, undef, undef, undef, undef, undef, undef, undef, undef, undef, undef, undef, undef, undef, undef, undef], defers := [] } ∧
      Row W r 38 [.int .i64 (x.1 : Int), .int .i64 (x.2.1 : Int)] ∧ WithI n ys (.slice ao n cap) H w pre Z W ∧ okF n ys x W) ?hM ?assign ?body ?done ?stop
  case hM =>
    rintro pre x Z a' W l o o' ⟨r, e, hr, hI, hV⟩ hle ho hc
    have hi := WithI.sep (n := n) (ys := ys) (rv := .slice ao n cap) (B := W1.heap.size) HH.out.symm (by omega)
    exact ⟨r, e, hr.kept (grownBy_putObj' W l o') (fun q e => by cases e; exact ⟨_, ho, hc⟩), hi.grow _ Z W _ (some l) hI (grownBy_putObj' W l o') (fun q e => by cases e; exact ⟨hle, _, ho, hc⟩), okF_put x W l o o' hV ho hc⟩
  case assign =>
    intro l pre x Z W K hI hV hZ hlen hK
    simp only [encF]
    gi_wp2
    have hb := (Below.refl W.heap.size W).alloc (Nat.le_refl _) (.cells #[.int .i64 (x.1 : Int), .int .i64 (x.2.1 : Int)] 38)
    obtain ⟨⟨v, h0, h1, h2⟩, ⟨h3, h4⟩, h5, h6, h7⟩ := hI
    exact hK _ _ (keepsOthers_below hb) ((KeptOn.refl Z W).below hb (fun k hk => (hZ k hk).2)) ((KeptOn.refl _ W).below hb (fun k hk => by omega))
      ⟨W.heap.size, rfl, Row.new W _ _, ⟨⟨v, h0.alloc _, h1.alloc _, h2⟩, ⟨h3.alloc _, h4.alloc _⟩, h5, h6.alloc (by omega) _, by rw [World.size_alloc]; omega⟩, hV.1, hV.2.1, hV.2.2.later hb⟩
  case body =>
    rintro l pre x Z a' W ⟨r, rfl, hr, ⟨⟨v, hv, hrow, hz⟩, ⟨h3, h4⟩, h5, h6, h7⟩, hk4, hkn, hV⟩ hZ hlen
    have c0 : W.cell? ⟨H, 0, none⟩ = some (.slice ao n cap) := h3.cell 0
    have c1 : W.cell? ⟨H + 1, 0, none⟩ = some (.int .i64 (n : Int)) := h4.cell 0
    have hj0 : (0 : Int) ≤ (n : Int) / 2 := by omega
    have hjc : (n : Int) / 2 ≤ (cap : Int) := by omega
    have hwj : IntKind.i64.wrap ((n : Int) / 2) = (n : Int) / 2 := IntWalk.i64_in _ (by omega)
    have hsl := fun W => run_upto ao n cap ((n : Int) / 2) hj0 hjc W
    have HU1 := Lib.hid (fun W hW => IntsV.upto (W := W) (ao := ao) (len := n) (cap := cap) (xs := natI ys) hW (n / 2) (by omega))
    obtain ⟨am, cm, hvm, hlm, hcm⟩ := hV
    have hlf : (natI (formL n x.1 x.2.1 ys)).length = n := by rw [natI_length, formL_length, HRw.out.len]
    have HV := Lib.hid (show IntsV W x.2.2 (natI (formL n x.1 x.2.1 ys)) from ⟨am, cm, hvm, hlm, hcm⟩)
    rw [hlf] at hvm hlm
    have hjm : (n : Int) / 2 ≤ (cm : Int) := by omega
    have hsm := fun W => run_upto am n cm ((n : Int) / 2) hj0 hjm W
    have HU2 := Lib.hid (fun W (hW : IntsV W x.2.2 (natI (formL n x.1 x.2.1 ys))) => IntsV.upto (W := W) (ao := am) (len := n) (cap := cm) (xs := natI (formL n x.1 x.2.1 ys)) (by rw [← hvm]; exact hW) (n / 2) (by omega))
    have ej : ((n : Int) / 2).toNat = n / 2 := by omega
    rw [ej] at hsl hsm
    have hg1 : (natI ys).take (n / 2) ++ (natI (formL n x.1 x.2.1 ys)).take (n / 2) = bothL n ys x.1 x.2.1 := rfl
    have hl1 : ((natI ys).take (n / 2)).length = n / 2 := by rw [List.length_take, natI_length, HRw.out.len]; omega
    have hl2 : ((natI (formL n x.1 x.2.1 ys)).take (n / 2)).length = n / 2 := by rw [List.length_take, hlf]; omega
    have HCo := Lib.hid (fun v1 v2 Zb cp W h1 h2 c1 c2 => Concat_any ((natI ys).take (n / 2)) ((natI (formL n x.1 x.2.1 ys)).take (n / 2)) (by omega) (by omega) (by omega) v1 v2 Zb cp W h1 h2 c1 c2)
    rw [hg1] at HCo
    have hlb : (bothL n ys x.1 x.2.1).length ≤ maxLen := by unfold bothL; rw [List.length_append, hl1, hl2]; unfold maxLen; omega
    have HT := Lib.hid (fun u W hu => areTones_any n (by omega) (bothL n ys x.1 x.2.1) u W hlb hu)
    have HG := Lib.hid (show partB n (bothL n ys x.1 x.2.1) = goesB n ys (nm x) from rfl)
    clear hg1 hl1 hl2 hlf hlb hcm hlm ej
    unfold sliced at hsl hsm HU1 HU2
    simp only [Nat.sub_zero] at hsl hsm HU1 HU2
    rw [hvm]
    generalize (if cap = 0 then ao else Option.map (fun x => x.add (0 * 1)) ao) = A1 at hsl HU1
    generalize (if cm = 0 then am else Option.map (fun x => x.add (0 * 1)) am) = A2 at hsm HU2
    have HVm := Lib.hid hvm
    have hB := Below.refl W.heap.size W
    have HR0 := Lib.hid hr
    have Hrow := Lib.hid hrow
    have Hz := Lib.hid hz
    have H5 := Lib.hid h5
    have H6 := Lib.hid h6
    have H3 := Lib.hid h3
    have H4 := Lib.hid h4
    have Hv := Lib.hid hv
    clear hr hrow hz h5 h6 h3 h4 hv hvm
    gi_wp2
    have HSS := Lib.hid (fun W' (h : Below W.heap.size W W') => show W'.cell? ⟨H, 0, none⟩ = some (.slice ao n cap) ∧ W'.cell? ⟨H + 1, 0, none⟩ = some (.int .i64 (n : Int)) ∧ Below W.heap.size W W' from ⟨cell_later h c0, cell_later h c1, h⟩)
    have H1W := Lib.hid (fun W' (h : Below W.heap.size W W') => (H1.out.later (by rw [HH.out]; exact H6.out : Below w.heap.size w W)).later h)
    refine region_heldR (fun w' => w'.cell? ⟨H, 0, none⟩ = some (.slice ao n cap) ∧ w'.cell? ⟨H + 1, 0, none⟩ = some (.int .i64 (n : Int)) ∧ Below W.heap.size W w') hmx (by kernel_rfl) ⟨c0, c1, hB.drew⟩ (fun hS => ?_)
    refine take_held (i := 0) (v := .int .i64 n) rfl (by kernel_rfl) (by kernel_rfl) (by kernel_rfl) (fun _ _ _ h => h) (by rfl) (by rintro W2 ⟨q0, q1, q2⟩; go_simp) hS ?_
    simp only [Act.put, List.setIfInBounds_toArray, List.set_cons_zero, List.set_cons_succ]
    refine take_held (i := 1) (v := .slice ao n cap) rfl (by kernel_rfl) (by kernel_rfl) (by kernel_rfl) (fun _ _ _ h => h) (by rfl) (by rintro W2 ⟨q0, q1, q2⟩; go_simp) hS ?_
    simp only [Act.put, List.setIfInBounds_toArray, List.set_cons_zero, List.set_cons_succ]
    refine take_held (i := 2) (v := .int .i64 n) rfl (by kernel_rfl) (by kernel_rfl) (by kernel_rfl) (fun _ _ _ h => h) (by rfl) (by rintro W2 ⟨q0, q1, q2⟩; go_simp) hS ?_
    simp only [Act.put, List.setIfInBounds_toArray, List.set_cons_zero, List.set_cons_succ]
    refine take_held (i := 3) (v := .int .i64 ((n : Int) / 2)) rfl (by kernel_rfl) (by kernel_rfl) (by kernel_rfl) (fun _ _ _ h => h) (by rfl) (by rintro W2 ⟨q0, q1, q2⟩; go_simp) hS ?_
    simp only [Act.put, List.setIfInBounds_toArray, List.set_cons_zero, List.set_cons_succ]
    refine take_held (i := 4) (v := .slice A1 (n / 2) cap) rfl (by kernel_rfl) (by kernel_rfl) (by kernel_rfl) (fun _ _ _ h => h) (by rfl) (by rintro W2 ⟨q0, q1, q2⟩; go_simp) hS ?_
    simp only [Act.put, List.setIfInBounds_toArray, List.set_cons_zero, List.set_cons_succ]
    refine take_held (i := 5) (v := .slice am n cm) rfl (by kernel_rfl) (by kernel_rfl) (by kernel_rfl) (fun _ _ _ h => h) (by rfl) (by rintro W2 ⟨q0, q1, q2⟩; go_simp) hS ?_
    simp only [Act.put, List.setIfInBounds_toArray, List.set_cons_zero, List.set_cons_succ]
    refine take_held (i := 6) (v := .int .i64 n) rfl (by kernel_rfl) (by kernel_rfl) (by kernel_rfl) (fun _ _ _ h => h) (by rfl) (by rintro W2 ⟨q0, q1, q2⟩; go_simp) hS ?_
    simp only [Act.put, List.setIfInBounds_toArray, List.set_cons_zero, List.set_cons_succ]
    refine take_held (i := 7) (v := .int .i64 ((n : Int) / 2)) rfl (by kernel_rfl) (by kernel_rfl) (by kernel_rfl) (fun _ _ _ h => h) (by rfl) (by rintro W2 ⟨q0, q1, q2⟩; go_simp) hS ?_
    simp only [Act.put, List.setIfInBounds_toArray, List.set_cons_zero, List.set_cons_succ]
    refine take_held (i := 8) (v := .slice A2 (n / 2) cm) rfl (by kernel_rfl) (by kernel_rfl) (by kernel_rfl) (fun _ _ _ h => h) (by rfl) (by rintro W2 ⟨q0, q1, q2⟩; go_simp) hS ?_
    simp only [Act.put, List.setIfInBounds_toArray, List.set_cons_zero, List.set_cons_succ]
    refine step_held (i := 9) rfl (by kernel_rfl) (by rfl) (fun K' hK => ?_)
    go_simp
    have B9 := Lib.hid (hB.drew.alloc (Nat.le_refl _) (.cells #[.slice A1 (n / 2) cap, .slice A2 (n / 2) cm] 22))
    refine hK.out _ _ (HSS.out _ B9.out) (fun hS => ?_)
    clear hK K'
    try simp only [Act.put, List.setIfInBounds_toArray, List.set_cons_zero, List.set_cons_succ]
    refine step_held (i := 10) rfl (by kernel_rfl) (by rfl) (fun K' hK => ?_)
    go_simp
    have HK := Lib.hid (HCo.out (.slice A1 (n / 2) cap) (.slice A2 (n / 2) cm) W.heap.size 2 (W.drew.alloc (.cells #[.slice A1 (n / 2) cap, .slice A2 (n / 2) cm] 22)) (HU1.out _ (H1W.out _ B9.out)) (HU2.out _ (HV.out.later B9.out)) ((Row.new W.drew 22 [.slice A1 (n / 2) cap, .slice A2 (n / 2) cm]).cell 0) ((Row.new W.drew 22 [.slice A1 (n / 2) cap, .slice A2 (n / 2) cm]).cell 1))
    refine HK.out.mono ?_
    rintro e w5 ⟨v5, rfl, i5, b5⟩
    have B10 := Lib.hid (B9.out.trans (b5.mono B9.out.size))
    refine hK.out _ _ (HSS.out _ B10.out) (fun hS => ?_)
    clear hK K' HK
    have HT5 := Lib.hid (HT.out v5 w5 i5)
    rw [HG.out] at HT5
    clear i5 b5
    try simp only [Act.put, List.setIfInBounds_toArray, List.set_cons_zero, List.set_cons_succ]
    refine step_held (i := 11) rfl (by kernel_rfl) (by rfl) (fun K' hK => ?_)
    go_simp
    refine HT5.out.mono ?_
    rintro e w6 ⟨rfl, rfl⟩
    refine hK.out _ _ (HSS.out _ B10.out) (fun hS => ?_)
    clear hK K'
    try simp only [Act.put, List.setIfInBounds_toArray, List.set_cons_zero, List.set_cons_succ]
    refine wpAnyH_done (by kernel_rfl) ?_ _
    dsimp only [OnlyN, Exit.then]
    have Hr5 := Lib.hid (HR0.out.later B10.out)
    have Hv5 := Lib.hid (Row.box (Row.later (Row.ofBox Hv.out) B10.out))
    have H35 := Lib.hid (H3.out.later B10.out)
    have H45 := Lib.hid (H4.out.later B10.out)
    have Hrow5 := Lib.hid (show w5.ownsRow (H + 5) 38 2 v _ _ from own_later Hrow.out B10.out)
    have hsz5 := B10.out.size
    have H65 := Lib.hid (H6.out.trans (B10.out.mono (by omega)) : Below H w w5)
    cases hg : goesB n ys (nm x)
    · have hf : withN n ys ((pre ++ [x]).map nm) = withN n ys (pre.map nm) := by
        unfold withN; rw [List.map_append, List.filter_append]; simp [hg]
      gi_wp2
      refine ⟨keepsOthers_below B10.out, (KeptOn.refl Z W).below B10.out (fun k hk => (hZ k hk).2), (KeptOn.refl _ W).below B10.out (fun k hk => by omega), ⟨⟨v, Hv5.out, by rw [hf]; exact Hrow5.out, Hz.out⟩, ⟨H35.out, H45.out⟩, H5.out, H65.out, by omega⟩⟩
    · have hf : withN n ys ((pre ++ [x]).map nm) = withN n ys (pre.map nm) ++ [nm x] := by
        unfold withN; rw [List.map_append, List.filter_append]; simp [hg]
      have HF := Lib.hid hf
      have c2 : w5.cell? ⟨H + 2, 0, none⟩ = some v := (Hv5.out : Boxed w5 (H + 2) 24 v).cell
      have cr0 : w5.cell? ⟨r, 0, none⟩ = some (.int .i64 (x.1 : Int)) := Hr5.out.cell 0
      have cr1 : w5.cell? ⟨r, 1, none⟩ = some (.int .i64 (x.2.1 : Int)) := Hr5.out.cell 1
      have hk64 : (withN n ys (pre.map nm)).length ≤ 64 := by
        refine Nat.le_trans (List.length_filter_le _ _) ?_
        rw [List.length_map]; omega
      clear hf hg
      generalize hN : withN n ys (pre.map nm) = N at *
      generalize hNL : N.length = NL at *
      gi_wp2_with (gi_at_builtin; refine wpListIn_append_own_at _ rfl _ _ 24 rfl (H + 5) 38 i0 (.agg #[.int .i64 0, .int .i64 0]) 2 16 Tryd.underlying24 hi hz0 hz1 hz2 rfl (by decide) _ _ _ rfl (Hrow5.out.alloc _) ⟨w5.heap.size, 0, none⟩ 1 1 [.int .i64 (x.1 : Int), .int .i64 (x.2.1 : Int)] rfl rfl (rows_new _ _ _) (by simp [Value.oneCell']) (by unfold maxLen; omega) (by omega) (by simp; omega) ?_; intro v' w1 hown' hgrow _ hob; obtain ⟨g', cap', rfl⟩ := ownsRow_succ hown'; obtain ⟨hv1, hv2, hr2, hk2, hblk, hb2⟩ := appendedS (B := H + 2) (Hv5.out : Boxed w5 (H + 2) 24 v) (by decide) (by omega) Hrow5.out (by omega) hown' hgrow; have hc1 := hv1.cell; have hf1 := hv1.frozen)
      have hsp : ∀ k, Z k → H + 5 ≤ k ∧ k < W.heap.size := fun k hk => ⟨H5.out k hk, (hZ k hk).2⟩
      refine ⟨(keepsOthers_below B10.out).trans hk2, ⟨Nat.le_trans hsz5 hb2.size, fun k hk => ?_⟩, ⟨Nat.le_trans hsz5 hb2.size, fun k hk => ?_⟩, ⟨⟨_, hv2, ?_, fun k hk => ?_⟩, ⟨?_, ?_⟩, H5.out, ?_, Nat.le_trans h7 (Nat.le_trans hsz5 hb2.size)⟩⟩
      · have h1 := hsp k hk
        exact (hblk k (by omega) (by omega) (Hz.out k hk)).trans (B10.out.block k h1.2)
      · exact (hblk k (by omega) hk.2 (fun e => by have := (Hrow5.out.lt k e.symm).1; omega)).trans (B10.out.block k (by omega))
      · rw [HF.out, List.length_append, hNL, pairsV_snoc]
        exact hr2
      · intro e
        have h1 := hsp k hk
        rcases hob with h | h
        · exact Hz.out k hk (e.trans h)
        · rw [h] at e
          simp at e
          omega
      · exact (hblk H (by omega) (by omega) (fun e => by have := (Hrow5.out.lt H e.symm).1; omega)).trans H35.out
      · exact (hblk (H + 1) (by omega) (by omega) (fun e => by have := (Hrow5.out.lt (H + 1) e.symm).1; omega)).trans H45.out
      · exact H65.out.trans (hb2.mono (by omega))
  case done =>
    rintro D xs Z W hD hS ⟨⟨v, hv, hrow, _⟩, ⟨h3, h4⟩, h5, h6, h7⟩ hK
    rw [hS] at hrow
    have hc1 : W.cell? ⟨H + 2, 0, none⟩ = some v := hv.cell
    have Hrow := Lib.hid hrow
    have H6 := Lib.hid h6
    clear hrow hS
    gi_wp2
    refine ⟨by simp, .inl ⟨_, _, rfl, run_takeDeferred hK, ?_⟩⟩
    refine ⟨.tuple #[v, .int .i64 0], by simp [results, Tryd.f5, go_sem], v, rfl, ?_, by rw [HH.out]; exact H6.out.trans (belowK_b (w := W1) (by omega) W D _ _ (by omega) hK rfl rfl)⟩
    have h := ownsRow_putObj Hrow.out (.deferred none) hK rfl
    rw [HH.out]
    obtain ⟨e0, h | ⟨g, cp, cur, e1, e2, e3⟩⟩ := h
    · exact ⟨e0, .inl h⟩
    · exact ⟨e0, .inr ⟨g, cp, cur, e1, by omega, e3⟩⟩
  case stop =>
    rintro D c pre Z W _ _ h _
    exact h.elim
end Go.Proofs.YtaldfaecpcnomaaDoor

/-
  way, Way: how one row, or a part of one, becomes another one.
-/
import Derived.Test.YtdfagnjdconkcaaRoIter
import Derived.Test.YtdfagnjdconkcaaSepA
import Derived.Test.YtdfagnjdconkcaaRoFollowLaw
namespace Go.Proofs.Ytdfagnjdconkcaa
open Go.ChangeShapes Go.WideShapes Go.ChangeAt Go.RowKit Go.Shelf
attribute [local go_sem] Oper.semAt_some
set_option maxRecDepth 100000

/-- The number of the first form that is another list. -/
def wayT (n : Nat) (ys bs : List Nat) : Option Nat := (List.range (4 * n)).find? (fun t => decide (formL n (t / n) (t % n) ys = bs))
def wayV (n : Nat) : Option Nat → Value
  | none => .tuple #[.agg #[.int .i64 0, .int .i64 0], .int .i64 4]
  | some t => .tuple #[.agg #[.int .i64 ((t / n : Nat) : Int), .int .i64 ((t % n : Nat) : Int)], .int .i64 0]

theorem forms_enters : ∀ args w, (callFunc 31 args).run Try.prog w = .ok (.enter 31 args) w := fun args w => enters_of Try.func31 (by kernel_rfl) rfl args w

/-- What holds between the rounds: no form so far is the other list; the boxes. -/
def WayI (n : Nat) (ys bs : List Nat) (bv : Value) (H : Nat) (w : World) (pre : List FX) (Z : Nat → Prop) (W : World) : Prop :=
  (∀ x ∈ pre, formL n x.1 x.2.1 ys ≠ bs) ∧ (Row W (H + 1) 38 [.int .i64 0, .int .i64 0] ∧ Row W (H + 1 + 1) 23 [.int .i64 0] ∧ Row W H 22 [bv]) ∧ (∀ k, Z k → H + 5 ≤ k) ∧ Below H w W ∧ H + 5 ≤ W.heap.size
/-- What holds where it ends early. -/
def WayX (n : Nat) (ys bs : List Nat) (H : Nat) (w : World) (pre : List FX) (Z : Nat → Prop) (W : World) : Prop :=
  (∃ p x, pre = p ++ [x] ∧ (∀ y ∈ p, formL n y.1 y.2.1 ys ≠ bs) ∧ formL n x.1 x.2.1 ys = bs ∧ Row W (H + 1) 38 [.int .i64 (x.1 : Int), .int .i64 (x.2.1 : Int)] ∧ Row W (H + 1 + 1) 23 [.int .i64 0]) ∧ (∀ k, Z k → H + 5 ≤ k) ∧ Below H w W ∧ H + 5 ≤ W.heap.size

theorem WayI.sep {n : Nat} {ys bs : List Nat} {bv : Value} {H B : Nat} {w : World} (hH : H = w.heap.size) (hB : H + 5 ≤ B) : Sep B (WayI n ys bs bv H w) :=
  { grow := fun s Z W W' row ⟨h0, ⟨h1, h2, h2'⟩, h3, h4, h5⟩ hg hr => ⟨h0, ⟨h1.kept hg (fun r e => (hr r e).2), h2.kept hg (fun r e => (hr r e).2), h2'.kept hg (fun r e => (hr r e).2)⟩, h3, h4.grown hg (by omega) (fun k e => by have := (hr k e).1; omega), Nat.le_trans h5 hg.size⟩
    priv := fun s Z W r i u ⟨h0, ⟨h1, h2, h2'⟩, h3, h4, h5⟩ hz => by
      have h6 := h3 r hz
      exact ⟨h0, ⟨h1.other (by omega) u, h2.other (by omega) u, h2'.other (by omega) u⟩, h3, h4.setCell (p := ⟨r, i, none⟩) (show H ≤ r by omega) u, by simpa [World.setCell] using h5⟩
    take := fun s Z W o ⟨h0, ⟨h1, h2, h2'⟩, h3, h4, h5⟩ => ⟨h0, ⟨h1.alloc o, h2.alloc o, h2'.alloc o⟩, fun k hk => by
      rcases hk with hk | rfl
      · exact h3 k hk
      · exact h5, h4.alloc (by omega) o, by rw [World.size_alloc]; omega⟩
    draw := fun s Z W ⟨h0, ⟨h1, h2, h2'⟩, h3, h4, h5⟩ => ⟨h0, ⟨h1, h2, h2'⟩, h3, h4.drew, h5⟩ }
theorem keepsOthers_below {W W' : World} (h : Below W.heap.size W W') : KeepsOthers W W' := ⟨h.size, fun k o hk _ => (h.block k (Array.getElem?_eq_some_iff.1 hk).1).trans hk⟩
theorem cell_put {W : World} {a : Addr} {v : Value} {l : Nat} {o : Obj} (o' : Obj) (h : W.cell? a = some v) (ho : W.heap[l]? = some o) (hc : o.isCells = false) : (W.putObj l o').cell? a = some v :=
  cell_kept h (grownBy_putObj' W l o') (fun r e => by cases e; exact ⟨_, ho, hc⟩)

theorem WayX.sep {n : Nat} {ys bs : List Nat} {H B : Nat} {w : World} (hH : H = w.heap.size) (hB : H + 5 ≤ B) : Sep B (WayX n ys bs H w) :=
  { grow := fun s Z W W' row ⟨⟨p, x, e1, e2, e3, h1, h2⟩, h3, h4, h5⟩ hg hr => ⟨⟨p, x, e1, e2, e3, h1.kept hg (fun r e => (hr r e).2), h2.kept hg (fun r e => (hr r e).2)⟩, h3, h4.grown hg (by omega) (fun k e => by have := (hr k e).1; omega), Nat.le_trans h5 hg.size⟩
    priv := fun s Z W r i u ⟨⟨p, x, e1, e2, e3, h1, h2⟩, h3, h4, h5⟩ hz => by
      have h6 := h3 r hz
      exact ⟨⟨p, x, e1, e2, e3, h1.other (by omega) u, h2.other (by omega) u⟩, h3, h4.setCell (p := ⟨r, i, none⟩) (show H ≤ r by omega) u, by simpa [World.setCell] using h5⟩
    take := fun s Z W o ⟨⟨p, x, e1, e2, e3, h1, h2⟩, h3, h4, h5⟩ => ⟨⟨p, x, e1, e2, e3, h1.alloc o, h2.alloc o⟩, fun k hk => by
      rcases hk with hk | rfl
      · exact h3 k hk
      · exact h5, h4.alloc (by omega) o, by rw [World.size_alloc]; omega⟩
    draw := fun s Z W ⟨⟨p, x, e1, e2, e3, h1, h2⟩, h3, h4, h5⟩ => ⟨⟨p, x, e1, e2, e3, h1, h2⟩, h3, h4.drew, h5⟩ }

theorem way_some {n : Nat} {ys bs : List Nat} {pre p : List FX} {x : FX} {m : Nat} (e1 : pre = p ++ [x]) (e2 : ∀ y ∈ p, formL n y.1 y.2.1 ys ≠ bs) (e3 : formL n x.1 x.2.1 ys = bs) (hpre : pre.map nm = namesL n (m + 1)) (hm : m < 4 * n) :
    ∃ t, wayT n ys bs = some t ∧ t / n = x.1 ∧ t % n = x.2.1 := by
  subst e1
  rw [List.map_append, namesL_succ] at hpre
  have hl : (p.map nm).length = (namesL n m).length := by
    have := congrArg List.length hpre
    simpa using this
  obtain ⟨hp, hx⟩ := List.append_inj hpre hl
  have hx' : nm x = nmT n m := by simpa using hx
  have x1 : m / n = x.1 := (congrArg Prod.fst hx').symm
  have x2 : m % n = x.2.1 := (congrArg Prod.snd hx').symm
  refine ⟨m, ?_, x1, x2⟩
  unfold wayT
  rw [List.find?_eq_some_iff_append]
  refine ⟨by rw [decide_eq_true_eq, x1, x2]; exact e3, List.range m, (List.range (4 * n - (m + 1))).map (fun i => m + 1 + i), ?_, ?_⟩
  · rw [← List.singleton_append, ← List.append_assoc, ← List.range_succ, ← List.range_add]
    congr 1
    omega
  · intro t ht
    rw [List.mem_range] at ht
    have hmem : nmT n t ∈ p.map nm := by rw [hp]; exact List.mem_map.2 ⟨t, List.mem_range.2 ht, rfl⟩
    obtain ⟨y, hy, e⟩ := List.mem_map.1 hmem
    have y1 : y.1 = t / n := congrArg Prod.fst e
    have y2 : y.2.1 = t % n := congrArg Prod.snd e
    have := e2 y hy
    rw [y1, y2] at this
    simpa using this

theorem way_results (tmps : Array Value) (w : World) (g h : Nat) (a b : Value) (hp : tmps.getD 6 undef = .pointer (some ⟨g, 0, none⟩)) (hq : tmps.getD 7 undef = .pointer (some ⟨h, 0, none⟩)) {c : Value}
    (h1 : Row w g 38 [a, b]) (h2 : Row w h 23 [c]) : (results Try.f14 tmps).run Try.prog w = .ok (.tuple #[.agg #[a, b], c]) w := by
  have c0 : w.cell? ⟨g, 0, none⟩ = some a := h1.cell 0
  have c1 : w.cell? ⟨g, 1, none⟩ = some b := h1.cell 1
  have c2 : w.cell? ⟨h, 0, none⟩ = some c := h2.cell 0
  have hp' : tmps[6]?.getD undef = .pointer (some ⟨g, 0, none⟩) := by simpa using hp
  have hq' : tmps[7]?.getD undef = .pointer (some ⟨h, 0, none⟩) := by simpa using hq
  simp [results, Try.f14, go_sem, hp', hq', c0, c1, c2]

set_option maxHeartbeats 4000000 in
theorem way_any (n : Nat) (ys bs : List Nat) (hn0 : 2 ≤ n) (hn1 : n ≤ 10) (hlt : ∀ y ∈ ys, y < n) (hl : ys.length ≤ 10) (hp : 0 < ys.length) (hlb : bs.length ≤ 1000) (v u : Value) (w : World) (h : IntsV w v (natI ys)) (hu : IntsV w u (natI bs)) :
    Calls Try.prog 14 #[.int .i64 n, v, u] w fun e w' => e = .returned (wayV n (wayT n ys bs)) ∧ Below w.heap.size w w' := by
  have H1 := Lib.hid h
  have H2 := Lib.hid hu
  obtain ⟨ao, cap, rfl, _⟩ := h
  obtain ⟨bo, cap', rfl, _⟩ := hu
  rw [natI_length, natI_length] at *
  have HI := Lib.hid (fun W => forms_any (n : Int) ao ys.length cap W)
  refine (callsIn_wide (n := 9)).1 ?_
  refine callsIn_of_wp_marks Try.func14 rfl trivial ?_ rfl
  simp only [Try.ntmps14, List.size_toArray, List.length_cons, List.length_nil, Nat.reduceAdd, Nat.reduceSub, Array.replicate_succ, Array.replicate_zero, List.push_toArray, List.append_toArray, List.nil_append, List.cons_append]
  gi_wp2_with (refine ⟨trivial, ?_⟩; gi_at_call 25; refine (callsIn_wide.2 (HI.out _)).mono ?_; rintro e w' ⟨rfl, rfl⟩)
  obtain ⟨H, hH⟩ : ∃ H, w.heap.size = H := ⟨_, rfl⟩
  obtain ⟨W0, hW0⟩ : ∃ W0, (((((w.alloc (Obj.cells #[Value.slice bo bs.length cap'] 22)).alloc (Obj.cells #[Value.int IntKind.i64 0, Value.int IntKind.i64 0] 38)).alloc (Obj.cells #[Value.int IntKind.i64 0] 23)).alloc (Obj.cells #[Value.int IntKind.i64 ↑n] 3)).alloc (Obj.cells #[Value.slice ao ys.length cap] 22)) = W0 := ⟨_, rfl⟩
  have hs0 : W0.heap.size = H + 5 := by rw [← hW0, ← hH]; simp
  have hB0 : Below H w W0 := by rw [← hW0, ← hH]; exact (((((Below.refl _ w).alloc (Nat.le_refl _) _).alloc (by simp) _).alloc (by simp; omega) _).alloc (by simp; omega) _).alloc (by simp; omega) _
  have r0 : Row W0 H 22 [.slice bo bs.length cap'] := by rw [← hW0, ← hH]; exact ((((Row.new w _ _).alloc _).alloc _).alloc _).alloc _
  have r1 : Row W0 (H + 1) 38 [.int .i64 0, .int .i64 0] := by
    rw [← hW0, ← hH]
    have := Row.new (w.alloc (Obj.cells #[Value.slice bo bs.length cap'] 22)) 38 [.int .i64 0, .int .i64 0]
    rw [World.size_alloc] at this
    exact ((this.alloc _).alloc _).alloc _
  have r2 : Row W0 (H + 1 + 1) 23 [.int .i64 0] := by
    rw [← hW0, ← hH]
    have := Row.new ((w.alloc (Obj.cells #[Value.slice bo bs.length cap'] 22)).alloc (Obj.cells #[Value.int IntKind.i64 0, Value.int IntKind.i64 0] 38)) 23 [.int .i64 0]
    rw [World.size_alloc, World.size_alloc] at this
    exact (this.alloc _).alloc _
  have r3 : Row W0 (H + 1 + 1 + 1) 3 [.int .i64 n] := by
    rw [← hW0, ← hH]
    have := Row.new (((w.alloc (Obj.cells #[Value.slice bo bs.length cap'] 22)).alloc (Obj.cells #[Value.int IntKind.i64 0, Value.int IntKind.i64 0] 38)).alloc (Obj.cells #[Value.int IntKind.i64 0] 23)) 3 [.int .i64 n]
    rw [World.size_alloc, World.size_alloc, World.size_alloc] at this
    exact this.alloc _
  have r4 : Row W0 (H + 1 + 1 + 1 + 1) 22 [.slice ao ys.length cap] := by
    rw [← hW0, ← hH]
    have := Row.new ((((w.alloc (Obj.cells #[Value.slice bo bs.length cap'] 22)).alloc (Obj.cells #[Value.int IntKind.i64 0, Value.int IntKind.i64 0] 38)).alloc (Obj.cells #[Value.int IntKind.i64 0] 23)).alloc (Obj.cells #[Value.int IntKind.i64 ↑n] 3)) 22 [.slice ao ys.length cap]
    rw [World.size_alloc, World.size_alloc, World.size_alloc, World.size_alloc] at this
    exact this
  rw [hW0, hH]
  have HH := Lib.hid hH
  clear hW0 hH
  have hSS : ∀ k, k < H + 5 ∧ k ≠ H + 1 ∧ k ≠ H + 2 → k < W0.heap.size := fun k h => by omega
  have hkeep : ∀ W', KeptOn (fun k => k < H + 5 ∧ k ≠ H + 1 ∧ k ≠ H + 2) W0 W' → IntsV W' (.slice ao ys.length cap) (natI ys) := fun W' hk =>
    IntsV.kept (S := fun k => k < H) H1.out ⟨Nat.le_trans (by have := HH.out; omega) hk.size, fun k hk2 => (hk.block k ⟨by omega, by omega, by omega⟩).trans (hB0.block k hk2)⟩ (fun k hk => by have := HH.out; omega)
  refine wpIn_rangeFunc_sepA (α := FX) (by omega) (gf := 31) (lb := #[.pointer (some ⟨H + 1 + 1 + 1, 0, none⟩), .pointer (some ⟨H + 1 + 1 + 1 + 1, 0, none⟩)]) rfl forms_enters
    (forms1_seq n ys hn0 hn1 hlt hl hp (H + 1 + 1 + 1) (H + 1 + 1 + 1 + 1) (.slice ao ys.length cap) (fun k => k < H + 5 ∧ k ≠ H + 1 ∧ k ≠ H + 2) W0 hSS ⟨by omega, by omega, by omega⟩ ⟨by omega, by omega, by omega⟩ hkeep (r3.cell 0) (r4.cell 0)) keptOn_t (keptOn_b hSS) (Below.refl _ _) (fun _ => rfl)
    (WayI n ys bs (.slice bo bs.length cap') H w) (fun c pre Z W => c = .ret ∧ WayX n ys bs H w pre Z W) (WayI.sep HH.out.symm (by omega)) ?sepx ⟨by simp, ⟨r1, r2, r0⟩, fun k h => h.elim, hB0, by omega⟩
    (fun pre x Z a' W => ∃ r, a' = { tmps := #[.int .i64 n, .slice ao ys.length cap, .slice bo bs.length cap', undef, undef, .pointer (some ⟨H, 0, none⟩), .pointer (some ⟨H + 1, 0, none⟩), .pointer (some ⟨H + 1 + 1, 0, none⟩), .pointer (some ⟨r, 0, none⟩), x.2.2, .int .i64 n, .slice ao ys.length cap, .func (.func 31) #[] #[.pointer (some ⟨H + 1 + 1 + 1, 0, none⟩), .pointer (some ⟨H + 1 + 1 + 1 + 1, 0, none⟩)], .agg #[.int .i64 (x.1 : Int), .int .i64 (x.2.1 : Int)], x.2.2, undef, undef, undef, undef, undef], defers := [] } ∧
      Row W r 38 [.int .i64 (x.1 : Int), .int .i64 (x.2.1 : Int)] ∧ WayI n ys bs (.slice bo bs.length cap') H w pre Z W ∧ okF n ys x W) ?hM ?assign ?body ?done ?stop
  case sepx =>
    intro c
    have hx := WayX.sep (n := n) (ys := ys) (bs := bs) (B := W0.heap.size) HH.out.symm (by omega)
    exact ⟨fun s Z W W' row h hg hr => ⟨h.1, hx.grow s Z W W' row h.2 hg hr⟩, fun s Z W r i u h hz => ⟨h.1, hx.priv s Z W r i u h.2 hz⟩, fun s Z W o h => ⟨h.1, hx.take s Z W o h.2⟩, fun s Z W h => ⟨h.1, hx.draw s Z W h.2⟩⟩
  case hM =>
    rintro pre x Z a' W l o o' ⟨r, e, hr, hI, hV⟩ hle ho hc
    have hi := WayI.sep (n := n) (ys := ys) (bs := bs) (bv := .slice bo bs.length cap') (B := W0.heap.size) HH.out.symm (by omega)
    exact ⟨r, e, hr.kept (grownBy_putObj' W l o') (fun q e => by cases e; exact ⟨_, ho, hc⟩), hi.grow pre Z W _ (some l) hI (grownBy_putObj' W l o') (fun q e => by cases e; exact ⟨hle, _, ho, hc⟩), okF_put x W l o o' hV ho hc⟩
  case assign =>
    intro l pre x Z W K hI hV hZ hlen hK
    simp only [encF]
    gi_wp2
    have hb := (Below.refl W.heap.size W).alloc (Nat.le_refl _) (.cells #[.int .i64 (x.1 : Int), .int .i64 (x.2.1 : Int)] 38)
    obtain ⟨h0, ⟨h1, h2, h2'⟩, h3, h4, h5⟩ := hI
    exact hK _ _ (keepsOthers_below hb) ((KeptOn.refl Z W).below hb (fun k hk => (hZ k hk).2)) ((KeptOn.refl _ W).below hb (fun k hk => by omega))
      ⟨W.heap.size, rfl, Row.new W _ _, ⟨h0, ⟨h1.alloc _, h2.alloc _, h2'.alloc _⟩, h3, h4.alloc (by omega) _, by rw [World.size_alloc]; omega⟩, hV.1, hV.2.1, hV.2.2.later hb⟩
  case body =>
    rintro l pre x Z a' W ⟨r, rfl, hr, ⟨h0, ⟨h1, h2, h2'⟩, h3, h4, h5⟩, hk4, hkn, hV⟩ hZ hlen
    have c5 := h2'.cell 0
    have HEq := Lib.hid (Equal_any (natI (formL n x.1 x.2.1 ys)) (natI bs) x.2.2 (.slice bo bs.length cap') W (by rw [natI_length, formL_length]; unfold maxLen; omega) (by rw [natI_length]; unfold maxLen; omega) hV (H2.out.later (by rw [HH.out]; exact h4)))
    have cr0 := hr.cell 0
    have cr1 := hr.cell 1
    have H1r := Lib.hid h1
    have H2r := Lib.hid h2
    have H2r' := Lib.hid h2'
    have H3 := Lib.hid h3
    have H4 := Lib.hid h4
    have H5 := Lib.hid h5
    have H0 := Lib.hid h0
    by_cases hm : formL n x.1 x.2.1 ys = bs
    · have e1 : (natI (formL n x.1 x.2.1 ys) == natI bs) = true := by rw [hm]; exact beq_self_eq_true _
      rw [e1] at HEq
      have HMt := Lib.hid hm
      have k0 := h1.cell 0
      have k1 := h1.cell 1
      have k2 := h2.cell 0
      have f0 := h1.frozen 0
      have f1 := h1.frozen 1
      have f2 := h2.frozen 0
      clear hm e1 hV hr h0 h1 h2 h2' h3 h4 h5
      gi_wp2_with (refine ⟨trivial, ?_⟩; gi_at_call 18; refine (CallsIn.inRound l (callsIn_wide.2 HEq.out)).mono ?_; rintro e w' ⟨rfl, q, rfl⟩)
      have hkq : KeepsOthers W (W.drewN q) := keepsOthers_below (below_drewN (Below.refl W.heap.size W) q)
      have R1 := ((show Row (W.drewN q) (H + 1) 38 [.int .i64 0, .int .i64 0] from H1r.out).set 0 (.int .i64 (x.1 : Int))).set 1 (.int .i64 (x.2.1 : Int))
      have R1 := R1.other (show H + 1 ≠ H + 1 + 1 by omega) (i := 0) (.int .i64 0)
      have R2 := ((show Row (W.drewN q) (H + 1 + 1) 23 [.int .i64 0] from H2r.out).other (show H + 1 + 1 ≠ H + 1 by omega) (i := 0) (.int .i64 (x.1 : Int))).other (show H + 1 + 1 ≠ H + 1 by omega) (i := 1) (.int .i64 (x.2.1 : Int))
      have R2 := R2.set 0 (.int .i64 0)
      refine ⟨((hkq.trans (KeepsOthers.setCell _ ⟨H + 1, 0, none⟩ _)).trans (KeepsOthers.setCell _ ⟨H + 1, 1, none⟩ _)).trans (KeepsOthers.setCell _ ⟨H + 1 + 1, 0, none⟩ _),
        ((((KeptOn.refl Z W).drewN q).setCell (p := ⟨H + 1, 0, none⟩) (fun h => by have := H3.out _ h; dsimp only at this; omega) _).setCell (p := ⟨H + 1, 1, none⟩) (fun h => by have := H3.out _ h; dsimp only at this; omega) _).setCell (p := ⟨H + 1 + 1, 0, none⟩) (fun h => by have := H3.out _ h; dsimp only at this; omega) _,
        ((((KeptOn.refl _ W).drewN q).setCell (p := ⟨H + 1, 0, none⟩) (fun h => h.2.1 rfl) _).setCell (p := ⟨H + 1, 1, none⟩) (fun h => h.2.1 rfl) _).setCell (p := ⟨H + 1 + 1, 0, none⟩) (fun h => h.2.2 rfl) _,
        rfl, ⟨pre, x, rfl, H0.out, HMt.out, R1, R2⟩, H3.out,
        (((below_drewN H4.out q).setCell (p := ⟨H + 1, 0, none⟩) (show H ≤ H + 1 by omega) _).setCell (p := ⟨H + 1, 1, none⟩) (show H ≤ H + 1 by omega) _).setCell (p := ⟨H + 1 + 1, 0, none⟩) (show H ≤ H + 1 + 1 by omega) _, ?_⟩
      have := H5.out
      simpa [World.setCell] using this
    · have e1 : (natI (formL n x.1 x.2.1 ys) == natI bs) = false := by
        rw [beq_eq_false_iff_ne]; exact fun e => hm (natI_inj e)
      rw [e1] at HEq
      have HMt := Lib.hid hm
      clear hm e1 hV hr h0 h1 h2 h2' h3 h4 h5
      gi_wp2_with (refine ⟨trivial, ?_⟩; gi_at_call 18; refine (CallsIn.inRound l (callsIn_wide.2 HEq.out)).mono ?_; rintro e w' ⟨rfl, q, rfl⟩)
      have hbq := below_drewN (Below.refl W.heap.size W) q
      refine ⟨keepsOthers_below hbq, (KeptOn.refl Z W).drewN q, (KeptOn.refl _ W).drewN q, fun y hy => ?_, ⟨H1r.out, H2r.out, H2r'.out⟩, H3.out, below_drewN H4.out q, H5.out⟩
      rcases List.mem_append.1 hy with hy | hy
      · exact H0.out y hy
      · rw [List.mem_singleton] at hy
        rw [hy]; exact HMt.out
  case done =>
    rintro D xs Z W hD hS ⟨h0, ⟨h1, h2, _⟩, h3, h4, h5⟩ hK
    have HNo := Lib.hid (show wayT n ys bs = none by
      unfold wayT
      rw [List.find?_eq_none]
      intro t ht hh
      rw [List.mem_range] at ht
      have hmem : nmT n t ∈ xs.map nm := by rw [hS]; exact List.mem_map.2 ⟨t, List.mem_range.2 ht, rfl⟩
      obtain ⟨x, hx, e⟩ := List.mem_map.1 hmem
      refine h0 x hx ?_
      have e1 : x.1 = t / n := congrArg Prod.fst e
      have e2 : x.2.1 = t % n := congrArg Prod.snd e
      rw [e1, e2]
      exact of_decide_eq_true hh)
    have c0 := h1.cell 0
    have c1 := h1.cell 1
    have c2 := h2.cell 0
    have f0 := h1.frozen 0
    have f1 := h1.frozen 1
    have f2 := h2.frozen 0
    have R1 := h1.set 0 (.int .i64 0)
    have R1 := R1.set 1 (.int .i64 0)
    have R1 := R1.other (show H + 1 ≠ H + 1 + 1 by omega) (i := 0) (.int .i64 4)
    have R2 := (h2.other (show H + 1 + 1 ≠ H + 1 by omega) (i := 0) (.int .i64 0)).other (show H + 1 + 1 ≠ H + 1 by omega) (i := 1) (.int .i64 0)
    have R2 := R2.set 0 (.int .i64 4)
    have HB := Lib.hid (((h4.setCell (p := ⟨H + 1, 0, none⟩) (show H ≤ H + 1 by omega) (.int .i64 0)).setCell (p := ⟨H + 1, 1, none⟩) (show H ≤ H + 1 by omega) (.int .i64 0)).setCell (p := ⟨H + 1 + 1, 0, none⟩) (show H ≤ H + 1 + 1 by omega) (.int .i64 4))
    have HR1 := Lib.hid R1
    have HR2 := Lib.hid R2
    have HKo := Lib.hid (((KeepsOthers.setCell W ⟨H + 1, 0, none⟩ (.int .i64 0)).trans (KeepsOthers.setCell _ ⟨H + 1, 1, none⟩ (.int .i64 0))).trans (KeepsOthers.setCell _ ⟨H + 1 + 1, 0, none⟩ (.int .i64 4)))
    clear h0 h1 h2 h3 h4 h5 R1 R2 hS
    gi_wp2
    have hK' := HKo.out.same D _ hK rfl
    refine ⟨by simp, .inl ⟨_, _, rfl, run_takeDeferred hK', ?_⟩⟩
    have R1' := HR1.out.kept (grownBy_putObj' _ D (.deferred none)) (fun r e => by cases e; exact ⟨_, hK', rfl⟩)
    have R2' := HR2.out.kept (grownBy_putObj' _ D (.deferred none)) (fun r e => by cases e; exact ⟨_, hK', rfl⟩)
    refine ⟨wayV n none, ?_, by rw [HNo.out], by rw [HH.out]; exact HB.out.trans (belowK_b (w := W0) (by omega) _ D _ _ (by omega) hK' rfl rfl)⟩
    exact way_results _ _ _ _ _ _ rfl rfl R1' R2'
  case stop =>
    rintro D c pre Z W hD ⟨m, hm, hpre⟩ ⟨rfl, ⟨p, x, e1, e2, e3, h1, h2⟩, h3, h4, h5⟩ hK
    have HSo := Lib.hid (way_some e1 e2 e3 hpre hm)
    have HR1 := Lib.hid h1
    have HR2 := Lib.hid h2
    have HB := Lib.hid h4
    clear e1 e2 e3 hpre hm h1 h2 h3 h4 h5
    gi_wp2
    refine ⟨by simp, .inl ⟨_, _, rfl, run_takeDeferred hK, ?_⟩⟩
    have R1' := HR1.out.kept (grownBy_putObj' W D (.deferred none)) (fun r e => by cases e; exact ⟨_, hK, rfl⟩)
    have R2' := HR2.out.kept (grownBy_putObj' W D (.deferred none)) (fun r e => by cases e; exact ⟨_, hK, rfl⟩)
    obtain ⟨t, ht, e4, e5⟩ := HSo.out
    refine ⟨wayV n (some t), ?_, by rw [ht], by first | (rw [HH.out]; exact HB.out.trans (belowK_b (w := W0) (by omega) W D _ _ (by omega) hK rfl rfl)) | exact HB.out.trans (belowK_b (w := W0) (by omega) W D _ _ (by omega) hK rfl rfl)⟩
    rw [← e4, ← e5] at R1'
    exact way_results _ _ _ _ _ _ rfl rfl R1' R2'
end Go.Proofs.Ytdfagnjdconkcaa

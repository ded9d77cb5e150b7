/-
  First: what a range keeps that returns a copy in its first round.
-/
import Derived.Test.YtlmfmfbnbbooaaaDuCount
import Derived.Test.YtlmfmfbnbbooaaaRoSort
namespace Go.Proofs.Ytlmfmfbnbbooaaa
open Go.RowKit Go.Shelf Go.ChangeShapes Go.WideShapes Go.ChangeAt
attribute [local go_sem] Oper.semAt_some
set_option maxRecDepth 100000

theorem cell_same {W W' : World} {b : Nat} (h : W'.heap[b]? = W.heap[b]?) (i : Nat) : W'.cell? ⟨b, i, none⟩ = W.cell? ⟨b, i, none⟩ := World.cell?_of_block (w := W) (w' := W') h
/-- A row of its own stays what it is as long as its block does. -/
theorem own_block {W : World} {base : Nat} {v : Value} {xs : List Int} (h0 : 0 < xs.length) (h : W.ownsRow base 3 1 v xs.length (ivals xs)) :
    ∃ b c o, v = .slice (some ⟨b, 0, none⟩) xs.length c ∧ base ≤ b ∧ b < W.heap.size ∧ W.heap[b]? = some o ∧ o.isCells = true ∧ ∀ W' : World, W'.heap[b]? = some o → IntsV W' v xs := by
  have hI := IntsV.of_own h
  obtain ⟨_, ⟨_, e⟩ | ⟨g, cap, cur, rfl, hg, hh, _⟩⟩ := h
  · omega
  · refine ⟨g, cap, _, rfl, hg, (Array.getElem?_eq_some_iff.1 hh).1, hh, rfl, fun W' hW' => ?_⟩
    obtain ⟨ao, cap', e, h1, h2⟩ := hI
    cases e
    refine ⟨_, _, rfl, h1, fun hp => ?_⟩
    obtain ⟨b, off, e2, hd⟩ := h2 hp
    cases e2
    exact ⟨_, _, rfl, fun i hi => (cell_same (W := W) (hW'.trans hh.symm) _).trans (hd i hi)⟩

theorem Row.loneD {W W' : World} {row : Option Nat} {b : Nat} {t : TypeId} {vs : List Value} (h : Row W b t vs) (hg : W.grownBy W' row) (hne : ∀ r, row = some r → b ≠ r) : Row W' b t vs :=
  (hg.block b h.lt (fun e => hne b e.symm rfl)).trans h
theorem keepsOthers_belowD {W W' : World} (h : Below W.heap.size W W') : KeepsOthers W W' := ⟨h.size, fun k o hk _ => (h.block k (Array.getElem?_eq_some_iff.1 hk).1).trans hk⟩

theorem below_nx' {H : Nat} {w W W' : World} (h : Below H w W) (k : Below W.heap.size W W') (hs : H ≤ W.heap.size := by omega) : Below H w W' := h.trans (k.mono hs)

def FdI (H : Nat) (w : World) (R1 R2 : Nat) (pre : List DX) (Z : Nat → Prop) (W : World) : Prop :=
  pre = [] ∧ (Row W R1 22 [.slice none 0 0] ∧ Row W R2 23 [.int .i64 0]) ∧ (∀ k, Z k → R2 < k) ∧ Below H w W ∧ R2 < W.heap.size
def FdX (H : Nat) (w : World) (R1 R2 : Nat) (pre : List DX) (Z : Nat → Prop) (W : World) : Prop :=
  (∃ (x : DX) (v : Value) (b : Nat) (o : Obj), pre = [x] ∧ Row W R1 22 [v] ∧ Row W R2 23 [.int .i64 0] ∧ W.heap[b]? = some o ∧ o.isCells = true ∧ (∀ W' : World, W'.heap[b]? = some o → IntsV W' v x.1) ∧ ¬ Z b) ∧ (∀ k, Z k → R2 < k) ∧ Below H w W ∧ R2 < W.heap.size

theorem FdI.sep {H B R1 R2 : Nat} {w : World} (hH : H = w.heap.size) (h12 : R1 < R2) (h1 : H ≤ R1) (hB : R2 < B) : SepO B (FdI H w R1 R2) :=
  { grow := fun s Z W W' row ⟨h0, ⟨h1, h2⟩, h3, h4, h5⟩ hg hr => ⟨h0, ⟨h1.kept hg (fun r e => (hr r e).2), h2.kept hg (fun r e => (hr r e).2)⟩, h3, h4.grown hg (by have := h4.size; omega) (fun k e => by have := (hr k e).1; omega), Nat.lt_of_lt_of_le h5 hg.size⟩
    priv := fun s Z W r i u ⟨h0, ⟨h1, h2⟩, h3, h4, h5⟩ hz => by
      have h6 := h3 r hz
      exact ⟨h0, ⟨h1.other (by omega) u, h2.other (by omega) u⟩, h3, h4.setCell (p := ⟨r, i, none⟩) (show H ≤ r by omega) u, by simpa [World.setCell] using h5⟩
    take := fun s Z W o ⟨h0, ⟨h1, h2⟩, h3, h4, h5⟩ => ⟨h0, ⟨h1.alloc o, h2.alloc o⟩, fun k hk => by
      rcases hk with hk | rfl
      · exact h3 k hk
      · exact h5, h4.alloc (by have := h4.size; omega) o, by rw [World.size_alloc]; omega⟩
    draw := fun s Z W ⟨h0, ⟨h1, h2⟩, h3, h4, h5⟩ => ⟨h0, ⟨h1, h2⟩, h3, h4.drew, h5⟩
    own := fun s Z W W' row N ⟨h0, ⟨h1, h2⟩, h3, h4, h5⟩ hg hr hN => by
      have h6 : ∀ r, row = some r → R2 < r := fun r e => h3 r (hr r e)
      refine ⟨h0, ⟨h1.loneD hg (fun r e => by have := h6 r e; omega), h2.loneD hg (fun r e => by have := h6 r e; omega)⟩, fun k hk => ?_, h4.grown hg (by have := h4.size; omega) (fun k e => by have := h6 k e; omega), Nat.lt_of_lt_of_le h5 hg.size⟩
      rcases hk with hk | ⟨hk, _⟩
      · exact h3 k hk
      · have := hN k hk; omega }
theorem FdX.sep {H B R1 R2 : Nat} {w : World} (hH : H = w.heap.size) (h12 : R1 < R2) (h1 : H ≤ R1) (hB : R2 < B) : SepO B (FdX H w R1 R2) :=
  { grow := fun s Z W W' row ⟨⟨x, v, b, o, e0, h1, h2, h6, h7, h8, h9⟩, h3, h4, h5⟩ hg hr => ⟨⟨x, v, b, o, e0, h1.kept hg (fun r e => (hr r e).2), h2.kept hg (fun r e => (hr r e).2), (hg.block b (Array.getElem?_eq_some_iff.1 h6).1 (fun e => by
      obtain ⟨o', ho, hc⟩ := (hr b e.symm).2
      rw [h6] at ho; cases ho; rw [h7] at hc; cases hc)).trans h6, h7, h8, h9⟩, h3, h4.grown hg (by have := h4.size; omega) (fun k e => by have := (hr k e).1; omega), Nat.lt_of_lt_of_le h5 hg.size⟩
    priv := fun s Z W r i u ⟨⟨x, v, b, o, e0, h1, h2, h6, h7, h8, h9⟩, h3, h4, h5⟩ hz => by
      have h10 := h3 r hz
      exact ⟨⟨x, v, b, o, e0, h1.other (by omega) u, h2.other (by omega) u, (Below.heap_setCell W ⟨r, i, none⟩ u b (fun e => h9 (by rw [e]; exact hz))).trans h6, h7, h8, h9⟩, h3, h4.setCell (p := ⟨r, i, none⟩) (show H ≤ r by omega) u, by simpa [World.setCell] using h5⟩
    take := fun s Z W o' ⟨⟨x, v, b, o, e0, h1, h2, h6, h7, h8, h9⟩, h3, h4, h5⟩ => ⟨⟨x, v, b, o, e0, h1.alloc o', h2.alloc o', (Below.heap_alloc W o' b (Array.getElem?_eq_some_iff.1 h6).1).trans h6, h7, h8, fun hk => by
      rcases hk with hk | e
      · exact h9 hk
      · have := (Array.getElem?_eq_some_iff.1 h6).1; omega⟩, fun k hk => by
      rcases hk with hk | rfl
      · exact h3 k hk
      · exact h5, h4.alloc (by have := h4.size; omega) o', by rw [World.size_alloc]; omega⟩
    draw := fun s Z W ⟨⟨x, v, b, o, e0, h1, h2, h6, h7, h8, h9⟩, h3, h4, h5⟩ => ⟨⟨x, v, b, o, e0, h1, h2, h6, h7, h8, h9⟩, h3, h4.drew, h5⟩
    own := fun s Z W W' row N ⟨⟨x, v, b, o, e0, h1, h2, h6, h7, h8, h9⟩, h3, h4, h5⟩ hg hr hN => by
      have h10 : ∀ r, row = some r → R2 < r := fun r e => h3 r (hr r e)
      refine ⟨⟨x, v, b, o, e0, h1.loneD hg (fun r e => by have := h10 r e; omega), h2.loneD hg (fun r e => by have := h10 r e; omega), (hg.block b (Array.getElem?_eq_some_iff.1 h6).1 (fun e => h9 (hr b e.symm))).trans h6, h7, h8, fun hk => ?_⟩, fun k hk => ?_, h4.grown hg (by have := h4.size; omega) (fun k e => by have := h10 k e; omega), Nat.lt_of_lt_of_le h5 hg.size⟩
      · rcases hk with hk | ⟨hk, _⟩
        · exact h9 hk
        · have := hN b hk; have := (Array.getElem?_eq_some_iff.1 h6).1; omega
      · rcases hk with hk | ⟨hk, _⟩
        · exact h3 k hk
        · have := hN k hk; omega }
theorem FdR.sep {H B R1 R2 : Nat} {w : World} (hH : H = w.heap.size) (h12 : R1 < R2) (h1 : H ≤ R1) (hB : R2 < B) (c : Code) : SepO B (fun pre Z W => c = .ret ∧ FdX H w R1 R2 pre Z W) :=
  let hx := FdX.sep hH h12 h1 hB
  { grow := fun s Z W W' row h hg hr => ⟨h.1, hx.grow s Z W W' row h.2 hg hr⟩
    priv := fun s Z W r i u h hz => ⟨h.1, hx.priv s Z W r i u h.2 hz⟩
    take := fun s Z W o h => ⟨h.1, hx.take s Z W o h.2⟩
    draw := fun s Z W h => ⟨h.1, hx.draw s Z W h.2⟩
    own := fun s Z W W' row N h hg hr hN => ⟨h.1, hx.own s Z W W' row N h.2 hg hr hN⟩ }
theorem right_mem {gs l : List Int} (h : l ∈ rightL gs) : l.length = gs.length := by
  unfold rightL at h
  exact of_decide_eq_true (List.mem_filter.1 h).2
theorem first_results (tmps : Array Value) (w : World) (g h : Nat) (a b : Value) (hp : tmps.getD 2 undef = .pointer (some ⟨g, 0, none⟩)) (hq : tmps.getD 3 undef = .pointer (some ⟨h, 0, none⟩))
    (h1 : Row w g 22 [a]) (h2 : Row w h 23 [b]) : (results Try.f44 tmps).run Try.prog w = .ok (.tuple #[a, b]) w := by
  have c0 : w.cell? ⟨g, 0, none⟩ = some a := h1.cell 0
  have c2 : w.cell? ⟨h, 0, none⟩ = some b := h2.cell 0
  have hp' : tmps[2]?.getD undef = .pointer (some ⟨g, 0, none⟩) := by simpa using hp
  have hq' : tmps[3]?.getD undef = .pointer (some ⟨h, 0, none⟩) := by simpa using hq
  simp [results, Try.f44, go_sem, hp', hq', c0, c2]

set_option maxHeartbeats 4000000 in
theorem First_ok (gs l0 : List Int) (rest : List (List Int)) (g : Value) (w : World) (hp : dpartB gs = true) (hr0 : rightL gs = l0 :: rest) (h : IntsV w g gs) :
    Calls Try.prog 44 #[g] w fun e w' => ∃ v', e = .returned (.tuple #[v', .int .i64 0]) ∧ IntsV w' v' l0 ∧ Below w.heap.size w w' := by
  have g1 := dpart_len hp
  have H1 := Lib.hid h
  have hlow := ints_low h (by omega)
  have HR0 := Lib.hid hr0
  obtain ⟨W2, hW2⟩ : ∃ W2, (w.alloc (.cells #[.slice none 0 0] 22)).alloc (.cells #[.int .i64 0] 23) = W2 := ⟨_, rfl⟩
  have hb2 : Below w.heap.size w W2 := by rw [← hW2]; exact ((Below.refl _ w).alloc (Nat.le_refl _) _).alloc (by simp) _
  have HV := Lib.hid (isPart_any gs g W2 (by unfold maxLen; omega) (h.later hb2))
  rw [hp] at HV
  obtain ⟨ga, gc, rfl, _⟩ := h
  obtain ⟨H, hH⟩ : ∃ H, w.heap.size = H := ⟨_, rfl⟩
  have hs2 : W2.heap.size = H + 1 + 1 := by rw [← hW2, ← hH]; simp
  have r1 : Row W2 H 22 [.slice none 0 0] := by rw [← hW2, ← hH]; exact (Row.new w _ _).alloc _
  have r2 : Row W2 (H + 1) 23 [.int .i64 0] := by
    rw [← hW2, ← hH]
    have := Row.new (w.alloc (.cells #[.slice none 0 0] 22)) 23 [.int .i64 0]
    rw [World.size_alloc] at this
    exact this
  have HI := right_any ga gs.length gc W2
  rw [hs2] at HI
  obtain ⟨W0, hW0⟩ : ∃ W0, W2.alloc (.cells #[.slice ga gs.length gc] 22) = W0 := ⟨_, rfl⟩
  have b20 : Below W2.heap.size W2 W0 := by rw [← hW0]; exact (Below.refl _ W2).alloc (Nat.le_refl _) _
  have hs0 : W0.heap.size = H + 1 + 1 + 1 := by rw [← hW0, World.size_alloc, hs2]
  have bW0 : Below H w W0 := by rw [← hH]; exact below_nx hb2 b20
  have r1 := r1.later b20
  have r2 := r2.later b20
  have c1 : W0.cell? ⟨H + 1 + 1, 0, none⟩ = some (.slice ga gs.length gc) := by
    have := Row.new W2 22 [.slice ga gs.length gc]
    rw [hs2] at this
    rw [← hW0]; exact this.cell 0
  have HI := Lib.hid HI
  have HW0 := Lib.hid hW0
  have HW2 := Lib.hid hW2
  have HGI := Lib.hid (H1.out.later (hH.symm ▸ bW0))
  have HHH := Lib.hid hH
  have HLow := Lib.hid hlow
  have HRo := Lib.hid (And.intro r1 r2)
  have HBW := Lib.hid bW0
  have g8 := g1.2.1
  have gn := g1.2.2
  have gl1 := g1.1
  clear hW0 bW0 hlow hp g1 H1 r1 r2 hr0 hW2 hb2 b20 hs2
  refine (callsIn_wide (n := 9)).1 ?_
  refine callsIn_of_wp_marks Try.func44 rfl trivial ?_ rfl
  simp only [Try.ntmps44, List.size_toArray, List.length_cons, List.length_nil, Nat.reduceAdd, Nat.reduceSub, Array.replicate_succ, Array.replicate_zero, List.push_toArray, List.append_toArray, List.nil_append, List.cons_append]
  gi_wp2_with (refine ⟨trivial, ?_⟩; first | (gi_at_call 86; rw [HW2.out]; refine (callsIn_wide.2 HV.out).mono ?_; rintro e w' ⟨rfl, rfl⟩) | (gi_at_call 87; refine (callsIn_wide.2 HI.out).mono ?_; rintro e w' ⟨rfl, rfl⟩))
  try rw [HW0.out]
  have hSS : ∀ k, (k < H ∨ k = H + 1 + 1) → k < W0.heap.size := fun k h => by omega
  refine wpIn_rangeFunc_sepX (α := DX) (by omega) (gf := 117) (lb := #[.pointer (some ⟨H + 1 + 1, 0, none⟩)]) rfl right_enters
    (right1_seq gs (H + 1 + 1) (fun k => k < H ∨ k = H + 1 + 1) _ W0 g8 gn HGI.out c1 (.inr rfl) (fun a m c e => .inl (by have := HLow.out a m c e; have := HHH.out; omega)) hSS) VDP_put keptOn_t (keptOn_b hSS) (Below.refl _ _) (fun _ => rfl)
    (FdI H w H (H + 1)) (fun c pre Z W => c = .ret ∧ FdX H w H (H + 1) pre Z W) (FdI.sep HHH.out.symm (by omega) (by omega) (by omega)) (fun c => FdR.sep HHH.out.symm (by omega) (by omega) (by omega) c)
    ⟨rfl, HRo.out, fun k h => h.elim, HBW.out, by omega⟩
    (fun x => { tmps := #[.slice ga gs.length gc, undef, .pointer (some ⟨H, 0, none⟩), .pointer (some ⟨H + 1, 0, none⟩), x.2, .slice ga gs.length gc, .bool true, .bool false, .slice ga gs.length gc, .func (.func 117) #[] #[.pointer (some ⟨H + 1 + 1, 0, none⟩)], x.2, undef, undef], defers := [] }) ?assign ?body ?done ?stop
  case assign =>
    intro l x W K hK
    simp only [encD]
    gi_wp2
    simpa using hK
  case body =>
    rintro l pre ⟨xl, xv⟩ Z V hl hrec ⟨h0, ⟨q1, q2⟩, h3, h4, h5⟩ ⟨hV, hVz, hMem⟩ hZb hlen
    dsimp only at hV hVz hMem ⊢
    have hxl := right_mem hMem
    have HCl := Lib.hid (Clone_own xl xv V (by omega) (by omega) hV)
    have HOB := Lib.hid (fun (W : World) (v : Value) (h : W.ownsRow V.heap.size 3 1 v xl.length (ivals xl)) => own_block (by omega) h)
    clear hxl
    obtain ⟨xa, xc, e, -⟩ := hV
    subst e
    have Q1 := Lib.hid q1
    have Q2 := Lib.hid q2
    have H3 := Lib.hid h3
    have H4 := Lib.hid h4
    have H5 := Lib.hid h5
    have H0 := Lib.hid h0
    have HZb := Lib.hid hZb
    clear h0 q1 q2 h3 h4 h5 hVz hMem hZb
    gi_wp2_with (refine ⟨trivial, ?_⟩; gi_at_call 32; refine (CallsIn.inRound l (callsIn_wide.2 HCl.out)).mono ?_; rintro e w1 ⟨v1, rfl, ho, hb⟩; obtain ⟨b, c, o, rfl, hbase, hblt, hbo, hoc, hIv⟩ := HOB.out w1 v1 ho; have Q1' := Lib.hid (Q1.out.later hb); have Q2' := Lib.hid (Q2.out.later hb); have k1 := Q1'.out.cell 0; have k2 := Q2'.out.cell 0; have f1 := Q1'.out.frozen 0; have f2 := Q2'.out.frozen 0; have HBb := Lib.hid hb; have HBs := Lib.hid (And.intro hbase (And.intro hbo (And.intro hoc hIv))); clear ho hb hbase hbo hoc hIv)
    have hp := H0.out
    subst hp
    obtain ⟨hbase, hbo, hoc, hIv⟩ := HBs.out
    have hZV := HZb.out
    have h3 := H3.out
    have h4 := H4.out
    have h5 := H5.out
    have hbb := HBb.out
    have hlV : l < V.heap.size := by obtain ⟨r, hrl⟩ := hrec; exact (Array.getElem?_eq_some_iff.1 hrl).1
    have R1 := (Q1'.out.set 0 (.slice (some ⟨b, 0, none⟩) xl.length c)).other (show H ≠ H + 1 by omega) (i := 0) (.int .i64 0)
    have R2 := (Q2'.out.other (show H + 1 ≠ H by omega) (i := 0) (.slice (some ⟨b, 0, none⟩) xl.length c)).set 0 (.int .i64 0)
    refine ⟨((keepsOthers_belowD hbb).trans ((KeepsOthers.setCell _ ⟨H, 0, none⟩ _).trans (KeepsOthers.setCell _ ⟨H + 1, 0, none⟩ _))).from _,
      ((show KeptOn Z V w1 from ⟨hbb.size, fun k hk => hbb.block k (hZV k hk).2⟩).setCell (p := ⟨H, 0, none⟩) (fun h => by have := h3 _ h; dsimp only at this; omega) _).setCell (p := ⟨H + 1, 0, none⟩) (fun h => by have := h3 _ h; dsimp only at this; omega) _,
      ((show KeptOn _ V w1 from ⟨hbb.size, fun k hk => hbb.block k (by rcases hk with h | h <;> omega)⟩).setCell (p := ⟨H, 0, none⟩) (fun h => by rcases h with h | h <;> (dsimp only at h; omega)) _).setCell (p := ⟨H + 1, 0, none⟩) (fun h => by rcases h with h | h <;> (dsimp only at h; omega)) _,
      rfl, ⟨_, _, b, o, rfl, R1, R2, ((Below.heap_setCell _ ⟨H + 1, 0, none⟩ _ b (show b ≠ H + 1 by omega)).trans ((Below.heap_setCell _ ⟨H, 0, none⟩ _ b (show b ≠ H by omega)).trans hbo)), hoc, hIv, fun hk => by have := (hZV b hk).2; omega⟩, h3,
      ((below_nx' h4 hbb).setCell (p := ⟨H, 0, none⟩) (show H ≤ H by omega) _).setCell (p := ⟨H + 1, 0, none⟩) (show H ≤ H + 1 by omega) _, ?_⟩
    have := hbb.size
    simp [World.setCell]
    omega
  case done =>
    rintro D xs Z W hD hS ⟨h0, _⟩ hK
    exfalso
    rw [h0, HR0.out] at hS
    cases hS
  case stop =>
    rintro D c pre Z W hD ⟨q, hq⟩ ⟨rfl, ⟨x, v, b, o, e1, h1, h2, h6, h7, h8, h9⟩, h3, h4, h5⟩ hK
    have HL := Lib.hid (show x.1 = l0 by
      rw [HR0.out, e1] at hq
      have e3 : l0 = x.1 := by simpa using congrArg List.head? hq
      exact e3.symm)
    have HR1 := Lib.hid h1
    have HR2 := Lib.hid h2
    have HB := Lib.hid h4
    have HO := Lib.hid (And.intro h6 (And.intro h7 h8))
    clear e1 h1 h2 h3 h4 h5 h6 h7 h8 h9 hq
    gi_wp2
    refine ⟨by simp, .inl ⟨_, _, rfl, run_takeDeferred hK, ?_⟩⟩
    have R1' := HR1.out.kept (grownBy_putObj' W D (.deferred none)) (fun r e => by cases e; exact ⟨_, hK, rfl⟩)
    have R2' := HR2.out.kept (grownBy_putObj' W D (.deferred none)) (fun r e => by cases e; exact ⟨_, hK, rfl⟩)
    obtain ⟨h6, h7, h8⟩ := HO.out
    have hbD : b ≠ D := fun e => by subst e; rw [h6] at hK; cases hK; cases h7
    have hb' : (W.putObj D (.deferred none)).heap[b]? = some o := ((grownBy_putObj' W D (.deferred none)).block b (Array.getElem?_eq_some_iff.1 h6).1 (fun e => hbD (by cases e; rfl))).trans h6
    refine ⟨.tuple #[v, .int .i64 0], ?_, ⟨v, rfl, ?_, ?_⟩⟩
    · exact first_results _ _ _ _ _ _ rfl rfl R1' R2'
    · have e := h8 _ hb'
      rw [HL.out] at e
      exact e
    · rw [HHH.out]
      exact HB.out.trans (belowK_b (w := W0) (by omega) W D _ _ (by omega) hK rfl rfl)

set_option maxHeartbeats 4000000 in
theorem First_none (gs : List Int) (g : Value) (w : World) (hp : dpartB gs = true) (hr0 : rightL gs = []) (h : IntsV w g gs) :
    Calls Try.prog 44 #[g] w fun e w' => e = .returned (.tuple #[.slice none 0 0, .int .i64 4]) ∧ Below w.heap.size w w' := by
  have g1 := dpart_len hp
  have H1 := Lib.hid h
  have hlow := ints_low h (by omega)
  have HR0 := Lib.hid hr0
  obtain ⟨W2, hW2⟩ : ∃ W2, (w.alloc (.cells #[.slice none 0 0] 22)).alloc (.cells #[.int .i64 0] 23) = W2 := ⟨_, rfl⟩
  have hb2 : Below w.heap.size w W2 := by rw [← hW2]; exact ((Below.refl _ w).alloc (Nat.le_refl _) _).alloc (by simp) _
  have HV := Lib.hid (isPart_any gs g W2 (by unfold maxLen; omega) (h.later hb2))
  rw [hp] at HV
  obtain ⟨ga, gc, rfl, _⟩ := h
  obtain ⟨H, hH⟩ : ∃ H, w.heap.size = H := ⟨_, rfl⟩
  have hs2 : W2.heap.size = H + 1 + 1 := by rw [← hW2, ← hH]; simp
  have r1 : Row W2 H 22 [.slice none 0 0] := by rw [← hW2, ← hH]; exact (Row.new w _ _).alloc _
  have r2 : Row W2 (H + 1) 23 [.int .i64 0] := by
    rw [← hW2, ← hH]
    have := Row.new (w.alloc (.cells #[.slice none 0 0] 22)) 23 [.int .i64 0]
    rw [World.size_alloc] at this
    exact this
  have HI := right_any ga gs.length gc W2
  rw [hs2] at HI
  obtain ⟨W0, hW0⟩ : ∃ W0, W2.alloc (.cells #[.slice ga gs.length gc] 22) = W0 := ⟨_, rfl⟩
  have b20 : Below W2.heap.size W2 W0 := by rw [← hW0]; exact (Below.refl _ W2).alloc (Nat.le_refl _) _
  have hs0 : W0.heap.size = H + 1 + 1 + 1 := by rw [← hW0, World.size_alloc, hs2]
  have bW0 : Below H w W0 := by rw [← hH]; exact below_nx hb2 b20
  have r1 := r1.later b20
  have r2 := r2.later b20
  have c1 : W0.cell? ⟨H + 1 + 1, 0, none⟩ = some (.slice ga gs.length gc) := by
    have := Row.new W2 22 [.slice ga gs.length gc]
    rw [hs2] at this
    rw [← hW0]; exact this.cell 0
  have HI := Lib.hid HI
  have HW0 := Lib.hid hW0
  have HW2 := Lib.hid hW2
  have HGI := Lib.hid (H1.out.later (hH.symm ▸ bW0))
  have HHH := Lib.hid hH
  have HLow := Lib.hid hlow
  have HRo := Lib.hid (And.intro r1 r2)
  have HBW := Lib.hid bW0
  have g8 := g1.2.1
  have gn := g1.2.2
  have gl1 := g1.1
  clear hW0 bW0 hlow hp g1 H1 r1 r2 hr0 hW2 hb2 b20 hs2
  refine (callsIn_wide (n := 9)).1 ?_
  refine callsIn_of_wp_marks Try.func44 rfl trivial ?_ rfl
  simp only [Try.ntmps44, List.size_toArray, List.length_cons, List.length_nil, Nat.reduceAdd, Nat.reduceSub, Array.replicate_succ, Array.replicate_zero, List.push_toArray, List.append_toArray, List.nil_append, List.cons_append]
  gi_wp2_with (refine ⟨trivial, ?_⟩; first | (gi_at_call 86; rw [HW2.out]; refine (callsIn_wide.2 HV.out).mono ?_; rintro e w' ⟨rfl, rfl⟩) | (gi_at_call 87; refine (callsIn_wide.2 HI.out).mono ?_; rintro e w' ⟨rfl, rfl⟩))
  try rw [HW0.out]
  have hSS : ∀ k, (k < H ∨ k = H + 1 + 1) → k < W0.heap.size := fun k h => by omega
  refine wpIn_rangeFunc_sepX (α := DX) (by omega) (gf := 117) (lb := #[.pointer (some ⟨H + 1 + 1, 0, none⟩)]) rfl right_enters
    (right1_seq gs (H + 1 + 1) (fun k => k < H ∨ k = H + 1 + 1) _ W0 g8 gn HGI.out c1 (.inr rfl) (fun a m c e => .inl (by have := HLow.out a m c e; have := HHH.out; omega)) hSS) VDP_put keptOn_t (keptOn_b hSS) (Below.refl _ _) (fun _ => rfl)
    (FdI H w H (H + 1)) (fun c pre Z W => c = .ret ∧ FdX H w H (H + 1) pre Z W) (FdI.sep HHH.out.symm (by omega) (by omega) (by omega)) (fun c => FdR.sep HHH.out.symm (by omega) (by omega) (by omega) c)
    ⟨rfl, HRo.out, fun k h => h.elim, HBW.out, by omega⟩
    (fun x => { tmps := #[.slice ga gs.length gc, undef, .pointer (some ⟨H, 0, none⟩), .pointer (some ⟨H + 1, 0, none⟩), x.2, .slice ga gs.length gc, .bool true, .bool false, .slice ga gs.length gc, .func (.func 117) #[] #[.pointer (some ⟨H + 1 + 1, 0, none⟩)], x.2, undef, undef], defers := [] }) ?assign ?body ?done ?stop
  case assign =>
    intro l x W K hK
    simp only [encD]
    gi_wp2
    simpa using hK
  case body =>
    rintro l pre ⟨xl, xv⟩ Z V hl hrec _ ⟨_, _, hMem⟩ hZb hlen
    exfalso
    rw [HR0.out] at hMem
    cases hMem
  case done =>
    rintro D xs Z W hD hS ⟨h0, ⟨q1, q2⟩, h3, h4, h5⟩ hK
    have k1 := q1.cell 0
    have k2 := q2.cell 0
    have f1 := q1.frozen 0
    have f2 := q2.frozen 0
    have Q1 := Lib.hid q1
    have Q2 := Lib.hid q2
    have HB := Lib.hid h4
    have HK := Lib.hid hK
    clear q1 q2 h3 h4 h5 hS h0 hK
    gi_wp2
    have hK' : ((W.setCell ⟨H, 0, none⟩ (.slice none 0 0)).setCell ⟨H + 1, 0, none⟩ (.int .i64 4)).heap[D]? = some (.deferred (some [])) :=
      (Below.heap_setCell _ ⟨H + 1, 0, none⟩ _ D (show D ≠ H + 1 by omega)).trans ((Below.heap_setCell _ ⟨H, 0, none⟩ _ D (show D ≠ H by omega)).trans HK.out)
    refine ⟨by simp, .inl ⟨_, _, rfl, run_takeDeferred hK', ?_⟩⟩
    have q1 := (Q1.out.set 0 (.slice none 0 0)).other (show H ≠ H + 1 by omega) (i := 0) (.int .i64 4)
    have q2 := (Q2.out.other (show H + 1 ≠ H by omega) (i := 0) (.slice none 0 0)).set 0 (.int .i64 4)
    have R1' := q1.kept (grownBy_putObj' _ D (.deferred none)) (fun r e => by cases e; exact ⟨_, hK', rfl⟩)
    have R2' := q2.kept (grownBy_putObj' _ D (.deferred none)) (fun r e => by cases e; exact ⟨_, hK', rfl⟩)
    have HB' := (HB.out.setCell (p := ⟨H, 0, none⟩) (show H ≤ H by omega) (.slice none 0 0)).setCell (p := ⟨H + 1, 0, none⟩) (show H ≤ H + 1 by omega) (.int .i64 4)
    refine ⟨.tuple #[.slice none 0 0, .int .i64 4], ?_, ⟨rfl, ?_⟩⟩
    · exact first_results _ _ _ _ _ _ rfl rfl R1' R2'
    · rw [HHH.out]
      exact HB'.trans (belowK_b (w := W0) (by omega) _ D _ _ (by omega) hK' rfl rfl)
  case stop =>
    rintro D c pre Z W hD ⟨q, hq⟩ ⟨rfl, ⟨x, v, b, o, e1, _⟩, _⟩ hK
    exfalso
    rw [HR0.out, e1] at hq
    cases hq

theorem First_bad (xs : List Int) (g : Value) (w : World) (hl : xs.length ≤ maxLen) (hp : dpartB xs = false) (h : IntsV w g xs) :
    Calls Try.prog 44 #[g] w fun e w' => e = .returned (.tuple #[.slice none 0 0, .int .i64 2]) ∧ Below w.heap.size w w' := by
  obtain ⟨W2, hW2⟩ : ∃ W2, (w.alloc (.cells #[.slice none 0 0] 22)).alloc (.cells #[.int .i64 0] 23) = W2 := ⟨_, rfl⟩
  have hb2 : Below w.heap.size w W2 := by rw [← hW2]; exact ((Below.refl _ w).alloc (Nat.le_refl _) _).alloc (by simp) _
  have HV := Lib.hid (isPart_any xs g W2 hl (h.later hb2))
  rw [hp] at HV
  obtain ⟨H, hH⟩ : ∃ H, w.heap.size = H := ⟨_, rfl⟩
  have r1 : Row W2 H 22 [.slice none 0 0] := by rw [← hW2, ← hH]; exact (Row.new w _ _).alloc _
  have r2 : Row W2 (H + 1) 23 [.int .i64 0] := by
    rw [← hW2, ← hH]
    have := Row.new (w.alloc (.cells #[.slice none 0 0] 22)) 23 [.int .i64 0]
    rw [World.size_alloc] at this
    exact this
  have HB2 := Lib.hid hb2
  have R1 := Lib.hid r1
  have R2 := Lib.hid r2
  have k1 := r1.cell 0
  have k2 := r2.cell 0
  have f1 := r1.frozen 0
  have f2 := r2.frozen 0
  have HH := Lib.hid hH
  have HW2 := Lib.hid hW2
  obtain ⟨ao, cap, rfl, _⟩ := h
  clear hb2 r1 r2 hW2
  go_enter Try.func44, Try.ntmps44
  go_wp2_with fail
  rw [HW2.out]
  refine HV.out.mono ?_
  rintro e w' ⟨rfl, rfl⟩
  go_wp2
  have q1 := (R1.out.set 0 (.slice none 0 0)).other (show H ≠ H + 1 by omega) (i := 0) (.int .i64 2)
  have q2 := (R2.out.other (show H + 1 ≠ H by omega) (i := 0) (.slice none 0 0)).set 0 (.int .i64 2)
  refine bodyPost_ret (first_results _ _ H (H + 1) _ _ rfl rfl q1 q2) rfl ⟨rfl, ?_⟩
  have hB := HB2.out
  have e := HH.out
  rw [e] at hB
  first | (rw [e]; exact (hB.setCell (p := ⟨H, 0, none⟩) (show H ≤ H by omega) _).setCell (p := ⟨H + 1, 0, none⟩) (show H ≤ H + 1 by omega) _) | exact (hB.setCell (p := ⟨H, 0, none⟩) (show H ≤ H by omega) _).setCell (p := ⟨H + 1, 0, none⟩) (show H ≤ H + 1 by omega) _
end Go.Proofs.Ytlmfmfbnbbooaaa

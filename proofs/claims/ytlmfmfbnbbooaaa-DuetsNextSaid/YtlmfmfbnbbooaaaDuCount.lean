/-
  Count; that one note has three right parts.
-/
import Derived.Test.YtlmfmfbnbbooaaaDuCheck
namespace Go.Proofs.Ytlmfmfbnbbooaaa
open Go.RowKit Go.Shelf Go.ChangeShapes Go.WideShapes Go.ChangeAt
attribute [local go_sem] Oper.semAt_some
set_option maxRecDepth 100000

/-- A number in a box, which counts what has been handed out. -/
def CHold (H : Nat) (w : World) (pre : List DX) (Z : Nat → Prop) (V : World) : Prop := Row V H 3 [.int .i64 (pre.length : Nat)] ∧ (∀ k, Z k → H + 2 ≤ k) ∧ Below H w V ∧ H + 2 ≤ V.heap.size
theorem CHold.step {H : Nat} {w V V' : World} {row : Option Nat} {pre : List DX} {Z Z'' : Nat → Prop} (hH : H = w.heap.size) (h : CHold H w pre Z V) (hg : V.grownBy V' row) (hr : ∀ r, row = some r → H + 2 ≤ r) (hz : ∀ k, Z'' k → H + 2 ≤ k) : CHold H w pre Z'' V' := by
  obtain ⟨h1, h2, h3, h4⟩ := h
  exact ⟨h1.alone hg (fun r e => by have := hr r e; omega), hz, h3.grown hg (by omega) (fun k e => by have := hr k e; omega), Nat.le_trans h4 hg.size⟩
theorem CHold.sep {H : Nat} {w : World} (hH : H = w.heap.size) : SepO (H + 2) (CHold H w) :=
  { grow := fun s Z V V' row h hg hr => h.step hH hg (fun r e => (hr r e).1) h.2.1
    priv := fun s Z V r i u h hz => h.step hH (set_grown V r i u) (fun r' e => by cases e; exact h.2.1 r hz) h.2.1
    take := fun s Z V o h => h.step hH (alloc_grown V o) (fun r e => by cases e) (fun k hk => by
      rcases hk with hk | rfl
      · exact h.2.1 k hk
      · exact h.2.2.2)
    draw := fun s Z V ⟨h1, h2, h3, h4⟩ => ⟨h1, h2, h3.drew, h4⟩
    own := fun s Z V V' row N h hg hr hN => h.step hH hg (fun r e => h.2.1 r (hr r e)) (fun k hk => by
      rcases hk with hk | ⟨hk, _⟩
      · exact h.2.1 k hk
      · have := hN k hk; have := h.2.2.2; omega) }
theorem noneSep {B : Nat} : SepO B (fun (_ : List DX) (_ : Nat → Prop) (_ : World) => False) :=
  { grow := fun _ _ _ _ _ h _ _ => h, priv := fun _ _ _ _ _ _ h _ => h, take := fun _ _ _ _ h => h, draw := fun _ _ _ h => h, own := fun _ _ _ _ _ _ h _ _ _ => h }
theorem many_num : manyN = 54875873536 := by decide
/-- A given part's row is none of what is new. -/
theorem ints_low {w : World} {v : Value} {xs : List Int} (h : IntsV w v xs) (h0 : 0 < xs.length) : ∀ a m c, v = .slice (some a) m c → a.block < w.heap.size := fun a m c e => by
  obtain ⟨ao, cap, e2, _, hc⟩ := h
  obtain ⟨b, off, e3, hd⟩ := hc h0
  have h1 := World.block_lt_of_cell? w _ (hd 0 h0)
  rw [e, e3] at e2
  cases e2
  exact h1

set_option maxHeartbeats 2000000 in
theorem Count_ok (gs : List Int) (g : Value) (w : World) (hp : dpartB gs = true) (h : IntsV w g gs) :
    Calls Try.prog 43 #[g] w fun e w' => e = .returned (.tuple #[.int .i64 ((rightL gs).length : Nat), .int .i64 0]) ∧ Below w.heap.size w w' := by
  have g1 := dpart_len hp
  have HV := Lib.hid (isPart_any gs g w (by unfold maxLen; omega) h)
  rw [hp] at HV
  have hlow := ints_low h (by omega)
  have H1 := Lib.hid h
  obtain ⟨ga, gc, rfl, _⟩ := h
  obtain ⟨H, hH⟩ : ∃ H, w.heap.size = H := ⟨_, rfl⟩
  have HI := right_any ga gs.length gc (w.alloc (.cells #[.int .i64 0] 3))
  rw [World.size_alloc, hH] at HI
  obtain ⟨W0, hW0⟩ : ∃ W0, (w.alloc (.cells #[.int .i64 0] 3)).alloc (.cells #[.slice ga gs.length gc] 22) = W0 := ⟨_, rfl⟩
  have bW0 : Below w.heap.size w W0 := by rw [← hW0]; exact ((Below.refl _ w).alloc (Nat.le_refl _) _).alloc (by simp) _
  have hs0 : W0.heap.size = H + 2 := by rw [← hW0, ← hH]; simp
  have r0 : Row W0 H 3 [.int .i64 0] := by rw [← hW0, ← hH]; exact (Row.new w _ [_]).alloc _
  have c1 : W0.cell? ⟨H + 1, 0, none⟩ = some (.slice ga gs.length gc) := by
    have := Row.new (w.alloc (.cells #[.int .i64 0] 3)) 22 [.slice ga gs.length gc]
    rw [World.size_alloc, hH] at this
    rw [← hW0]; exact this.cell 0
  have h0 : CHold H w [] (fun _ => False) W0 := ⟨r0, fun _ h => h.elim, by rw [← hH]; exact bW0, by omega⟩
  have HI := Lib.hid HI
  have HW0 := Lib.hid hW0
  have H0 := Lib.hid h0
  have HGI := Lib.hid (H1.out.later bW0)
  have HHH := Lib.hid hH
  have HLow := Lib.hid hlow
  have g8 := g1.2.1
  have gn := g1.2.2
  clear h0 hW0 bW0 hlow hp g1 H1 r0
  refine (callsIn_wide (n := 9)).1 ?_
  refine callsIn_of_wp_marks Try.func43 rfl trivial ?_ rfl
  simp only [Try.ntmps43, List.size_toArray, List.length_cons, List.length_nil, Nat.reduceAdd, Nat.reduceSub, Array.replicate_succ, Array.replicate_zero, List.push_toArray, List.append_toArray, List.nil_append, List.cons_append]
  gi_wp2_with (refine ⟨trivial, ?_⟩; first | (gi_at_call 86; refine (callsIn_wide.2 HV.out).mono ?_; rintro e w' ⟨rfl, rfl⟩) | (gi_at_call 87; refine (callsIn_wide.2 HI.out).mono ?_; rintro e w' ⟨rfl, rfl⟩))
  try rw [HW0.out]
  have hSS : ∀ k, (k < H ∨ k = H + 1) → k < W0.heap.size := fun k h => by omega
  refine wpIn_rangeFunc_sepX (α := DX) (by omega) (gf := 117) (lb := #[.pointer (some ⟨H + 1, 0, none⟩)]) rfl right_enters
    (right1_seq gs (H + 1) (fun k => k < H ∨ k = H + 1) _ W0 g8 gn HGI.out c1 (.inr rfl) (fun a m c e => .inl (by have := HLow.out a m c e; omega)) hSS) VDP_put keptOn_t (keptOn_b hSS) (Below.refl _ _) (fun _ => rfl)
    (CHold H w) (fun _ _ _ _ => False) (by rw [hs0]; exact CHold.sep HHH.out.symm) (fun _ => noneSep)
    H0.out
    (fun x => { tmps := #[.slice ga gs.length gc, undef, .int .i64 0, .int .i64 0, .pointer (some ⟨H, 0, none⟩), .slice ga gs.length gc, .bool true, .bool false, .slice ga gs.length gc, .func (.func 117) #[] #[.pointer (some ⟨H + 1, 0, none⟩)], x.2, undef, undef, undef], defers := [] }) ?assign ?body ?done ?stop
  case assign =>
    intro l x W K hK
    simp only [encD]
    gi_wp2
    simpa using hK
  case body =>
    rintro l' pre' x Z' V hl' hrec ⟨hr, hz, hb, hsz⟩ _ hZb hlen
    have k1 := hr.cell 0
    have f1 := hr.frozen 0
    have HR := Lib.hid hr
    have HB := Lib.hid hb
    have HZ := Lib.hid hz
    have hmn := many_num
    have hlen2 : (pre'.length : Int) < 54875873536 := by omega
    clear hr hb hz hmn
    gi_wp2
    refine ⟨(KeepsOthers.setCell V ⟨H, 0, none⟩ _).from _, (KeptOn.refl _ _).setCell (p := ⟨H, 0, none⟩) (fun h => by have := HZ.out _ h; dsimp only at this; omega) _, (KeptOn.refl _ _).setCell (p := ⟨H, 0, none⟩) (fun h => by rcases h with h | h <;> (dsimp only at h; omega)) _, ?_, HZ.out, HB.out.setCell (p := ⟨H, 0, none⟩) (Nat.le_refl H) _, by simpa [World.setCell] using hsz⟩
    have := HR.out.set 0 (.int .i64 ((pre'.length : Int) + 1))
    simpa using this
  case done =>
    rintro D xs Z' V hD hS' ⟨hr, hz, hb, hsz⟩ hK
    have k1 := hr.cell 0
    have HB := Lib.hid hb
    have HX := Lib.hid (show xs.length = (rightL gs).length by rw [← hS', List.length_map])
    clear hr hb hz hS'
    gi_wp2
    refine ⟨by simp, .inl ⟨_, _, rfl, run_takeDeferred hK, ?_⟩⟩
    refine ⟨.tuple #[.int .i64 (xs.length : Nat), .int .i64 0], by simp [results, Try.f43, go_sem], by rw [HX.out], ?_⟩
    rw [HHH.out]
    exact HB.out.trans (belowK_b (w := W0) (by omega) V D _ _ (by omega) hK rfl rfl)
  case stop =>
    rintro D c pre' Z' V hD _ h _
    exact h.elim

theorem Count_bad (xs : List Int) (g : Value) (w : World) (hl : xs.length ≤ maxLen) (hp : dpartB xs = false) (h : IntsV w g xs) :
    Calls Try.prog 43 #[g] w fun e w' => e = .returned (.tuple #[.int .i64 0, .int .i64 2]) ∧ w = w' := by
  have HV := Lib.hid (isPart_any xs g w hl h)
  rw [hp] at HV
  obtain ⟨ga, gc, rfl, _⟩ := h
  go_enter Try.func43, Try.ntmps43
  go_wp2_with fail
  refine HV.out.mono ?_
  rintro e w1 ⟨rfl, rfl⟩
  go_wp2
  go_ret2
  exact ⟨rfl, rfl⟩

theorem IntsV.oneD (W : World) (x : Int) : IntsV (W.alloc (.cells #[.int .i64 x] 3)) (.slice (some ⟨W.heap.size, 0, none⟩) 1 1) [x] :=
  ⟨_, 1, rfl, Nat.le_refl _, fun _ => ⟨_, 0, rfl, fun i hi => by
    have hr := Row.new W 3 [.int .i64 x]
    rw [Nat.zero_add, hr.cell i]
    rcases i with _ | i
    · rfl
    · simp at hi⟩⟩
theorem right_five : (rightL [5]).length = 3 := by decide +kernel
theorem dawake_any (w : World) : Calls Try.prog 41 #[] w fun e w' => e = .returned (.bool true) ∧ Below w.heap.size w w' := by
  have h0 := IntsV.oneD w 5
  have b0 := (Below.refl w.heap.size w).alloc (Nat.le_refl _) (.cells #[.int .i64 5] 3)
  have HC := Lib.hid (Count_ok [5] _ _ (by decide) h0)
  rw [right_five] at HC
  have HB := Lib.hid b0
  clear h0 b0
  go_enter Try.func41, Try.ntmps41
  go_wp2_with fail
  refine HC.out.mono ?_
  rintro e w2 ⟨rfl, b2⟩
  have HB2 := Lib.hid (below_nx HB.out b2)
  clear b2
  go_wp2
  go_ret
  exact ⟨rfl, HB2.out⟩
end Go.Proofs.Ytlmfmfbnbbooaaa

/-
  Stuck: a range that leaves as soon as a beginning is whole. 
-/
import Derived.Test.YtlmfmfbnbbooaaaDuFirst
import Derived.Test.YtlmfmfbnbbooaaaDuWorthF
namespace Go.Proofs.Ytlmfmfbnbbooaaa

section
open Go.RowKit Go.Shelf Go.ChangeShapes Go.WideShapes Go.ChangeAt
attribute [local go_sem] Oper.semAt_some
set_option maxRecDepth 100000

/-- The greatest length. -/
def mostL (l : List (List Int)) : Nat := l.foldl (fun m b => max m b.length) 0
theorem mostL_snoc (l : List (List Int)) (b : List Int) : mostL (l ++ [b]) = max (mostL l) b.length := by
  unfold mostL; rw [List.foldl_append]; rfl
theorem foldl_ge : ∀ (l : List (List Int)) (a : Nat), a ≤ l.foldl (fun m b => max m b.length) a ∧ ∀ b ∈ l, b.length ≤ l.foldl (fun m b => max m b.length) a
  | [], a => ⟨Nat.le_refl _, fun b h => by cases h⟩
  | c :: l, a => by
    obtain ⟨h1, h2⟩ := foldl_ge l (max a c.length)
    rw [List.foldl_cons]
    refine ⟨by omega, fun b hb => ?_⟩
    rcases List.mem_cons.1 hb with rfl | hb
    · omega
    · exact h2 b hb
theorem mostL_mem {l : List (List Int)} {b : List Int} (h : b ∈ l) : b.length ≤ mostL l := (foldl_ge l 0).2 b h
theorem begL_le (gs : List Int) : ∀ f b, ∀ m ∈ begL gs f b, m.length ≤ b.length + f
  | 0, _, m, h => by simp [begL] at h
  | f + 1, b, m, h => by
    unfold begL at h
    obtain ⟨x, _, hx⟩ := List.mem_flatMap.1 h
    rcases List.mem_cons.1 hx with rfl | hx
    · rw [List.length_append, List.length_singleton]; omega
    · have := begL_le gs f _ m hx
      rw [List.length_append, List.length_singleton] at this
      omega

/-- What the rounds keep: the given part's box, the results', and the greatest length. -/
def TkI (L H : Nat) (g : Value) (w : World) (pre : List DX) (Z : Nat → Prop) (V : World) : Prop :=
  mostL (pre.map Prod.fst) < L ∧ (Row V H 22 [g] ∧ Row V (H + 1) 3 [.int .i64 0] ∧ Row V (H + 2) 23 [.int .i64 0] ∧ Row V (H + 3) 3 [.int .i64 (mostL (pre.map Prod.fst) : Nat)]) ∧ (∀ k, Z k → H + 5 ≤ k) ∧ Below H w V ∧ H + 5 ≤ V.heap.size
def TkX (L H : Nat) (w : World) (pre : List DX) (Z : Nat → Prop) (V : World) : Prop :=
  (∃ x ∈ pre, x.1.length = L) ∧ (Row V (H + 1) 3 [.int .i64 0] ∧ Row V (H + 2) 23 [.int .i64 4]) ∧ (∀ k, Z k → H + 5 ≤ k) ∧ Below H w V ∧ H + 5 ≤ V.heap.size
theorem TkI.step {L H : Nat} {g : Value} {w V V' : World} {row : Option Nat} {pre : List DX} {Z Z' : Nat → Prop} (hH : H = w.heap.size) (h : TkI L H g w pre Z V) (hg : V.grownBy V' row) (hr : ∀ r, row = some r → H + 5 ≤ r) (hz : ∀ k, Z' k → H + 5 ≤ k) : TkI L H g w pre Z' V' := by
  obtain ⟨h0, ⟨h1, h2, h3, h4⟩, _, h6, h7⟩ := h
  exact ⟨h0, ⟨h1.alone hg (fun r e => by have := hr r e; omega), h2.alone hg (fun r e => by have := hr r e; omega), h3.alone hg (fun r e => by have := hr r e; omega), h4.alone hg (fun r e => by have := hr r e; omega)⟩, hz, h6.grown hg (by omega) (fun k e => by have := hr k e; omega), Nat.le_trans h7 hg.size⟩
theorem TkX.step {L H : Nat} {w V V' : World} {row : Option Nat} {pre : List DX} {Z Z' : Nat → Prop} (hH : H = w.heap.size) (h : TkX L H w pre Z V) (hg : V.grownBy V' row) (hr : ∀ r, row = some r → H + 5 ≤ r) (hz : ∀ k, Z' k → H + 5 ≤ k) : TkX L H w pre Z' V' := by
  obtain ⟨h0, ⟨h2, h3⟩, _, h6, h7⟩ := h
  exact ⟨h0, ⟨h2.alone hg (fun r e => by have := hr r e; omega), h3.alone hg (fun r e => by have := hr r e; omega)⟩, hz, h6.grown hg (by omega) (fun k e => by have := hr k e; omega), Nat.le_trans h7 hg.size⟩
theorem TkI.sep {L H : Nat} {g : Value} {w : World} (hH : H = w.heap.size) : SepO (H + 5) (TkI L H g w) :=
  { grow := fun s Z V V' row h hg hr => h.step hH hg (fun r e => (hr r e).1) h.2.2.1
    priv := fun s Z V r i u h hz => h.step hH (set_grown V r i u) (fun r' e => by cases e; exact h.2.2.1 r hz) h.2.2.1
    take := fun s Z V o h => h.step hH (alloc_grown V o) (fun r e => by cases e) (fun k hk => by
      rcases hk with hk | rfl
      · exact h.2.2.1 k hk
      · exact h.2.2.2.2)
    draw := fun s Z V ⟨h0, ⟨h1, h2, h3, h4⟩, h5, h6, h7⟩ => ⟨h0, ⟨h1, h2, h3, h4⟩, h5, h6.drew, h7⟩
    own := fun s Z V V' row N h hg hr hN => h.step hH hg (fun r e => h.2.2.1 r (hr r e)) (fun k hk => by
      rcases hk with hk | ⟨hk, _⟩
      · exact h.2.2.1 k hk
      · have := hN k hk; have := h.2.2.2.2; omega) }
theorem TkX.sep {L H : Nat} {w : World} (hH : H = w.heap.size) (c : Code) : SepO (H + 5) (fun pre Z V => c = .ret ∧ TkX L H w pre Z V) :=
  { grow := fun s Z V V' row h hg hr => ⟨h.1, h.2.step hH hg (fun r e => (hr r e).1) h.2.2.2.1⟩
    priv := fun s Z V r i u h hz => ⟨h.1, h.2.step hH (set_grown V r i u) (fun r' e => by cases e; exact h.2.2.2.1 r hz) h.2.2.2.1⟩
    take := fun s Z V o h => ⟨h.1, h.2.step hH (alloc_grown V o) (fun r e => by cases e) (fun k hk => by
      rcases hk with hk | rfl
      · exact h.2.2.2.1 k hk
      · exact h.2.2.2.2.2)⟩
    draw := fun s Z V ⟨hc, h0, ⟨h1, h2⟩, h5, h6, h7⟩ => ⟨hc, h0, ⟨h1, h2⟩, h5, h6.drew, h7⟩
    own := fun s Z V V' row N h hg hr hN => ⟨h.1, h.2.step hH hg (fun r e => h.2.2.2.1 r (hr r e)) (fun k hk => by
      rcases hk with hk | ⟨hk, _⟩
      · exact h.2.2.2.1 k hk
      · have := hN k hk; have := h.2.2.2.2.2; omega)⟩ }

theorem stuck_results (tmps : Array Value) (w : World) (g h : Nat) (a b : Value) (hp : tmps.getD 2 undef = .pointer (some ⟨g, 0, none⟩)) (hq : tmps.getD 3 undef = .pointer (some ⟨h, 0, none⟩))
    (h1 : Row w g 3 [a]) (h2 : Row w h 23 [b]) : (results Try.f53 tmps).run Try.prog w = .ok (.tuple #[a, b]) w := by
  have c0 : w.cell? ⟨g, 0, none⟩ = some a := h1.cell 0
  have c2 : w.cell? ⟨h, 0, none⟩ = some b := h2.cell 0
  have hp' : tmps[2]?.getD undef = .pointer (some ⟨g, 0, none⟩) := by simpa using hp
  have hq' : tmps[3]?.getD undef = .pointer (some ⟨h, 0, none⟩) := by simpa using hq
  simp [results, Try.f53, go_sem, hp', hq', c0, c2]

set_option maxHeartbeats 4000000 in
theorem Stuck_ok (gs : List Int) (g : Value) (w : World) (hp : dpartB gs = true) (h : IntsV w g gs) :
    Calls Try.prog 53 #[g] w fun e w' => ∃ a c : Int, e = .returned (.tuple #[.int .i64 a, .int .i64 c]) ∧ ((rightL gs = [] ∧ a = (mostL (begL gs gs.length []) : Nat) ∧ c = 0) ∨ (rightL gs ≠ [] ∧ a = 0 ∧ c = 4)) ∧ Below w.heap.size w w' := by
  have g1 := dpart_len hp
  have H1 := Lib.hid h
  have hlow := ints_low h (by omega)
  obtain ⟨W3, hW3⟩ : ∃ W3, ((w.alloc (.cells #[g] 22)).alloc (.cells #[.int .i64 0] 3)).alloc (.cells #[.int .i64 0] 23) = W3 := ⟨_, rfl⟩
  have hb3 : Below w.heap.size w W3 := by rw [← hW3]; exact (((Below.refl _ w).alloc (Nat.le_refl _) _).alloc (by simp) _).alloc (by simp; omega) _
  have HV := Lib.hid (isPart_any gs g W3 (by unfold maxLen; omega) (h.later hb3))
  rw [hp] at HV
  obtain ⟨ga, gc, rfl, _⟩ := h
  obtain ⟨H, hH⟩ : ∃ H, w.heap.size = H := ⟨_, rfl⟩
  have hs3 : W3.heap.size = H + 3 := by rw [← hW3, ← hH]; simp
  have r0 : Row W3 H 22 [.slice ga gs.length gc] := by rw [← hW3, ← hH]; exact ((Row.new w _ _).alloc _).alloc _
  have r1 : Row W3 (H + 1) 3 [.int .i64 0] := by
    have := Row.new (w.alloc (.cells #[.slice ga gs.length gc] 22)) 3 [.int .i64 0]
    rw [World.size_alloc, hH] at this
    rw [← hW3]; exact this.alloc _
  have r2 : Row W3 (H + 2) 23 [.int .i64 0] := by
    have := Row.new ((w.alloc (.cells #[.slice ga gs.length gc] 22)).alloc (.cells #[.int .i64 0] 3)) 23 [.int .i64 0]
    rw [World.size_alloc, World.size_alloc, hH] at this
    rw [← hW3]; exact this
  have r3 : Row (W3.alloc (.cells #[.int .i64 0] 3)) (H + 3) 3 [.int .i64 0] := by rw [← hs3]; exact Row.new W3 _ _
  have hs4 : (W3.alloc (.cells #[.int .i64 0] 3)).heap.size = H + 4 := by rw [World.size_alloc, hs3]
  have HI := begin_any ga gs.length gc (W3.alloc (.cells #[.int .i64 0] 3))
  rw [hs4] at HI
  obtain ⟨W0, hW0⟩ : ∃ W0, (W3.alloc (.cells #[.int .i64 0] 3)).alloc (.cells #[.slice ga gs.length gc] 22) = W0 := ⟨_, rfl⟩
  have b30 : Below W3.heap.size W3 W0 := by rw [← hW0]; exact ((Below.refl _ W3).alloc (Nat.le_refl _) _).alloc (by simp) _
  have hs0 : W0.heap.size = H + 5 := by rw [← hW0, World.size_alloc, hs4]
  have bW0 : Below H w W0 := by rw [← hH]; exact below_nx hb3 b30
  have c0 := r0.cell 0
  have c0' := cell_later ((Below.refl _ W3).alloc (Nat.le_refl _) (.cells #[.int .i64 0] 3)) c0
  have c1 : W0.cell? ⟨H + 4, 0, none⟩ = some (.slice ga gs.length gc) := by
    have := Row.new (W3.alloc (.cells #[.int .i64 0] 3)) 22 [.slice ga gs.length gc]
    rw [hs4] at this
    rw [← hW0]; exact this.cell 0
  have hrows : Row W0 H 22 [.slice ga gs.length gc] ∧ Row W0 (H + 1) 3 [.int .i64 0] ∧ Row W0 (H + 2) 23 [.int .i64 0] ∧ Row W0 (H + 3) 3 [.int .i64 0] := ⟨r0.later b30, r1.later b30, r2.later b30, by rw [← hW0]; exact r3.alloc _⟩
  have HI := Lib.hid HI
  have HW0 := Lib.hid hW0
  have HW3 := Lib.hid hW3
  have HGI := Lib.hid (H1.out.later (hH.symm ▸ bW0))
  have HHH := Lib.hid hH
  have HLow := Lib.hid hlow
  have HRo := Lib.hid hrows
  have HBW := Lib.hid bW0
  have HC1 := Lib.hid c1
  have g8 := g1.2.1
  have gn := g1.2.2
  have gl1 := g1.1
  clear hW0 bW0 hlow hp g1 H1 r0 r1 r2 r3 hW3 hb3 b30 hrows c1
  refine (callsIn_wide (n := 9)).1 ?_
  refine callsIn_of_wp_marks Try.func53 rfl trivial ?_ rfl
  simp only [Try.ntmps53, List.size_toArray, List.length_cons, List.length_nil, Nat.reduceAdd, Nat.reduceSub, Array.replicate_succ, Array.replicate_zero, List.push_toArray, List.append_toArray, List.nil_append, List.cons_append]
  gi_wp2_with fail
  refine ⟨trivial, ?_⟩
  rw [HW3.out]
  refine (callsIn_wide.2 HV.out).mono ?_
  rintro e w' ⟨rfl, rfl⟩
  gi_wp2_with fail
  refine ⟨trivial, ?_⟩
  refine (callsIn_wide.2 HI.out).mono ?_
  rintro e w' ⟨rfl, rfl⟩
  gi_wp2_with fail
  try rw [HW0.out]
  have hSS : ∀ k, (k < H ∨ k = H + 4) → k < W0.heap.size := fun k h => by omega
  refine wpIn_rangeFunc_sepX (α := DX) (by omega) (gf := 122) (lb := #[.pointer (some ⟨H + 4, 0, none⟩)]) rfl begin_enters
    (begin1_seq gs (H + 4) (fun k => k < H ∨ k = H + 4) _ W0 g8 gn HGI.out HC1.out (.inr rfl) (fun a m c e => .inl (by have := HLow.out a m c e; have := HHH.out; omega)) hSS) VDP_put keptOn_t (keptOn_b hSS) (Below.refl _ _) (fun _ => rfl)
    (TkI gs.length H (.slice ga gs.length gc) w) (fun c pre Z V => c = .ret ∧ TkX gs.length H w pre Z V) (by rw [hs0]; exact TkI.sep HHH.out.symm) (fun c => by rw [hs0]; exact TkX.sep HHH.out.symm c)
    ⟨gl1, HRo.out, fun k h => h.elim, HBW.out, by omega⟩
    (fun x => { tmps := #[.slice ga gs.length gc, .pointer (some ⟨H, 0, none⟩), .pointer (some ⟨H + 1, 0, none⟩), .pointer (some ⟨H + 2, 0, none⟩), .pointer (some ⟨H + 3, 0, none⟩), x.2, .slice ga gs.length gc, .bool true, .bool false, .slice ga gs.length gc, .func (.func 122) #[] #[.pointer (some ⟨H + 4, 0, none⟩)], x.2, undef, undef, undef, undef, undef, undef, undef, undef, undef], defers := [] }) ?assign ?body ?done ?stop
  case assign =>
    intro l x W K hK
    simp only [encD]
    gi_wp2
    simpa using hK
  case body =>
    rintro l pre ⟨xl, xv⟩ Z V hl hrec ⟨h0, ⟨r0, r1, r2, r3⟩, hz, hb, hsz⟩ ⟨hV, hVz, hMem⟩ hZb hlen
    dsimp only at hV hVz hMem ⊢
    have hxl : xl.length ≤ gs.length := by
      have := begL_le gs gs.length [] xl hMem
      simpa using this
    obtain ⟨xa, xc, rfl, -⟩ := hV
    have k0 := r0.cell 0
    have k1 := r1.cell 0
    have k2 := r2.cell 0
    have k3 := r3.cell 0
    have f1 := r1.frozen 0
    have f2 := r2.frozen 0
    have f3 := r3.frozen 0
    have hmost : mostL ((pre ++ [(xl, Value.slice xa xl.length xc)]).map Prod.fst) = max (mostL (pre.map Prod.fst)) xl.length := by rw [List.map_append]; exact mostL_snoc _ _
    have HMost := Lib.hid hmost
    have R0 := Lib.hid r0
    have R1 := Lib.hid r1
    have R2 := Lib.hid r2
    have R3 := Lib.hid r3
    have HZ := Lib.hid hz
    have HB := Lib.hid hb
    clear r0 r1 r2 r3 hz hb hmost hVz hMem hZb hlen
    obtain ⟨n, hn⟩ : ∃ n, xl.length = n := ⟨_, rfl⟩
    have HX := Lib.hid hn
    rw [hn] at hxl HMost ⊢
    generalize mostL (pre.map Prod.fst) = m at *
    obtain ⟨L, hL⟩ : ∃ L, gs.length = L := ⟨_, rfl⟩
    rw [hL] at hxl h0 k0 R0 ⊢
    clear hn
    by_cases hnL : n = L
    · have hq : ((max (m : Int) (n : Int)) == (L : Int)) = true := by rw [beq_iff_eq]; omega
      have hq2 : max m n = L := by omega
      have HnL := Lib.hid hnL
      clear hnL
      gi_wp2
      have h3 := HZ.out
      have q1 := ((R1.out.other (show H + 1 ≠ H + 3 by omega) (i := 0) (.int .i64 (max (m : Int) (n : Int)))).set 0 (.int .i64 0)).other (show H + 1 ≠ H + 2 by omega) (i := 0) (.int .i64 4)
      have q2 := ((R2.out.other (show H + 2 ≠ H + 3 by omega) (i := 0) (.int .i64 (max (m : Int) (n : Int)))).other (show H + 2 ≠ H + 1 by omega) (i := 0) (.int .i64 0)).set 0 (.int .i64 4)
      refine ⟨((KeepsOthers.setCell _ ⟨H + 3, 0, none⟩ _).trans ((KeepsOthers.setCell _ ⟨H + 1, 0, none⟩ _).trans (KeepsOthers.setCell _ ⟨H + 2, 0, none⟩ _))).from _,
        (((KeptOn.refl Z V).setCell (p := ⟨H + 3, 0, none⟩) (fun h => by have := h3 _ h; dsimp only at this; omega) _).setCell (p := ⟨H + 1, 0, none⟩) (fun h => by have := h3 _ h; dsimp only at this; omega) _).setCell (p := ⟨H + 2, 0, none⟩) (fun h => by have := h3 _ h; dsimp only at this; omega) _,
        (((KeptOn.refl _ V).setCell (p := ⟨H + 3, 0, none⟩) (fun h => by rcases h with h | h <;> (dsimp only at h; omega)) _).setCell (p := ⟨H + 1, 0, none⟩) (fun h => by rcases h with h | h <;> (dsimp only at h; omega)) _).setCell (p := ⟨H + 2, 0, none⟩) (fun h => by rcases h with h | h <;> (dsimp only at h; omega)) _,
        rfl, ⟨_, List.mem_append.2 (.inr (List.mem_singleton.2 rfl)), HX.out.trans HnL.out⟩, ⟨q1, q2⟩, h3, ((HB.out.setCell (p := ⟨H + 3, 0, none⟩) (show H ≤ H + 3 by omega) _).setCell (p := ⟨H + 1, 0, none⟩) (show H ≤ H + 1 by omega) _).setCell (p := ⟨H + 2, 0, none⟩) (show H ≤ H + 2 by omega) _, by simpa [World.setCell] using hsz⟩
    · have hq : ((max (m : Int) (n : Int)) == (L : Int)) = false := by rw [beq_eq_false_iff_ne]; omega
      have HnL := Lib.hid hnL
      clear hnL
      gi_wp2
      have h3 := HZ.out
      have e0 : ((max m n : Nat) : Int) = max (m : Int) (n : Int) := by omega
      refine ⟨(KeepsOthers.setCell V ⟨H + 3, 0, none⟩ _).from _, (KeptOn.refl Z V).setCell (p := ⟨H + 3, 0, none⟩) (fun h => by have := h3 _ h; dsimp only at this; omega) _, (KeptOn.refl _ V).setCell (p := ⟨H + 3, 0, none⟩) (fun h => by rcases h with h | h <;> (dsimp only at h; omega)) _,
        by rw [HMost.out]; have := HnL.out; omega, ⟨R0.out.other (show H ≠ H + 3 by omega) _, R1.out.other (show H + 1 ≠ H + 3 by omega) _, R2.out.other (show H + 2 ≠ H + 3 by omega) _, by rw [HMost.out, e0]; exact R3.out.set 0 _⟩, h3, HB.out.setCell (p := ⟨H + 3, 0, none⟩) (show H ≤ H + 3 by omega) _, by simpa [World.setCell] using hsz⟩
  case done =>
    rintro D xs Z W hD hS ⟨h0, ⟨r0, r1, r2, r3⟩, hz, hb, hsz⟩ hK
    have k1 := r1.cell 0
    have k2 := r2.cell 0
    have k3 := r3.cell 0
    have f1 := r1.frozen 0
    have f2 := r2.frozen 0
    have hS : xs.map Prod.fst = begL gs gs.length [] := hS
    rw [hS] at h0 r3 k3
    have HRn := Lib.hid (show rightL gs = [] by
      unfold rightL
      rw [List.filter_eq_nil_iff]
      intro b hb
      have := mostL_mem hb
      rw [decide_eq_true_eq]
      omega)
    have R1 := Lib.hid r1
    have R2 := Lib.hid r2
    have HB := Lib.hid hb
    have HK := Lib.hid hK
    clear r0 r1 r2 r3 hz hb hS h0 hK
    gi_wp2
    generalize ((mostL (begL gs gs.length []) : Nat) : Int) = mm at *
    have hK' : ((W.setCell ⟨H + 1, 0, none⟩ (.int .i64 mm)).setCell ⟨H + 2, 0, none⟩ (.int .i64 0)).heap[D]? = some (.deferred (some [])) :=
      (Below.heap_setCell _ ⟨H + 2, 0, none⟩ _ D (show D ≠ H + 2 by omega)).trans ((Below.heap_setCell _ ⟨H + 1, 0, none⟩ _ D (show D ≠ H + 1 by omega)).trans HK.out)
    refine ⟨by simp, .inl ⟨_, _, rfl, run_takeDeferred hK', ?_⟩⟩
    have q1 := (R1.out.set 0 (.int .i64 mm)).other (show H + 1 ≠ H + 2 by omega) (i := 0) (.int .i64 0)
    have q2 := (R2.out.other (show H + 2 ≠ H + 1 by omega) (i := 0) (.int .i64 mm)).set 0 (.int .i64 0)
    have R1' := q1.kept (grownBy_putObj' _ D (.deferred none)) (fun r e => by cases e; exact ⟨_, hK', rfl⟩)
    have R2' := q2.kept (grownBy_putObj' _ D (.deferred none)) (fun r e => by cases e; exact ⟨_, hK', rfl⟩)
    have HB' := (HB.out.setCell (p := ⟨H + 1, 0, none⟩) (show H ≤ H + 1 by omega) (.int .i64 mm)).setCell (p := ⟨H + 2, 0, none⟩) (show H ≤ H + 2 by omega) (.int .i64 0)
    refine ⟨.tuple #[.int .i64 mm, .int .i64 0], ?_, ⟨mm, 0, rfl, .inl ⟨HRn.out, rfl, rfl⟩, ?_⟩⟩
    · exact stuck_results _ _ _ _ _ _ rfl rfl R1' R2'
    · rw [HHH.out]
      exact HB'.trans (belowK_b (w := W0) (by omega) _ D _ _ (by omega) hK' rfl rfl)
  case stop =>
    rintro D c pre Z W hD ⟨q, hq⟩ ⟨rfl, ⟨x, hx, hxl⟩, ⟨r1, r2⟩, hz, hb, hsz⟩ hK
    have HRn := Lib.hid (show rightL gs ≠ [] from fun e => by
      have h1 : x.1 ∈ rightL gs := by
        unfold rightL
        refine List.mem_filter.2 ⟨?_, decide_eq_true hxl⟩
        rw [hq]
        exact List.mem_append.2 (.inl (List.mem_map_of_mem hx))
      rw [e] at h1
      cases h1)
    have R1 := Lib.hid r1
    have R2 := Lib.hid r2
    have HB := Lib.hid hb
    clear r1 r2 hz hb hq hx hxl
    gi_wp2
    refine ⟨by simp, .inl ⟨_, _, rfl, run_takeDeferred hK, ?_⟩⟩
    have R1' := R1.out.kept (grownBy_putObj' W D (.deferred none)) (fun r e => by cases e; exact ⟨_, hK, rfl⟩)
    have R2' := R2.out.kept (grownBy_putObj' W D (.deferred none)) (fun r e => by cases e; exact ⟨_, hK, rfl⟩)
    refine ⟨.tuple #[.int .i64 0, .int .i64 4], ?_, ⟨0, 4, rfl, .inr ⟨HRn.out, rfl, rfl⟩, ?_⟩⟩
    · exact stuck_results _ _ _ _ _ _ rfl rfl R1' R2'
    · rw [HHH.out]
      exact HB.out.trans (belowK_b (w := W0) (by omega) W D _ _ (by omega) hK rfl rfl)

theorem Stuck_bad (xs : List Int) (g : Value) (w : World) (hl : xs.length ≤ maxLen) (hp : dpartB xs = false) (h : IntsV w g xs) :
    Calls Try.prog 53 #[g] w fun e w' => e = .returned (.tuple #[.int .i64 0, .int .i64 2]) ∧ Below w.heap.size w w' := by
  obtain ⟨W3, hW3⟩ : ∃ W3, ((w.alloc (.cells #[g] 22)).alloc (.cells #[.int .i64 0] 3)).alloc (.cells #[.int .i64 0] 23) = W3 := ⟨_, rfl⟩
  have hb3 : Below w.heap.size w W3 := by rw [← hW3]; exact (((Below.refl _ w).alloc (Nat.le_refl _) _).alloc (by simp) _).alloc (by simp; omega) _
  have HV := Lib.hid (isPart_any xs g W3 hl (h.later hb3))
  rw [hp] at HV
  obtain ⟨H, hH⟩ : ∃ H, w.heap.size = H := ⟨_, rfl⟩
  obtain ⟨ga, gc, rfl, _⟩ := h
  have r1 : Row W3 (H + 1) 3 [.int .i64 0] := by
    have := Row.new (w.alloc (.cells #[.slice ga xs.length gc] 22)) 3 [.int .i64 0]
    rw [World.size_alloc, hH] at this
    rw [← hW3]; exact this.alloc _
  have r2 : Row W3 (H + 1 + 1) 23 [.int .i64 0] := by
    have := Row.new ((w.alloc (.cells #[.slice ga xs.length gc] 22)).alloc (.cells #[.int .i64 0] 3)) 23 [.int .i64 0]
    rw [World.size_alloc, World.size_alloc, hH] at this
    rw [← hW3]; exact this
  have HB3 := Lib.hid hb3
  have R1 := Lib.hid r1
  have R2 := Lib.hid r2
  have k1 := r1.cell 0
  have k2 := r2.cell 0
  have f1 := r1.frozen 0
  have f2 := r2.frozen 0
  have HH := Lib.hid hH
  have HW3 := Lib.hid hW3
  clear hb3 r1 r2 hW3
  go_enter Try.func53, Try.ntmps53
  go_wp2_with fail
  rw [HW3.out]
  refine HV.out.mono ?_
  rintro e w' ⟨rfl, rfl⟩
  go_wp2
  have q1 := (R1.out.set 0 (.int .i64 0)).other (show H + 1 ≠ H + 1 + 1 by omega) (i := 0) (.int .i64 2)
  have q2 := (R2.out.other (show H + 1 + 1 ≠ H + 1 by omega) (i := 0) (.int .i64 0)).set 0 (.int .i64 2)
  refine bodyPost_ret (stuck_results _ _ (H + 1) (H + 1 + 1) _ _ rfl rfl q1 q2) rfl ⟨rfl, ?_⟩
  have hB := HB3.out
  have e := HH.out
  rw [e] at hB
  first | (rw [e]; exact (hB.setCell (p := ⟨H + 1, 0, none⟩) (show H ≤ H + 1 by omega) _).setCell (p := ⟨H + 1 + 1, 0, none⟩) (show H ≤ H + 1 + 1 by omega) _) | exact (hB.setCell (p := ⟨H + 1, 0, none⟩) (show H ≤ H + 1 by omega) _).setCell (p := ⟨H + 1 + 1, 0, none⟩) (show H ≤ H + 1 + 1 by omega) _
end

section
/-
  Best: a range that keeps the best part so far, and its worth.
-/
open Go.RowKit Go.Shelf Go.ChangeShapes Go.WideShapes Go.ChangeAt
attribute [local go_sem] Oper.semAt_some
set_option maxRecDepth 100000

/-- The worth of a whole part. -/
def worthW (gs b : List Int) : Int := worthT gs b b.length
/-- The first with the greatest worth. -/
def bestF (gs : List Int) (l : List (List Int)) : Option (List Int) := l.foldl (fun o x => match o with
  | none => some x
  | some b => if worthW gs b < worthW gs x then some x else some b) none
theorem bestF_snoc (gs : List Int) (l : List (List Int)) (x : List Int) : bestF gs (l ++ [x]) = match bestF gs l with
    | none => some x
    | some b => if worthW gs b < worthW gs x then some x else some b := by
  unfold bestF; rw [List.foldl_append]; rfl
theorem bestF_fold (gs : List Int) : ∀ (l : List (List Int)) (b : List Int), ∃ c, l.foldl (fun o x => match o with
    | none => some x
    | some b => if worthW gs b < worthW gs x then some x else some b) (some b) = some c
  | [], b => ⟨b, rfl⟩
  | x :: l, b => by
    rw [List.foldl_cons]
    by_cases h : worthW gs b < worthW gs x
    · simp only [if_pos h]; exact bestF_fold gs l x
    · simp only [if_neg h]; exact bestF_fold gs l b
theorem bestF_none {gs : List Int} {l : List (List Int)} (h : bestF gs l = none) : l = [] := by
  cases l with
  | nil => rfl
  | cons x l =>
    unfold bestF at h
    rw [List.foldl_cons] at h
    obtain ⟨c, hc⟩ := bestF_fold gs l x
    simp only [hc] at h
    cases h
theorem begL_notes (gs : List Int) : ∀ f b, notesB b = true → ∀ m ∈ begL gs f b, notesB m = true
  | 0, _, _, m, h => by simp [begL] at h
  | f + 1, b, hb, m, h => by
    unfold begL at h
    obtain ⟨x, hx0, hx⟩ := List.mem_flatMap.1 h
    have hx1 : x < 21 := by unfold nextL at hx0; exact List.mem_range.1 (List.mem_filter.1 hx0).1
    rcases List.mem_cons.1 hx with rfl | hx
    · exact notes_snoc hb hx1
    · exact begL_notes gs f _ (notes_snoc hb hx1) m hx
theorem right_notes {gs l : List Int} (h : l ∈ rightL gs) : notesB l = true := by
  unfold rightL at h
  exact begL_notes gs _ [] rfl l (List.mem_filter.1 h).1

/-- What has been kept so far. -/
def BestAt (gs : List Int) (H : Nat) (o : Option (List Int)) (Z : Nat → Prop) (V : World) : Prop :=
  match o with
  | none => Row V (H + 1) 22 [.slice none 0 0] ∧ Row V (H + 2) 3 [.int .i64 0]
  | some b => ∃ (k c : Nat) (ob : Obj), Row V (H + 1) 22 [.slice (some ⟨k, 0, none⟩) b.length c] ∧ Row V (H + 2) 3 [.int .i64 (worthW gs b)] ∧ V.heap[k]? = some ob ∧ ob.isCells = true ∧ (∀ W' : World, W'.heap[k]? = some ob → IntsV W' (.slice (some ⟨k, 0, none⟩) b.length c) b) ∧ ¬ Z k
def BkI (gs : List Int) (H : Nat) (g : Value) (w : World) (pre : List DX) (Z : Nat → Prop) (V : World) : Prop :=
  (Row V H 22 [g] ∧ BestAt gs H (bestF gs (pre.map Prod.fst)) Z V) ∧ (∀ k, Z k → H + 4 ≤ k) ∧ Below H w V ∧ H + 4 ≤ V.heap.size
theorem BestAt.step {gs : List Int} {H : Nat} {o : Option (List Int)} {Z Z' : Nat → Prop} {V V' : World} {row : Option Nat} (h : BestAt gs H o Z V) (hg : V.grownBy V' row)
    (hr : ∀ r, row = some r → H + 4 ≤ r ∧ (Z r ∨ ∃ o : Obj, V.heap[r]? = some o ∧ o.isCells = false)) (hz : ∀ k, Z' k → Z k ∨ V.heap.size ≤ k) : BestAt gs H o Z' V' := by
  cases o with
  | none => exact ⟨h.1.loneD hg (fun r e => by have := (hr r e).1; omega), h.2.loneD hg (fun r e => by have := (hr r e).1; omega)⟩
  | some b =>
    obtain ⟨k, c, ob, h1, h2, h3, h4, h5, h6⟩ := h
    have hk := (Array.getElem?_eq_some_iff.1 h3).1
    refine ⟨k, c, ob, h1.loneD hg (fun r e => by have := (hr r e).1; omega), h2.loneD hg (fun r e => by have := (hr r e).1; omega), (hg.block k hk (fun e => ?_)).trans h3, h4, h5, fun hk' => ?_⟩
    · rcases (hr k e.symm).2 with hZ | ⟨o', ho, hc⟩
      · exact h6 hZ
      · rw [h3] at ho; cases ho; rw [h4] at hc; cases hc
    · rcases hz k hk' with hZ | hs
      · exact h6 hZ
      · omega
theorem BestAt.draw {gs : List Int} {H : Nat} {o : Option (List Int)} {Z : Nat → Prop} {V : World} (h : BestAt gs H o Z V) : BestAt gs H o Z V.drew := by
  cases o with
  | none => exact h
  | some b => exact h
theorem BkI.step {gs : List Int} {H : Nat} {g : Value} {w V V' : World} {row : Option Nat} {pre : List DX} {Z Z' : Nat → Prop} (hH : H = w.heap.size) (h : BkI gs H g w pre Z V) (hg : V.grownBy V' row)
    (hr : ∀ r, row = some r → H + 4 ≤ r ∧ (Z r ∨ ∃ o : Obj, V.heap[r]? = some o ∧ o.isCells = false)) (hz : ∀ k, Z' k → H + 4 ≤ k ∧ (Z k ∨ V.heap.size ≤ k)) : BkI gs H g w pre Z' V' :=
  ⟨⟨h.1.1.loneD hg (fun r e => by have := (hr r e).1; omega), h.1.2.step hg hr (fun k hk => (hz k hk).2)⟩, fun k hk => (hz k hk).1, h.2.2.1.grown hg (by have := h.2.2.1.size; omega) (fun k e => by have := (hr k e).1; omega), Nat.le_trans h.2.2.2 hg.size⟩
theorem BkI.sep {gs : List Int} {H : Nat} {g : Value} {w : World} (hH : H = w.heap.size) : SepO (H + 4) (BkI gs H g w) :=
  { grow := fun s Z V V' row h hg hr => h.step hH hg (fun r e => ⟨(hr r e).1, .inr (hr r e).2⟩) (fun k hk => ⟨h.2.1 k hk, .inl hk⟩)
    priv := fun s Z V r i u h hz => h.step hH (set_grown V r i u) (fun r' e => by cases e; exact ⟨h.2.1 r hz, .inl hz⟩) (fun k hk => ⟨h.2.1 k hk, .inl hk⟩)
    take := fun s Z V o h => h.step hH (alloc_grown V o) (fun r e => by cases e) (fun k hk => by
      rcases hk with hk | rfl
      · exact ⟨h.2.1 k hk, .inl hk⟩
      · exact ⟨h.2.2.2, .inr (Nat.le_refl _)⟩)
    draw := fun s Z V ⟨⟨h0, h1⟩, h5, h6, h7⟩ => ⟨⟨h0, h1.draw⟩, h5, h6.drew, h7⟩
    own := fun s Z V V' row N h hg hr hN => h.step hH hg (fun r e => ⟨h.2.1 r (hr r e), .inl (hr r e)⟩) (fun k hk => by
      rcases hk with hk | ⟨hk, _⟩
      · exact ⟨h.2.1 k hk, .inl hk⟩
      · have := hN k hk; have := h.2.2.2; exact ⟨by omega, .inr (hN k hk)⟩) }

theorem BestAt.later {gs : List Int} {H : Nat} {o : Option (List Int)} {Z : Nat → Prop} {V V' : World} (h : BestAt gs H o Z V) (hb : Below V.heap.size V V') : BestAt gs H o Z V' := by
  cases o with
  | none => exact ⟨h.1.later hb, h.2.later hb⟩
  | some b =>
    obtain ⟨k, c, ob, h1, h2, h3, h4, h5, h6⟩ := h
    exact ⟨k, c, ob, h1.later hb, h2.later hb, (hb.block k (Array.getElem?_eq_some_iff.1 h3).1).trans h3, h4, h5, h6⟩
theorem eq_nil_nilD (W : World) : (binOp .eql 22 (.slice none 0 0) (.slice none 0 0)).run Try.prog W = .ok (.bool true) W := by
  first | rfl | kernel_rfl | (go_simp)
theorem eq_some_nilD (a : Addr) (n c : Nat) (W : World) : (binOp .eql 22 (.slice (some a) n c) (.slice none 0 0)).run Try.prog W = .ok (.bool false) W := by
  first | rfl | kernel_rfl | (go_simp)

set_option maxHeartbeats 4000000 in
theorem Best_any (gs : List Int) (g : Value) (w : World) (hp : dpartB gs = true) (h : IntsV w g gs) :
    Calls Try.prog 49 #[g] w fun e w' => ∃ v c, e = .returned (.tuple #[v, .int .i64 c]) ∧ ((bestF gs (rightL gs) = none ∧ v = .slice none 0 0 ∧ c = 4) ∨ (∃ b, bestF gs (rightL gs) = some b ∧ IntsV w' v b ∧ c = 0)) ∧ Below w.heap.size w w' := by
  have g1 := dpart_len hp
  have H1 := Lib.hid h
  have hlow := ints_low h (by omega)
  obtain ⟨W1, hW1⟩ : ∃ W1, w.alloc (.cells #[g] 22) = W1 := ⟨_, rfl⟩
  have hb1 : Below w.heap.size w W1 := by rw [← hW1]; exact (Below.refl _ w).alloc (Nat.le_refl _) _
  have HV := Lib.hid (isPart_any gs g W1 (by unfold maxLen; omega) (h.later hb1))
  rw [hp] at HV
  obtain ⟨ga, gc, rfl, _⟩ := h
  obtain ⟨H, hH⟩ : ∃ H, w.heap.size = H := ⟨_, rfl⟩
  have hs1 : W1.heap.size = H + 1 := by rw [← hW1, ← hH]; simp
  have r0 : Row W1 H 22 [.slice ga gs.length gc] := by rw [← hW1, ← hH]; exact Row.new w _ _
  obtain ⟨W3, hW3⟩ : ∃ W3, (W1.alloc (.cells #[.slice none 0 0] 22)).alloc (.cells #[.int .i64 0] 3) = W3 := ⟨_, rfl⟩
  have b13 : Below W1.heap.size W1 W3 := by rw [← hW3]; exact ((Below.refl _ W1).alloc (Nat.le_refl _) _).alloc (by simp) _
  have hs3 : W3.heap.size = H + 3 := by rw [← hW3]; simp [hs1]
  have r1 : Row W3 (H + 1) 22 [.slice none 0 0] := by rw [← hW3, ← hs1]; exact (Row.new W1 _ _).alloc _
  have r2 : Row W3 (H + 2) 3 [.int .i64 0] := by
    have := Row.new (W1.alloc (.cells #[.slice none 0 0] 22)) 3 [.int .i64 0]
    rw [World.size_alloc, hs1] at this
    rw [← hW3]; exact this
  have HI := right_any ga gs.length gc W3
  rw [hs3] at HI
  obtain ⟨W0, hW0⟩ : ∃ W0, W3.alloc (.cells #[.slice ga gs.length gc] 22) = W0 := ⟨_, rfl⟩
  have b30 : Below W3.heap.size W3 W0 := by rw [← hW0]; exact (Below.refl _ W3).alloc (Nat.le_refl _) _
  have hs0 : W0.heap.size = H + 4 := by rw [← hW0, World.size_alloc, hs3]
  have bW0 : Below H w W0 := by rw [← hH]; exact below_nx (below_nx hb1 b13) b30
  have k0 := r0.cell 0
  have k3 : W3.cell? ⟨H, 0, none⟩ = some (.slice ga gs.length gc) := (r0.later b13).cell 0
  have k3' : ((W1.alloc (.cells #[.slice none 0 0] 22)).alloc (.cells #[.int .i64 0] 3)).cell? ⟨H, 0, none⟩ = some (.slice ga gs.length gc) := by rw [hW3]; exact k3
  have c1 : W0.cell? ⟨H + 3, 0, none⟩ = some (.slice ga gs.length gc) := by
    have := Row.new W3 22 [.slice ga gs.length gc]
    rw [hs3] at this
    rw [← hW0]; exact this.cell 0
  have h0 : BkI gs H (.slice ga gs.length gc) w [] (fun _ => False) W0 := ⟨⟨(r0.later b13).later b30, r1.later b30, r2.later b30⟩, fun k h => h.elim, bW0, by omega⟩
  have HI := Lib.hid HI
  have HW0 := Lib.hid hW0
  have HW1 := Lib.hid hW1
  have HW3 := Lib.hid hW3
  have HGI := Lib.hid (H1.out.later (hH.symm ▸ bW0))
  have HHH := Lib.hid hH
  have HLow := Lib.hid hlow
  have HC1 := Lib.hid c1
  have H0 := Lib.hid h0
  have HGw := Lib.hid H1.out
  have g8 := g1.2.1
  have gn := g1.2.2
  have gl1 := g1.1
  clear hW0 bW0 hlow hp g1 H1 r0 r1 r2 hW3 hW1 hb1 b30 b13 c1 h0 k3
  refine (callsIn_wide (n := 9)).1 ?_
  refine callsIn_of_wp_marks Try.func49 rfl trivial ?_ rfl
  simp only [Try.ntmps49, List.size_toArray, List.length_cons, List.length_nil, Nat.reduceAdd, Nat.reduceSub, Array.replicate_succ, Array.replicate_zero, List.push_toArray, List.append_toArray, List.nil_append, List.cons_append]
  gi_wp2_with fail
  refine ⟨trivial, ?_⟩
  rw [HW1.out]
  refine (callsIn_wide.2 HV.out).mono ?_
  rintro e w' ⟨rfl, rfl⟩
  gi_wp2_with fail
  refine ⟨trivial, ?_⟩
  rw [HW3.out]
  refine (callsIn_wide.2 HI.out).mono ?_
  rintro e w' ⟨rfl, rfl⟩
  gi_wp2_with fail
  try rw [HW0.out]
  have hSS : ∀ k, (k < H ∨ k = H + 3) → k < W0.heap.size := fun k h => by omega
  refine wpIn_rangeFunc_sepX (α := DX) (by omega) (gf := 117) (lb := #[.pointer (some ⟨H + 3, 0, none⟩)]) rfl right_enters
    (right1_seq gs (H + 3) (fun k => k < H ∨ k = H + 3) _ W0 g8 gn HGI.out HC1.out (.inr rfl) (fun a m c e => .inl (by have := HLow.out a m c e; have := HHH.out; omega)) hSS) VDP_put keptOn_t (keptOn_b hSS) (Below.refl _ _) (fun _ => rfl)
    (BkI gs H (.slice ga gs.length gc) w) (fun _ _ _ _ => False) (by rw [hs0]; exact BkI.sep HHH.out.symm) (fun _ => noneSep)
    H0.out
    (fun x => { tmps := #[.slice ga gs.length gc, .pointer (some ⟨H, 0, none⟩), .slice none 0 0, .int .i64 0, .pointer (some ⟨H + 1, 0, none⟩), .pointer (some ⟨H + 2, 0, none⟩), x.2, undef, .slice ga gs.length gc, .bool true, .bool false, .slice ga gs.length gc, .func (.func 117) #[] #[.pointer (some ⟨H + 3, 0, none⟩)], x.2, undef, undef, undef, undef, undef, undef, undef, undef, undef, undef, undef, undef, undef, undef, undef, undef], defers := [] }) ?assign ?body ?done ?stop
  case assign =>
    intro l x W K hK
    simp only [encD]
    gi_wp2
    simpa using hK
  case body =>
    rintro l pre ⟨xl, xv⟩ Z V hl hrec ⟨⟨r0, hbest⟩, hz, hb, hsz⟩ ⟨hV, hVz, hMem⟩ hZb hlen
    dsimp only at hV hVz hMem ⊢
    have hxl := right_mem hMem
    have hgV : IntsV V (.slice ga gs.length gc) gs := HGw.out.later (by rw [HHH.out]; exact hb)
    have HWo := Lib.hid (worth_any gs xl _ xv V g8 gn (right_notes hMem) (by omega) (by omega) hgV hV)
    have HCl := Lib.hid (fun W (hW : Below V.heap.size V W) => Clone_own xl xv W (by omega) (by omega) (hV.later hW))
    have HOB := Lib.hid (fun (W : World) (B : Nat) (v : Value) (h : W.ownsRow B 3 1 v xl.length (ivals xl)) => own_block (by omega) h)
    have HSm := Lib.hid (show worthW gs xl = worthT gs xl xl.length from rfl)
    have hfold : bestF gs ((pre ++ [(xl, xv)]).map Prod.fst) = match bestF gs (pre.map Prod.fst) with
        | none => some xl
        | some b => if worthW gs b < worthW gs xl then some xl else some b := by rw [List.map_append]; exact bestF_snoc _ _ _
    have hlV : l < V.heap.size := by obtain ⟨r, hrl⟩ := hrec; exact (Array.getElem?_eq_some_iff.1 hrl).1
    have HFin := Lib.hid (fun (V2 : World) (u1 u2 : Value) (c : Nat) (v2 : Value) (k : Nat) (ob : Obj) (hB2 : Below V.heap.size V V2) (hR1 : Row V2 (H + 1) 22 [u1]) (hR2 : Row V2 (H + 2) 3 [u2]) (he : v2 = .slice (some ⟨k, 0, none⟩) xl.length c) (hk : V.heap.size ≤ k) (h3 : V2.heap[k]? = some ob) (h4 : ob.isCells = true) (h5 : ∀ W' : World, W'.heap[k]? = some ob → IntsV W' v2 xl) (hf : bestF gs ((pre ++ [(xl, xv)]).map Prod.fst) = some xl) =>
      show sepPostX W0.heap.size (KeptOn fun k => k < H ∨ k = H + 3) (BkI gs H (.slice ga gs.length gc) w) (fun _ _ _ _ => False) (pre ++ [(xl, xv)]) Z V .normal { tmps := #[], defers := [] } ((V2.setCell ⟨H + 1, 0, none⟩ v2).setCell ⟨H + 2, 0, none⟩ (.int .i64 (worthW gs xl))) from by
        subst he
        have q1 := (hR1.set 0 (.slice (some ⟨k, 0, none⟩) xl.length c)).other (show H + 1 ≠ H + 2 by omega) (i := 0) (.int .i64 (worthW gs xl))
        have q2 := (hR2.other (show H + 2 ≠ H + 1 by omega) (i := 0) (.slice (some ⟨k, 0, none⟩) xl.length c)).set 0 (.int .i64 (worthW gs xl))
        refine ⟨((keepsOthers_belowD hB2).trans ((KeepsOthers.setCell _ ⟨H + 1, 0, none⟩ _).trans (KeepsOthers.setCell _ ⟨H + 2, 0, none⟩ _))).from _,
          ((show KeptOn Z V V2 from ⟨hB2.size, fun k hk => hB2.block k (hZb k hk).2⟩).setCell (p := ⟨H + 1, 0, none⟩) (fun h => by have := hz _ h; dsimp only at this; omega) _).setCell (p := ⟨H + 2, 0, none⟩) (fun h => by have := hz _ h; dsimp only at this; omega) _,
          ((show KeptOn _ V V2 from ⟨hB2.size, fun k hk => hB2.block k (by rcases hk with h | h <;> omega)⟩).setCell (p := ⟨H + 1, 0, none⟩) (fun h => by rcases h with h | h <;> (dsimp only at h; omega)) _).setCell (p := ⟨H + 2, 0, none⟩) (fun h => by rcases h with h | h <;> (dsimp only at h; omega)) _,
          ⟨((r0.later hB2).other (show H ≠ H + 1 by omega) _).other (show H ≠ H + 2 by omega) _, ?_⟩, hz,
          ((below_nx' hb hB2).setCell (p := ⟨H + 1, 0, none⟩) (show H ≤ H + 1 by omega) _).setCell (p := ⟨H + 2, 0, none⟩) (show H ≤ H + 2 by omega) _, ?_⟩
        · rw [hf]
          exact ⟨k, c, ob, q1, q2, (Below.heap_setCell _ ⟨H + 2, 0, none⟩ _ k (show k ≠ H + 2 by omega)).trans ((Below.heap_setCell _ ⟨H + 1, 0, none⟩ _ k (show k ≠ H + 1 by omega)).trans h3), h4, h5, fun hk' => by have := (hZb k hk').2; omega⟩
        · have := hB2.size
          simp [World.setCell]
          omega)
    have HStay := Lib.hid (fun (V2 : World) (hB2 : Below V.heap.size V V2) (b : List Int) (hb0 : bestF gs (pre.map Prod.fst) = some b) (hf : bestF gs ((pre ++ [(xl, xv)]).map Prod.fst) = some b) =>
      show sepPostX W0.heap.size (KeptOn fun k => k < H ∨ k = H + 3) (BkI gs H (.slice ga gs.length gc) w) (fun _ _ _ _ => False) (pre ++ [(xl, xv)]) Z V .normal { tmps := #[], defers := [] } V2 from by
        refine ⟨(keepsOthers_belowD hB2).from _, ⟨hB2.size, fun k hk => hB2.block k (hZb k hk).2⟩, ⟨hB2.size, fun k hk => hB2.block k (by rcases hk with h | h <;> omega)⟩, ⟨r0.later hB2, ?_⟩, hz, below_nx' hb hB2, by have := hB2.size; omega⟩
        rw [hf]
        rw [hb0] at hbest
        exact hbest.later hB2)
    obtain ⟨xa, xc, e, -⟩ := hV
    subst e
    have HR0 := Lib.hid r0
    have HBest := Lib.hid hbest
    have k0 := r0.cell 0
    have HV1 := Lib.hid (fun V1 (hB : Below V.heap.size V V1) => And.intro (r0.later hB) (hbest.later hB))
    have HFold := Lib.hid hfold
    clear hxl hgV hfold r0 hbest hz hb hVz hMem hZb
    gi_wp2_with fail
    refine ⟨trivial, ?_⟩
    refine (CallsIn.inRound l (callsIn_wide.2 HWo.out)).mono ?_
    rintro e V1 ⟨rfl, bV1⟩
    rw [← HSm.out]
    have HB1 := Lib.hid bV1
    obtain ⟨r0', hbest'⟩ := HV1.out V1 bV1
    cases ho : bestF gs (pre.map Prod.fst) with
    | none =>
      rw [ho] at hbest'
      have hf := HFold.out
      rw [ho] at hf
      have HF := Lib.hid hf
      have R1 := Lib.hid hbest'.1
      have R2 := Lib.hid hbest'.2
      have k1 := hbest'.1.cell 0
      have q1 := fun W => eq_nil_nilD W
      clear hbest' hf r0' bV1
      generalize worthW gs xl = sx at *
      gi_wp2_with fail
      refine ⟨trivial, ?_⟩
      refine (CallsIn.inRound l (callsIn_wide.2 (HCl.out V1 HB1.out))).mono ?_
      rintro e V2 ⟨v2, rfl, ow, bV2⟩
      have HB2 := Lib.hid (below_nx HB1.out bV2)
      have R1' := Lib.hid (R1.out.later bV2)
      have R2' := Lib.hid (R2.out.later bV2)
      have j1 := R1'.out.cell 0
      have j2 := R2'.out.cell 0
      have f1 := R1'.out.frozen 0
      have f2 := R2'.out.frozen 0
      obtain ⟨kb, cb, ob, e2, hbase, _, hbo, hoc, hIv⟩ := HOB.out V2 _ v2 ow
      have HI2 := Lib.hid (And.intro hbo (And.intro hoc hIv))
      have HE2 := Lib.hid e2
      have hbs := Nat.le_trans HB1.out.size hbase
      subst e2
      clear ow bV2 hbo hoc hIv hbase
      gi_wp2
      exact HFin.out V2 _ _ cb _ kb ob HB2.out R1'.out R2'.out rfl hbs HI2.out.1 HI2.out.2.1 HI2.out.2.2 HF.out
    | some b =>
      rw [ho] at hbest'
      have hf := HFold.out
      rw [ho] at hf
      obtain ⟨k, c, ob, h1, h2, h3, h4, h5, h6⟩ := hbest'
      have R1 := Lib.hid h1
      have R2 := Lib.hid h2
      have k1 := h1.cell 0
      have k2 := h2.cell 0
      have q1 := fun W => eq_some_nilD ⟨k, 0, none⟩ b.length c W
      have HO := Lib.hid ho
      clear h1 h2 h3 h4 h5 h6 r0' bV1 ho
      by_cases hlt : worthW gs b < worthW gs xl
      · have HF := Lib.hid (show bestF gs ((pre ++ [(xl, Value.slice xa xl.length xc)]).map Prod.fst) = some xl from hf.trans (if_pos hlt))
        clear hf
        generalize worthW gs xl = sx at *
        generalize worthW gs b = sb at *
        gi_wp2_with fail
        refine ⟨trivial, ?_⟩
        refine (CallsIn.inRound l (callsIn_wide.2 (HCl.out V1 HB1.out))).mono ?_
        rintro e V2 ⟨v2, rfl, ow, bV2⟩
        have HB2 := Lib.hid (below_nx HB1.out bV2)
        have R1' := Lib.hid (R1.out.later bV2)
        have R2' := Lib.hid (R2.out.later bV2)
        have j1 := R1'.out.cell 0
        have j2 := R2'.out.cell 0
        have f1 := R1'.out.frozen 0
        have f2 := R2'.out.frozen 0
        obtain ⟨kb, cb, ob, e2, hbase, _, hbo, hoc, hIv⟩ := HOB.out V2 _ v2 ow
        have HI2 := Lib.hid (And.intro hbo (And.intro hoc hIv))
        have HE2 := Lib.hid e2
        have hbs := Nat.le_trans HB1.out.size hbase
        subst e2
        clear ow bV2 hbo hoc hIv hbase
        gi_wp2
        exact HFin.out V2 _ _ cb _ kb ob HB2.out R1'.out R2'.out rfl hbs HI2.out.1 HI2.out.2.1 HI2.out.2.2 HF.out
      · have HF := Lib.hid (show bestF gs ((pre ++ [(xl, Value.slice xa xl.length xc)]).map Prod.fst) = some b from hf.trans (if_neg hlt))
        clear hf
        have hdl : decide (worthW gs b < worthW gs xl) = false := decide_eq_false hlt
        generalize worthW gs xl = sx at *
        generalize worthW gs b = sb at *
        gi_wp2
        exact HStay.out V1 HB1.out b HO.out HF.out
  case done =>
    rintro D xs Z W hD hS ⟨⟨r0, hbest⟩, hz, hb, hsz⟩ hK
    have hS : xs.map Prod.fst = rightL gs := hS
    rw [hS] at hbest
    have HB := Lib.hid hb
    clear r0 hz hb hsz hS
    cases ho : bestF gs (rightL gs) with
    | none =>
      rw [ho] at hbest
      have k1 := hbest.1.cell 0
      have q1 := fun W => eq_nil_nilD W
      clear hbest
      gi_wp2
      refine ⟨by simp, .inl ⟨_, _, rfl, run_takeDeferred hK, ?_⟩⟩
      refine ⟨.tuple #[.slice none 0 0, .int .i64 4], by simp [results, Try.f49, go_sem], _, _, rfl, .inl ⟨ho, rfl, rfl⟩, ?_⟩
      rw [HHH.out]
      exact HB.out.trans (belowK_b (w := W0) (by omega) W D _ _ (by omega) hK rfl rfl)
    | some b =>
      rw [ho] at hbest
      obtain ⟨k, c, ob, h1, h2, h3, h4, h5, h6⟩ := hbest
      have k1 := h1.cell 0
      have q1 := fun W => eq_some_nilD ⟨k, 0, none⟩ b.length c W
      have HO := Lib.hid (And.intro h3 (And.intro h4 h5))
      clear h1 h2 h3 h4 h5 h6
      gi_wp2
      refine ⟨by simp, .inl ⟨_, _, rfl, run_takeDeferred hK, ?_⟩⟩
      obtain ⟨h3, h4, h5⟩ := HO.out
      have hbD : k ≠ D := fun e => by subst e; rw [h3] at hK; cases hK; cases h4
      have hb' : (W.putObj D (.deferred none)).heap[k]? = some ob := ((grownBy_putObj' W D (.deferred none)).block k (Array.getElem?_eq_some_iff.1 h3).1 (fun e => hbD (by cases e; rfl))).trans h3
      refine ⟨.tuple #[.slice (some ⟨k, 0, none⟩) b.length c, .int .i64 0], by simp [results, Try.f49, go_sem], _, _, rfl, .inr ⟨b, ho, h5 _ hb', rfl⟩, ?_⟩
      rw [HHH.out]
      exact HB.out.trans (belowK_b (w := W0) (by omega) W D _ _ (by omega) hK rfl rfl)
  case stop =>
    rintro D c pre' Z' V hD _ h _
    exact h.elim

theorem Best_bad (xs : List Int) (g : Value) (w : World) (hl : xs.length ≤ maxLen) (hp : dpartB xs = false) (h : IntsV w g xs) :
    Calls Try.prog 49 #[g] w fun e w' => e = .returned (.tuple #[.slice none 0 0, .int .i64 2]) ∧ Below w.heap.size w w' := by
  obtain ⟨W1, hW1⟩ : ∃ W1, w.alloc (.cells #[g] 22) = W1 := ⟨_, rfl⟩
  have hb1 : Below w.heap.size w W1 := by rw [← hW1]; exact (Below.refl _ w).alloc (Nat.le_refl _) _
  have HV := Lib.hid (isPart_any xs g W1 hl (h.later hb1))
  rw [hp] at HV
  obtain ⟨ga, gc, rfl, _⟩ := h
  have r0 : Row W1 w.heap.size 22 [.slice ga xs.length gc] := by rw [← hW1]; exact Row.new w _ _
  have k0 := r0.cell 0
  have HB1 := Lib.hid hb1
  have HW1 := Lib.hid hW1
  clear hb1 r0 hW1 hp
  go_enter Try.func49, Try.ntmps49
  go_wp2_with fail
  rw [HW1.out]
  refine HV.out.mono ?_
  rintro e w' ⟨rfl, rfl⟩
  go_wp2
  go_ret2
  exact ⟨rfl, HB1.out⟩
end

end Go.Proofs.Ytlmfmfbnbbooaaa

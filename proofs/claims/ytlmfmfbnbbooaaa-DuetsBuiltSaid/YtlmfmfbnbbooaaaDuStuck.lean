/-
  Stuck: a range that leaves as soon as a beginning is whole. 
-/
import Derived.Test.YtlmfmfbnbbooaaaDuFirst
namespace Go.Proofs.Ytlmfmfbnbbooaaa
open Go.RowKit Go.Shelf Go.ChangeShapes Go.WideShapes Go.ChangeAt
attribute [local go_sem] Oper.semAt_some
set_option maxRecDepth 100000

/-- The greatest length. -/
def mostL (l : List (List Int)) : Nat := l.foldl (fun m b => max m b.length) 0
theorem mostL_snoc (l : List (List Int)) (b : List Int) : mostL (l ++ [b]) = max (mostL l) b.length := by
  unfold mostL; rw [List.foldl_append]; rfl
theorem foldl_ge : ∀ (l : List (List Int)) (a : Nat), a ≤ l.foldl (fun m b => max m b.length) a ∧ ∀ b ∈ l, b.length ≤ l.foldl (fun m b => max m b.length) a
  | [], a => ⟨Nat.le_refl _, fun b h => by cases h⟩
  | c :: l, a => by
    obtain ⟨h1, h2⟩ := foldl_ge l (max a c.length)
    rw [List.foldl_cons]
    refine ⟨by omega, fun b hb => ?_⟩
    rcases List.mem_cons.1 hb with rfl | hb
    · omega
    · exact h2 b hb
theorem mostL_mem {l : List (List Int)} {b : List Int} (h : b ∈ l) : b.length ≤ mostL l := (foldl_ge l 0).2 b h
theorem begL_le (gs : List Int) : ∀ f b, ∀ m ∈ begL gs f b, m.length ≤ b.length + f
  | 0, _, m, h => by simp [begL] at h
  | f + 1, b, m, h => by
    unfold begL at h
    obtain ⟨x, _, hx⟩ := List.mem_flatMap.1 h
    rcases List.mem_cons.1 hx with rfl | hx
    · rw [List.length_append, List.length_singleton]; omega
    · have := begL_le gs f _ m hx
      rw [List.length_append, List.length_singleton] at this
      omega

/-- What the rounds keep: the given part's box, the results', and the greatest length. -/
def TkI (L H : Nat) (g : Value) (w : World) (pre : List DX) (Z : Nat → Prop) (V : World) : Prop :=
  mostL (pre.map Prod.fst) < L ∧ (Row V H 22 [g] ∧ Row V (H + 1) 3 [.int .i64 0] ∧ Row V (H + 2) 23 [.int .i64 0] ∧ Row V (H + 3) 3 [.int .i64 (mostL (pre.map Prod.fst) : Nat)]) ∧ (∀ k, Z k → H + 5 ≤ k) ∧ Below H w V ∧ H + 5 ≤ V.heap.size
def TkX (L H : Nat) (w : World) (pre : List DX) (Z : Nat → Prop) (V : World) : Prop :=
  (∃ x ∈ pre, x.1.length = L) ∧ (Row V (H + 1) 3 [.int .i64 0] ∧ Row V (H + 2) 23 [.int .i64 4]) ∧ (∀ k, Z k → H + 5 ≤ k) ∧ Below H w V ∧ H + 5 ≤ V.heap.size
theorem TkI.step {L H : Nat} {g : Value} {w V V' : World} {row : Option Nat} {pre : List DX} {Z Z' : Nat → Prop} (hH : H = w.heap.size) (h : TkI L H g w pre Z V) (hg : V.grownBy V' row) (hr : ∀ r, row = some r → H + 5 ≤ r) (hz : ∀ k, Z' k → H + 5 ≤ k) : TkI L H g w pre Z' V' := by
  obtain ⟨h0, ⟨h1, h2, h3, h4⟩, _, h6, h7⟩ := h
  exact ⟨h0, ⟨h1.alone hg (fun r e => by have := hr r e; omega), h2.alone hg (fun r e => by have := hr r e; omega), h3.alone hg (fun r e => by have := hr r e; omega), h4.alone hg (fun r e => by have := hr r e; omega)⟩, hz, h6.grown hg (by omega) (fun k e => by have := hr k e; omega), Nat.le_trans h7 hg.size⟩
theorem TkX.step {L H : Nat} {w V V' : World} {row : Option Nat} {pre : List DX} {Z Z' : Nat → Prop} (hH : H = w.heap.size) (h : TkX L H w pre Z V) (hg : V.grownBy V' row) (hr : ∀ r, row = some r → H + 5 ≤ r) (hz : ∀ k, Z' k → H + 5 ≤ k) : TkX L H w pre Z' V' := by
  obtain ⟨h0, ⟨h2, h3⟩, _, h6, h7⟩ := h
  exact ⟨h0, ⟨h2.alone hg (fun r e => by have := hr r e; omega), h3.alone hg (fun r e => by have := hr r e; omega)⟩, hz, h6.grown hg (by omega) (fun k e => by have := hr k e; omega), Nat.le_trans h7 hg.size⟩
theorem TkI.sep {L H : Nat} {g : Value} {w : World} (hH : H = w.heap.size) : SepO (H + 5) (TkI L H g w) :=
  { grow := fun s Z V V' row h hg hr => h.step hH hg (fun r e => (hr r e).1) h.2.2.1
    priv := fun s Z V r i u h hz => h.step hH (set_grown V r i u) (fun r' e => by cases e; exact h.2.2.1 r hz) h.2.2.1
    take := fun s Z V o h => h.step hH (alloc_grown V o) (fun r e => by cases e) (fun k hk => by
      rcases hk with hk | rfl
      · exact h.2.2.1 k hk
      · exact h.2.2.2.2)
    draw := fun s Z V ⟨h0, ⟨h1, h2, h3, h4⟩, h5, h6, h7⟩ => ⟨h0, ⟨h1, h2, h3, h4⟩, h5, h6.drew, h7⟩
    own := fun s Z V V' row N h hg hr hN => h.step hH hg (fun r e => h.2.2.1 r (hr r e)) (fun k hk => by
      rcases hk with hk | ⟨hk, _⟩
      · exact h.2.2.1 k hk
      · have := hN k hk; have := h.2.2.2.2; omega) }
theorem TkX.sep {L H : Nat} {w : World} (hH : H = w.heap.size) (c : Code) : SepO (H + 5) (fun pre Z V => c = .ret ∧ TkX L H w pre Z V) :=
  { grow := fun s Z V V' row h hg hr => ⟨h.1, h.2.step hH hg (fun r e => (hr r e).1) h.2.2.2.1⟩
    priv := fun s Z V r i u h hz => ⟨h.1, h.2.step hH (set_grown V r i u) (fun r' e => by cases e; exact h.2.2.2.1 r hz) h.2.2.2.1⟩
    take := fun s Z V o h => ⟨h.1, h.2.step hH (alloc_grown V o) (fun r e => by cases e) (fun k hk => by
      rcases hk with hk | rfl
      · exact h.2.2.2.1 k hk
      · exact h.2.2.2.2.2)⟩
    draw := fun s Z V ⟨hc, h0, ⟨h1, h2⟩, h5, h6, h7⟩ => ⟨hc, h0, ⟨h1, h2⟩, h5, h6.drew, h7⟩
    own := fun s Z V V' row N h hg hr hN => ⟨h.1, h.2.step hH hg (fun r e => h.2.2.2.1 r (hr r e)) (fun k hk => by
      rcases hk with hk | ⟨hk, _⟩
      · exact h.2.2.2.1 k hk
      · have := hN k hk; have := h.2.2.2.2.2; omega)⟩ }

theorem stuck_results (tmps : Array Value) (w : World) (g h : Nat) (a b : Value) (hp : tmps.getD 2 undef = .pointer (some ⟨g, 0, none⟩)) (hq : tmps.getD 3 undef = .pointer (some ⟨h, 0, none⟩))
    (h1 : Row w g 3 [a]) (h2 : Row w h 23 [b]) : (results Try.f53 tmps).run Try.prog w = .ok (.tuple #[a, b]) w := by
  have c0 : w.cell? ⟨g, 0, none⟩ = some a := h1.cell 0
  have c2 : w.cell? ⟨h, 0, none⟩ = some b := h2.cell 0
  have hp' : tmps[2]?.getD undef = .pointer (some ⟨g, 0, none⟩) := by simpa using hp
  have hq' : tmps[3]?.getD undef = .pointer (some ⟨h, 0, none⟩) := by simpa using hq
  simp [results, Try.f53, go_sem, hp', hq', c0, c2]

set_option maxHeartbeats 4000000 in
theorem Stuck_ok (gs : List Int) (g : Value) (w : World) (hp : dpartB gs = true) (h : IntsV w g gs) :
    Calls Try.prog 53 #[g] w fun e w' => ∃ a c : Int, e = .returned (.tuple #[.int .i64 a, .int .i64 c]) ∧ ((rightL gs = [] ∧ a = (mostL (begL gs gs.length []) : Nat) ∧ c = 0) ∨ (rightL gs ≠ [] ∧ a = 0 ∧ c = 4)) ∧ Below w.heap.size w w' := by
  have g1 := dpart_len hp
  have H1 := Lib.hid h
  have hlow := ints_low h (by omega)
  obtain ⟨W3, hW3⟩ : ∃ W3, ((w.alloc (.cells #[g] 22)).alloc (.cells #[.int .i64 0] 3)).alloc (.cells #[.int .i64 0] 23) = W3 := ⟨_, rfl⟩
  have hb3 : Below w.heap.size w W3 := by rw [← hW3]; exact (((Below.refl _ w).alloc (Nat.le_refl _) _).alloc (by simp) _).alloc (by simp; omega) _
  have HV := Lib.hid (isPart_any gs g W3 (by unfold maxLen; omega) (h.later hb3))
  rw [hp] at HV
  obtain ⟨ga, gc, rfl, _⟩ := h
  obtain ⟨H, hH⟩ : ∃ H, w.heap.size = H := ⟨_, rfl⟩
  have hs3 : W3.heap.size = H + 3 := by rw [← hW3, ← hH]; simp
  have r0 : Row W3 H 22 [.slice ga gs.length gc] := by rw [← hW3, ← hH]; exact ((Row.new w _ _).alloc _).alloc _
  have r1 : Row W3 (H + 1) 3 [.int .i64 0] := by
    have := Row.new (w.alloc (.cells #[.slice ga gs.length gc] 22)) 3 [.int .i64 0]
    rw [World.size_alloc, hH] at this
    rw [← hW3]; exact this.alloc _
  have r2 : Row W3 (H + 2) 23 [.int .i64 0] := by
    have := Row.new ((w.alloc (.cells #[.slice ga gs.length gc] 22)).alloc (.cells #[.int .i64 0] 3)) 23 [.int .i64 0]
    rw [World.size_alloc, World.size_alloc, hH] at this
    rw [← hW3]; exact this
  have r3 : Row (W3.alloc (.cells #[.int .i64 0] 3)) (H + 3) 3 [.int .i64 0] := by rw [← hs3]; exact Row.new W3 _ _
  have hs4 : (W3.alloc (.cells #[.int .i64 0] 3)).heap.size = H + 4 := by rw [World.size_alloc, hs3]
  have HI := begin_any ga gs.length gc (W3.alloc (.cells #[.int .i64 0] 3))
  rw [hs4] at HI
  obtain ⟨W0, hW0⟩ : ∃ W0, (W3.alloc (.cells #[.int .i64 0] 3)).alloc (.cells #[.slice ga gs.length gc] 22) = W0 := ⟨_, rfl⟩
  have b30 : Below W3.heap.size W3 W0 := by rw [← hW0]; exact ((Below.refl _ W3).alloc (Nat.le_refl _) _).alloc (by simp) _
  have hs0 : W0.heap.size = H + 5 := by rw [← hW0, World.size_alloc, hs4]
  have bW0 : Below H w W0 := by rw [← hH]; exact below_nx hb3 b30
  have c0 := r0.cell 0
  have c0' := cell_later ((Below.refl _ W3).alloc (Nat.le_refl _) (.cells #[.int .i64 0] 3)) c0
  have c1 : W0.cell? ⟨H + 4, 0, none⟩ = some (.slice ga gs.length gc) := by
    have := Row.new (W3.alloc (.cells #[.int .i64 0] 3)) 22 [.slice ga gs.length gc]
    rw [hs4] at this
    rw [← hW0]; exact this.cell 0
  have hrows : Row W0 H 22 [.slice ga gs.length gc] ∧ Row W0 (H + 1) 3 [.int .i64 0] ∧ Row W0 (H + 2) 23 [.int .i64 0] ∧ Row W0 (H + 3) 3 [.int .i64 0] := ⟨r0.later b30, r1.later b30, r2.later b30, by rw [← hW0]; exact r3.alloc _⟩
  have HI := Lib.hid HI
  have HW0 := Lib.hid hW0
  have HW3 := Lib.hid hW3
  have HGI := Lib.hid (H1.out.later (hH.symm ▸ bW0))
  have HHH := Lib.hid hH
  have HLow := Lib.hid hlow
  have HRo := Lib.hid hrows
  have HBW := Lib.hid bW0
  have HC1 := Lib.hid c1
  have g8 := g1.2.1
  have gn := g1.2.2
  have gl1 := g1.1
  clear hW0 bW0 hlow hp g1 H1 r0 r1 r2 r3 hW3 hb3 b30 hrows c1
  refine (callsIn_wide (n := 9)).1 ?_
  refine callsIn_of_wp_marks Try.func53 rfl trivial ?_ rfl
  simp only [Try.ntmps53, List.size_toArray, List.length_cons, List.length_nil, Nat.reduceAdd, Nat.reduceSub, Array.replicate_succ, Array.replicate_zero, List.push_toArray, List.append_toArray, List.nil_append, List.cons_append]
  gi_wp2_with fail
  refine ⟨trivial, ?_⟩
  rw [HW3.out]
  refine (callsIn_wide.2 HV.out).mono ?_
  rintro e w' ⟨rfl, rfl⟩
  gi_wp2_with fail
  refine ⟨trivial, ?_⟩
  refine (callsIn_wide.2 HI.out).mono ?_
  rintro e w' ⟨rfl, rfl⟩
  gi_wp2_with fail
  try rw [HW0.out]
  have hSS : ∀ k, (k < H ∨ k = H + 4) → k < W0.heap.size := fun k h => by omega
  refine wpIn_rangeFunc_sepX (α := DX) (by omega) (gf := 122) (lb := #[.pointer (some ⟨H + 4, 0, none⟩)]) rfl begin_enters
    (begin1_seq gs (H + 4) (fun k => k < H ∨ k = H + 4) _ W0 g8 gn HGI.out HC1.out (.inr rfl) (fun a m c e => .inl (by have := HLow.out a m c e; have := HHH.out; omega)) hSS) VDP_put keptOn_t (keptOn_b hSS) (Below.refl _ _) (fun _ => rfl)
    (TkI gs.length H (.slice ga gs.length gc) w) (fun c pre Z V => c = .ret ∧ TkX gs.length H w pre Z V) (by rw [hs0]; exact TkI.sep HHH.out.symm) (fun c => by rw [hs0]; exact TkX.sep HHH.out.symm c)
    ⟨gl1, HRo.out, fun k h => h.elim, HBW.out, by omega⟩
    (fun x => { tmps := #[.slice ga gs.length gc, .pointer (some ⟨H, 0, none⟩), .pointer (some ⟨H + 1, 0, none⟩), .pointer (some ⟨H + 2, 0, none⟩), .pointer (some ⟨H + 3, 0, none⟩), x.2, .slice ga gs.length gc, .bool true, .bool false, .slice ga gs.length gc, .func (.func 122) #[] #[.pointer (some ⟨H + 4, 0, none⟩)], x.2, undef, undef, undef, undef, undef, undef, undef, undef, undef], defers := [] }) ?assign ?body ?done ?stop
  case assign =>
    intro l x W K hK
    simp only [encD]
    gi_wp2
    simpa using hK
  case body =>
    rintro l pre ⟨xl, xv⟩ Z V hl hrec ⟨h0, ⟨r0, r1, r2, r3⟩, hz, hb, hsz⟩ ⟨hV, hVz, hMem⟩ hZb hlen
    dsimp only at hV hVz hMem ⊢
    have hxl : xl.length ≤ gs.length := by
      have := begL_le gs gs.length [] xl hMem
      simpa using this
    obtain ⟨xa, xc, rfl, -⟩ := hV
    have k0 := r0.cell 0
    have k1 := r1.cell 0
    have k2 := r2.cell 0
    have k3 := r3.cell 0
    have f1 := r1.frozen 0
    have f2 := r2.frozen 0
    have f3 := r3.frozen 0
    have hmost : mostL ((pre ++ [(xl, Value.slice xa xl.length xc)]).map Prod.fst) = max (mostL (pre.map Prod.fst)) xl.length := by rw [List.map_append]; exact mostL_snoc _ _
    have HMost := Lib.hid hmost
    have R0 := Lib.hid r0
    have R1 := Lib.hid r1
    have R2 := Lib.hid r2
    have R3 := Lib.hid r3
    have HZ := Lib.hid hz
    have HB := Lib.hid hb
    clear r0 r1 r2 r3 hz hb hmost hVz hMem hZb hlen
    obtain ⟨n, hn⟩ : ∃ n, xl.length = n := ⟨_, rfl⟩
    have HX := Lib.hid hn
    rw [hn] at hxl HMost ⊢
    generalize mostL (pre.map Prod.fst) = m at *
    obtain ⟨L, hL⟩ : ∃ L, gs.length = L := ⟨_, rfl⟩
    rw [hL] at hxl h0 k0 R0 ⊢
    clear hn
    by_cases hnL : n = L
    · have hq : ((max (m : Int) (n : Int)) == (L : Int)) = true := by rw [beq_iff_eq]; omega
      have hq2 : max m n = L := by omega
      have HnL := Lib.hid hnL
      clear hnL
      gi_wp2
      have h3 := HZ.out
      have q1 := ((R1.out.other (show H + 1 ≠ H + 3 by omega) (i := 0) (.int .i64 (max (m : Int) (n : Int)))).set 0 (.int .i64 0)).other (show H + 1 ≠ H + 2 by omega) (i := 0) (.int .i64 4)
      have q2 := ((R2.out.other (show H + 2 ≠ H + 3 by omega) (i := 0) (.int .i64 (max (m : Int) (n : Int)))).other (show H + 2 ≠ H + 1 by omega) (i := 0) (.int .i64 0)).set 0 (.int .i64 4)
      refine ⟨((KeepsOthers.setCell _ ⟨H + 3, 0, none⟩ _).trans ((KeepsOthers.setCell _ ⟨H + 1, 0, none⟩ _).trans (KeepsOthers.setCell _ ⟨H + 2, 0, none⟩ _))).from _,
        (((KeptOn.refl Z V).setCell (p := ⟨H + 3, 0, none⟩) (fun h => by have := h3 _ h; dsimp only at this; omega) _).setCell (p := ⟨H + 1, 0, none⟩) (fun h => by have := h3 _ h; dsimp only at this; omega) _).setCell (p := ⟨H + 2, 0, none⟩) (fun h => by have := h3 _ h; dsimp only at this; omega) _,
        (((KeptOn.refl _ V).setCell (p := ⟨H + 3, 0, none⟩) (fun h => by rcases h with h | h <;> (dsimp only at h; omega)) _).setCell (p := ⟨H + 1, 0, none⟩) (fun h => by rcases h with h | h <;> (dsimp only at h; omega)) _).setCell (p := ⟨H + 2, 0, none⟩) (fun h => by rcases h with h | h <;> (dsimp only at h; omega)) _,
        rfl, ⟨_, List.mem_append.2 (.inr (List.mem_singleton.2 rfl)), HX.out.trans HnL.out⟩, ⟨q1, q2⟩, h3, ((HB.out.setCell (p := ⟨H + 3, 0, none⟩) (show H ≤ H + 3 by omega) _).setCell (p := ⟨H + 1, 0, none⟩) (show H ≤ H + 1 by omega) _).setCell (p := ⟨H + 2, 0, none⟩) (show H ≤ H + 2 by omega) _, by simpa [World.setCell] using hsz⟩
    · have hq : ((max (m : Int) (n : Int)) == (L : Int)) = false := by rw [beq_eq_false_iff_ne]; omega
      have HnL := Lib.hid hnL
      clear hnL
      gi_wp2
      have h3 := HZ.out
      have e0 : ((max m n : Nat) : Int) = max (m : Int) (n : Int) := by omega
      refine ⟨(KeepsOthers.setCell V ⟨H + 3, 0, none⟩ _).from _, (KeptOn.refl Z V).setCell (p := ⟨H + 3, 0, none⟩) (fun h => by have := h3 _ h; dsimp only at this; omega) _, (KeptOn.refl _ V).setCell (p := ⟨H + 3, 0, none⟩) (fun h => by rcases h with h | h <;> (dsimp only at h; omega)) _,
        by rw [HMost.out]; have := HnL.out; omega, ⟨R0.out.other (show H ≠ H + 3 by omega) _, R1.out.other (show H + 1 ≠ H + 3 by omega) _, R2.out.other (show H + 2 ≠ H + 3 by omega) _, by rw [HMost.out, e0]; exact R3.out.set 0 _⟩, h3, HB.out.setCell (p := ⟨H + 3, 0, none⟩) (show H ≤ H + 3 by omega) _, by simpa [World.setCell] using hsz⟩
  case done =>
    rintro D xs Z W hD hS ⟨h0, ⟨r0, r1, r2, r3⟩, hz, hb, hsz⟩ hK
    have k1 := r1.cell 0
    have k2 := r2.cell 0
    have k3 := r3.cell 0
    have f1 := r1.frozen 0
    have f2 := r2.frozen 0
    have hS : xs.map Prod.fst = begL gs gs.length [] := hS
    rw [hS] at h0 r3 k3
    have HRn := Lib.hid (show rightL gs = [] by
      unfold rightL
      rw [List.filter_eq_nil_iff]
      intro b hb
      have := mostL_mem hb
      rw [decide_eq_true_eq]
      omega)
    have R1 := Lib.hid r1
    have R2 := Lib.hid r2
    have HB := Lib.hid hb
    have HK := Lib.hid hK
    clear r0 r1 r2 r3 hz hb hS h0 hK
    gi_wp2
    generalize ((mostL (begL gs gs.length []) : Nat) : Int) = mm at *
    have hK' : ((W.setCell ⟨H + 1, 0, none⟩ (.int .i64 mm)).setCell ⟨H + 2, 0, none⟩ (.int .i64 0)).heap[D]? = some (.deferred (some [])) :=
      (Below.heap_setCell _ ⟨H + 2, 0, none⟩ _ D (show D ≠ H + 2 by omega)).trans ((Below.heap_setCell _ ⟨H + 1, 0, none⟩ _ D (show D ≠ H + 1 by omega)).trans HK.out)
    refine ⟨by simp, .inl ⟨_, _, rfl, run_takeDeferred hK', ?_⟩⟩
    have q1 := (R1.out.set 0 (.int .i64 mm)).other (show H + 1 ≠ H + 2 by omega) (i := 0) (.int .i64 0)
    have q2 := (R2.out.other (show H + 2 ≠ H + 1 by omega) (i := 0) (.int .i64 mm)).set 0 (.int .i64 0)
    have R1' := q1.kept (grownBy_putObj' _ D (.deferred none)) (fun r e => by cases e; exact ⟨_, hK', rfl⟩)
    have R2' := q2.kept (grownBy_putObj' _ D (.deferred none)) (fun r e => by cases e; exact ⟨_, hK', rfl⟩)
    have HB' := (HB.out.setCell (p := ⟨H + 1, 0, none⟩) (show H ≤ H + 1 by omega) (.int .i64 mm)).setCell (p := ⟨H + 2, 0, none⟩) (show H ≤ H + 2 by omega) (.int .i64 0)
    refine ⟨.tuple #[.int .i64 mm, .int .i64 0], ?_, ⟨mm, 0, rfl, .inl ⟨HRn.out, rfl, rfl⟩, ?_⟩⟩
    · exact stuck_results _ _ _ _ _ _ rfl rfl R1' R2'
    · rw [HHH.out]
      exact HB'.trans (belowK_b (w := W0) (by omega) _ D _ _ (by omega) hK' rfl rfl)
  case stop =>
    rintro D c pre Z W hD ⟨q, hq⟩ ⟨rfl, ⟨x, hx, hxl⟩, ⟨r1, r2⟩, hz, hb, hsz⟩ hK
    have HRn := Lib.hid (show rightL gs ≠ [] from fun e => by
      have h1 : x.1 ∈ rightL gs := by
        unfold rightL
        refine List.mem_filter.2 ⟨?_, decide_eq_true hxl⟩
        rw [hq]
        exact List.mem_append.2 (.inl (List.mem_map_of_mem hx))
      rw [e] at h1
      cases h1)
    have R1 := Lib.hid r1
    have R2 := Lib.hid r2
    have HB := Lib.hid hb
    clear r1 r2 hz hb hq hx hxl
    gi_wp2
    refine ⟨by simp, .inl ⟨_, _, rfl, run_takeDeferred hK, ?_⟩⟩
    have R1' := R1.out.kept (grownBy_putObj' W D (.deferred none)) (fun r e => by cases e; exact ⟨_, hK, rfl⟩)
    have R2' := R2.out.kept (grownBy_putObj' W D (.deferred none)) (fun r e => by cases e; exact ⟨_, hK, rfl⟩)
    refine ⟨.tuple #[.int .i64 0, .int .i64 4], ?_, ⟨0, 4, rfl, .inr ⟨HRn.out, rfl, rfl⟩, ?_⟩⟩
    · exact stuck_results _ _ _ _ _ _ rfl rfl R1' R2'
    · rw [HHH.out]
      exact HB.out.trans (belowK_b (w := W0) (by omega) W D _ _ (by omega) hK rfl rfl)

theorem Stuck_bad (xs : List Int) (g : Value) (w : World) (hl : xs.length ≤ maxLen) (hp : dpartB xs = false) (h : IntsV w g xs) :
    Calls Try.prog 53 #[g] w fun e w' => e = .returned (.tuple #[.int .i64 0, .int .i64 2]) ∧ Below w.heap.size w w' := by
  obtain ⟨W3, hW3⟩ : ∃ W3, ((w.alloc (.cells #[g] 22)).alloc (.cells #[.int .i64 0] 3)).alloc (.cells #[.int .i64 0] 23) = W3 := ⟨_, rfl⟩
  have hb3 : Below w.heap.size w W3 := by rw [← hW3]; exact (((Below.refl _ w).alloc (Nat.le_refl _) _).alloc (by simp) _).alloc (by simp; omega) _
  have HV := Lib.hid (isPart_any xs g W3 hl (h.later hb3))
  rw [hp] at HV
  obtain ⟨H, hH⟩ : ∃ H, w.heap.size = H := ⟨_, rfl⟩
  obtain ⟨ga, gc, rfl, _⟩ := h
  have r1 : Row W3 (H + 1) 3 [.int .i64 0] := by
    have := Row.new (w.alloc (.cells #[.slice ga xs.length gc] 22)) 3 [.int .i64 0]
    rw [World.size_alloc, hH] at this
    rw [← hW3]; exact this.alloc _
  have r2 : Row W3 (H + 1 + 1) 23 [.int .i64 0] := by
    have := Row.new ((w.alloc (.cells #[.slice ga xs.length gc] 22)).alloc (.cells #[.int .i64 0] 3)) 23 [.int .i64 0]
    rw [World.size_alloc, World.size_alloc, hH] at this
    rw [← hW3]; exact this
  have HB3 := Lib.hid hb3
  have R1 := Lib.hid r1
  have R2 := Lib.hid r2
  have k1 := r1.cell 0
  have k2 := r2.cell 0
  have f1 := r1.frozen 0
  have f2 := r2.frozen 0
  have HH := Lib.hid hH
  have HW3 := Lib.hid hW3
  clear hb3 r1 r2 hW3
  go_enter Try.func53, Try.ntmps53
  go_wp2_with fail
  rw [HW3.out]
  refine HV.out.mono ?_
  rintro e w' ⟨rfl, rfl⟩
  go_wp2
  have q1 := (R1.out.set 0 (.int .i64 0)).other (show H + 1 ≠ H + 1 + 1 by omega) (i := 0) (.int .i64 2)
  have q2 := (R2.out.other (show H + 1 + 1 ≠ H + 1 by omega) (i := 0) (.int .i64 0)).set 0 (.int .i64 2)
  refine bodyPost_ret (stuck_results _ _ (H + 1) (H + 1 + 1) _ _ rfl rfl q1 q2) rfl ⟨rfl, ?_⟩
  have hB := HB3.out
  have e := HH.out
  rw [e] at hB
  first | (rw [e]; exact (hB.setCell (p := ⟨H + 1, 0, none⟩) (show H ≤ H + 1 by omega) _).setCell (p := ⟨H + 1 + 1, 0, none⟩) (show H ≤ H + 1 + 1 by omega) _) | exact (hB.setCell (p := ⟨H + 1, 0, none⟩) (show H ≤ H + 1 by omega) _).setCell (p := ⟨H + 1 + 1, 0, none⟩) (show H ≤ H + 1 + 1 by omega) _
end Go.Proofs.Ytlmfmfbnbbooaaa

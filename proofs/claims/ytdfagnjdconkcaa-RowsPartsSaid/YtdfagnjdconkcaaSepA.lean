/-
  A range over an iterator that hands out what it has just made: as in SepV, where taking the loop's variables makes memory, too.
-/
import Derived.Test.YtdfagnjdconkcaaSepV
namespace Go.Proofs.Ytdfagnjdconkcaa
open Go Go.RowKit

variable {α : Type}

variable {P : Program} {n : Nat}

theorem wpIn_rangeFunc_sepA {g : Operand} {ps : Array Tmp} {assign body : Code} {Q : Exit → Act → World → Prop} {a : Act} {w : World} (h1 : 1 ≤ n) {gf : Nat} {lb : Array Value} (hg : a.eval g = .func (.func gf) #[] lb)
    (eg : ∀ args w, (callFunc gf args).run P w = .ok (.enter gf args) w) {encs : α → Array Value} {V : α → World → Prop} {Kp : World → World → Prop} {S Sp : List α → Prop} {N : Nat} {w0 : World} (hseq : SeqSepV P gf lb encs V Kp S Sp N w0)
    (hKt : ∀ {A B C : World}, Kp A B → Kp B C → Kp A C) (hKb : ∀ (W : World) (l : Nat) (o o' : Obj), w.heap.size ≤ l → W.heap[l]? = some o → o.isCells = false → o.isWalk = false → Kp W (W.putObj l o')) (hb0 : Below w0.heap.size w0 w) (hps : ∀ x, (encs x).size = ps.size)
    (I : List α → (Nat → Prop) → World → Prop) (Ix : Code → List α → (Nat → Prop) → World → Prop) (hI : Sep w.heap.size I) (hIx : ∀ c, Sep w.heap.size (Ix c)) (h0 : I [] (fun _ => False) w) (M : List α → α → (Nat → Prop) → Act → World → Prop)
    (hM : ∀ (pre : List α) (x : α) (Z : Nat → Prop) (a' : Act) (W : World) (l : Nat) (o o' : Obj), M pre x Z a' W → w.heap.size ≤ l → W.heap[l]? = some o → o.isCells = false → M pre x Z a' (W.putObj l o'))
    (hassign : ∀ (l : Nat) (pre : List α) (x : α) (Z : Nat → Prop) (W : World) (K : Act → World → Prop), I pre Z W → V x W → (∀ k, Z k → w.heap.size ≤ k ∧ k < W.heap.size) → pre.length < N →
      (∀ a' W', KeepsOthers W W' → KeptOn Z W W' → Kp W W' → M pre x Z a' W' → K a' W') →
      assign.wpIn (Fence.wide.inRound l) n P (Exit.then K (fun _ _ _ => False)) { tmps := (ps.zip (encs x)).foldl (fun t (p, v) => t.setIfInBounds p v) a.tmps, defers := [] } W)
    (hbody : ∀ (l : Nat) (pre : List α) (x : α) (Z : Nat → Prop) (a' : Act) (W : World), M pre x Z a' W → (∀ k, Z k → w.heap.size ≤ k ∧ k < W.heap.size) → pre.length < N → body.wpIn (Fence.wide.inRound l) n P (sepPost Kp I Ix (pre ++ [x]) Z W) a' W)
    (hdone : ∀ (D : Nat) (xs : List α) (Z : Nat → Prop) (W : World), w.heap.size ≤ D → S xs → I xs Z W → W.heap[D]? = some (.deferred (some [])) → Q .normal { a with defers := { target := .collected D, args := #[] } :: a.defers } W)
    (hstop : ∀ (D : Nat) (c : Code) (pre : List α) (Z : Nat → Prop) (W : World), w.heap.size ≤ D → Sp pre → Ix c pre Z W → W.heap[D]? = some (.deferred (some [])) → c.wpIn Fence.wide n P Q { a with defers := { target := .collected D, args := #[] } :: a.defers } W) :
    (Code.rangeFunc g ps assign body).wpIn Fence.wide n P Q a w := by
  refine wpIn_rangeFunc ?_
  intro fn hfn
  obtain ⟨rec, hrec⟩ : ∃ rec : LoopState → Option Code → Loop, rec = fun st pe => { state := st, pending := pe, fn, tmps := a.tmps, params := ps, assign, body, defers := w.heap.size } := ⟨_, rfl⟩
  obtain ⟨L, hL⟩ : ∃ L, L = w.heap.size + 1 := ⟨_, rfl⟩
  obtain ⟨W1, hW1⟩ : ∃ W1, (w.alloc (.deferred (some []))).alloc (.loop (rec .ready none)) = W1 := ⟨_, rfl⟩
  have hs1 : W1.heap.size = L + 1 := by rw [← hW1, hL]; simp
  have hL1 : W1.heap[L]? = some (.loop (rec .ready none)) := by
    rw [← hW1, hL]; have := World.alloc_heap_new (w.alloc (.deferred (some []))) (.loop (rec .ready none)); rwa [World.size_alloc] at this
  have hK1 : W1.heap[w.heap.size]? = some (.deferred (some [])) := by
    rw [← hW1]; exact (Below.heap_alloc _ _ _ (by simp)).trans (World.alloc_heap_new w _)
  have hbw : Below w.heap.size w W1 := by rw [← hW1]; exact ((Below.refl _ w).alloc (Nat.le_refl _) _).alloc (by simp) _
  have hI1 : I [] (fun _ => False) W1 := hI.below h0 hbw
  have hb1 : Below w0.heap.size w0 W1 := hb0.trans (hbw.mono hb0.size)
  rw [show Fence.wide.round = none from rfl]
  refine ⟨L, [{ target := .collected w.heap.size, args := #[] }], W1, { target := .fn (.func gf) lb, args := #[.func (.yield L) #[] #[]] }, W1, gf, #[.func (.yield L) #[] #[]] ++ lb, W1, ?_, ?_, ?_, ?_, fun _ => h1, ?_⟩
  · rw [← hW1, hrec, hL]; exact run_enterLoop_outer _ _ _ _ _
  · simp only [resolve, hg]
    simp [go_sem]
  · intro f' _; exact trivial
  · simp [invoke, go_sem, eg]
  refine callsIn_wide.2 ?_
  -- the two blocks of the law's own book-keeping lie below the iterator's
  have low : ∀ {A B : World} {row : Option Nat} {k : Nat} {o : Obj}, A.grownBy B row → (∀ r, row = some r → W1.heap.size ≤ r ∧ ∃ o : Obj, A.heap[r]? = some o ∧ o.isCells = false) → k < L + 1 → A.heap[k]? = some o → B.heap[k]? = some o :=
    fun hgr hr hk ho => (hgr.block _ (Array.getElem?_eq_some_iff.1 ho).1 (fun e => by have := (hr _ e.symm).1; omega)).trans ho
  have sep : ∀ {I' : List α → (Nat → Prop) → World → Prop} (st : Loop), Sep w.heap.size I' → Sep W1.heap.size (fun pre Z W => (I' pre Z W ∧ ∀ k, Z k → L + 1 ≤ k ∧ k < W.heap.size) ∧ W.heap[L]? = some (.loop st) ∧ W.heap[w.heap.size]? = some (.deferred (some []))) :=
    fun st hs =>
    { grow := fun s Z A B row hj hgr hr => ⟨⟨hs.grow s Z A B row hj.1.1 hgr (fun r e => by obtain ⟨x1, x2⟩ := hr r e; exact ⟨by omega, x2⟩), fun k hk => ⟨(hj.1.2 k hk).1, Nat.lt_of_lt_of_le (hj.1.2 k hk).2 hgr.size⟩⟩, low hgr hr (by omega) hj.2.1, low hgr hr (by omega) hj.2.2⟩
      priv := fun s Z A r i u hj hz => by
        have hb := (hj.1.2 r hz).1
        refine ⟨⟨hs.priv s Z A r i u hj.1.1 hz, fun k hk => ⟨(hj.1.2 k hk).1, by simpa [World.setCell] using (hj.1.2 k hk).2⟩⟩, (Below.heap_setCell A ⟨r, i, none⟩ u L (show L ≠ r by omega)).trans hj.2.1, (Below.heap_setCell A ⟨r, i, none⟩ u w.heap.size (show w.heap.size ≠ r by omega)).trans hj.2.2⟩
      take := fun s Z A o hj => by
        have hla := (Array.getElem?_eq_some_iff.1 hj.2.1).1
        refine ⟨⟨hs.take s Z A o hj.1.1, fun k hk => ?_⟩, (Below.heap_alloc A o L hla).trans hj.2.1, (Below.heap_alloc A o w.heap.size (by omega)).trans hj.2.2⟩
        rw [World.size_alloc]
        rcases hk with hk | rfl
        · have := hj.1.2 k hk; omega
        · omega
      draw := fun s Z A hj => ⟨⟨hs.draw s Z A hj.1.1, hj.1.2⟩, hj.2.1, hj.2.2⟩ }
  have sepx : Sep W1.heap.size (fun pre Z W => ∃ c, (Ix c pre Z W ∧ ∀ k, Z k → L + 1 ≤ k ∧ k < W.heap.size) ∧ W.heap[L]? = some (.loop (rec .done (some c))) ∧ W.heap[w.heap.size]? = some (.deferred (some []))) :=
    { grow := fun s Z A B row ⟨c, hj⟩ hgr hr => ⟨c, (sep (rec .done (some c)) (hIx c)).grow s Z A B row hj hgr hr⟩
      priv := fun s Z A r i u ⟨c, hj⟩ hz => ⟨c, (sep (rec .done (some c)) (hIx c)).priv s Z A r i u hj hz⟩
      take := fun s Z A o ⟨c, hj⟩ => ⟨c, (sep (rec .done (some c)) (hIx c)).take s Z A o hj⟩
      draw := fun s Z A ⟨c, hj⟩ => ⟨c, (sep (rec .done (some c)) (hIx c)).draw s Z A hj⟩ }
  refine (hseq L _ _ W1 hb1 (by omega) (sep (rec .ready none) hI) sepx ?_ ⟨⟨hI1, fun k hk => hk.elim⟩, hL1, hK1⟩).mono ?_
  · -- one round
    rintro pre x Z W ⟨⟨hi, hz⟩, hl, hk⟩ hv hlen m
    have hlt : L < W.heap.size := (Array.getElem?_eq_some_iff.1 hl).1
    have hy := run_yield (P := P) (args := encs x) hl (by rw [hrec]; exact hps x)
    rw [hrec] at hy
    refine ⟨fn, _, assign, body, hy, roundIn_wide (n := n) (roundIn_of_wpIn hfn (hassign L pre x Z W _ hi hv (fun k hk => by have := hz k hk; omega) hlen (fun a' Wa hka hza hpa hma => ⟨_, run_beginRound (hka.same L _ hl rfl) (by rw [hrec]), ?_⟩)))⟩
    have hla : Wa.heap[L]? = some (.loop (rec .ready none)) := hka.same L _ hl rfl
    have hkka : Wa.heap[w.heap.size]? = some (.deferred (some [])) := hka.same _ _ hk rfl
    have hlta : L < Wa.heap.size := (Array.getElem?_eq_some_iff.1 hla).1
    obtain ⟨Wb, hWb⟩ : ∃ Wb, Wa.putObj L (.loop { rec .ready none with state := .busy }) = Wb := ⟨_, rfl⟩
    have hl2 : Wb.heap[L]? = some (.loop { rec .ready none with state := .busy }) := by rw [← hWb]; exact World.putObj_heap_same hlta
    have hot : ∀ k, k ≠ L → Wb.heap[k]? = Wa.heap[k]? := fun k hk => by rw [← hWb]; exact World.putObj_heap_other hk
    have hk2 : Wb.heap[w.heap.size]? = some (.deferred (some [])) := (hot _ (by omega)).trans hkka
    have hsb : Wb.heap.size = Wa.heap.size := by rw [← hWb]; simp [World.putObj]
    have hw2 : Kp Wa Wb := by rw [← hWb]; exact hKb _ _ _ _ (by omega) hla rfl rfl
    have hib : M pre x Z a' Wb := by rw [← hWb]; exact hM pre x Z a' Wa L _ _ hma (by omega) hla rfl
    rw [hWb]
    refine wpIn_mono (hbody _ pre x Z a' Wb hib (fun k hk => by have := hz k hk; have := hka.size; rw [hsb]; omega) hlen) ?_
    have fin : ∀ (jump : Option Code) (W3 : World), KeepsOthers Wb W3 → KeptOn Z Wb W3 → Kp Wb W3 →
        (Instr.endRound L jump).run P W3 = .ok (.bool jump.isNone) (W3.putObj L (.loop (rec (if jump.isNone then .ready else .done) jump))) ∧
        W3.heap[L]? = some (.loop { rec .ready none with state := .busy }) ∧
        (W3.putObj L (.loop (rec (if jump.isNone then .ready else .done) jump))).heap[L]? = some (.loop (rec (if jump.isNone then .ready else .done) jump)) ∧
        (W3.putObj L (.loop (rec (if jump.isNone then .ready else .done) jump))).heap[w.heap.size]? = some (.deferred (some [])) ∧
        KeepsBut L Wa (W3.putObj L (.loop (rec (if jump.isNone then .ready else .done) jump))) ∧ KeptOn Z Wa (W3.putObj L (.loop (rec (if jump.isNone then .ready else .done) jump))) ∧
        Kp Wa (W3.putObj L (.loop (rec (if jump.isNone then .ready else .done) jump))) ∧ (∀ k, Z k → L + 1 ≤ k ∧ k < (W3.putObj L (.loop (rec (if jump.isNone then .ready else .done) jump))).heap.size) := fun jump W3 hk3 hz3 hp3 => by
      have hl3 := hk3.same _ _ hl2 rfl
      have := run_endRound (P := P) jump hl3
      rw [hrec] at this ⊢
      have hs3 : ∀ o, (W3.putObj L o).heap.size = W3.heap.size := fun o => by simp [World.putObj]
      have ho3 : ∀ o k, k ≠ L → (W3.putObj L o).heap[k]? = W3.heap[k]? := fun o k hk => World.putObj_heap_other hk
      refine ⟨this, by rw [hrec] at hl3; exact hl3, World.putObj_heap_same (Array.getElem?_eq_some_iff.1 hl3).1, (ho3 _ _ (by omega)).trans (hk3.same _ _ hk2 rfl), ⟨?_, fun k o hne hko hoc => ?_⟩, ⟨?_, fun k hk => ?_⟩, ?_, fun k hk => ?_⟩
      · rw [hs3, ← hsb]; exact hk3.size
      · exact (ho3 _ k hne).trans (hk3.same k o ((hot k hne).trans hko) hoc)
      · rw [hs3, ← hsb]; exact hk3.size
      · have hkl := (hz k hk).1
        exact (ho3 _ k (by omega)).trans ((hz3.block k hk).trans (hot k (by omega)))
      · exact hKt (hKt hw2 hp3) (hKb _ _ _ _ (by omega) hl3 rfl rfl)
      · have h9 := hz k hk; have h8 := hk3.size; have h7 := hka.size; rw [hs3]; omega
    have put : ∀ {I' : List α → (Nat → Prop) → World → Prop} {s : List α} {W3 : World} {o o' : Obj}, Sep w.heap.size I' → I' s Z W3 → W3.heap[L]? = some o → o.isCells = false → I' s Z (W3.putObj L o') :=
      fun hs hj ho hoc => hs.grow _ Z _ _ (some L) hj (grownBy_putObj' _ L _) (fun r e => by cases e; exact ⟨by omega, _, ho, hoc⟩)
    rintro e a3 W3 hp
    cases e with
    | normal =>
      obtain ⟨hk3, hz3, hp3, hi3⟩ := hp
      obtain ⟨hr, hl3, hl4, hk4, kb, kz, kp, zb⟩ := fin none W3 hk3 hz3 hp3
      exact ⟨_, _, hr, (keepsBut_of hka L).trans kb, hza.trans kz, hKt hpa kp, .inl ⟨rfl, ⟨put hI hi3 hl3 rfl, zb⟩, hl4, hk4⟩⟩
    | ret =>
      obtain ⟨hk3, hz3, hp3, hi3⟩ := hp
      obtain ⟨hr, hl3, hl4, hk4, kb, kz, kp, zb⟩ := fin (some .ret) W3 hk3 hz3 hp3
      exact ⟨_, _, hr, (keepsBut_of hka L).trans kb, hza.trans kz, hKt hpa kp, .inr ⟨rfl, .ret, ⟨put (hIx _) hi3 hl3 rfl, zb⟩, hl4, hk4⟩⟩
    | exit id =>
      obtain ⟨hk3, hz3, hp3, hi3⟩ := hp
      obtain ⟨hr, hl3, hl4, hk4, kb, kz, kp, zb⟩ := fin (some (.exit id)) W3 hk3 hz3 hp3
      exact ⟨_, _, hr, (keepsBut_of hka L).trans kb, hza.trans kz, hKt hpa kp, .inr ⟨rfl, .exit id, ⟨put (hIx _) hi3 hl3 rfl, zb⟩, hl4, hk4⟩⟩
    | goto t =>
      obtain ⟨hk3, hz3, hp3, hi3⟩ := hp
      obtain ⟨hr, hl3, hl4, hk4, kb, kz, kp, zb⟩ := fin (some (.goto t)) W3 hk3 hz3 hp3
      exact ⟨_, _, hr, (keepsBut_of hka L).trans kb, hza.trans kz, hKt hpa kp, .inr ⟨rfl, .goto t, ⟨put (hIx _) hi3 hl3 rfl, zb⟩, hl4, hk4⟩⟩
    | panic ch => exact hp.elim
    | outgrown => exact hp.elim
  · -- behind the iterator
    have put : ∀ {I' : List α → (Nat → Prop) → World → Prop} {s : List α} {Z : Nat → Prop} {W3 : World} {o o' : Obj}, Sep w.heap.size I' → I' s Z W3 → W3.heap[L]? = some o → o.isCells = false → I' s Z (W3.putObj L o') :=
      fun hs hj ho hoc => hs.grow _ _ _ _ (some L) hj (grownBy_putObj' _ L _) (fun r e => by cases e; exact ⟨by omega, _, ho, hoc⟩)
    rintro e W2 ⟨⟨v, rfl⟩, (⟨xs, Z, hS, ⟨hi, _⟩, hl, hk⟩ | ⟨pre, Z, hSp, c, ⟨hi, _⟩, hl, hk⟩)⟩
    · exact ⟨none, _, by have := run_endLoop (P := P) hl (by rw [hrec]; simp); rw [hrec] at this; exact this, hdone _ xs Z _ (Nat.le_refl _) hS (put hI hi hl rfl) ((World.putObj_heap_other (by omega)).trans hk)⟩
    · exact ⟨some c, _, by have := run_endLoop (P := P) hl (by rw [hrec]; simp); rw [hrec] at this; exact this, hstop _ c pre Z _ (Nat.le_refl _) hSp (put (hIx c) hi hl rfl) ((World.putObj_heap_other (by omega)).trans hk)⟩

end Go.Proofs.Ytdfagnjdconkcaa

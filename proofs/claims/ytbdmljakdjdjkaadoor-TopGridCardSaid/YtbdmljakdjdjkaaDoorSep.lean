/-
  A range over an iterator that lays blocks of its own and writes them between the rounds (a closure that calls itself, with its variables in boxes): what belongs to the iterator is told as a set Z, which grows; the loop's body leaves it alone, and the caller's invariant does not speak of it.
-/
import Derived.Test.YtbdmljakdjdjkaaDoorRoundQ
import Derived.Test.YtbdmljakdjdjkaaDoorKeep
import Derived.RangeFuncFrom
import Derived.RangeFuncCalls
import Derived.RangeFuncNested
import Derived.RangeFuncWrites
namespace Go.Proofs.YtbdmljakdjdjkaaDoor
open Go Go.RowKit

/-- All that is no cells, but for one block, lies as it lay. -/
structure KeepsBut (l : Nat) (W W' : World) : Prop where
  size : W.heap.size ≤ W'.heap.size
  same : ∀ (k : Nat) (o : Obj), k ≠ l → W.heap[k]? = some o → o.isCells = false → W'.heap[k]? = some o

theorem KeepsBut.refl (l : Nat) (W : World) : KeepsBut l W W := ⟨Nat.le_refl _, fun _ _ _ h _ => h⟩
theorem KeepsBut.trans {l : Nat} {A B C : World} (h : KeepsBut l A B) (k : KeepsBut l B C) : KeepsBut l A C :=
  ⟨Nat.le_trans h.size k.size, fun i o hi ho hc => k.same i o hi (h.same i o hi ho hc) hc⟩
theorem keepsBut_of {W W' : World} (h : KeepsOthers W W') (l : Nat) : KeepsBut l W W' := ⟨h.size, fun k o _ hk ho => h.same k o hk ho⟩
theorem KeepsBut.from {l B : Nat} {W W' : World} (h : KeepsBut l W W') (hl : l < B) : KeepsFrom B W W' := ⟨h.size, fun k o hB hk ho => h.same k o (by omega) hk ho⟩
theorem KeepsBut.setCell {l : Nat} (W : World) (a : Addr) (v : Value) : KeepsBut l W (W.setCell a v) := keepsBut_of (KeepsOthers.setCell W a v) l
theorem KeepsBut.drewN {l : Nat} (W : World) (k : Nat) : KeepsBut l W (W.drewN k) := ⟨Nat.le_refl _, fun _ _ _ h _ => h⟩
theorem KeepsBut.below {l B : Nat} {W W' : World} (h : Below B W W') (hB : W.heap.size ≤ B) : KeepsBut l W W' :=
  ⟨h.size, fun k o _ hk _ => (h.block k (by have := (Array.getElem?_eq_some_iff.1 hk).1; omega)).trans hk⟩

variable {α : Type}

/-- The caller's invariant, with the iterator's own blocks: it abides the turn of a block that is no cells and lies at or beyond B; the turn of the iterator's own; a new one. -/
structure Sep (B : Nat) (J : List α → (Nat → Prop) → World → Prop) : Prop where
  grow : ∀ s Z W W' row, J s Z W → W.grownBy W' row → (∀ r, row = some r → B ≤ r ∧ ∃ o : Obj, W.heap[r]? = some o ∧ o.isCells = false) → J s Z W'
  priv : ∀ s Z W r i u, J s Z W → Z r → J s Z (W.setCell ⟨r, i, none⟩ u)
  take : ∀ s Z W o, J s Z W → J s (fun k => Z k ∨ k = W.heap.size) (W.alloc o)
  draw : ∀ s Z W, J s Z W → J s Z W.drew

theorem Sep.drewN {B : Nat} {J : List α → (Nat → Prop) → World → Prop} (h : Sep B J) {s : List α} {Z : Nat → Prop} {W : World} (hj : J s Z W) (k : Nat) : J s Z (W.drewN k) :=
  h.grow s Z W _ none hj ⟨rfl, rfl, rfl, Nat.le_refl _, fun _ _ _ => rfl⟩ (fun r e => by cases e)
theorem Sep.below {B : Nat} {J : List α → (Nat → Prop) → World → Prop} (h : Sep B J) {s : List α} {Z : Nat → Prop} {W W' : World} (hj : J s Z W) (hb : Below W.heap.size W W') : J s Z W' :=
  h.grow s Z W _ none hj ⟨hb.os, hb.tape, hb.output, hb.size, fun i hi _ => hb.block i hi⟩ (fun r e => by cases e)
theorem Sep.from {B : Nat} {J : List α → (Nat → Prop) → World → Prop} (h : Sep B J) (Z : Nat → Prop) {B' : Nat} (hB : B ≤ B') : OwnFrom B' (fun s W => J s Z W) :=
  fun s W W' row hj hg hr => h.grow s Z W W' row hj hg (fun r e => by obtain ⟨h1, h2⟩ := hr r e; exact ⟨by omega, h2⟩)

/-- What a call of yield does. -/
def YieldSep (P : Program) (l : Nat) (encs : α → Array Value) (Kp : World → World → Prop) (J Jx : List α → (Nat → Prop) → World → Prop) (N : Nat) : Prop :=
  ∀ pre x Z W1, J pre Z W1 → pre.length < N → ∀ m, YieldAt Fence.wide m P l (encs x) W1 fun e W' => KeepsBut l W1 W' ∧ KeptOn Z W1 W' ∧ Kp W1 W' ∧
    ((e = .returned (.bool true) ∧ J (pre ++ [x]) Z W') ∨ (e = .returned (.bool false) ∧ Jx (pre ++ [x]) Z W'))

/-- The iterator's contract. -/
def SeqSep (P : Program) (g : Nat) (lb : Array Value) (encs : α → Array Value) (Kp : World → World → Prop) (S Sp : List α → Prop) (N : Nat) (w : World) : Prop :=
  ∀ (l : Nat) (J Jx : List α → (Nat → Prop) → World → Prop) (W : World), Below w.heap.size w W → l < W.heap.size → Sep W.heap.size J → Sep W.heap.size Jx → YieldSep P l encs Kp J Jx N → J [] (fun _ => False) W →
    Calls P g (#[.func (.yield l) #[] #[]] ++ lb) W fun e W' => (∃ v, e = .returned v) ∧ ((∃ xs Z, S xs ∧ J xs Z W') ∨ (∃ pre Z, Sp pre ∧ Jx pre Z W'))

/-- How the body of a round may be left. -/
def sepPost (Kp : World → World → Prop) (I : List α → (Nat → Prop) → World → Prop) (Ix : Code → List α → (Nat → Prop) → World → Prop) (xs : List α) (Z : Nat → Prop) (W : World) : Exit → Act → World → Prop
  | .normal, _, W' => KeepsOthers W W' ∧ KeptOn Z W W' ∧ Kp W W' ∧ I xs Z W'
  | .ret, _, W' => KeepsOthers W W' ∧ KeptOn Z W W' ∧ Kp W W' ∧ Ix .ret xs Z W'
  | .exit id, _, W' => KeepsOthers W W' ∧ KeptOn Z W W' ∧ Kp W W' ∧ Ix (.exit id) xs Z W'
  | .goto t, _, W' => KeepsOthers W W' ∧ KeptOn Z W W' ∧ Kp W W' ∧ Ix (.goto t) xs Z W'
  | .panic _, _, _ => False
  | .outgrown, _, _ => False

theorem roundIn_wide {m n : Nat} {P : Program} {l : Nat} {f : FuncId} {tmps : Array Value} {assign body : Code} {w : World} {R : Ending → World → Prop} (h : RoundIn Fence.wide n P l f tmps assign body w R) :
    RoundIn Fence.wide m P l f tmps assign body w R := ⟨h.1, fun c cs _ => h.2 c cs (room_wide _)⟩

variable {P : Program} {n : Nat}

theorem wpIn_rangeFunc_sep {g : Operand} {ps : Array Tmp} {assign body : Code} {Q : Exit → Act → World → Prop} {a : Act} {w : World} (h1 : 1 ≤ n) {gf : Nat} {lb : Array Value} (hg : a.eval g = .func (.func gf) #[] lb)
    (eg : ∀ args w, (callFunc gf args).run P w = .ok (.enter gf args) w) {encs : α → Array Value} {Kp : World → World → Prop} {S Sp : List α → Prop} {N : Nat} {w0 : World} (hseq : SeqSep P gf lb encs Kp S Sp N w0)
    (hKt : ∀ {A B C : World}, Kp A B → Kp B C → Kp A C) (hKb : ∀ (W : World) (l : Nat) (o o' : Obj), w.heap.size ≤ l → W.heap[l]? = some o → o.isCells = false → o.isWalk = false → Kp W (W.putObj l o')) (hb0 : Below w0.heap.size w0 w) (hps : ∀ x, (encs x).size = ps.size)
    (I : List α → (Nat → Prop) → World → Prop) (Ix : Code → List α → (Nat → Prop) → World → Prop) (hI : Sep w.heap.size I) (hIx : ∀ c, Sep w.heap.size (Ix c)) (h0 : I [] (fun _ => False) w) (a₁ : α → Act)
    (hassign : ∀ (l : Nat) (x : α) (W : World) (K : Act → World → Prop), K (a₁ x) W →
      assign.wpIn (Fence.wide.inRound l) n P (Exit.then K (fun _ _ _ => False)) { tmps := (ps.zip (encs x)).foldl (fun t (p, v) => t.setIfInBounds p v) a.tmps, defers := [] } W)
    (hbody : ∀ (l : Nat) (pre : List α) (x : α) (Z : Nat → Prop) (W : World), I pre Z W → (∀ k, Z k → w.heap.size ≤ k ∧ k < W.heap.size) → pre.length < N → body.wpIn (Fence.wide.inRound l) n P (sepPost Kp I Ix (pre ++ [x]) Z W) (a₁ x) W)
    (hdone : ∀ (D : Nat) (xs : List α) (Z : Nat → Prop) (W : World), w.heap.size ≤ D → S xs → I xs Z W → W.heap[D]? = some (.deferred (some [])) → Q .normal { a with defers := { target := .collected D, args := #[] } :: a.defers } W)
    (hstop : ∀ (D : Nat) (c : Code) (pre : List α) (Z : Nat → Prop) (W : World), w.heap.size ≤ D → Sp pre → Ix c pre Z W → W.heap[D]? = some (.deferred (some [])) → c.wpIn Fence.wide n P Q { a with defers := { target := .collected D, args := #[] } :: a.defers } W) :
    (Code.rangeFunc g ps assign body).wpIn Fence.wide n P Q a w := by
  refine wpIn_rangeFunc ?_
  intro fn hfn
  obtain ⟨rec, hrec⟩ : ∃ rec : LoopState → Option Code → Loop, rec = fun st pe => { state := st, pending := pe, fn, tmps := a.tmps, params := ps, assign, body, defers := w.heap.size } := ⟨_, rfl⟩
  obtain ⟨L, hL⟩ : ∃ L, L = w.heap.size + 1 := ⟨_, rfl⟩
  obtain ⟨W1, hW1⟩ : ∃ W1, (w.alloc (.deferred (some []))).alloc (.loop (rec .ready none)) = W1 := ⟨_, rfl⟩
  have hs1 : W1.heap.size = L + 1 := by rw [← hW1, hL]; simp
  have hL1 : W1.heap[L]? = some (.loop (rec .ready none)) := by
    rw [← hW1, hL]; have := World.alloc_heap_new (w.alloc (.deferred (some []))) (.loop (rec .ready none)); rwa [World.size_alloc] at this
  have hK1 : W1.heap[w.heap.size]? = some (.deferred (some [])) := by
    rw [← hW1]; exact (Below.heap_alloc _ _ _ (by simp)).trans (World.alloc_heap_new w _)
  have hbw : Below w.heap.size w W1 := by rw [← hW1]; exact ((Below.refl _ w).alloc (Nat.le_refl _) _).alloc (by simp) _
  have hI1 : I [] (fun _ => False) W1 := hI.below h0 hbw
  have hb1 : Below w0.heap.size w0 W1 := hb0.trans (hbw.mono hb0.size)
  rw [show Fence.wide.round = none from rfl]
  refine ⟨L, [{ target := .collected w.heap.size, args := #[] }], W1, { target := .fn (.func gf) lb, args := #[.func (.yield L) #[] #[]] }, W1, gf, #[.func (.yield L) #[] #[]] ++ lb, W1, ?_, ?_, ?_, ?_, fun _ => h1, ?_⟩
  · rw [← hW1, hrec, hL]; exact run_enterLoop_outer _ _ _ _ _
  · simp only [resolve, hg]
    simp [go_sem]
  · intro f' _; exact trivial
  · simp [invoke, go_sem, eg]
  refine callsIn_wide.2 ?_
  -- the two blocks of the law's own book-keeping lie below the iterator's
  have low : ∀ {A B : World} {row : Option Nat} {k : Nat} {o : Obj}, A.grownBy B row → (∀ r, row = some r → W1.heap.size ≤ r ∧ ∃ o : Obj, A.heap[r]? = some o ∧ o.isCells = false) → k < L + 1 → A.heap[k]? = some o → B.heap[k]? = some o :=
    fun hgr hr hk ho => (hgr.block _ (Array.getElem?_eq_some_iff.1 ho).1 (fun e => by have := (hr _ e.symm).1; omega)).trans ho
  have sep : ∀ {I' : List α → (Nat → Prop) → World → Prop} (st : Loop), Sep w.heap.size I' → Sep W1.heap.size (fun pre Z W => (I' pre Z W ∧ ∀ k, Z k → L + 1 ≤ k ∧ k < W.heap.size) ∧ W.heap[L]? = some (.loop st) ∧ W.heap[w.heap.size]? = some (.deferred (some []))) :=
    fun st hs =>
    { grow := fun s Z A B row hj hgr hr => ⟨⟨hs.grow s Z A B row hj.1.1 hgr (fun r e => by obtain ⟨x1, x2⟩ := hr r e; exact ⟨by omega, x2⟩), fun k hk => ⟨(hj.1.2 k hk).1, Nat.lt_of_lt_of_le (hj.1.2 k hk).2 hgr.size⟩⟩, low hgr hr (by omega) hj.2.1, low hgr hr (by omega) hj.2.2⟩
      priv := fun s Z A r i u hj hz => by
        have hb := (hj.1.2 r hz).1
        refine ⟨⟨hs.priv s Z A r i u hj.1.1 hz, fun k hk => ⟨(hj.1.2 k hk).1, by simpa [World.setCell] using (hj.1.2 k hk).2⟩⟩, (Below.heap_setCell A ⟨r, i, none⟩ u L (show L ≠ r by omega)).trans hj.2.1, (Below.heap_setCell A ⟨r, i, none⟩ u w.heap.size (show w.heap.size ≠ r by omega)).trans hj.2.2⟩
      take := fun s Z A o hj => by
        have hla := (Array.getElem?_eq_some_iff.1 hj.2.1).1
        refine ⟨⟨hs.take s Z A o hj.1.1, fun k hk => ?_⟩, (Below.heap_alloc A o L hla).trans hj.2.1, (Below.heap_alloc A o w.heap.size (by omega)).trans hj.2.2⟩
        rw [World.size_alloc]
        rcases hk with hk | rfl
        · have := hj.1.2 k hk; omega
        · omega
      draw := fun s Z A hj => ⟨⟨hs.draw s Z A hj.1.1, hj.1.2⟩, hj.2.1, hj.2.2⟩ }
  have sepx : Sep W1.heap.size (fun pre Z W => ∃ c, (Ix c pre Z W ∧ ∀ k, Z k → L + 1 ≤ k ∧ k < W.heap.size) ∧ W.heap[L]? = some (.loop (rec .done (some c))) ∧ W.heap[w.heap.size]? = some (.deferred (some []))) :=
    { grow := fun s Z A B row ⟨c, hj⟩ hgr hr => ⟨c, (sep (rec .done (some c)) (hIx c)).grow s Z A B row hj hgr hr⟩
      priv := fun s Z A r i u ⟨c, hj⟩ hz => ⟨c, (sep (rec .done (some c)) (hIx c)).priv s Z A r i u hj hz⟩
      take := fun s Z A o ⟨c, hj⟩ => ⟨c, (sep (rec .done (some c)) (hIx c)).take s Z A o hj⟩
      draw := fun s Z A ⟨c, hj⟩ => ⟨c, (sep (rec .done (some c)) (hIx c)).draw s Z A hj⟩ }
  refine (hseq L _ _ W1 hb1 (by omega) (sep (rec .ready none) hI) sepx ?_ ⟨⟨hI1, fun k hk => hk.elim⟩, hL1, hK1⟩).mono ?_
  · -- one round
    rintro pre x Z W ⟨⟨hi, hz⟩, hl, hk⟩ hlen m
    have hlt : L < W.heap.size := (Array.getElem?_eq_some_iff.1 hl).1
    have hy := run_yield (P := P) (args := encs x) hl (by rw [hrec]; exact hps x)
    rw [hrec] at hy
    refine ⟨fn, _, assign, body, hy, roundIn_wide (n := n) (roundIn_of_wpIn hfn (hassign _ x W _ ⟨_, run_beginRound hl (by rw [hrec]), ?_⟩))⟩
    obtain ⟨Wb, hWb⟩ : ∃ Wb, W.putObj L (.loop { rec .ready none with state := .busy }) = Wb := ⟨_, rfl⟩
    have hl2 : Wb.heap[L]? = some (.loop { rec .ready none with state := .busy }) := by rw [← hWb]; exact World.putObj_heap_same hlt
    have hot : ∀ k, k ≠ L → Wb.heap[k]? = W.heap[k]? := fun k hk => by rw [← hWb]; exact World.putObj_heap_other hk
    have hk2 : Wb.heap[w.heap.size]? = some (.deferred (some [])) := (hot _ (by omega)).trans hk
    have hsb : Wb.heap.size = W.heap.size := by rw [← hWb]; simp [World.putObj]
    have hw2 : Kp W Wb := by rw [← hWb]; exact hKb _ _ _ _ (by omega) hl rfl rfl
    have hib : I pre Z Wb := by rw [← hWb]; exact hI.grow pre Z W _ (some L) hi (grownBy_putObj' W L _) (fun r e => by cases e; exact ⟨by omega, _, hl, rfl⟩)
    rw [hWb]
    refine wpIn_mono (hbody _ pre x Z Wb hib (fun k hk => by have := hz k hk; rw [hsb]; omega) hlen) ?_
    have fin : ∀ (jump : Option Code) (W3 : World), KeepsOthers Wb W3 → KeptOn Z Wb W3 → Kp Wb W3 →
        (Instr.endRound L jump).run P W3 = .ok (.bool jump.isNone) (W3.putObj L (.loop (rec (if jump.isNone then .ready else .done) jump))) ∧
        W3.heap[L]? = some (.loop { rec .ready none with state := .busy }) ∧
        (W3.putObj L (.loop (rec (if jump.isNone then .ready else .done) jump))).heap[L]? = some (.loop (rec (if jump.isNone then .ready else .done) jump)) ∧
        (W3.putObj L (.loop (rec (if jump.isNone then .ready else .done) jump))).heap[w.heap.size]? = some (.deferred (some [])) ∧
        KeepsBut L W (W3.putObj L (.loop (rec (if jump.isNone then .ready else .done) jump))) ∧ KeptOn Z W (W3.putObj L (.loop (rec (if jump.isNone then .ready else .done) jump))) ∧
        Kp W (W3.putObj L (.loop (rec (if jump.isNone then .ready else .done) jump))) ∧ (∀ k, Z k → L + 1 ≤ k ∧ k < (W3.putObj L (.loop (rec (if jump.isNone then .ready else .done) jump))).heap.size) := fun jump W3 hk3 hz3 hp3 => by
      have hl3 := hk3.same _ _ hl2 rfl
      have := run_endRound (P := P) jump hl3
      rw [hrec] at this ⊢
      have hs3 : ∀ o, (W3.putObj L o).heap.size = W3.heap.size := fun o => by simp [World.putObj]
      have ho3 : ∀ o k, k ≠ L → (W3.putObj L o).heap[k]? = W3.heap[k]? := fun o k hk => World.putObj_heap_other hk
      refine ⟨this, by rw [hrec] at hl3; exact hl3, World.putObj_heap_same (Array.getElem?_eq_some_iff.1 hl3).1, (ho3 _ _ (by omega)).trans (hk3.same _ _ hk2 rfl), ⟨?_, fun k o hne hko hoc => ?_⟩, ⟨?_, fun k hk => ?_⟩, ?_, fun k hk => ?_⟩
      · rw [hs3, ← hsb]; exact hk3.size
      · exact (ho3 _ k hne).trans (hk3.same k o ((hot k hne).trans hko) hoc)
      · rw [hs3, ← hsb]; exact hk3.size
      · have hkl := (hz k hk).1
        exact (ho3 _ k (by omega)).trans ((hz3.block k hk).trans (hot k (by omega)))
      · exact hKt (hKt hw2 hp3) (hKb _ _ _ _ (by omega) hl3 rfl rfl)
      · have h9 := hz k hk; have h8 := hk3.size; rw [hs3]; omega
    have put : ∀ {I' : List α → (Nat → Prop) → World → Prop} {s : List α} {W3 : World} {o o' : Obj}, Sep w.heap.size I' → I' s Z W3 → W3.heap[L]? = some o → o.isCells = false → I' s Z (W3.putObj L o') :=
      fun hs hj ho hoc => hs.grow _ Z _ _ (some L) hj (grownBy_putObj' _ L _) (fun r e => by cases e; exact ⟨by omega, _, ho, hoc⟩)
    rintro e a3 W3 hp
    cases e with
    | normal =>
      obtain ⟨hk3, hz3, hp3, hi3⟩ := hp
      obtain ⟨hr, hl3, hl4, hk4, kb, kz, kp, zb⟩ := fin none W3 hk3 hz3 hp3
      exact ⟨_, _, hr, kb, kz, kp, .inl ⟨rfl, ⟨put hI hi3 hl3 rfl, zb⟩, hl4, hk4⟩⟩
    | ret =>
      obtain ⟨hk3, hz3, hp3, hi3⟩ := hp
      obtain ⟨hr, hl3, hl4, hk4, kb, kz, kp, zb⟩ := fin (some .ret) W3 hk3 hz3 hp3
      exact ⟨_, _, hr, kb, kz, kp, .inr ⟨rfl, .ret, ⟨put (hIx _) hi3 hl3 rfl, zb⟩, hl4, hk4⟩⟩
    | exit id =>
      obtain ⟨hk3, hz3, hp3, hi3⟩ := hp
      obtain ⟨hr, hl3, hl4, hk4, kb, kz, kp, zb⟩ := fin (some (.exit id)) W3 hk3 hz3 hp3
      exact ⟨_, _, hr, kb, kz, kp, .inr ⟨rfl, .exit id, ⟨put (hIx _) hi3 hl3 rfl, zb⟩, hl4, hk4⟩⟩
    | goto t =>
      obtain ⟨hk3, hz3, hp3, hi3⟩ := hp
      obtain ⟨hr, hl3, hl4, hk4, kb, kz, kp, zb⟩ := fin (some (.goto t)) W3 hk3 hz3 hp3
      exact ⟨_, _, hr, kb, kz, kp, .inr ⟨rfl, .goto t, ⟨put (hIx _) hi3 hl3 rfl, zb⟩, hl4, hk4⟩⟩
    | panic ch => exact hp.elim
    | outgrown => exact hp.elim
  · -- behind the iterator
    have put : ∀ {I' : List α → (Nat → Prop) → World → Prop} {s : List α} {Z : Nat → Prop} {W3 : World} {o o' : Obj}, Sep w.heap.size I' → I' s Z W3 → W3.heap[L]? = some o → o.isCells = false → I' s Z (W3.putObj L o') :=
      fun hs hj ho hoc => hs.grow _ _ _ _ (some L) hj (grownBy_putObj' _ L _) (fun r e => by cases e; exact ⟨by omega, _, ho, hoc⟩)
    rintro e W2 ⟨⟨v, rfl⟩, (⟨xs, Z, hS, ⟨hi, _⟩, hl, hk⟩ | ⟨pre, Z, hSp, c, ⟨hi, _⟩, hl, hk⟩)⟩
    · exact ⟨none, _, by have := run_endLoop (P := P) hl (by rw [hrec]; simp); rw [hrec] at this; exact this, hdone _ xs Z _ (Nat.le_refl _) hS (put hI hi hl rfl) ((World.putObj_heap_other (by omega)).trans hk)⟩
    · exact ⟨some c, _, by have := run_endLoop (P := P) hl (by rw [hrec]; simp); rw [hrec] at this; exact this, hstop _ c pre Z _ (Nat.le_refl _) hSp (put (hIx c) hi hl rfl) ((World.putObj_heap_other (by omega)).trans hk)⟩

end Go.Proofs.YtbdmljakdjdjkaaDoor

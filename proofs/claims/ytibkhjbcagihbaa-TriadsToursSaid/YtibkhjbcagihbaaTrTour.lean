/-
  isTour and Tour of package triads; the reference's Tour.
-/
import Derived.Test.YtibkhjbcagihbaaTrSize
namespace Go.Proofs.Ytibkhjbcagihbaa
open Go.ChangeShapes Go.WideShapes Go.ChangeAt Go.RowKit
open Go.Maps (Keyed IsMap Tidy)
open Go.Lib (iterAt_heap iterAt_size below_iterAt run_next_any_at run_next_ascii_at run_next_end_at)
set_option maxRecDepth 100000

/-! ### a walk, again and again -/
def seqT (n a b : Nat) (l : List Nat) : Nat → Nat
  | 0 => 0
  | i + 1 => stepN n a b (seqT n a b l i) (l[i % l.length]?.getD 0)
/-- The triads before so many steps. -/
def visT (n a b : Nat) (l : List Nat) (m : Nat) : List Nat := (List.range m).map (seqT n a b l)
def tourB (n a b : Nat) (l : List Nat) : Bool := decide (0 < l.length) && (decide ((visT n a b l (2 * n)).Nodup) && decide (seqT n a b l (2 * n) = 0))

theorem seqT_lt {n a b : Nat} (hk : KOk n a b) (l : List Nat) : ∀ i, seqT n a b l i < 2 * n
  | 0 => by have := hk.pos; show 0 < _; omega
  | i + 1 => step_lt hk _ _ (seqT_lt hk l i)
theorem visT_succ (n a b : Nat) (l : List Nat) (m : Nat) : visT n a b l (m + 1) = visT n a b l m ++ [seqT n a b l m] := by
  unfold visT; rw [List.range_succ, List.map_append]; rfl
theorem visT_length (n a b : Nat) (l : List Nat) (m : Nat) : (visT n a b l m).length = m := by unfold visT; simp
theorem visT_le {n a b : Nat} (hk : KOk n a b) {l : List Nat} {m : Nat} (h : (visT n a b l m).Nodup) : m ≤ 2 * n := by
  have := nodup_le (2 * n) _ h (fun x hx => by
    unfold visT at hx
    obtain ⟨i, _, rfl⟩ := List.mem_map.1 hx
    exact seqT_lt hk l i)
  rwa [visT_length] at this
theorem visT_mono {n a b : Nat} {l : List Nat} {m k : Nat} (h : (visT n a b l k).Nodup) (hm : m ≤ k) : (visT n a b l m).Nodup := by
  have : (visT n a b l m).Sublist (visT n a b l k) := by
    unfold visT
    exact (List.range_sublist.2 hm).map _
  exact h.sublist this

/-- At the first triad that comes again the answer is known. -/
theorem tour_stop {n a b : Nat} (hk : KOk n a b) {l : List Nat} (hl : 0 < l.length) {m : Nat} (h1 : (visT n a b l m).Nodup) (h2 : seqT n a b l m ∈ visT n a b l m) : tourB n a b l = (decide (seqT n a b l m = 0) && decide (m = 2 * n)) := by
  have hm := visT_le hk h1
  unfold tourB
  rw [decide_eq_true hl, Bool.true_and]
  by_cases e : m = 2 * n
  · rw [← e, decide_eq_true h1, Bool.true_and, decide_eq_true (rfl : m = m), Bool.and_true]
  · rw [decide_eq_false e, Bool.and_false]
    have h3 : ¬ (visT n a b l (2 * n)).Nodup := by
      intro h
      have h4 := visT_mono h (show m + 1 ≤ 2 * n by omega)
      rw [visT_succ, List.nodup_append] at h4
      exact h4.2.2 _ h2 _ (by simp) rfl
    rw [decide_eq_false h3, Bool.false_and]

/-! ### a map of bools, keyed by triads -/
theorem zeroB (w : World) : (zeroValue 4).run Try.prog w = .ok (.bool false) w := by kernel_rfl
theorem plainElem_bool_inv {P : Program} {e : TypeId} (he : P.underlying e = some .bool) {v : Value} {z : DataW Unit × List MemPlace} (h : plainElem P e v = some z) : ∃ x : Bool, v = .bool x ∧ z = (.lit (.bool x), []) := by
  unfold plainElem at h
  rw [he] at h
  cases v <;> simp at h
  exact ⟨_, rfl, h.symm⟩

/-- Block B is a map that holds true at these triads. -/
def Met (w : World) (B : Nat) (S : List Nat) : Prop := ∃ n D, n ≤ S.length ∧ w.ownsMap (H := Unit) Try.prog 3 (plainElem Try.prog 4) B n D ∧ (∀ t : Nat, Maps.has D (keyD t) = decide (t ∈ S)) ∧ (∀ t ∈ S, ∀ z, D.atKey (keyD t) z = .lit (.bool true)) ∧ Maps.size D = S.length

theorem Met.kept {w w' : World} {row : Option Nat} {B : Nat} {S : List Nat} (h : Met w B S) (hg : w.grownBy w' row) (hne : some B ≠ row) : Met w' B S := by
  obtain ⟨n, D, h1, h2, h3⟩ := h
  exact ⟨n, D, h1, h2.kept hg hne, h3⟩
theorem Met.later {w w' : World} {B : Nat} {S : List Nat} (h : Met w B S) (hb : Below w.heap.size w w') : Met w' B S :=
  h.kept (row := none) ⟨hb.os, hb.tape, hb.output, hb.size, fun i hi _ => hb.block i hi⟩ (by simp)
theorem Met.lt {w : World} {B : Nat} {S : List Nat} (h : Met w B S) : B < w.heap.size := by
  obtain ⟨n, D, h1, h2, h3⟩ := h
  exact h2.lt

theorem Met.look {w : World} {B : Nat} {S : List Nat} (h : Met w B S) {t : Nat} (ht : t < 2 ^ 60) :
    (Instr.lookup 115 (.map (some B)) (.int .i64 (t : Int)) false).run Try.prog w = .ok (.bool (decide (t ∈ S))) w := by
  obtain ⟨n, D, h1, h2, h3, h4, h5⟩ := h
  have hzd : plainElem (H := Unit) Try.prog 4 (.bool false) = some (.lit (.bool false), []) := plainElem_bool Try.underlying4 false
  obtain ⟨v, ps, hr, hv⟩ := h2.lookup lawK Try.underlying115 (zeroB w) hzd (keyOf_small ht)
  rw [hr]
  obtain ⟨x, rfl, hx⟩ := plainElem_bool_inv Try.underlying4 hv
  simp only [Prod.mk.injEq] at hx
  have e := hx.1
  by_cases hm : t ∈ S
  · rw [h4 t hm] at e
    simp only [DataW.lit.injEq, Lit.bool.injEq] at e
    rw [decide_eq_true hm, ← e]
  · have hh : Maps.has D (keyD t) = false := by rw [h3]; exact decide_eq_false hm
    rw [Maps.atKey_of_not_has hh] at e
    simp only [DataW.lit.injEq, Lit.bool.injEq] at e
    rw [decide_eq_false hm, ← e]

theorem Met.update {w : World} {B : Nat} {S : List Nat} (h : Met w B S) (t : Nat) (ht : t < 2 ^ 60) (hL : S.length ≤ 1048576) (hn : t ∉ S) :
    ∃ w', (Instr.mapUpdate 115 (.map (some B)) (.int .i64 (t : Int)) (.bool true)).run Try.prog w = .ok () w' ∧ Met w' B (S ++ [t]) ∧ w.grownBy w' (some B) := by
  obtain ⟨n, D, h1, h2, h3, h4, h5⟩ := h
  obtain ⟨w', hr, ho, hg⟩ := h2.update lawK Try.underlying115 (by unfold maxLen; omega) (keyOf_small ht) (plainElem_bool (H := Unit) Try.underlying4 true)
  have hT := h2.tidy lawK
  refine ⟨w', hr, ⟨n + 1, _, by rw [List.length_append, List.length_singleton]; omega, ho, fun u => ?_, fun u hu z => ?_, ?_⟩, hg⟩
  · by_cases e : u = t
    · subst e
      rw [Maps.has_put_same hT.isMap (keyD_lit u)]
      simp
    · rw [Maps.has_put_other (fun h' => e (keyD_inj h')), h3]
      rw [Bool.eq_iff_iff, decide_eq_true_eq, decide_eq_true_eq]
      simp [e]
  · rcases List.mem_append.1 hu with hu | hu
    · have e : keyD u ≠ keyD t := fun h' => hn (keyD_inj h' ▸ hu)
      rw [Maps.atKey_put_other e]; exact h4 u hu z
    · rw [List.mem_singleton] at hu; subst hu
      exact Maps.atKey_put_same hT.isMap (keyD_lit u) _ _
  · rw [Maps.size_put hT, h3, decide_eq_false hn, h5, List.length_append]; rfl

theorem Met.made (w : World) : Met (w.alloc (.map #[] 0)) w.heap.size [] :=
  ⟨0, .map [], Nat.le_refl _, World.ownsMap_made _ _ _ _, (fun t => by simp; rfl), (fun t ht => by cases ht), rfl⟩
theorem Met.len {w : World} {B : Nat} {S : List Nat} (h : Met w B S) (ty : TypeId) : (Builtin.len_ #[115] ty #[.map (some B)]).run Try.prog w = .ok (.int .i64 S.length) w := by
  obtain ⟨n, D, h1, h2, h3, h4, h5⟩ := h
  rw [h2.len Try.underlying115 ty, h5]
theorem Met.mapSize {w : World} {B : Nat} {S : List Nat} (h : Met w B S) : mapSize w B = S.length := by
  obtain ⟨n, D, h1, ⟨es, clock, hb, _, _, hD⟩, h3, h4, h5⟩ := h
  rw [← h5, hD]
  unfold Proofs.Ytibkhjbcagihbaa.mapSize
  rw [hb]
  simp [Maps.size, length_sorted]

theorem toList_loop_length (s : ByteArray) : ∀ (m i : Nat) (r : List UInt8), s.size - i = m → (ByteArray.toList.loop s i r).length = r.length + m := by
  intro m
  induction m with
  | zero =>
    intro i r h
    rw [ByteArray.toList.loop, if_neg (by omega)]; simp
  | succ m ih =>
    intro i r h
    rw [ByteArray.toList.loop, if_pos (by omega), ih _ _ (by omega)]; simp; omega
theorem toList_empty (s : ByteArray) : (!s.toList.isEmpty) = decide (0 < s.size) := by
  have h : s.toList.length = s.size := by
    unfold ByteArray.toList
    rw [toList_loop_length s s.size 0 [] (by omega)]; simp
  cases hl : s.toList with
  | nil => rw [hl] at h; simp at h; rw [← h]; rfl
  | cons a l => rw [hl] at h; simp at h; rw [← h]; simp

theorem empty_of_size {s : ByteArray} (h : s.size = 0) : s = ⟨#[]⟩ := by
  apply ByteArray.ext
  have : s.data.size = 0 := h
  exact Array.eq_empty_of_size_eq_zero this
theorem nonempty_list {s : ByteArray} (h : 0 < s.size) : s.toList.isEmpty = false := by
  have := toList_empty s
  rw [decide_eq_true h] at this
  simpa using this

/-- How the tour stands. -/
structure TSt (n a b : Nat) (w wr : World) (B : Nat) (S : List Nat) : Prop where
  m : Met wr B S
  k : wr.heap[w.heap.size]? = some (kcells n a b)
  below : Below w.heap.size w wr
  B1 : w.heap.size < B

theorem TSt.later {n a b : Nat} {w wr w' : World} {B : Nat} {S : List Nat} (h : TSt n a b w wr B S) (hb : Below wr.heap.size wr w') : TSt n a b w w' B S :=
  ⟨h.m.later hb, (hb.block _ (Array.getElem?_eq_some_iff.1 h.k).1).trans h.k, h.below.trans (hb.mono h.below.size), h.B1⟩
theorem TSt.turn {n a b : Nat} {w wr w' : World} {B : Nat} {S : List Nat} {H : Nat} (h : TSt n a b w wr B S) (hg : wr.grownBy w' (some H)) (hH : B < H) : TSt n a b w w' B S := by
  have hB1 := h.B1
  exact ⟨h.m.kept hg (by simp; omega), (hg.block _ (Array.getElem?_eq_some_iff.1 h.k).1 (by simp; omega)).trans h.k, h.below.grown hg h.below.size (fun j hj => by cases hj; omega), hB1⟩
theorem TSt.c0 {n a b : Nat} {w wr : World} {B : Nat} {S : List Nat} (h : TSt n a b w wr B S) : wr.cell? ⟨w.heap.size, 0, none⟩ = some (.int .i64 n) ∧ wr.cell? ⟨w.heap.size, 1, none⟩ = some (.int .i64 a) ∧ wr.cell? ⟨w.heap.size, 2, none⟩ = some (.int .i64 b) := by
  refine ⟨?_, ?_, ?_⟩ <;> simp [World.cell?, h.k]
theorem TSt.put {n a b : Nat} {w wr : World} {B : Nat} {S : List Nat} (h : TSt n a b w wr B S) (t : Nat) (ht : t < 2 ^ 60) (hL : S.length ≤ 1048576) (hn : t ∉ S) :
    ∃ w', (Instr.mapUpdate 115 (.map (some B)) (.int .i64 (t : Int)) (.bool true)).run Try.prog wr = .ok () w' ∧ TSt n a b w w' B (S ++ [t]) ∧ ∀ H, B < H → w'.heap[H]? = wr.heap[H]? ∨ wr.heap.size ≤ H := by
  have hB1 := h.B1
  obtain ⟨w', h1, h2, h3⟩ := h.m.update t ht hL hn
  refine ⟨w', h1, ⟨h2, (h3.block _ (Array.getElem?_eq_some_iff.1 h.k).1 (by simp; omega)).trans h.k, h.below.grown h3 h.below.size (fun j hj => by cases hj; omega), hB1⟩, fun H hH => ?_⟩
  by_cases hs : wr.heap.size ≤ H
  · exact Or.inr hs
  · exact Or.inl (h3.block _ (by omega) (by simp; omega))

set_option maxHeartbeats 4000000 in
theorem isTour_any (n a b : Nat) (hk : KOk n a b) (s : ByteArray) (hs : s.size ≤ maxLen) (hl : (bsN s).all isLetN = true) (w : World) :
    Calls Try.prog 63 #[kv n a b, .string s] w fun e w' => e = .returned (.bool (tourB n a b (bsN s))) ∧ Below w.heap.size w w' := by
  have h16 := hk.h16
  have h6 := hk.h6
  have hmm := @run_makeMap Try.prog
  obtain ⟨W0, hW0⟩ : ∃ W0, w.alloc (kcells n a b) = W0 := ⟨_, rfl⟩
  obtain ⟨B, hB⟩ : ∃ B, w.heap.size + 1 = B := ⟨_, rfl⟩
  have hB0 : W0.heap.size = B := by rw [← hW0, ← hB]; simp
  have hk0 : W0.heap[w.heap.size]? = some (kcells n a b) := by rw [← hW0]; exact heap_alloc_new w _
  have hS0 : TSt n a b w (W0.alloc (.map #[] 0)) B [] := by
    refine ⟨by rw [← hB0]; exact Met.made W0, (Below.heap_alloc W0 _ w.heap.size (by omega)).trans hk0, ?_, by omega⟩
    exact ((by rw [← hW0]; exact (Below.refl _ w).alloc (Nat.le_refl _) _ : Below w.heap.size w W0)).alloc (by omega) _
  have HS0 := Lib.hid hS0
  have HW0 := Lib.hid hW0
  have HB := Lib.hid hB
  have HSt := Lib.hid (fun t c ht hc => step_any n a b t c hk ht hc)
  have HSL := Lib.hid (fun i => seqT_lt hk (bsN s) i)
  have HVL : Hid (∀ m, (visT n a b (bsN s) m).Nodup → m ≤ 2 * n) := Lib.hid (fun m h => visT_le hk h)
  have HL := Lib.hid hl
  have hlen := bsN_length s
  by_cases hemp : s.size = 0
  · obtain rfl := empty_of_size hemp
    have hr : tourB n a b (bsN ⟨#[]⟩) = false := rfl
    have hbel := Lib.hid hS0.below
    have HR := Lib.hid hr
    clear hS0 hW0 hB hB0 hk0 hr hl
    go_enter Try.func63, Try.ntmps63
    go_wp2
    rw [HW0.out, HB.out]
    go_loopw [6] (fun _ wr => wr = W0.alloc (.map #[] 0)) (fun _ _ => 0)
    case atStart => rfl
    case round =>
      obtain rfl := hrel
      go_wp2
      go_ret
      exact ⟨ret_bool HR.out.symm, hbel.out⟩
  · have hpos : 0 < s.size := by omega
    have hne := nonempty_list hpos
    have HStop : Hid (∀ m, (visT n a b (bsN s) m).Nodup → seqT n a b (bsN s) m ∈ visT n a b (bsN s) m → tourB n a b (bsN s) = (decide (seqT n a b (bsN s) m = 0) && decide (m = 2 * n))) := Lib.hid (fun m h1 h2 => tour_stop hk (by omega) h1 h2)
    clear hS0 hW0 hB hB0 hk0 hl
    go_enter Try.func63, Try.ntmps63
    go_wp2
    rw [HW0.out, HB.out]
    go_loopw [6] (fun u wr => ∃ r : Nat, u = .int .i64 (seqT n a b (bsN s) (r * s.size) : Nat) ∧ (visT n a b (bsN s) (r * s.size)).Nodup ∧ TSt n a b w wr B (visT n a b (bsN s) (r * s.size))) (fun _ wr => 2 * n + 1 - mapSize wr B)
    case atStart => exact ⟨0, by rw [Nat.zero_mul]; rfl, by rw [Nat.zero_mul]; exact List.nodup_nil, by rw [Nat.zero_mul]; exact HS0.out⟩
    case round =>
      obtain ⟨r, rfl, hnd, hst⟩ := hrel
      have hms := hst.m.mapSize
      rw [visT_length] at hms
      have hle := HVL.out _ hnd
      obtain ⟨R0, hR0⟩ : ∃ R0, r * s.size = R0 := ⟨_, rfl⟩
      have hR1 : (r + 1) * s.size = R0 + s.size := by rw [Nat.add_mul, Nat.one_mul, hR0]
      obtain ⟨W1, hW1⟩ : ∃ W1, wr.iter s 0 = W1 := ⟨_, rfl⟩
      obtain ⟨H, hH⟩ : ∃ H, wr.heap.size = H := ⟨_, rfl⟩
      have hit0 : W1.heap[H]? = some (.stringIter s 0) := by rw [← hW1, ← hH]; exact iter_start wr s
      have hst1 := hst.later (w' := W1) (by rw [← hW1]; exact (Below.refl _ wr).alloc (Nat.le_refl _) _)
      have hHB : B < H := by rw [← hH]; exact hst.m.lt
      rw [hR0] at hnd hms hle hst1 ⊢
      have HST1 := Lib.hid hst1
      have HND := Lib.hid hnd
      have HMS := Lib.hid hms
      have HR1 := Lib.hid hR1
      have HW1 := Lib.hid hW1
      have HH := Lib.hid hH
      have HMod : Hid (∀ pos, pos < s.size → (R0 + pos) % (bsN s).length = pos) := Lib.hid (fun pos hp => by
        rw [hlen, ← hR0, Nat.mul_comm r, Nat.mul_add_mod, Nat.mod_eq_of_lt hp])
      clear hst hst1 hnd hms hR0 hR1 hW1 hH
      go_wp2
      rw [HW1.out, HH.out]
      go_loopw [6] (fun u wq => ∃ pos : Nat, pos ≤ s.size ∧ wq.heap[H]? = some (.stringIter s pos) ∧ u = .int .i64 (seqT n a b (bsN s) (R0 + pos) : Nat) ∧ (visT n a b (bsN s) (R0 + pos)).Nodup ∧ TSt n a b w wq B (visT n a b (bsN s) (R0 + pos))) (fun _ wq => s.size - wq.iterPos H)
      case atStart => exact ⟨0, Nat.zero_le _, hit0, rfl, HND.out, HST1.out⟩
      case round =>
        obtain ⟨pos, hps, hit, rfl, hnd2, hst2⟩ := hrel
        have hpos2 : wr.iterPos H = pos := by simp [World.iterPos, hit]
        have hle2 := HVL.out _ hnd2
        have htl := HSL.out (R0 + pos)
        have HND2 := Lib.hid hnd2
        clear hit0
        by_cases hlt : pos < s.size
        · obtain ⟨r1, r2⟩ := rune_let s pos hlt
          have HM : (s[pos]'hlt).toNat ∈ bsN s := by rw [← bsN_getElem s pos hlt]; exact List.getElem_mem _
          have hlet := List.all_eq_true.1 HL.out _ HM
          have r3 := r2 hlet
          have h256 := bsN_lt s _ HM
          have hnext : seqT n a b (bsN s) (R0 + (pos + 1)) = stepN n a b (seqT n a b (bsN s) (R0 + pos)) (s[pos]'hlt).toNat := by
            rw [← Nat.add_assoc]
            show stepN n a b _ ((bsN s)[(R0 + pos) % (bsN s).length]?.getD 0) = _
            rw [HMod.out pos hlt]
            have : (bsN s)[pos]? = some (s[pos]'hlt).toNat := by
              rw [List.getElem?_eq_getElem (by rw [hlen]; exact hlt), bsN_getElem s pos hlt]
            rw [this]; rfl
          obtain ⟨W2', hW2⟩ : ∃ W2', wr.iterAt H s (pos + 1) = W2' := ⟨_, rfl⟩
          have hnx : ∀ ty, (Instr.next (.pointer (some ⟨H, 0, none⟩)) true ty).run Try.prog wr = .ok (.tuple #[.bool true, .int .i64 pos, .int .i32 (s[pos]'hlt).toNat]) W2' := fun ty => by
            have := run_next_any_at (P := Try.prog) wr H s pos ty hit hlt
            rw [r3, hW2] at this
            exact this
          have hst3 : TSt n a b w W2' B _ := hst2.turn (by rw [← hW2]; exact iterAt_grown wr H s (pos + 1)) hHB
          have hit2 : W2'.heap[H]? = some (.stringIter s (pos + 1)) := by rw [← hW2]; exact iterAt_heap wr H s pos _ hit
          have hlook := hst3.m.look (t := seqT n a b (bsN s) (R0 + pos)) (by omega)
          have hlenM := hst3.m.len 3
          rw [visT_length] at hlenM
          obtain ⟨c0, c1, c2⟩ := hst3.c0
          have HSp := Lib.hid (HSt.out (seqT n a b (bsN s) (R0 + pos)) (s[pos]'hlt).toNat htl (by omega))
          have HIT2 := Lib.hid hit2
          have HST3 := Lib.hid hst3
          have HNext := Lib.hid hnext
          have hHs := (Array.getElem?_eq_some_iff.1 hit2).1
          have HBel := Lib.hid hst3.below
          rw [← hnext] at HSp
          clear hW2 hit2 r1 r2 r3 HM hlet h256 hit hnext hst2
          by_cases hin : seqT n a b (bsN s) (R0 + pos) ∈ visT n a b (bsN s) (R0 + pos)
          · have HStp := Lib.hid (HStop.out _ HND2.out hin)
            rw [decide_eq_true hin] at hlook
            clear hin HSp hst3 hnd2 c1 c2
            generalize seqT n a b (bsN s) (R0 + pos) = tt at *
            generalize (s[pos]'hlt).toNat = rr at *
            by_cases e0 : tt = 0
            · have q : ((tt : Int) == 0) = true := by rw [beq_iff_eq]; omega
              have q2 : (((R0 + pos : Nat) : Int) == 2 * (n : Int)) = decide (R0 + pos = 2 * n) := by
                rw [Bool.eq_iff_iff, beq_iff_eq, decide_eq_true_eq]; omega
              have HQ2 := Lib.hid q2
              rw [decide_eq_true e0] at HStp
              have Htt := Lib.hid e0
              clear e0 q2
              go_wp2
              go_ret
              exact ⟨ret_bool (by rw [HStp.out, Bool.true_and, ← HQ2.out]; rfl), HBel.out⟩
            · have q : ((tt : Int) == 0) = false := by rw [beq_eq_false_iff_ne]; omega
              rw [decide_eq_false e0] at HStp
              clear e0
              go_wp2
              go_ret
              exact ⟨ret_bool (by rw [HStp.out]; rfl), HBel.out⟩
          · obtain ⟨w4, hup, hst4, hH4⟩ := hst3.put (seqT n a b (bsN s) (R0 + pos)) (by omega) (by rw [visT_length]; omega) hin
            rw [← visT_succ] at hst4
            have hit4 : w4.heap[H]? = some (.stringIter s (pos + 1)) := by
              rcases hH4 H hHB with h | h
              · rw [h]; exact HIT2.out
              · omega
            have hnd4 : (visT n a b (bsN s) (R0 + pos + 1)).Nodup := by
              rw [visT_succ, List.nodup_append]
              refine ⟨HND2.out, by simp, ?_⟩
              intro x hx y hy e
              rw [List.mem_singleton] at hy
              exact hin (by rw [← hy, ← e]; exact hx)
            rw [decide_eq_false hin] at hlook
            obtain ⟨c0', c1', c2'⟩ := hst4.c0
            have HST4 := Lib.hid hst4
            have HIT4 := Lib.hid hit4
            have HND4 := Lib.hid hnd4
            clear hin hst3 hnd2 c0 c1 c2 hst4 hit4 hnd4 hH4 hlenM
            generalize hx2 : seqT n a b (bsN s) (R0 + (pos + 1)) = t2 at *
            have HX2 := Lib.hid hx2
            clear hx2 HNext
            generalize seqT n a b (bsN s) (R0 + pos) = tt at *
            generalize (s[pos]'hlt).toNat = rr at *
            go_wp2_with fail
            refine (HSp.out _).mono ?_
            rintro e w5 ⟨rfl, b5⟩
            have hit5 : w5.heap[H]? = some (.stringIter s (pos + 1)) := (b5.block H (Array.getElem?_eq_some_iff.1 HIT4.out).1).trans HIT4.out
            have hp5 : w5.iterPos H = pos + 1 := by simp [World.iterPos, hit5]
            have HIT5 := Lib.hid hit5
            clear hit5
            go_wp2
            go_roundw
            case rel => exact ⟨pos + 1, by omega, HIT5.out, by rw [HX2.out], HND4.out, HST4.out.later b5⟩
            case measure => omega
        · have hnx : ∀ ty, (Instr.next (.pointer (some ⟨H, 0, none⟩)) true ty).run Try.prog wr = .ok (.tuple #[.bool false]) wr := fun ty => run_next_end_at wr H s pos ty hit hlt
          have hpe : pos = s.size := by omega
          subst hpe
          have HST2 := Lib.hid hst2
          have hms2 := hst2.m.mapSize
          rw [visT_length] at hms2
          clear hst2 hnd2 hit
          have HMS2 := Lib.hid hms2
          clear hms2
          go_wp2
          refine ⟨⟨r + 1, by rw [HR1.out], by rw [HR1.out]; exact HND2.out, by rw [HR1.out]; exact HST2.out⟩, ?_⟩
          rw [HMS2.out, HMS.out]
          omega

theorem Tour_ok (n a b : Nat) (hk : KOk n a b) (s : ByteArray) (hs : s.size ≤ maxLen) (hf : walkB s = true) (w : World) :
    Calls Try.prog 40 #[kv n a b, .string s] w fun e w' => e = .returned (.tuple #[.bool (tourB n a b (bsN s)), .int .i64 0]) ∧ Below w.heap.size w w' := by
  have HV := Lib.hid (valid0 n a b (laid0 w n a b))
  rw [kindB_of_nat hk] at HV
  have HA := Lib.hid (below_laid0 w n a b)
  have HI := Lib.hid (isWalk_any s hs)
  rw [hf] at HI
  have HT := Lib.hid (isTour_any n a b hk s hs (walkB_let hf).1)
  have k0 : (laid0 w n a b).cell? ⟨w.heap.size, 0, none⟩ = some (.int .i64 n) := by simp
  have k1 : (laid0 w n a b).cell? ⟨w.heap.size, 1, none⟩ = some (.int .i64 a) := by simp
  have k2 : (laid0 w n a b).cell? ⟨w.heap.size, 2, none⟩ = some (.int .i64 b) := by simp
  clear hf
  go_enter Try.func40, Try.ntmps40
  go_wp2_with fail
  refine HV.out.mono ?_
  rintro e w1 ⟨rfl, b1⟩
  have k0 := cell_later b1 k0
  have k1 := cell_later b1 k1
  have k2 := cell_later b1 k2
  have HA1 := Lib.hid (below_nx HA.out b1)
  go_wp2_with fail
  refine (HI.out _).mono ?_
  rintro e w2 ⟨rfl, b2⟩
  have k0 := cell_later b2 k0
  have k1 := cell_later b2 k1
  have k2 := cell_later b2 k2
  have HA2 := Lib.hid (below_nx HA1.out b2)
  go_wp2_with fail
  refine (HT.out _).mono ?_
  rintro e w3 ⟨rfl, b3⟩
  go_wp2
  go_ret2
  exact ⟨rfl, below_nx HA2.out b3⟩

theorem Tour_form (n a b : Nat) (hk : KOk n a b) (s : ByteArray) (hs : s.size ≤ maxLen) (hf : walkB s = false) (w : World) :
    Calls Try.prog 40 #[kv n a b, .string s] w fun e w' => e = .returned (.tuple #[.bool false, .int .i64 3]) ∧ Below w.heap.size w w' := by
  have HV := Lib.hid (valid0 n a b (laid0 w n a b))
  rw [kindB_of_nat hk] at HV
  have HA := Lib.hid (below_laid0 w n a b)
  have HI := Lib.hid (isWalk_any s hs)
  rw [hf] at HI
  clear hf
  go_enter Try.func40, Try.ntmps40
  go_wp2_with fail
  refine HV.out.mono ?_
  rintro e w1 ⟨rfl, b1⟩
  have HA1 := Lib.hid (below_nx HA.out b1)
  go_wp2_with fail
  refine (HI.out _).mono ?_
  rintro e w2 ⟨rfl, b2⟩
  go_wp2
  go_ret2
  exact ⟨rfl, below_nx HA1.out b2⟩

theorem Tour_bad (n a b : Int) (s : ByteArray) (h : kindB n a b = false) (w : World) :
    Calls Try.prog 40 #[kv n a b, .string s] w fun e w' => e = .returned (.tuple #[.bool false, .int .i64 2]) ∧ Below w.heap.size w w' := by
  have HV := Lib.hid (valid0 n a b (laid0 w n a b))
  rw [h] at HV
  have HA := Lib.hid (below_laid0 w n a b)
  clear h
  go_enter Try.func40, Try.ntmps40
  go_wp2_with fail
  refine HV.out.mono ?_
  rintro e w1 ⟨rfl, b1⟩
  go_wp2
  go_ret2
  exact ⟨rfl, below_nx HA.out b1⟩
end Go.Proofs.Ytibkhjbcagihbaa

/-
  Strokes of package even.
-/
import Derived.Test.YtmemnkmmjejlgaaEvEuclid
namespace Go.Proofs.Ytmemnkmmjejlgaa
open Go.RowKit Go.Shelf
attribute [local go_sem] Oper.semAt_some
set_option maxRecDepth 100000

def slLen : Value → Nat
  | .slice _ n _ => n
  | _ => 0

/-- Where the loop stands. -/
structure Eu (w0 W : World) (res : List Nat) (t A o1 f c1 B o2 s c2 : Nat) (gs : Nat → G) : Prop where
  st : ∃ B' o', (0 < s → B' = B ∧ o' = o2) ∧ St W w0.heap.size A o1 f B' o' s gs
  f1 : 1 ≤ f
  tot : f + s < t
  t17 : t ≤ 17
  b1 : f ≤ c1 ∧ c1 ≤ 65536
  b2 : s ≤ c2 ∧ c2 ≤ 65536
  len : ∀ i, i < f + s → (gs i).xs.length ≤ 2 ^ (17 - t)
  res : eu t f s (fun i => (gs i).xs) = res
  below : Below w0.heap.size w0 W

theorem joined_len {f i L : Nat} {x : Nat → List Nat} {N : Nat} (hx : ∀ j, j < N → (x j).length ≤ L) {j : Nat} (hj : j < N) (hj2 : j < i → f + j < N) : (joined f i x j).length ≤ 2 * L := by
  unfold joined
  by_cases e : j < i
  · rw [if_pos e, List.length_append]
    have a := hx j hj
    have b := hx (f + j) (hj2 e)
    omega
  · rw [if_neg e]
    have a := hx j hj
    omega

theorem Eu.long {w0 W W' : World} {res : List Nat} {t A o1 f c1 B o2 s c2 : Nat} {gs gs' : Nat → G} (h : Eu w0 W res t A o1 f c1 B o2 s c2 gs) (hs : 2 ≤ s) (hfs : f < s) (hst : St W' w0.heap.size A o1 f B o2 s gs')
    (hx : ∀ j, (gs' j).xs = joined f f (fun i => (gs i).xs) j) (hb : Below w0.heap.size W W') : Eu w0 W' res (t - 1) A o1 f f B (o2 + f) (s - f) (c2 - f) (fun j => if j < f then gs' j else gs' (j + f)) := by
  have htot := h.tot
  have h17 := h.t17
  have hb1 := h.b1
  have hb2 := h.b2
  have hf1 := h.f1
  obtain ⟨t', rfl⟩ : ∃ t', t = t' + 1 := ⟨t - 1, by omega⟩
  have hl : ∀ j, (if j < f then gs' j else gs' (j + f)).xs = left f s (fun i => (gs i).xs) j := by
    intro j
    unfold left
    rw [if_pos hfs]
    by_cases e : j < f
    · rw [if_pos e, if_pos e, hx j]
    · rw [if_neg e, if_neg e, hx (j + f)]
  refine ⟨⟨B, o2 + f, fun _ => ⟨rfl, rfl⟩, hst.longer (by omega)⟩, hf1, by omega, by omega, ⟨Nat.le_refl _, by omega⟩, ⟨by omega, by omega⟩, fun i hi => ?_, ?_, h.below.trans hb⟩
  · have e : 2 ^ (17 - (t' + 1 - 1)) = 2 * 2 ^ (17 - (t' + 1)) := by
      rw [show 17 - (t' + 1 - 1) = (17 - (t' + 1)) + 1 from by omega, Nat.pow_succ, Nat.mul_comm]
    rw [e]
    show (if i < f then gs' i else gs' (i + f)).xs.length ≤ _
    by_cases e2 : i < f
    · rw [if_pos e2, hx i]
      exact joined_len (N := f + s) h.len (by omega) (fun _ => by omega)
    · rw [if_neg e2, hx (i + f)]
      exact joined_len (N := f + s) h.len (by omega) (fun h => by omega)
  · have hr := h.res
    unfold eu at hr
    rw [if_pos hs, if_pos hfs] at hr
    rw [← hr]
    show eu t' f (s - f) _ = _
    exact eu_congr _ _ _ _ _ (fun i _ => hl i)

theorem Eu.short {w0 W W' : World} {res : List Nat} {t A o1 f c1 B o2 s c2 p : Nat} {gs gs' : Nat → G} (h : Eu w0 W res t A o1 f c1 B o2 s c2 gs) (hs : 2 ≤ s) (hfs : s ≤ f) (hp : s < f → p = o1 + s) (hst : St W' w0.heap.size A o1 f B o2 s gs')
    (hx : ∀ j, (gs' j).xs = joined f s (fun i => (gs i).xs) j) (hb : Below w0.heap.size W W') : Eu w0 W' res (t - 1) A o1 s s A p (f - s) (c1 - s) gs' := by
  have htot := h.tot
  have h17 := h.t17
  have hb1 := h.b1
  have hb2 := h.b2
  obtain ⟨t', rfl⟩ : ∃ t', t = t' + 1 := ⟨t - 1, by omega⟩
  refine ⟨⟨A, o1 + s, fun h => ⟨rfl, (hp (by omega)).symm⟩, hst.shorter hfs⟩, by omega, by omega, by omega, ⟨Nat.le_refl _, by omega⟩, ⟨by omega, by omega⟩, fun i hi => ?_, ?_, h.below.trans hb⟩
  · have e : 2 ^ (17 - (t' + 1 - 1)) = 2 * 2 ^ (17 - (t' + 1)) := by
      rw [show 17 - (t' + 1 - 1) = (17 - (t' + 1)) + 1 from by omega, Nat.pow_succ, Nat.mul_comm]
    rw [e, hx i]
    exact joined_len (N := f + s) h.len (by omega) (fun _ => by omega)
  · have hr := h.res
    unfold eu at hr
    rw [if_pos hs, if_neg (by omega)] at hr
    rw [← hr]
    show eu t' s (f - s) _ = _
    refine eu_congr _ _ _ _ _ (fun i _ => ?_)
    rw [hx i]
    unfold left
    rw [if_neg (by omega)]

/-- The groups as they are made. -/
def gs0 (k R1 R2 i : Nat) : G := if i < k then ⟨false, oneAt R1 i, [1]⟩ else ⟨false, oneAt R2 (i - k), [0]⟩

theorem Eu.start {w w1 w2 : World} {n k m R1 L1 R2 L2 : Nat} (hn : n ≤ 16) (hnm : n = k + m) (hk : 1 ≤ k) (a1 : w.heap.size ≤ R1) (a2 : R1 < L1) (a3 : Row w1 R1 3 (ints (List.replicate k 1))) (a4 : Row w1 L1 25 (cutN R1 k k)) (a5 : Below w.heap.size w w1)
    (b1 : w1.heap.size ≤ R2) (b2 : R2 < L2) (b3 : Row w2 R2 3 (ints (List.replicate m 0))) (b4 : Row w2 L2 25 (cutN R2 m m)) (b5 : Below w1.heap.size w1 w2) :
    Eu w w2 (strokesN n k) 17 L1 0 k k L2 0 m m (gs0 k R1 R2) := by
  have l1 := a4.lt
  have l2 := b4.lt
  have n1 : R1 ≠ L1 := by omega
  have n2 : R1 ≠ L2 := by omega
  have n3 : R2 ≠ L1 := by omega
  have n4 : R2 ≠ L2 := by omega
  have a3' := a3.later b5
  have a4' := a4.later b5
  refine ⟨⟨L2, 0, fun _ => ⟨rfl, rfl⟩, ?_⟩, hk, by omega, Nat.le_refl _, ⟨Nat.le_refl _, by omega⟩, ⟨Nat.le_refl _, by omega⟩, fun i hi => ?_, ?_, below_next a5 b5⟩
  · refine ⟨fun i hi => ?_, fun i j _ _ _ => Or.inr ?_, fun i hi => ?_, fun i hi => ?_, fun i hi => a4'.frozen _, fun j hj => ?_, Or.inl (by omega), ⟨by omega, a4'.lt⟩, ⟨by omega, l2⟩⟩
    · unfold gs0
      by_cases e : i < k
      · rw [if_pos e]
        refine ⟨by simp, Or.inr ⟨rfl, R1, i, 1, rfl, rfl, a1, ?_⟩⟩
        rw [a3'.cell, ints_at (by rw [List.length_replicate]; exact e), List.getElem?_replicate_of_lt e]; rfl
      · rw [if_neg e]
        refine ⟨by simp, Or.inr ⟨rfl, R2, i - k, 0, rfl, rfl, by omega, ?_⟩⟩
        rw [b3.cell, ints_at (by rw [List.length_replicate]; omega), List.getElem?_replicate_of_lt (by omega)]; rfl
    · unfold gs0
      constructor
      · split <;> rfl
      · split <;> rfl
    · unfold gs0
      by_cases e : i < k
      · rw [if_pos e]
        exact ⟨fun e2 => n1 (Option.some.inj (show some R1 = some L1 from e2)), fun e2 => n2 (Option.some.inj (show some R1 = some L2 from e2))⟩
      · rw [if_neg e]
        exact ⟨fun e2 => n3 (Option.some.inj (show some R2 = some L1 from e2)), fun e2 => n4 (Option.some.inj (show some R2 = some L2 from e2))⟩
    · unfold gs0
      rw [if_pos hi, Nat.zero_add, a4'.cell, cutN_at hi]
    · unfold gs0
      rw [if_neg (by omega), Nat.zero_add, b4.cell, cutN_at hj, Nat.add_sub_cancel_left]
  · unfold gs0
    split <;> exact Nat.le_refl _
  · unfold strokesN
    rw [show n - k = m from by omega]
    refine eu_congr _ _ _ _ _ (fun i _ => ?_)
    unfold gs0
    split <;> rfl

/-! ### laying all groups one behind the other -/

def csL (f s : Nat) (gs : Nat → G) (i : Nat) : List Value := if i = 0 then (List.range f).map (fun i => (gs i).v) else if i = 1 then (List.range s).map (fun j => (gs (f + j)).v) else []
theorem csL_cat (f s : Nat) (gs : Nat → G) : catN (csL f s gs) 2 = (List.range (f + s)).map (fun i => (gs i).v) := by
  show ([] ++ csL f s gs 0) ++ csL f s gs 1 = _
  rw [List.range_add]
  simp [csL]

def adOf : Value → Addr
  | .slice (some a) _ _ => a
  | _ => ⟨0, 0, none⟩
def capOf : Value → Nat
  | .slice _ _ c => c
  | _ => 0

theorem concat_groups {w wr : World} {res : List Nat} {t A o1 f c1 B o2 s c2 : Nat} {gs : Nat → G} (h : Eu w wr res t A o1 f c1 B o2 s c2 gs) (hs : ¬ 2 ≤ s) :
    Calls Try.prog 15 #[.slice (some ⟨wr.heap.size, 0, none⟩) 2 2] (wr.alloc (.cells #[.slice (some ⟨A, o1, none⟩) f c1, .slice (some ⟨B, o2, none⟩) s c2] 34)) fun e w' => ∃ v, e = .returned v ∧
      w'.ownsRow (wr.heap.size + 1) 25 1 v (f + s) ((List.range (f + s)).map fun i => (gs i).v) ∧ Below (wr.heap.size + 1) (wr.alloc (.cells #[.slice (some ⟨A, o1, none⟩) f c1, .slice (some ⟨B, o2, none⟩) s c2] 34)) w' := by
  obtain ⟨B', o', hB, hst⟩ := h.st
  have htot := h.tot
  have h17 := h.t17
  have hf1 := h.f1
  have hl := Row.new wr 34 [.slice (some ⟨A, o1, none⟩) f c1, .slice (some ⟨B, o2, none⟩) s c2]
  have hb : Below wr.heap.size wr (wr.alloc (.cells #[.slice (some ⟨A, o1, none⟩) f c1, .slice (some ⟨B, o2, none⟩) s c2] 34)) := below_two wr _
  have hlen : (catN (csL f s gs) 2).length = f + s := by rw [csL_cat]; simp
  have hone : ∀ i, i < f + s → (gs i).v.oneCell' = true := fun i hi => by
    obtain ⟨b, o, c, hv, _⟩ := (hst.ok i hi).shape
    rw [hv]; rfl
  have H := ConcatL_any 2 wr.heap.size 0 2 (by decide) (fun i => if i = 0 then ⟨A, o1, none⟩ else ⟨B, o2, none⟩) (fun i => if i = 0 then c1 else c2) (csL f s gs) (wr.alloc (.cells #[.slice (some ⟨A, o1, none⟩) f c1, .slice (some ⟨B, o2, none⟩) s c2] 34))
    (fun i hi => by
      rw [Nat.zero_add]
      refine (hl.cell i).trans ?_
      match i, hi with
      | 0, _ => simp [csL]
      | 1, _ => simp [csL])
    (fun i hi j u hu => by
      match i, hi with
      | 0, _ =>
        have hj : j < f := by
          have := (List.getElem?_eq_some_iff.1 hu).1
          simpa [csL] using this
        have e : u = (gs j).v := by
          simp [csL, hj] at hu
          exact hu.symm
        rw [e]
        show World.cell? _ ((⟨A, o1, none⟩ : Addr).add j) = _
        rw [Addr.add_lit]
        exact cell_later hb (hst.cA j hj)
      | 1, _ =>
        have hj : j < s := by
          have := (List.getElem?_eq_some_iff.1 hu).1
          simpa [csL] using this
        have e : u = (gs (f + j)).v := by
          simp [csL, hj] at hu
          exact hu.symm
        obtain ⟨rfl, rfl⟩ := hB (by omega)
        rw [e]
        show World.cell? _ ((⟨B', o', none⟩ : Addr).add j) = _
        rw [Addr.add_lit]
        exact cell_later hb (hst.cB j hj))
    (fun i u hu => by
      unfold csL at hu
      split at hu
      · obtain ⟨j, hj, rfl⟩ := List.mem_map.1 hu
        exact hone j (by have := List.mem_range.1 hj; omega)
      · split at hu
        · obtain ⟨j, hj, rfl⟩ := List.mem_map.1 hu
          exact hone (f + j) (by have := List.mem_range.1 hj; omega)
        · cases hu)
    (by rw [hlen]; omega) (by rw [hlen]; omega)
  rw [hlen, csL_cat, World.size_alloc] at H
  exact H

theorem catN_len {cs : Nat → List Value} {L : Nat} : ∀ k, (∀ i, i < k → (cs i).length ≤ L) → (catN cs k).length ≤ k * L
  | 0, _ => by simp [catN]
  | k + 1, h => by
    rw [catN_length, Nat.add_mul, Nat.one_mul]
    have a := catN_len k (fun i hi => h i (by omega))
    have b := h k (by omega)
    omega

theorem concat_ints {w wr w3 : World} {res : List Nat} {t A o1 f c1 B o2 s c2 lo : Nat} {gs : Nat → G} {v : Value} (h : Eu w wr res t A o1 f c1 B o2 s c2 gs) (hs : ¬ 2 ≤ s) (hB : Below wr.heap.size wr w3)
    (hv : w3.ownsRow lo 25 1 v (f + s) ((List.range (f + s)).map fun i => (gs i).v)) :
    Calls Try.prog 14 #[v] w3 fun e w' => ∃ v', e = .returned v' ∧ 1 ≤ res.length ∧ w'.ownsRow w3.heap.size 3 1 v' res.length (ints res) ∧ Below w3.heap.size w3 w' := by
  obtain ⟨B', o', _, hst⟩ := h.st
  have htot := h.tot
  have h17 := h.t17
  have hf1 := h.f1
  obtain ⟨t', rfl⟩ : ∃ t', t = t' + 1 := ⟨t - 1, by omega⟩
  have hres := h.res
  unfold eu at hres
  rw [if_neg hs] at hres
  obtain ⟨K, hK⟩ : ∃ K, f + s = K := ⟨_, rfl⟩
  rw [hK] at hv hres htot
  obtain ⟨k', hk'⟩ : ∃ k', K = k' + 1 := ⟨K - 1, by omega⟩
  have hv1 := hv
  rw [hk'] at hv1
  obtain ⟨g, cap, rfl⟩ := ownsRow_succ hv1
  rw [← hk'] at hv ⊢
  have hcell := hv.cells (g := g) rfl
  have hshape : ∀ i, i < K → (gs i).v = .slice (some (adOf (gs i).v)) (gs i).xs.length (capOf (gs i).v) ∧ ∀ j u, (ints (gs i).xs)[j]? = some u → wr.cell? ((adOf (gs i).v).add j) = some u := by
    intro i hi
    obtain ⟨b, o, c, hgv, _, _, _, hc⟩ := (hst.ok i (by omega)).shape
    rw [hgv]
    exact ⟨rfl, hc⟩
  have hcat : catN (fun i => ints (gs i).xs) K = ints res := by rw [← hres, catX_ints]
  have hpos : 1 ≤ (catN (fun i => ints (gs i).xs) K).length := by
    have h1 := catN_mono (fun i => ints (gs i).xs) (show 1 ≤ K by omega)
    have h2 : (catN (fun i => ints (gs i).xs) 1).length = (gs 0).xs.length := by
      show ([] ++ ints (gs 0).xs).length = _
      simp [ints]
    have h3 := List.length_pos_iff.2 (hst.ok 0 (by omega)).1
    omega
  have hL : 2 ^ (17 - (t' + 1)) ≤ 131072 := Nat.le_trans (Nat.pow_le_pow_right (by omega) (show 17 - (t' + 1) ≤ 17 by omega)) (by decide)
  have htop : (catN (fun i => ints (gs i).xs) K).length ≤ 4194304 := by
    have h1 := catN_len (cs := fun i => ints (gs i).xs) (L := 131072) K (fun i hi => by
      show (ints (gs i).xs).length ≤ _
      rw [ints_length]
      exact Nat.le_trans (h.len i (by omega)) hL)
    have h2 : K * 131072 ≤ 17 * 131072 := Nat.mul_le_mul_right _ (by omega)
    omega
  have H := ConcatI_any K g 0 cap (by omega) (fun i => adOf (gs i).v) (fun i => capOf (gs i).v) (fun i => ints (gs i).xs) w3
    (fun i hi => by
      rw [Nat.zero_add, ints_length]
      have hc := hcell i (gs i).v (by simp [hi])
      rw [Addr.add_lit, Nat.zero_add] at hc
      rw [hc]
      exact congrArg some (hshape i hi).1)
    (fun i hi j u hu => cell_later hB ((hshape i hi).2 j u hu))
    (fun i => ints_one _) hpos htop
  rw [hcat, ints_length] at H hpos
  exact H.mono fun e w' ⟨v', h1, h2, h3⟩ => ⟨v', h1, hpos, h2, h3⟩

theorem Strokes_bad (n k : Int) (h : vldK n k = false) (w : World) :
    Calls Try.prog 5 #[.int .i64 n, .int .i64 k] w fun e w' => e = .returned (.tuple #[.slice none 0 0, .int .i64 2]) ∧ w = w' := by
  have HV := Lib.hid (hasScales_any n k)
  rw [h] at HV
  clear h
  go_enter Try.func5, Try.ntmps5
  go_wp2_with fail
  refine (HV.out _).mono ?_
  rintro e w1 ⟨rfl, rfl⟩
  go_wp2
  go_ret2
  exact ⟨rfl, rfl⟩

def CellsAt (W : World) (v : Value) (xs : List Nat) : Prop := ∃ g cap, v = .slice (some ⟨g, 0, none⟩) xs.length cap ∧ xs.length ≤ cap ∧ ∀ i, i < xs.length → W.cell? ⟨g, i, none⟩ = some (.int .i64 ((xs[i]?.getD 0 : Nat) : Int))

theorem CellsAt.of_own {W : World} {lo : Nat} {v : Value} {xs : List Nat} (h : W.ownsRow lo 3 1 v xs.length (ints xs)) (hp : 1 ≤ xs.length) : CellsAt W v xs := by
  have h' := h
  rcases h.2 with ⟨_, e⟩ | ⟨g, cap, cur, rfl, _, _, hle, _⟩
  · omega
  · refine ⟨g, cap, rfl, hle, fun i hi => ?_⟩
    have hc := h'.cells (g := g) rfl i _ (ints_at hi)
    rw [Addr.add_lit, Nat.zero_add] at hc
    exact hc

theorem Strokes_ok (n k : Nat) (h1 : 2 ≤ n) (h2 : n ≤ 16) (h3 : 1 ≤ k) (h4 : k ≤ n) (w : World) :
    Calls Try.prog 5 #[.int .i64 n, .int .i64 k] w fun e w' => ∃ v, e = .returned (.tuple #[v, .int .i64 0]) ∧ CellsAt w' v (strokesN n k) ∧ Below w.heap.size w w' := by
  have HV := Lib.hid (hasScales_any n k)
  rw [vldK_of_nat h1 h2 h3 h4] at HV
  obtain ⟨m, hm⟩ : ∃ m, n = k + m := ⟨n - k, by omega⟩
  have hsub : (n : Int) - (k : Int) = (m : Int) := by omega
  have HM := Lib.hid hm
  have G1 := Lib.hid (fun w => groups_any 1 k (by omega) (by omega) w)
  have G2 := Lib.hid (fun w => groups_any 0 m (by omega) (by omega) w)
  obtain ⟨res, hres⟩ : ∃ res, strokesN n k = res := ⟨_, rfl⟩
  have HRS := Lib.hid hres
  rw [hres]
  clear hm hres
  go_enter Try.func5, Try.ntmps5
  go_wp2_with fail
  refine (HV.out _).mono ?_
  rintro e w0 ⟨rfl, rfl⟩
  go_wp2_with fail
  refine (G1.out _).mono ?_
  rintro e w1 ⟨R1, L1, rfl, a1, a2, a3, a4, a5⟩
  go_wp2_with fail
  refine (G2.out _).mono ?_
  rintro e w2 ⟨R2, L2, rfl, b1, b2, b3, b4, b5⟩
  have HE0 := Eu.start h2 HM.out h3 a1 a2 a3 a4 a5 b1 b2 b3 b4 b5
  rw [HRS.out] at HE0
  have HE := Lib.hid HE0
  clear HE0 a1 a2 a3 a4 a5 b1 b2 b3 b4 b5
  go_wp2_with fail
  clear HM HRS hsub
  go_loopw [6, 7] (fun a b wr => ∃ (t A o1 f c1 B o2 s c2 : Nat) (gs : Nat → G), a = .slice (some ⟨A, o1, none⟩) f c1 ∧ b = .slice (some ⟨B, o2, none⟩) s c2 ∧ Hid (Eu w wr res t A o1 f c1 B o2 s c2 gs)) (fun a b _ => slLen a + slLen b)
  case atStart => exact ⟨_, _, _, _, _, _, _, _, _, _, rfl, rfl, HE⟩
  case round =>
    clear HE
    obtain ⟨t, A, o1, f, c1, B, o2, s, c2, gs, rfl, rfl, HE⟩ := hrel
    have hf1 := HE.out.f1
    have htot := HE.out.tot
    have h17 := HE.out.t17
    have hb1 := HE.out.b1
    have hb2 := HE.out.b2
    by_cases hs : 2 ≤ s
    · obtain ⟨B', o', hB, hst⟩ := HE.out.st
      obtain ⟨rfl, rfl⟩ := hB (by omega)
      have hL : 2 ^ (17 - t) ≤ 262144 := Nat.le_trans (Nat.pow_le_pow_right (by omega) (show 17 - t ≤ 18 by omega)) (by decide)
      have HJ := Lib.hid (join_walk w.heap.size A o1 f c1 B' o' s c2 (min f s) (2 ^ (17 - t)) gs rfl hf1 (by omega) (by omega) (by omega) hb1.1 hb2.1 hb1.2 hb2.2 hL wr HE.out.len hst)
      clear hst hL hB
      go_wp2_with fail
      refine HJ.out.mono ?_
      rintro e w3 ⟨gs', k1, k2, k3, ⟨hfs, rfl⟩ | ⟨hfs, p, hp, rfl⟩⟩
      · have HN := Lib.hid (HE.out.long hs hfs k1 (by rw [show min f s = f from by omega] at k2; exact k2) k3)
        clear k1 k2 k3
        go_wp2
        go_roundw
        case rel => exact ⟨_, _, _, _, _, _, _, _, _, _, rfl, rfl, HN⟩
        case measure => simp only [slLen]; omega
      · have HN := Lib.hid (HE.out.short hs hfs hp k1 (by rw [show min f s = s from by omega] at k2; exact k2) k3)
        clear k1 k2 k3
        go_wp2
        go_roundw
        case rel => exact ⟨_, _, _, _, _, _, _, _, _, _, rfl, rfl, HN⟩
        case measure => simp only [slLen]; omega
    · have HC1 := Lib.hid (concat_groups HE.out hs)
      have hw1 := HE.out.below
      have hsz := hw1.size
      have hb0 : Below wr.heap.size wr (wr.alloc (.cells #[.slice (some ⟨A, o1, none⟩) f c1, .slice (some ⟨B, o2, none⟩) s c2] 34)) := below_two wr _
      go_wp2_with fail
      refine HC1.out.mono ?_
      rintro e w3 ⟨v, rfl, hv, hb3⟩
      have hb4 : Below wr.heap.size wr w3 := hb0.trans (hb3.mono (Nat.le_succ _))
      have HC2 := Lib.hid (concat_ints HE.out hs hb4 hv)
      have hb5 := Lib.hid (below_next hw1 hb4)
      clear hv hb3 hb4 hb0 hw1
      go_wp2_with fail
      refine HC2.out.mono ?_
      rintro e w4 ⟨v', rfl, hpos, hv', hb6⟩
      have hb7 := below_next hb5.out hb6
      have HV' := Lib.hid hv'
      clear hv' hb6
      go_wp2
      go_ret2
      exact ⟨_, rfl, CellsAt.of_own HV'.out hpos, hb7⟩

end Go.Proofs.Ytmemnkmmjejlgaa

/-
  Strokes and Spread of the reference.
-/
import Derived.Test.YtmemnkmmjejlgaaEvStrokes
namespace Go.Proofs.Ytmemnkmmjejlgaa
open Go.RowKit Go.Shelf
attribute [local go_sem] Oper.semAt_some
set_option maxRecDepth 100000

/-! ### as lists -/

def repX (f : List Nat) : Nat → List Nat
  | 0 => []
  | a + 1 => repX f a ++ f
def outX (a b : Nat) (f s : List Nat) : Nat → List Nat
  | 0 => repX f a
  | i + 1 => outX a b f s i ++ s
def refX : Nat → Nat → Nat → List Nat → List Nat → List Nat
  | 0, _, _, _, _ => []
  | t + 1, a, b, f, s => if 2 ≤ b then (if b < a then refX t b (a - b) (f ++ s) f else refX t a (b - a) (f ++ s) s) else outX a b f s b

def allChk (f : Nat → Nat → Bool) : Bool := allLt (fun n => Bool.or (Nat.ble n 1) (allLt (fun k => Bool.or (Nat.beq k 0) (f n k)) (Nat.add n 1))) 17
theorem allChk_spec {f : Nat → Nat → Bool} (h : allChk f = true) {n k : Nat} (h1 : 2 ≤ n) (h2 : n ≤ 16) (h3 : 1 ≤ k) (h4 : k ≤ n) : f n k = true := by
  have c1 := allLt_spec _ _ h n (by omega)
  have c2 := (Bool.or_eq_true_iff.1 (show (_ || _) = true from c1)).resolve_left (fun h => by have := Nat.le_of_ble_eq_true h; omega)
  have c3 := allLt_spec _ _ c2 k (by show k < n + 1; omega)
  exact (Bool.or_eq_true_iff.1 (show (_ || _) = true from c3)).resolve_left (fun h => by have := Nat.eq_of_beq_eq_true h; omega)

def eqK : List Nat → List Nat → Bool
  | [], [] => true
  | x :: l, y :: m => Bool.and (Nat.beq x y) (eqK l m)
  | _, _ => false
theorem eqK_spec : ∀ {l m : List Nat}, eqK l m = true → l = m
  | [], [], _ => rfl
  | x :: l, y :: m, h => by
    obtain ⟨h1, h2⟩ := Bool.and_eq_true_iff.1 (show (_ && _) = true from h)
    rw [Nat.eq_of_beq_eq_true h1, eqK_spec h2]
  | [], _ :: _, h => by cases h
  | _ :: _, [], h => by cases h

def sameOk (n k : Nat) : Bool := Bool.and (eqK (refX 17 k (Nat.sub n k) [1] [0]) (strokesN n k)) (Nat.beq (strokesN n k).length n)
theorem sameChk : allChk sameOk = true := by decide +kernel

theorem strokes_same {n k : Nat} (h1 : 2 ≤ n) (h2 : n ≤ 16) (h3 : 1 ≤ k) (h4 : k ≤ n) : refX 17 k (n - k) [1] [0] = strokesN n k ∧ (strokesN n k).length = n := by
  obtain ⟨c1, c2⟩ := Bool.and_eq_true_iff.1 (show (_ && _) = true from allChk_spec sameChk h1 h2 h3 h4)
  exact ⟨eqK_spec c1, Nat.eq_of_beq_eq_true c2⟩

theorem repX_length (f : List Nat) : ∀ i, (repX f i).length = i * f.length
  | 0 => by simp [repX]
  | i + 1 => by
    show (repX f i ++ f).length = _
    rw [List.length_append, repX_length f i, Nat.add_mul, Nat.one_mul]
theorem outX_length (a b : Nat) (f s : List Nat) : ∀ i, (outX a b f s i).length = a * f.length + i * s.length
  | 0 => by simp [outX, repX_length]
  | i + 1 => by
    show (outX a b f s i ++ s).length = _
    rw [List.length_append, outX_length a b f s i, Nat.add_mul, Nat.one_mul, Nat.add_assoc]

theorem CellsAt.later {W W' : World} {v : Value} {xs : List Nat} (h : CellsAt W v xs) (hb : Below W.heap.size W W') : CellsAt W' v xs := by
  obtain ⟨g, cap, rfl, h1, h2⟩ := h
  exact ⟨g, cap, rfl, h1, fun i hi => cell_later hb (h2 i hi)⟩
theorem cells_src {W : World} {g : Nat} {xs : List Nat} (h : ∀ i, i < xs.length → W.cell? ⟨g, i, none⟩ = some (.int .i64 ((xs[i]?.getD 0 : Nat) : Int))) : ∀ j u, (ints xs)[j]? = some u → W.cell? ((⟨g, 0, none⟩ : Addr).add j) = some u := by
  intro j u hu
  have hj := (List.getElem?_eq_some_iff.1 hu).1
  rw [ints_length] at hj
  rw [ints_at hj] at hu
  cases hu
  rw [Addr.add_lit, Nat.zero_add]
  exact h j hj
theorem ints_app (xs ys : List Nat) : ints (xs ++ ys) = ints xs ++ ints ys := by simp [ints]

/-- Where the reference's loop stands. -/
structure Rf (w0 W : World) (res : List Nat) (t a b : Nat) (f s : List Nat) (vf vs : Value) : Prop where
  cf : CellsAt W vf f
  cs : CellsAt W vs s
  a1 : 1 ≤ a
  tot : a + b < t
  t17 : t ≤ 17
  lf : f.length ≤ 2 ^ (17 - t)
  ls : s.length ≤ 2 ^ (17 - t)
  f1 : 1 ≤ f.length
  s1 : 1 ≤ s.length
  res : refX t a b f s = res
  below : Below w0.heap.size w0 W

theorem Rf.next {w0 W W' : World} {res : List Nat} {t a b : Nat} {f s : List Nat} {vf vs v' : Value} (h : Rf w0 W res t a b f s vf vs) (hb : 2 ≤ b) (hB : Below W.heap.size W W') (hv : CellsAt W' v' (f ++ s)) :
    (b < a → Rf w0 W' res (t - 1) b (a - b) (f ++ s) f v' vf) ∧ (a ≤ b → Rf w0 W' res (t - 1) a (b - a) (f ++ s) s v' vs) := by
  have h1 := h.a1
  have h2 := h.tot
  have h3 := h.t17
  have h4 := h.lf
  have h5 := h.ls
  have h6 := h.f1
  have h7 := h.s1
  obtain ⟨t', rfl⟩ : ∃ t', t = t' + 1 := ⟨t - 1, by omega⟩
  have e : 2 ^ (17 - (t' + 1 - 1)) = 2 * 2 ^ (17 - (t' + 1)) := by
    rw [show 17 - (t' + 1 - 1) = (17 - (t' + 1)) + 1 from by omega, Nat.pow_succ, Nat.mul_comm]
  have hres := h.res
  unfold refX at hres
  rw [if_pos hb] at hres
  constructor
  · intro hab
    rw [if_pos hab] at hres
    exact ⟨hv, h.cf.later hB, by omega, by omega, by omega, by rw [e, List.length_append]; omega, by rw [e]; omega, by rw [List.length_append]; omega, h6, hres, below_next h.below hB⟩
  · intro hab
    rw [if_neg (by omega)] at hres
    exact ⟨hv, h.cs.later hB, by omega, by omega, by omega, by rw [e, List.length_append]; omega, by rw [e]; omega, by rw [List.length_append]; omega, h7, hres, below_next h.below hB⟩

theorem refStrokes_any (n k : Nat) (h1 : 2 ≤ n) (h2 : n ≤ 16) (h3 : 1 ≤ k) (h4 : k ≤ n) (w : World) :
    Calls Try.prog 9 #[.int .i64 n, .int .i64 k] w fun e w' => ∃ v, e = .returned v ∧ CellsAt w' v (strokesN n k) ∧ Below w.heap.size w w' := by
  obtain ⟨i0, hi0, hz0, hz1, hz2⟩ := info_parts info_int
  obtain ⟨q1, q2⟩ := strokes_same h1 h2 h3 h4
  obtain ⟨res, hres⟩ : ∃ res, strokesN n k = res := ⟨_, rfl⟩
  rw [hres] at q1 q2 ⊢
  have hsub : (n : Int) - (k : Int) = ((n - k : Nat) : Int) := by omega
  have HQ1 := Lib.hid q1
  have HQ2 := Lib.hid q2
  clear q1 q2 hres
  go_enter Try.func9, Try.ntmps9
  go_wp2_with fail
  have hbA := below_two w (.cells #[.int .i64 1] 3)
  have hbB := below_two (w.alloc (.cells #[.int .i64 1] 3)) (.cells #[.int .i64 0] 3)
  have cA : (w.alloc (.cells #[.int .i64 1] 3)).cell? ⟨w.heap.size, 0, none⟩ = some (.int .i64 1) := cell_at rfl
  have cA2 := cell_later hbB cA
  have cB : ((w.alloc (.cells #[.int .i64 1] 3)).alloc (.cells #[.int .i64 0] 3)).cell? ⟨w.heap.size + 1, 0, none⟩ = some (.int .i64 0) := cell_at (by simp)
  have hbW := below_next hbA hbB
  generalize (w.alloc (.cells #[.int .i64 1] 3)).alloc (.cells #[.int .i64 0] 3) = W0 at *
  have HS : Rf w W0 res 17 k (n - k) [1] [0] (.slice (some ⟨w.heap.size, 0, none⟩) 1 1) (.slice (some ⟨w.heap.size + 1, 0, none⟩) 1 1) :=
    ⟨⟨_, 1, rfl, Nat.le_refl _, fun i hi => by
        have : i = 0 := by simpa using hi
        subst this; exact cA2⟩, ⟨_, 1, rfl, Nat.le_refl _, fun i hi => by
        have : i = 0 := by simpa using hi
        subst this; exact cB⟩, h3, by omega, Nat.le_refl _, Nat.le_refl _, Nat.le_refl _, Nat.le_refl _, Nat.le_refl _, HQ1.out, hbW⟩
  have HS := Lib.hid HS
  clear cA cA2 cB hbA hbB hbW
  go_loopw [5, 6, 7, 8] (fun vf vs va vb wr => ∃ (t a b : Nat) (f s : List Nat), va = .int .i64 a ∧ vb = .int .i64 b ∧ Hid (Rf w wr res t a b f s vf vs)) (fun _ _ va vb _ => (intOf va).toNat + (intOf vb).toNat)
  case atStart => exact ⟨_, _, _, _, _, rfl, rfl, HS⟩
  case round =>
    obtain ⟨t, a, b, f, s, rfl, rfl, HR⟩ := hrel
    have ha1 := HR.out.a1
    have htot := HR.out.tot
    have ht17 := HR.out.t17
    have hL : 2 ^ (17 - t) ≤ 262144 := Nat.le_trans (Nat.pow_le_pow_right (by omega) (show 17 - t ≤ 18 by omega)) (by decide)
    have hlf := Nat.le_trans HR.out.lf hL
    have hls := Nat.le_trans HR.out.ls hL
    obtain ⟨gf, kf, hvf, hkf, hcf⟩ := HR.out.cf
    obtain ⟨gs, ks, hvs, hks, hcs⟩ := HR.out.cs
    clear hL
    by_cases hb : 2 ≤ b
    · subst hvf
      subst hvs
      obtain ⟨fl, hfl⟩ : ∃ fl, f.length = fl := ⟨_, rfl⟩
      obtain ⟨sl, hsl⟩ : ∃ sl, s.length = sl := ⟨_, rfl⟩
      have hF := Lib.hid (cells_src hcf)
      have hG := Lib.hid (cells_src hcs)
      have hlF : Hid ((ints f).length = fl * 1) := Lib.hid (by rw [ints_length, hfl, Nat.mul_one])
      have hlG : Hid ((ints s).length = sl * 1) := Lib.hid (by rw [ints_length, hsl, Nat.mul_one])
      have HNx := Lib.hid (fun W' v' h1 h2 => HR.out.next (W' := W') (v' := v') hb h1 h2)
      rw [hfl, hsl] at HNx
      rw [hfl] at hlf hkf hcf ⊢
      rw [hsl] at hls hks hcs ⊢
      have HFl := Lib.hid hfl
      have HSl := Lib.hid hsl
      have hown0 := World.ownsRow_made (base := wr.heap.size) (e := 3) (size := 1) wr #[] 0 (Nat.le_refl _) (by unfold maxLen; omega) rfl
      have HO0 := Lib.hid hown0
      have hb0 := Lib.hid (below_two wr (.cells #[] 3))
      have ho1 := Lib.hid (ints_one f)
      have ho2 := Lib.hid (ints_one s)
      clear hcf hcs hown0 hfl hsl
      have HV2 := Lib.hid (fun (W' : World) v' (h : W'.ownsRow wr.heap.size 3 1 v' (0 + fl + sl) ([] ++ ints f ++ ints s)) => (show CellsAt W' v' (f ++ s) from CellsAt.of_own (lo := wr.heap.size) (by
        rw [List.length_append, HFl.out, HSl.out, ints_app]
        simpa using h) (by rw [List.length_append]; have := HR.out.f1; omega)))
      have hB00 := hb0.out.size
      by_cases hab : b < a
      · have hmin : min (a : Int) (b : Int) = (b : Int) := by omega
        have hmax : max (a : Int) (b : Int) = (a : Int) := by omega
        go_wp2_with (at_builtin; first
          | (refine wpList_append_own_at _ rfl _ _ 25 rfl wr.heap.size 3 i0 (.int .i64 0) 1 8 Try.underlying25 hi0 hz0 hz1 hz2 rfl (by decide) _ _ _ rfl HO0.out ⟨gf, 0, none⟩ fl kf (ints f) rfl hlF.out (fun j u hu => cell_later hb0.out (hF.out j u hu)) ho1.out (by unfold maxLen; omega) (by omega) hB00 ?_; intro v1 w1 hown1 hgr1 _ _; have hO1 := Lib.hid hown1; have hB1 := Lib.hid (hb0.out.grown hgr1 hB00 (fun q hq => (HO0.out.lt q hq).1)); have hB11 := hB1.out.size; clear hown1 hgr1)
          | (refine wpList_append_own_at _ rfl _ _ 25 rfl wr.heap.size 3 i0 (.int .i64 0) 1 8 Try.underlying25 hi0 hz0 hz1 hz2 rfl (by decide) _ _ _ rfl hO1.out ⟨gs, 0, none⟩ sl ks (ints s) rfl hlG.out (fun j u hu => cell_later hB1.out (hG.out j u hu)) ho2.out (by unfold maxLen; omega) (by omega) hB11 ?_; intro v2 w2 hown2 hgr2 _ _; have hO2 := Lib.hid hown2; have hB2 := Lib.hid (hB1.out.grown hgr2 hB11 (fun q hq => (hO1.out.lt q hq).1)); clear hown2 hgr2))
        go_roundw
        case rel => exact ⟨t - 1, b, a - b, f ++ s, f, rfl, by go_num, Lib.hid ((HNx.out w2 v2 hB2.out (HV2.out w2 v2 hO2.out)).1 hab)⟩
        case measure => simp only [intOf]; omega
      · have hmin : min (a : Int) (b : Int) = (a : Int) := by omega
        have hmax : max (a : Int) (b : Int) = (b : Int) := by omega
        go_wp2_with (at_builtin; first
          | (refine wpList_append_own_at _ rfl _ _ 25 rfl wr.heap.size 3 i0 (.int .i64 0) 1 8 Try.underlying25 hi0 hz0 hz1 hz2 rfl (by decide) _ _ _ rfl HO0.out ⟨gf, 0, none⟩ fl kf (ints f) rfl hlF.out (fun j u hu => cell_later hb0.out (hF.out j u hu)) ho1.out (by unfold maxLen; omega) (by omega) hB00 ?_; intro v1 w1 hown1 hgr1 _ _; have hO1 := Lib.hid hown1; have hB1 := Lib.hid (hb0.out.grown hgr1 hB00 (fun q hq => (HO0.out.lt q hq).1)); have hB11 := hB1.out.size; clear hown1 hgr1)
          | (refine wpList_append_own_at _ rfl _ _ 25 rfl wr.heap.size 3 i0 (.int .i64 0) 1 8 Try.underlying25 hi0 hz0 hz1 hz2 rfl (by decide) _ _ _ rfl hO1.out ⟨gs, 0, none⟩ sl ks (ints s) rfl hlG.out (fun j u hu => cell_later hB1.out (hG.out j u hu)) ho2.out (by unfold maxLen; omega) (by omega) hB11 ?_; intro v2 w2 hown2 hgr2 _ _; have hO2 := Lib.hid hown2; have hB2 := Lib.hid (hB1.out.grown hgr2 hB11 (fun q hq => (hO1.out.lt q hq).1)); clear hown2 hgr2))
        go_roundw
        case rel => exact ⟨t - 1, a, b - a, f ++ s, s, rfl, by go_num, Lib.hid ((HNx.out w2 v2 hB2.out (HV2.out w2 v2 hO2.out)).2 (by omega))⟩
        case measure => simp only [intOf]; omega
    · obtain ⟨W1, rfl⟩ : ∃ W1, W1 = wr := ⟨_, rfl⟩
      have hres := HR.out.res
      obtain ⟨t', ht'⟩ : ∃ t', t = t' + 1 := ⟨t - 1, by omega⟩
      rw [ht'] at hres
      unfold refX at hres
      rw [if_neg hb] at hres
      have HRes := Lib.hid hres
      have hW1 := HR.out.below
      subst hvf
      subst hvs
      have hF := Lib.hid (cells_src hcf)
      have hG := Lib.hid (cells_src hcs)
      have ho1 := Lib.hid (ints_one f)
      have ho2 := Lib.hid (ints_one s)
      have hR1 := Lib.hid (fun j (hj : j ≤ a) => show (repX f j).length ≤ 17 * 262144 from by
        rw [repX_length]; exact Nat.mul_le_mul (by omega) hlf)
      have hR2 := Lib.hid (fun j (hj : j ≤ b) => show (outX a b f s j).length ≤ 17 * 262144 + 17 * 262144 from by
        rw [outX_length]; exact Nat.add_le_add (Nat.mul_le_mul (by omega) hlf) (Nat.mul_le_mul (by omega) hls))
      have hE1 := Lib.hid (fun j => show (repX f (j + 1)).length = (repX f j).length + f.length from by show (repX f j ++ f).length = _; rw [List.length_append])
      have hE2 := Lib.hid (fun j => show (outX a b f s (j + 1)).length = (outX a b f s j).length + s.length from by show (outX a b f s j ++ s).length = _; rw [List.length_append])
      have hI1 := Lib.hid (fun j => show ints (repX f (j + 1)) = ints (repX f j) ++ ints f from ints_app _ _)
      have hI2 := Lib.hid (fun j => show ints (outX a b f s (j + 1)) = ints (outX a b f s j) ++ ints s from ints_app _ _)
      have hlF : Hid ((ints f).length = f.length * 1) := Lib.hid (by rw [ints_length, Nat.mul_one])
      have hlG : Hid ((ints s).length = s.length * 1) := Lib.hid (by rw [ints_length, Nat.mul_one])
      obtain ⟨fl, hfl⟩ : ∃ fl, f.length = fl := ⟨_, rfl⟩
      obtain ⟨sl, hsl⟩ : ∃ sl, s.length = sl := ⟨_, rfl⟩
      rw [hfl] at hlf hE1 hlF ⊢
      rw [hsl] at hls hE2 hlG ⊢
      clear hcf hcs hres hfl hsl hkf hks ht'
      go_wp2_with fail
      go_loopw [11, 40] (fun v i wr => ∃ j : Nat, j ≤ a ∧ i = .int .i64 j ∧ Hid (wr.ownsRow W1.heap.size 3 1 v (repX f j).length (ints (repX f j))) ∧ Hid (Below W1.heap.size W1 wr)) (fun _ i _ => a - (intOf i).toNat)
      case atStart => exact ⟨0, Nat.zero_le _, rfl, Lib.hid (World.ownsRow_nil W1 W1.heap.size 3 1), Lib.hid (Below.refl _ _)⟩
      case round =>
        obtain ⟨j, hj, rfl, hO, hB⟩ := hrel
        have hBs := hB.out.size
        by_cases hlt : j < a
        · have e1 := hE1.out j
          have e2 := hR1.out (j + 1) (by omega)
          obtain ⟨x, hx⟩ : ∃ x, (repX f j).length = x := ⟨_, rfl⟩
          rw [hx] at e1 hO
          rw [e1] at e2
          have E1 := Lib.hid e1
          clear e1 hx
          go_wp2_with (at_builtin; refine wpList_append_own_at _ rfl _ _ 25 rfl W1.heap.size 3 i0 (.int .i64 0) 1 8 Try.underlying25 hi0 hz0 hz1 hz2 rfl (by decide) _ _ _ rfl hO.out ⟨gf, 0, none⟩ fl kf (ints f) rfl hlF.out (fun j u hu => cell_later hB.out (hF.out j u hu)) ho1.out (by unfold maxLen; omega) (by omega) hBs ?_; intro v1 w1 hown1 hgr1 _ _)
          go_roundw
          case rel =>
            refine ⟨j + 1, by omega, by go_num, Lib.hid ?_, Lib.hid (hB.out.grown hgr1 hBs (fun q hq => (hO.out.lt q hq).1))⟩
            rw [E1.out, hI1.out]
            exact hown1
          case measure => simp only [intOf]; omega
        · have hja : j = a := by omega
          rw [hja] at hO ⊢
          clear hlt hj hja
          obtain ⟨W2, rfl⟩ : ∃ W2, W2 = wr := ⟨_, rfl⟩
          go_wp2_with fail
          go_loopw [11, 47] (fun v i wr => ∃ j : Nat, j ≤ b ∧ i = .int .i64 j ∧ Hid (wr.ownsRow W1.heap.size 3 1 v (outX a b f s j).length (ints (outX a b f s j))) ∧ Hid (Below W1.heap.size W1 wr)) (fun _ i _ => b - (intOf i).toNat)
          case atStart => exact ⟨0, Nat.zero_le _, rfl, hO, hB⟩
          case round =>
            clear hO hB hBs
            obtain ⟨j, hj, rfl, hO, hB⟩ := hrel
            have hBs := hB.out.size
            by_cases hlt : j < b
            · have e1 := hE2.out j
              have e2 := hR2.out (j + 1) (by omega)
              obtain ⟨x, hx⟩ : ∃ x, (outX a b f s j).length = x := ⟨_, rfl⟩
              rw [hx] at e1 hO
              rw [e1] at e2
              have E1 := Lib.hid e1
              clear e1 hx
              go_wp2_with (at_builtin; refine wpList_append_own_at _ rfl _ _ 25 rfl W1.heap.size 3 i0 (.int .i64 0) 1 8 Try.underlying25 hi0 hz0 hz1 hz2 rfl (by decide) _ _ _ rfl hO.out ⟨gs, 0, none⟩ sl ks (ints s) rfl hlG.out (fun j u hu => cell_later hB.out (hG.out j u hu)) ho2.out (by unfold maxLen; omega) (by omega) hBs ?_; intro v1 w1 hown1 hgr1 _ _)
              go_roundw
              case rel =>
                refine ⟨j + 1, by omega, by go_num, Lib.hid ?_, Lib.hid (hB.out.grown hgr1 hBs (fun q hq => (hO.out.lt q hq).1))⟩
                rw [E1.out, hI2.out]
                exact hown1
              case measure => simp only [intOf]; omega
            · have hjb : j = b := by omega
              rw [hjb, HRes.out] at hO
              have hfin := Lib.hid (CellsAt.of_own hO.out (by rw [HQ2.out]; omega))
              have hbel := below_next hW1 hB.out
              go_wp2
              go_ret
              exact ⟨_, rfl, hfin.out, hbel⟩

end Go.Proofs.Ytmemnkmmjejlgaa

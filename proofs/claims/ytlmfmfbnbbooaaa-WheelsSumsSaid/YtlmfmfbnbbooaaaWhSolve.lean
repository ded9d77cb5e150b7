/-
  The first chords that make up a chord: the program's search, and the reference's.
-/
import Derived.Test.YtlmfmfbnbbooaaaWhRef4
import Derived.Test.YtlmfmfbnbbooaaaRoConcat
import Derived.Laws.AppendOwnNone
import Derived.ArgAppend
namespace Go.Proofs.Ytlmfmfbnbbooaaa
open Go.ChangeShapes Go.WideShapes Go.ChangeAt Go.RowKit
set_option linter.unusedVariables false
set_option maxRecDepth 100000

/-! ### sets without others -/
def dif (a b : Nat) : Nat := a ^^^ (a &&& b)
theorem dif_bit (a b i : Nat) : (dif a b).testBit i = (a.testBit i && !b.testBit i) := by
  unfold dif
  rw [Nat.testBit_xor, Nat.testBit_and]
  cases a.testBit i <;> cases b.testBit i <;> rfl
theorem dif_lt {a k : Nat} (b : Nat) (h : a < 2 ^ k) : dif a b < 2 ^ k := Nat.xor_lt_two_pow h (Nat.lt_of_le_of_lt Nat.and_le_left h)
theorem andNot_nat (a b : Nat) (ha : a < 2 ^ 63) (hb : b < 2 ^ 63) : bits .andNot .i64 (a : Int) (b : Int) = ((dif a b : Nat) : Int) := by
  have h1 : a < 2 ^ IntKind.i64.bits := by simp [IntKind.bits]; omega
  have h2 : b < 2 ^ IntKind.i64.bits := by simp [IntKind.bits]; omega
  have e : (BitVec.ofInt IntKind.i64.bits (a : Int) &&& ~~~(BitVec.ofInt IntKind.i64.bits (b : Int))).toNat = dif a b := by
    apply Nat.eq_of_testBit_eq
    intro i
    rw [BitVec.testBit_toNat, BitVec.getLsbD_and, BitVec.getLsbD_not, dif_bit, ← BitVec.testBit_toNat, ← BitVec.testBit_toNat, ofInt_nat a _ h1, ofInt_nat b _ h2]
    by_cases hi : i < IntKind.i64.bits
    · simp [hi]
    · have : a.testBit i = false := Nat.testBit_lt_two_pow (Nat.lt_of_lt_of_le h1 (Nat.pow_le_pow_right (by omega) (by omega)))
      simp [hi, this]
  simp only [bits]
  rw [e]
  exact wrap_nat _ (dif_lt b ha)

/-! ### the search as a list -/
def covN (l : List Nat) : Nat → Nat → Option (List Nat)
  | 0, r => if r = 0 then some [] else none
  | f + 1, r => if r = 0 then some [] else
      if dif (l[l.length - (f + 1)]?.getD 0) r = 0 then
        match covN l f (dif r (l[l.length - (f + 1)]?.getD 0)) with
        | some p => some ((l.length - (f + 1)) :: p)
        | none => covN l f r
      else covN l f r
def cv (l : List Nat) (i r : Nat) : Option (List Nat) := covN l (l.length - i) r
theorem cv_zero (l : List Nat) (i : Nat) : cv l i 0 = some [] := by unfold cv; cases l.length - i <;> simp [covN]
theorem cv_end {l : List Nat} {r : Nat} (hr : r ≠ 0) : cv l l.length r = none := by unfold cv; rw [Nat.sub_self]; simp [covN, hr]
theorem cv_step {l : List Nat} {i r : Nat} (hi : i < l.length) (hr : r ≠ 0) : cv l i r = if dif (l[i]?.getD 0) r = 0 then (match cv l (i + 1) (dif r (l[i]?.getD 0)) with | some p => some (i :: p) | none => cv l (i + 1) r) else cv l (i + 1) r := by
  unfold cv
  obtain ⟨f, hf⟩ : ∃ f, l.length - i = f + 1 := ⟨l.length - i - 1, by omega⟩
  rw [hf, show l.length - (i + 1) = f by omega]
  show (if r = 0 then _ else _) = _
  rw [if_neg hr, show l.length - (f + 1) = i by omega]
theorem cov_len (l : List Nat) : ∀ (f r : Nat) (p : List Nat), covN l f r = some p → p.length ≤ f
  | 0, r, p, h => by
    unfold covN at h
    split at h
    · cases h; exact Nat.le_refl _
    · cases h
  | f + 1, r, p, h => by
    unfold covN at h
    split at h
    · cases h; exact Nat.zero_le _
    · split at h
      · split at h
        · rename_i q hq
          cases h
          have := cov_len l f _ q hq
          simp only [List.length_cons]; omega
        · have := cov_len l f _ p h
          omega
      · have := cov_len l f _ p h
        omega
theorem cv_len {l : List Nat} {i r : Nat} {p : List Nat} (h : cv l i r = some p) : p.length ≤ l.length := Nat.le_trans (cov_len l _ _ _ h) (Nat.sub_le _ _)
theorem cv_hit {l : List Nat} {i r : Nat} {p : List Nat} (hi : i < l.length) (hr : r ≠ 0) (hd : dif (l[i]?.getD 0) r = 0) (h : cv l (i + 1) (dif r (l[i]?.getD 0)) = some p) : cv l i r = some (i :: p) := by
  rw [cv_step hi hr, if_pos hd, h]
theorem cv_miss {l : List Nat} {i r : Nat} (hi : i < l.length) (hr : r ≠ 0) (hd : dif (l[i]?.getD 0) r = 0) (h : cv l (i + 1) (dif r (l[i]?.getD 0)) = none) : cv l i r = cv l (i + 1) r := by
  rw [cv_step hi hr, if_pos hd, h]
theorem cv_skip {l : List Nat} {i r : Nat} (hi : i < l.length) (hr : r ≠ 0) (hd : dif (l[i]?.getD 0) r ≠ 0) : cv l i r = cv l (i + 1) r := by
  rw [cv_step hi hr, if_neg hd]

/-! ### slices.Concat of one and none -/
theorem IntsV.nilW (W : World) : IntsV W (.slice none 0 0) [] := ⟨none, 0, rfl, Nat.le_refl _, fun h => by cases h⟩
set_option maxHeartbeats 2000000 in
theorem Concat_nil (x : Int) (Z cap : Nat) (b k : Nat) (w : World) (c1 : w.cell? ⟨Z, 0, none⟩ = some (.slice (some ⟨b, 0, none⟩) 1 k)) (c2 : w.cell? ⟨Z, 1, none⟩ = some (.slice none 0 0))
    (hb : w.cell? ⟨b, 0, none⟩ = some (.int .i64 x)) :
    Calls Try.prog 111 #[.slice (some ⟨Z, 0, none⟩) 2 cap] w fun e w' => ∃ v, e = .returned v ∧ IntsV w' v [x] ∧ Below w.heap.size w w' := by
  obtain ⟨i0, hi, hz0, hz1, hz2⟩ := info_parts info_intV
  have HG := Lib.hid (fun w => GrowI_any 1 (by omega) (by omega) w)
  have C1 := Lib.hid c1
  have C2 := Lib.hid c2
  have HB := Lib.hid (show ∀ j u, [Value.int .i64 x][j]? = some u → w.cell? ((⟨b, 0, none⟩ : Addr).add j) = some u from fun j u hj => by
    match j, hj with
    | 0, hj => simp at hj; subst hj; exact hb
    | j + 1, hj => simp at hj)
  clear c1 c2 hb
  go_enter Try.func111, Try.ntmps111
  go_wp2_with fail
  go_loopw [3, 11] (fun t v wr => ∃ i : Nat, i ≤ 2 ∧ v = .int .i64 i ∧ t = .int .i64 ((if i = 0 then 0 else 1 : Nat) : Int) ∧ w = wr) (fun _ v _ => 2 - (intOf v).toNat)
  case atStart => exact ⟨0, Nat.zero_le _, rfl, rfl, rfl⟩
  case round =>
    obtain ⟨i, hi', rfl, rfl, rfl⟩ := hrel
    have hi3 : i = 0 ∨ i = 1 ∨ i = 2 := by omega
    rcases hi3 with rfl | rfl | rfl
    · have cV := C1.out
      simp only [if_true]
      go_wp2
      go_roundw
      case rel => exact ⟨1, by omega, by go_num, by go_num, trivial⟩
      case measure => simp only [intOf]; omega
    · have cV := C2.out
      simp only [if_neg (show ¬ 1 = 0 by decide)]
      go_wp2
      go_roundw
      case rel => exact ⟨2, by omega, by go_num, by go_num, trivial⟩
      case measure => simp only [intOf]; omega
    · simp only [if_neg (show ¬ 2 = 0 by decide)]
      go_wp2_with fail
      refine (HG.out _).mono ?_
      rintro e w1 ⟨v, rfl, hown, hb⟩
      go_wp2_with fail
      have hwl := hb.size
      go_loopw [6, 27] (fun t v' w2 => ∃ k : Nat, k ≤ 2 ∧ v' = .int .i64 k ∧ w2.ownsRow w.heap.size 3 1 t (if k = 0 then 0 else 1) (if k = 0 then [] else [.int .i64 x]) ∧ Below w.heap.size w w2) (fun _ v' _ => 2 - (intOf v').toNat)
      case atStart => exact ⟨0, Nat.zero_le _, rfl, hown, hb⟩
      case round =>
        obtain ⟨k, hk, rfl, hown2, hb2⟩ := hrel
        have hk3 : k = 0 ∨ k = 1 ∨ k = 2 := by omega
        have hw2 := hb2.size
        rcases hk3 with rfl | rfl | rfl
        · have cV := cell_later hb2 C1.out
          have hsrc := Lib.hid (fun j u hu => cell_later hb2 (HB.out j u hu))
          simp only [if_true] at hown2
          have HO2 := Lib.hid hown2
          have B2 := Lib.hid hb2
          clear hown2 hown hb hb2
          go_wp2_with (at_builtin; refine wpList_append_own_at _ rfl _ _ 22 rfl w.heap.size 3 i0 (.int .i64 0) 1 8 Try.underlying22 hi hz0 hz1 hz2 rfl (by decide) _ _ _ rfl HO2.out ⟨b, 0, none⟩ 1 k [.int .i64 x] rfl rfl hsrc.out (by simp [Value.oneCell']) (by unfold maxLen; omega) (by omega) hw2 ?_; intro v' w3 hown3 hgrow3 _ _)
          go_roundw
          case rel => exact ⟨1, by omega, by go_num, hown3, B2.out.grown hgrow3 hw2 (fun q hq => (HO2.out.lt q hq).1)⟩
          case measure => simp only [intOf]; omega
        · have cV := cell_later hb2 C2.out
          simp only [if_neg (show ¬ 1 = 0 by decide)] at hown2
          have HO2 := Lib.hid hown2
          have B2 := Lib.hid hb2
          clear hown2 hown hb hb2
          go_wp2_with (at_builtin; refine wpList_append_own_none rfl _ _ 22 rfl w.heap.size 3 i0 1 Try.underlying22 hi _ _ _ rfl HO2.out rfl ?_)
          go_roundw
          case rel => exact ⟨2, by omega, by go_num, HO2.out, B2.out⟩
          case measure => simp only [intOf]; omega
        · simp only [if_neg (show ¬ 2 = 0 by decide)] at hown2
          have HO2 := Lib.hid hown2
          have B2 := Lib.hid hb2
          clear hown2 hown hb hb2
          go_wp2
          go_ret
          exact ⟨_, rfl, IntsV.of_own HO2.out, B2.out⟩

/-! ### cover -/
theorem two_cells (w : World) (x y z : Value) : ((w.alloc (.cells #[x] 3)).alloc (.cells #[y, z] 22)).cell? ⟨w.heap.size + 1, 0, none⟩ = some y ∧ ((w.alloc (.cells #[x] 3)).alloc (.cells #[y, z] 22)).cell? ⟨w.heap.size + 1, 1, none⟩ = some z ∧
    ((w.alloc (.cells #[x] 3)).alloc (.cells #[y, z] 22)).cell? ⟨w.heap.size, 0, none⟩ = some x ∧ Below w.heap.size w ((w.alloc (.cells #[x] 3)).alloc (.cells #[y, z] 22)) := by
  have h1 := (Row.new w 3 [x]).alloc (.cells #[y, z] 22)
  have h2 := Row.new (w.alloc (.cells #[x] 3)) 22 [y, z]
  rw [World.size_alloc] at h2
  exact ⟨h2.cell 0, h2.cell 1, h1.cell 0, ((Below.refl _ w).alloc (Nat.le_refl _) _).alloc (by rw [World.size_alloc]; omega) _⟩
set_option maxHeartbeats 4000000 in
theorem cover_any (l : List Nat) (hl : l.length ≤ 10) (hb : ∀ x ∈ l, x < 2 ^ 16) : ∀ (N i0 r : Nat) (v : Value) (w : World), l.length - i0 ≤ N → i0 ≤ l.length → r < 2 ^ 16 → IntsV w v (natI l) →
    Calls Try.prog 78 #[.int .i64 (r : Int), v, .int .i64 (i0 : Int)] w fun e w' => ∃ v', e = .returned (.tuple #[v', .bool (cv l i0 r).isSome]) ∧ IntsV w' v' (natI ((cv l i0 r).getD [])) ∧ (cv l i0 r = some [] → v' = .slice none 0 0) ∧ Below w.heap.size w w' := by
    intro N
    induction N using Nat.strongRecOn with | _ N ih =>
    intro i0 r v w hN hi hr h
    by_cases h0 : r = 0
    · subst h0
      rw [cv_zero]
      obtain ⟨ao, cap, rfl, _⟩ := h
      go_enter Try.func78, Try.ntmps78
      go_wp2
      go_ret2
      exact ⟨_, rfl, IntsV.nilW _, fun _ => rfl, Below.refl _ _⟩
    · have IH := Lib.hid (fun M (hM : M < N) i r v w a b c d => ih M hM i r v w a b c d)
      have H := Lib.hid h
      have hq : ((r : Int) == 0) = false := by rw [beq_eq_false_iff_ne]; omega
      obtain ⟨ao, cap, hv, _, hc⟩ := h
      rw [natI_len] at hv hc
      subst hv
      have HC := Lib.hid (fun (W : World) (hW : Below w.heap.size w W) i (hi : i < l.length) => show ∃ b off, ao = some ⟨b, off, none⟩ ∧ W.cell? ⟨b, off + i, none⟩ = some (.int .i64 ((l[i]?.getD 0 : Nat) : Int)) by
        obtain ⟨b, off, e, hd⟩ := hc (by omega)
        exact ⟨b, off, e, by rw [cell_later hW (hd i hi), natI_at]⟩)
      have HX := Lib.hid (fun i (hi : i < l.length) => show l[i]?.getD 0 < 2 ^ 16 by rw [List.getElem?_eq_getElem hi]; exact hb _ (List.getElem_mem hi))
      have HE := Lib.hid (cv_end (l := l) h0)
      have HS := Lib.hid (fun i hi => cv_skip (l := l) (i := i) hi h0)
      have HM := Lib.hid (fun i hi => cv_miss (l := l) (i := i) hi h0)
      have HH := Lib.hid (fun i p hi => cv_hit (l := l) (i := i) (p := p) hi h0)
      have HL := Lib.hid (fun i r p => cv_len (l := l) (i := i) (r := r) (p := p))
      clear hc hb ih
      generalize hLl : l.length = L at *
      clear hLl
      go_enter Try.func78, Try.ntmps78
      go_wp2_with fail
      go_loopw [8] (fun a wr => ∃ i : Nat, i0 ≤ i ∧ i ≤ L ∧ a = .int .i64 (i : Int) ∧ cv l i0 r = cv l i r ∧ Below w.heap.size w wr) (fun a _ => L - (intOf a).toNat)
      case atStart => exact ⟨i0, Nat.le_refl _, hi, rfl, rfl, Below.refl _ _⟩
      case round =>
        obtain ⟨i, hi1, hi2, rfl, hcv, hbw⟩ := hrel
        have HV := Lib.hid hcv
        have HBw := Lib.hid hbw
        by_cases hlt : i < L
        · obtain ⟨b, off, rfl, cj⟩ := HC.out _ hbw i hlt
          have hx := HX.out i hlt
          have HSi := Lib.hid (HS.out i hlt)
          have HMi := Lib.hid (HM.out i hlt)
          have HHi := Lib.hid (fun p => HH.out i p hlt)
          clear hcv hbw
          generalize l[i]?.getD 0 = x at *
          have e1 := andNot_nat x r (by omega) (by omega)
          have e2 := andNot_nat r x (by omega) (by omega)
          have hdl := dif_lt x hr
          obtain ⟨D, hD⟩ : ∃ D, dif x r = D := ⟨_, rfl⟩
          obtain ⟨R, hR⟩ : ∃ R, dif r x = R := ⟨_, rfl⟩
          rw [hD] at e1 HSi HMi HHi
          rw [hR] at e2 hdl HMi HHi
          clear hD hR
          by_cases hD0 : D = 0
          · subst hD0
            have IHi := Lib.hid (fun W hW => IH.out (N - 1) (by omega) (i + 1) R _ W (by omega) (by omega) hdl (H.out.later hW))
            have i1 : ((i + 1 : Nat) : Int) = (i : Int) + 1 := rfl
            rw [i1] at IHi
            go_wp2_with fail
            refine (IHi.out _ HBw.out).mono ?_
            rintro e w1 ⟨v1, rfl, j1, n1, b1⟩
            have B1 := Lib.hid (below_nx HBw.out b1)
            cases ho : cv l (i + 1) R with
            | none =>
              have HV2 := Lib.hid (HV.out.trans (HMi.out trivial ho))
              clear b1 j1 n1
              go_wp2
              go_roundw
              case rel => exact ⟨i + 1, by omega, by omega, by go_num, HV2.out, B1.out⟩
              case measure => simp only [intOf]; omega
            | some p =>
              have HV2 := Lib.hid (HV.out.trans (HHi.out p trivial ho))
              have hpl := HL.out _ _ _ ho
              rw [ho] at j1 n1
              have J1 := Lib.hid (show IntsV w1 v1 (natI p) from j1)
              by_cases hp : p = []
              · obtain rfl : v1 = .slice none 0 0 := n1 (by rw [hp])
                subst hp
                clear j1 n1 b1
                have HCo := Lib.hid (fun Z cap b k W c1 c2 c3 => Concat_nil (i : Int) Z cap b k W c1 c2 c3)
                go_wp2_with fail
                have HT := Lib.hid (two_cells w1 (.int .i64 (i : Int)) (.slice (some ⟨w1.heap.size, 0, none⟩) 1 1) (.slice none 0 0))
                refine (HCo.out _ _ w1.heap.size 1 _ HT.out.1 HT.out.2.1 HT.out.2.2.1).mono ?_
                rintro e w2 ⟨v2, rfl, j2, b2⟩
                have B2 := Lib.hid b2
                have J2 := Lib.hid j2
                clear b2 j2
                go_wp2
                go_ret2
                rw [HV2.out]
                exact ⟨_, rfl, J2.out, (fun h => by cases h), below_nx (below_nx B1.out HT.out.2.2.2) B2.out⟩
              · clear j1 n1 b1
                have hp0 : 0 < p.length := by cases p; exact absurd rfl hp; exact Nat.succ_pos _
                obtain ⟨a1, k1, hv1, _⟩ := J1.out
                subst hv1
                have HCo := Lib.hid (fun v2 v3 Z cap W h1 h2 c1 c2 => Concat_any [(i : Int)] (natI p) (by simp) (by rw [natI_len]; exact hp0) (by rw [natI_len]; simp; omega) v2 v3 Z cap W h1 h2 c1 c2)
                go_wp2_with fail
                have HT := Lib.hid (two_cells w1 (.int .i64 (i : Int)) (.slice (some ⟨w1.heap.size, 0, none⟩) 1 1) (.slice a1 (natI p).length k1))
                refine (HCo.out _ _ _ _ _ (show IntsV _ (.slice (some ⟨w1.heap.size, 0, none⟩) 1 1) [(i : Int)] from ⟨_, 1, rfl, Nat.le_refl _, fun _ => ⟨w1.heap.size, 0, rfl, fun j hj => by
                  obtain rfl : j = 0 := by simpa using hj
                  exact HT.out.2.2.1⟩⟩) (J1.out.later HT.out.2.2.2) HT.out.1 HT.out.2.1).mono ?_
                rintro e w2 ⟨v2, rfl, j2, b2⟩
                have B2 := Lib.hid b2
                have J2 := Lib.hid j2
                clear b2 j2
                go_wp2
                go_ret2
                rw [HV2.out]
                exact ⟨_, rfl, J2.out, (fun h => by cases h), below_nx (below_nx B1.out HT.out.2.2.2) B2.out⟩
          · have hq2 : ((D : Int) == 0) = false := by rw [beq_eq_false_iff_ne]; omega
            have HV2 := Lib.hid (HV.out.trans (HSi.out hD0))
            go_wp2
            go_roundw
            case rel => exact ⟨i + 1, by omega, by omega, by go_num, HV2.out, HBw.out⟩
            case measure => simp only [intOf]; omega
        · obtain rfl : i = L := by omega
          have HN := Lib.hid (HV.out.trans HE.out)
          clear hcv hbw
          go_wp2
          go_ret2
          rw [HN.out]
          exact ⟨_, rfl, IntsV.nilW _, (fun h => by cases h), HBw.out⟩
end Go.Proofs.Ytlmfmfbnbbooaaa

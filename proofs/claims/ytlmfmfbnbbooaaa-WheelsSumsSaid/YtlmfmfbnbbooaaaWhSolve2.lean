/-
  The reference's search of chords that make up a chord; the statement on Solve.
-/
import Derived.Test.YtlmfmfbnbbooaaaWhSolve
import Derived.Test.YtlmfmfbnbbooaaaWhChordsLaw
import Derived.Deep.RegionHeld3
import Derived.Deep.AppendLies
namespace Go.Proofs.Ytlmfmfbnbbooaaa
open Go.ChangeShapes Go.WideShapes Go.ChangeAt Go.RowKit
set_option linter.unusedVariables false
set_option maxRecDepth 100000

theorem nat_zero_iff {a : Nat} : a = 0 ↔ ∀ i, a.testBit i = false := ⟨fun h i => by rw [h, Nat.zero_testBit], fun h => Nat.eq_of_testBit_eq fun i => by rw [h i, Nat.zero_testBit]⟩
def sub (S T : Nat) : Prop := ∀ i, S.testBit i = true → T.testBit i = true
theorem dif_zero {T S : Nat} (h : sub S T) : dif T S = 0 ↔ S = T := by
  rw [nat_zero_iff]
  constructor
  · intro e
    apply Nat.eq_of_testBit_eq
    intro i
    have := e i
    rw [dif_bit] at this
    have := h i
    cases hs : S.testBit i <;> cases ht : T.testBit i <;> simp_all
  · rintro rfl i
    rw [dif_bit]; cases S.testBit i <;> rfl
theorem dif_dif (x T S : Nat) : dif x (dif T S) = 0 ↔ (x &&& S = 0 ∧ dif x T = 0) := by
  rw [nat_zero_iff, nat_zero_iff, nat_zero_iff]
  constructor
  · intro e
    refine ⟨fun i => ?_, fun i => ?_⟩
    · have := e i
      rw [dif_bit, dif_bit] at this
      rw [Nat.testBit_and]
      cases hx : x.testBit i <;> cases hs : S.testBit i <;> simp_all
    · have := e i
      rw [dif_bit, dif_bit] at this
      rw [dif_bit]
      cases hx : x.testBit i <;> cases ht : T.testBit i <;> simp_all
  · rintro ⟨e1, e2⟩ i
    have h1 := e1 i
    have h2 := e2 i
    rw [Nat.testBit_and] at h1
    rw [dif_bit] at h2
    rw [dif_bit, dif_bit]
    cases hx : x.testBit i <;> cases hs : S.testBit i <;> cases ht : T.testBit i <;> simp_all
theorem dif_or (T S x : Nat) : dif T (S ||| x) = dif (dif T S) x := by
  apply Nat.eq_of_testBit_eq
  intro i
  rw [dif_bit, dif_bit, dif_bit, Nat.testBit_or]
  cases T.testBit i <;> cases S.testBit i <;> cases x.testBit i <;> rfl
theorem sub_or {S T x : Nat} (h : sub S T) (hd : dif x T = 0) : sub (S ||| x) T := by
  intro i hi
  rw [Nat.testBit_or, Bool.or_eq_true] at hi
  rcases hi with hi | hi
  · exact h i hi
  · have := nat_zero_iff.1 hd i
    rw [dif_bit, hi] at this
    simpa using this
theorem sub_zero (T : Nat) : sub 0 T := fun i h => by rw [Nat.zero_testBit] at h; cases h
theorem dif_none (T : Nat) : dif T 0 = T := by
  apply Nat.eq_of_testBit_eq
  intro i
  rw [dif_bit, Nat.zero_testBit]; cases T.testBit i <;> rfl

theorem run_fullW (ao : Option Addr) (L cap : Nat) (h : L ≤ cap) (h0 : 0 < L → ∃ b o, ao = some ⟨b, o, none⟩) (W : World) : (Instr.slice 22 (.slice ao L cap) none (some (.int .i64 (L : Int))) (some (.int .i64 (L : Int)))).run Try.prog W = .ok (.slice ao L L) W := by
  rw [run_slice_hm (ht := slice_elem) (h0 := by omega) (h2 := by omega) (h3 := by omega), size_elem]
  unfold sliced
  by_cases e : L = 0
  · subst e; simp
  · obtain ⟨b, o, rfl⟩ := h0 (by omega)
    simp [e]
    rfl

/-- append that grows, at a step of a region that draws its order. -/
theorem step_append_grows {P : Program} (w : World) {ops : Array Oper} {o : Oper} {a : Act} {K : Act → World → Prop} {Q : Exit → Act → World → Prop} {E : Prop}
    (hg : o.guard = none) (s x : Operand) (t : TypeId) (hop : o.op = Op.call { callee := Callee.builtin Builtin.append, args := #[s, x], argTypes := #[t, t] })
    (e : TypeId) (i : TypeInfo) (z : Value) (size bytes : Nat) (h1 : P.underlying t = some (.slice e)) (h2 : P.info? e = some i) (h3 : i.zero = some z) (h4 : i.size = size) (h5 : i.bytes = bytes) (h6 : z.cells.size = size) (h7 : 0 < size)
    (ao : Option Addr) (n cap : Nat) (olds : List Value) (hs : a.eval s = .slice ao n cap) (hnone : ao = none → n = 0 ∧ cap = 0) (hlo : olds.length = n * size) (holds : ∀ b, ao = some b → ∀ j u, olds[j]? = some u → w.cell? (b.add j) = some u)
    (ad : Addr) (m c : Nat) (news : List Value) (hx : a.eval x = .slice (some ad) m c) (hn : news.length = m * size) (hc : ∀ j u, news[j]? = some u → w.cell? (ad.add j) = some u) (h1c : ∀ u ∈ news, u.oneCell' = true)
    (hfull : cap < n + m) (b1 : n + m ≤ maxLen) (b2 : (n + m) * bytes ≤ 140737488355328)
    (hK : ∀ v' w', w'.ownsRow w.heap.size e size v' (n + m) (olds ++ news) → w.grownBy w' none → K (a.put o.dst v') w') :
    if Region.wanted o (yielded ops a.tmps) = true then Oper.wp P o a w K Q else E := by
  have hw : Region.wanted o (yielded ops a.tmps) = true := by simp [Region.wanted, hg]
  rw [if_pos hw]
  cases ao with
  | some b =>
    obtain ⟨v', w', hrun, r1, r2⟩ := run_append_arg_grows (P := P) (w := w) t o.type e i z size bytes h1 h2 h3 h4 h5 h6 h7 b n cap olds hlo (holds b rfl) ad m c news hn hc hfull b1 b2
    unfold Oper.wp
    simp [execOp, hop, resolve, invoke, builtin, hs, hx, hrun, Result.andThen]
    exact hK v' w' r1 r2
  | none =>
    obtain ⟨rfl, rfl⟩ := hnone rfl
    obtain rfl : olds = [] := List.eq_nil_of_length_eq_zero (by simpa using hlo)
    obtain ⟨v', w', hrun, r1, r2, _⟩ := run_append_own (P := P) (w := w) w.heap.size t o.type e i z size bytes h1 h2 h3 h4 h5 h6 h7 (.slice none 0 0) 0 [] (World.ownsRow_nil w _ e size) ad m c news hn hc h1c b1 b2 (Nat.le_refl _)
    unfold Oper.wp
    simp [execOp, hop, resolve, invoke, builtin, hs, hx, hrun, Result.andThen]
    exact hK v' w' r1 r2

set_option maxHeartbeats 4000000 in
theorem rsolve_any (l : List Nat) (hl : l.length ≤ 10) (hb : ∀ x ∈ l, x < 2 ^ 16) (T : Nat) (hT : T < 2 ^ 16) : ∀ (N i0 S : Nat) (bs : List Nat) (v b : Value) (w : World), l.length - i0 ≤ N → i0 ≤ l.length → bs.length ≤ i0 → S < 2 ^ 16 → sub S T → IntsV w v (natI l) → IntsV w b (natI bs) →
    Calls Try.prog 79 #[.int .i64 (T : Int), .int .i64 (S : Int), v, .int .i64 (i0 : Int), b] w fun e w' => ∃ v', e = .returned (.tuple #[v', .bool (cv l i0 (dif T S)).isSome]) ∧ IntsV w' v' (natI (((cv l i0 (dif T S)).map (bs ++ ·)).getD [])) ∧ Below w.heap.size w w' := by
  intro N
  induction N using Nat.strongRecOn with | _ N ih =>
  intro i0 S bs v b w hN hi hbs hS hsub h k
  by_cases h0 : S = T
  · subst h0
    rw [(dif_zero hsub).2 rfl, cv_zero]
    have K := Lib.hid k
    obtain ⟨ao, cap, rfl, _⟩ := h
    obtain ⟨bo, cap', rfl, _⟩ := k
    go_enter Try.func79, Try.ntmps79
    go_wp2
    go_ret2
    refine ⟨_, rfl, ?_, Below.refl _ _⟩
    have := K.out
    simpa using this
  · have IH := Lib.hid (fun M (hM : M < N) i S bs v b w a1 a2 a3 a4 a5 a6 a7 => ih M hM i S bs v b w a1 a2 a3 a4 a5 a6 a7)
    have hr : dif T S ≠ 0 := fun e => h0 ((dif_zero hsub).1 e)
    have H := Lib.hid h
    have K := Lib.hid k
    have hq : ((S : Int) == (T : Int)) = false := by rw [beq_eq_false_iff_ne]; omega
    obtain ⟨i00, hif, hz0, hz1, hz2⟩ := info_parts info_intV
    obtain ⟨ao, cap, hv, _, hc⟩ := h
    obtain ⟨bo, cap', hu, hcap, hbc⟩ := k
    rw [natI_len] at hv hc hu hcap hbc
    subst hv hu
    have HC := Lib.hid (fun (W : World) (hW : Below w.heap.size w W) i (hi : i < l.length) => show ∃ b off, ao = some ⟨b, off, none⟩ ∧ W.cell? ⟨b, off + i, none⟩ = some (.int .i64 ((l[i]?.getD 0 : Nat) : Int)) by
      obtain ⟨b, off, e, hd⟩ := hc (by omega)
      exact ⟨b, off, e, by rw [cell_later hW (hd i hi), natI_at]⟩)
    have HX := Lib.hid (fun i (hi : i < l.length) => show l[i]?.getD 0 < 2 ^ 16 by rw [List.getElem?_eq_getElem hi]; exact hb _ (List.getElem_mem hi))
    have HE := Lib.hid (cv_end (l := l) hr)
    have HS := Lib.hid (fun i hi (hd : ¬ ((l[i]?.getD 0) &&& S = 0 ∧ dif (l[i]?.getD 0) T = 0)) => cv_skip (l := l) (i := i) hi hr (fun e => hd ((dif_dif _ _ _).1 e)))
    have HM := Lib.hid (fun i hi h1 h2 => cv_miss (l := l) (i := i) hi hr ((dif_dif _ _ _).2 ⟨h1, h2⟩))
    have HH := Lib.hid (fun i p hi h1 h2 => cv_hit (l := l) (i := i) (p := p) hi hr ((dif_dif _ _ _).2 ⟨h1, h2⟩))
    have HSu := Lib.hid (fun x hd => sub_or (x := x) hsub hd)
    have hbl : (ivals (natI bs)).length = bs.length := by unfold ivals; rw [List.length_map, natI_len]
    have HLn := Lib.hid hbl
    have HBc := Lib.hid (show ∀ W : World, Below w.heap.size w W → ∀ ad, bo = some ad → ∀ j u, (ivals (natI bs))[j]? = some u → W.cell? (ad.add j) = some u from fun W hW ad had j u hj => by
      have hjl : j < bs.length := by
        rw [List.getElem?_eq_some_iff] at hj
        obtain ⟨h1, _⟩ := hj
        rw [hbl] at h1; exact h1
      obtain ⟨bb, oo, e, hd⟩ := hbc (by omega)
      rw [had] at e
      cases e
      rw [add_addr]
      rw [cell_later hW (hd j hjl)]
      unfold ivals at hj
      rw [List.getElem?_map, List.getElem?_eq_getElem (by rw [natI_len]; exact hjl)] at hj
      rw [List.getElem?_eq_getElem (by rw [natI_len]; exact hjl)]
      exact hj)
    have HBn := Lib.hid (show bo = none → bs.length = 0 ∧ bs.length = 0 from fun e => by
      rcases Nat.eq_zero_or_pos bs.length with h0 | h0
      · exact ⟨h0, h0⟩
      · obtain ⟨bb, oo, e2, _⟩ := hbc h0; rw [e] at e2; cases e2)
    have HIa := Lib.hid (fun (x : Nat) (v : Value) (W : World) lo (ho : W.ownsRow lo 3 1 v (bs.length + 1) (ivals (natI bs) ++ [.int .i64 (x : Int)])) => show IntsV W v (natI (bs ++ [x])) from IntsV.of_own (lo := lo) (by rw [natI_len, List.length_append]; unfold natI; rw [List.map_append, List.map_append]; exact ho))
    have hfl := fun W => run_fullW bo bs.length cap' hcap (fun h0 => by obtain ⟨bb, oo, e, _⟩ := hbc h0; exact ⟨bb, oo, e⟩) W
    have HLb := Lib.hid (fun x : Nat => show (bs ++ [x]).length = bs.length + 1 by simp)
    have HAp := Lib.hid (fun (x : Nat) (p : List Nat) => show (bs ++ [x]) ++ p = bs ++ (x :: p) by simp)
    clear hc hb ih hr hbc hbl
    generalize hLl : l.length = L at *
    generalize hLb : bs.length = B at *
    clear hLl hLb
    generalize hDd : dif T S = DD at *
    go_enter Try.func79, Try.ntmps79
    go_wp2_with fail
    go_loopw [12] (fun a wr => ∃ i : Nat, i0 ≤ i ∧ i ≤ L ∧ a = .int .i64 (i : Int) ∧ cv l i0 DD = cv l i DD ∧ Below w.heap.size w wr) (fun a _ => L - (intOf a).toNat)
    case atStart => exact ⟨i0, Nat.le_refl _, hi, rfl, rfl, Below.refl _ _⟩
    case round =>
      obtain ⟨i, hi1, hi2, rfl, hcv, hbw⟩ := hrel
      have HV := Lib.hid hcv
      have HBw := Lib.hid hbw
      by_cases hlt : i < L
      · obtain ⟨b, off, rfl, cj⟩ := HC.out _ hbw i hlt
        have hx := HX.out i hlt
        have HSi := Lib.hid (HS.out i hlt)
        have HMi := Lib.hid (HM.out i hlt)
        have HHi := Lib.hid (fun p => HH.out i p hlt)
        clear hcv hbw
        generalize l[i]?.getD 0 = x at *
        have e1 := and_nat x S (by omega) (by omega)
        have e2 := andNot_nat x T (by omega) (by omega)
        have HO := Lib.hid (or_nat S x (by omega) (by omega))
        have hol : S ||| x < 2 ^ 16 := Nat.or_lt_two_pow hS hx
        obtain ⟨D, hD⟩ : ∃ D, x &&& S = D := ⟨_, rfl⟩
        obtain ⟨E, hE⟩ : ∃ E, dif x T = E := ⟨_, rfl⟩
        rw [hD] at e1 HSi HMi HHi
        rw [hE] at e2 HSi HMi HHi
        by_cases hD0 : D = 0
        · by_cases hE0 : E = 0
          · have HSn := Lib.hid (HSu.out x (hE.trans hE0))
            have hdo := dif_or T S x
            rw [hDd] at hdo
            rw [← hdo] at HMi HHi
            obtain ⟨X, hX⟩ : ∃ X, S ||| x = X := ⟨_, rfl⟩
            rw [hX] at HO hol HSn HMi HHi
            clear hD hE hdo hX
            subst hD0 hE0
            have eo := HO.out
            have i1 : ((i + 1 : Nat) : Int) = (i : Int) + 1 := rfl
            have IHi := Lib.hid (fun g W h6 h7 => IH.out (N - 1) (by omega) (i + 1) X (bs ++ [i]) _ g W (by omega) (by omega) (by rw [HLb.out]; omega) hol HSn.out (H.out.later h6) h7)
            rw [i1] at IHi
            have c0 : (0 : Int) ≤ (i : Int) := by omega
            have c1 : (i : Int) < (L : Int) := by omega
            have hwi : IntKind.i64.wrap ((i : Int) + 1) = (i : Int) + 1 := IntWalk.i64_in _ (by omega)
            have HSt := Lib.hid (fun W (hW : Below wr.heap.size wr W) => show W.cell? ⟨b, off + i, none⟩ = some (.int .i64 (x : Int)) ∧ Below wr.heap.size wr W from ⟨cell_later hW cj, hW⟩)
            have HB0 := Lib.hid (Below.refl wr.heap.size wr)
            go_wp2_with fail
            go_region_held3 (fun w' => w'.cell? ⟨b, off + i, none⟩ = some (.int .i64 (x : Int)) ∧ Below wr.heap.size wr w') (first | exact HSt.out _ HB0.out.drew | assumption | exact HSt.out _ ((HB0.out.alloc (Nat.le_refl _) _).drew) | exact HSt.out _ (by assumption)) ((first | (go_at_call 79; refine (IHi.out _ _ (below_nx HBw.out hB4) (HIa.out _ _ _ _ hown)).mono ?_; rintro e w1 ⟨v1, rfl, j1, b1⟩; have hB1 := below_nx hB4 b1) | (refine step_append_grows _ (by rfl) (.tmp 58) (.tmp 60) 22 (by rfl) 3 i00 (.int .i64 0) 1 8 Try.underlying22 hif hz0 hz1 hz2 rfl (by decide) bo B B (ivals (natI bs)) (by rfl) HBn.out (by rw [HLn.out, Nat.mul_one]) (HBc.out _ ((HBw.out.alloc HBw.out.size _).drew)) ⟨wr.heap.size, 0, none⟩ 1 1 [.int .i64 (i : Int)] (by rfl) rfl (fun j u h => cell_one_new wr _ _ j u h) (by simp [Value.oneCell']) (by omega) (by unfold maxLen; omega) (by omega) ?_; intro v' w4 hown hgrow; have hB4 : Below wr.heap.size wr w4 := ((HB0.out.alloc (Nat.le_refl _) _).drew).grown hgrow (by simp) (fun k e => by cases e))))
            have B1 := Lib.hid (below_nx HBw.out hB1)
            cases ho : cv l (i + 1) (dif T X) with
            | none =>
              have HV2 := Lib.hid (HV.out.trans (HMi.out trivial trivial ho))
              clear b1 j1
              go_wp2
              go_roundw
              case rel => exact ⟨i + 1, by omega, by omega, by go_num, HV2.out, B1.out⟩
              case measure => simp only [intOf]; omega
            | some p =>
              have HV2 := Lib.hid (HV.out.trans (HHi.out p trivial trivial ho))
              rw [ho] at j1
              have J1 := Lib.hid (show IntsV w1 v1 (natI (bs ++ [i] ++ p)) from j1)
              rw [HAp.out] at J1
              clear j1 b1
              go_wp2
              go_ret2
              rw [HV2.out]
              exact ⟨_, rfl, J1.out, B1.out⟩
          · have hq2 : ((E : Int) == 0) = false := by rw [beq_eq_false_iff_ne]; omega
            have HV2 := Lib.hid (HV.out.trans (HSi.out (fun h => hE0 h.2)))
            subst hD0
            clear hD
            go_wp2
            go_roundw
            case rel => exact ⟨i + 1, by omega, by omega, by go_num, HV2.out, HBw.out⟩
            case measure => simp only [intOf]; omega
        · have hq2 : ((D : Int) == 0) = false := by rw [beq_eq_false_iff_ne]; omega
          have HV2 := Lib.hid (HV.out.trans (HSi.out (fun h => hD0 h.1)))
          go_wp2
          go_roundw
          case rel => exact ⟨i + 1, by omega, by omega, by go_num, HV2.out, HBw.out⟩
          case measure => simp only [intOf]; omega
      · obtain rfl : i = L := by omega
        have HN := Lib.hid (HV.out.trans HE.out)
        clear hcv hbw
        go_wp2
        go_ret2
        rw [HN.out]
        exact ⟨_, rfl, IntsV.nilW _, HBw.out⟩
theorem RSolve_any (l : List Nat) (hl : l.length ≤ 10) (hb : ∀ x ∈ l, x < 2 ^ 16) (n : Int) (T : Nat) (hT : T < 2 ^ 16) (v : Value) (w : World) (h : IntsV w v (natI l)) :
    Calls Try.prog 27 #[.int .i64 n, .int .i64 (T : Int), v] w fun e w' => ∃ v', e = .returned (.tuple #[v', .int .i64 (if (cv l 0 T).isSome then 0 else 4)]) ∧ IntsV w' v' (natI ((cv l 0 T).getD [])) ∧ Below w.heap.size w w' := by
  have HR := Lib.hid (rsolve_any l hl hb T hT l.length 0 0 [] v (.slice none 0 0) w (by omega) (by omega) (Nat.le_refl _) (by omega) (sub_zero T) h (IntsV.nilW w))
  rw [dif_none] at HR
  obtain ⟨ao, cap, rfl, _⟩ := h
  cases ho : cv l 0 T with
  | none =>
    rw [ho] at HR
    go_enter Try.func27, Try.ntmps27
    go_wp2_with fail
    refine HR.out.mono ?_
    rintro e w1 ⟨v1, rfl, j1, b1⟩
    have B1 := Lib.hid b1
    clear j1 b1
    go_wp2
    go_ret2
    exact ⟨_, rfl, IntsV.nilW _, B1.out⟩
  | some p =>
    rw [ho] at HR
    go_enter Try.func27, Try.ntmps27
    go_wp2_with fail
    refine HR.out.mono ?_
    rintro e w1 ⟨v1, rfl, j1, b1⟩
    have B1 := Lib.hid b1
    have J1 := Lib.hid (show IntsV w1 v1 (natI ([] ++ p)) from j1)
    clear j1 b1
    go_wp2
    go_ret2
    exact ⟨_, rfl, J1.out, B1.out⟩
end Go.Proofs.Ytlmfmfbnbbooaaa

/-
  The reference's tones in rising order.
-/
import Derived.Test.YtkpiakoijkflmaaVoFns
import Derived.Test.YtkpiakoijkflmaaAppAny
namespace Go.Proofs.Ytkpiakoijkflmaa
open Go.ChangeShapes Go.WideShapes Go.ChangeAt Go.RowKit
set_option maxRecDepth 100000

theorem insT_at (x : Nat) : ∀ (l : List Nat) (p : Nat), p ≤ l.length → (∀ q, q < p → l[q]?.getD 0 ≤ x) → (p < l.length → x < l[p]?.getD 0) → insT x l = l.take p ++ x :: l.drop p
  | [], 0, _, _, _ => rfl
  | [], p + 1, h, _, _ => by simp at h
  | y :: l, 0, _, _, h => by
    have := h (by simp)
    unfold insT
    rw [if_neg (by simpa using this)]; rfl
  | y :: l, p + 1, h1, h2, h3 => by
    unfold insT
    rw [if_pos (by simpa using h2 0 (by omega))]
    rw [insT_at x l p (by simpa using h1) (fun q hq => by simpa using h2 (q + 1) (by omega)) (fun h => by simpa using h3 (by simpa using h))]
    rfl
theorem riseT_length (l : List Nat) : (riseT l).length = l.length := (riseT_perm l).length_eq
theorem riseT_take {us : List Nat} {j : Nat} (h : j < us.length) : riseT (us.take (j + 1)) = insT (us[j]?.getD 0) (riseT (us.take j)) := by
  rw [List.take_succ_eq_append_getElem h, riseT_snoc, List.getElem?_eq_getElem h]; rfl
theorem ivals_at {xs : List Int} {q : Nat} {u : Value} (h : (ivals xs)[q]? = some u) : q < xs.length ∧ u = .int .i64 (xs[q]?.getD 0) := by
  unfold ivals at h
  have hq := (List.getElem?_eq_some_iff.1 h).1
  rw [List.length_map] at hq
  refine ⟨hq, ?_⟩
  rw [List.getElem?_map, List.getElem?_eq_getElem hq] at h
  rw [List.getElem?_eq_getElem hq]
  simpa using h.symm
theorem IntsV.cells {W : World} {ao : Option Addr} {n c : Nat} {xs : List Int} (h : IntsV W (.slice ao n c) xs) : ∀ ad, ao = some ad → ∀ j u, (ivals xs)[j]? = some u → W.cell? (ad.add j) = some u := by
  rintro ad rfl j u hu
  obtain ⟨hq, rfl⟩ := ivals_at hu
  obtain ⟨ao', cap', e, _, hc⟩ := h
  cases e
  obtain ⟨b, off, e, hd⟩ := hc (by omega)
  cases e
  rw [add_addr]
  exact hd j hq
theorem IntsV.nonil {W : World} {ao : Option Addr} {n c : Nat} {xs : List Int} (h : IntsV W (.slice ao n c) xs) : ao = none → n = 0 := by
  rintro rfl
  obtain ⟨ao', cap', e, _, hc⟩ := h
  cases e
  by_cases h0 : 0 < xs.length
  · obtain ⟨b, off, e, _⟩ := hc h0; cases e
  · omega
theorem ivals_one (xs : List Int) : ∀ u ∈ ivals xs, u.oneCell' = true := fun u h => by
  obtain ⟨z, _, rfl⟩ := List.mem_map.1 h; rfl
theorem ivals_len (xs : List Int) : (ivals xs).length = xs.length * 1 := by simp [ivals]
theorem natI_append (l m : List Nat) : natI (l ++ m) = natI l ++ natI m := by simp [natI]
theorem natI_take (l : List Nat) (i : Nat) : natI (l.take i) = (natI l).take i := by simp [natI, List.map_take]
theorem natI_drop (l : List Nat) (i : Nat) : natI (l.drop i) = (natI l).drop i := by simp [natI, List.map_drop]

theorem ints_at_form {W : World} {p : Option Addr} {n c : Nat} {ys : List Nat} (h : IntsV W (.slice p n c) (natI ys)) (q : Nat) (hq : q < ys.length) : ∃ b2 o2, p = some ⟨b2, o2, none⟩ ∧ W.cell? ⟨b2, o2 + q, none⟩ = some (.int .i64 ((ys[q]?.getD 0 : Nat) : Int)) := by
  obtain ⟨p', c', e, _, hd⟩ := h
  rw [natI_length] at hd
  obtain ⟨b2, o2, e2, hd2⟩ := hd (by omega)
  cases e2
  rw [Value.slice.injEq] at e
  exact ⟨b2, o2, e.1, (hd2 q hq).trans (by rw [natI_at])⟩
theorem made_row (W : World) (H : Nat) (hH : H ≤ W.heap.size) : (W.alloc (.cells #[] 3)).ownsRow H 3 1 (.slice (some ⟨W.heap.size, 0, none⟩) 0 0) 0 [] :=
  World.ownsRow_made (base := H) (e := 3) (size := 1) W #[] 0 hH (Nat.zero_le _) rfl
theorem new_one (W : World) (x : Value) : ∀ j u, [x][j]? = some u → (W.alloc (.cells #[x] 3)).cell? ((⟨W.heap.size, 0, none⟩ : Addr).add j) = some u := fun j u hu => by
  rw [add_addr, Nat.zero_add, (Row.new W 3 [x]).cell j]; exact hu
theorem kept_one {W W2 : World} {k : Nat} {x : Value} {g : Option Nat} (hr : ∀ j u, [x][j]? = some u → W.cell? ((⟨k, 0, none⟩ : Addr).add j) = some u) (hg : W.grownBy W2 g) (hk : k < W.heap.size) (hne : some k ≠ g) : ∀ j u, [x][j]? = some u → W2.cell? ((⟨k, 0, none⟩ : Addr).add j) = some u := fun j u hu => by
  rw [add_addr] at *
  have := hr j u hu
  rw [add_addr] at this
  exact (World.cell?_of_block (w := W) (a := ⟨k, 0 + j, none⟩) (hg.block k hk hne)).trans this

set_option maxHeartbeats 2000000 in
theorem RRising_any (us : List Nat) (hl : us.length ≤ 100) (hb : ∀ x ∈ us, x < 100) (v : Value) (w : World) (h : IntsV w v (natI us)) :
    Calls Try.prog 40 #[v] w fun e w' => ∃ v', e = .returned v' ∧ IntsV w' v' (natI (riseT us)) ∧ Below w.heap.size w w' := by
  have hmx : Try.prog.follows .mixedOrders = true := by kernel_rfl
  obtain ⟨i0, hi, hz0, hz1, hz2⟩ := info_parts info_intV
  have H := Lib.hid h
  obtain ⟨ao, cap, rfl, hlc, hc⟩ := h
  simp only [natI_length] at *
  have HC := Lib.hid (fun (j : Nat) (hj : j < us.length) W (hW : Below w.heap.size w W) => show ∃ b off, ao = some ⟨b, off, none⟩ ∧ W.cell? ⟨b, off + j, none⟩ = some (.int .i64 ((us[j]?.getD 0 : Nat) : Int)) from by
    obtain ⟨b, off, e, hd⟩ := hc (by omega)
    exact ⟨b, off, e, cell_later hW ((hd j hj).trans (by rw [natI_at]))⟩)
  have HT := Lib.hid (fun j hj => riseT_take (us := us) (j := j) hj)
  have HB := Lib.hid (fun (j : Nat) => getD_lt hb (by omega) j)
  have HL := Lib.hid (fun j (hj : j ≤ us.length) => show (riseT (us.take j)).length = j by rw [riseT_length, List.length_take]; omega)
  have HR := Lib.hid (show riseT (us.take us.length) = riseT us by rw [List.take_length])
  have HY := Lib.hid (fun j i => show (riseT (us.take j))[i]?.getD 0 < 100 from getD_lt (fun y hy => hb y (List.mem_of_mem_take ((riseT_perm _).mem_iff.1 hy))) (by omega) i)
  clear hc hb H
  generalize us.length = m at *
  obtain ⟨H, hH⟩ : ∃ H, w.heap.size = H := ⟨_, rfl⟩
  rw [hH] at HC
  rw [hH]
  have HH := Lib.hid hH
  clear hH
  go_enter Try.func40, Try.ntmps40
  go_wp2
  go_loopw [3, 9] (fun o i wr => ∃ (j : Nat), j ≤ m ∧ i = .int .i64 j ∧ IntsV wr o (natI (riseT (us.take j))) ∧ Below H w wr) (fun _ i _ => m - (intOf i).toNat)
  case atStart => exact ⟨0, Nat.zero_le _, rfl, ⟨none, 0, rfl, Nat.le_refl _, fun h => by simp [riseT, natI] at h⟩, by rw [← HH.out]; exact Below.refl _ _⟩
  case round =>
    obtain ⟨j, hj, rfl, hi', hb⟩ := hrel
    have HI := Lib.hid hi'
    have HBw := Lib.hid hb
    have hll := HL.out j hj
    have HTj := Lib.hid (HT.out j)
    obtain ⟨p, c, rfl, hpc, _⟩ := hi'
    clear hb
    by_cases hlk : j < m
    · obtain ⟨b, off, rfl, cj⟩ := HC.out j hlk wr HBw.out
      have hx := HB.out j
      have HTj := Lib.hid (HTj.out hlk)
      have HYj := Lib.hid (HY.out j)
      generalize us[j]?.getD 0 = x at cj hx HTj
      generalize riseT (us.take j) = ys at *
      simp only [natI_length] at *
      subst hll
      go_wp2_with fail
      go_loopw [6] (fun i wq => ∃ (q : Nat), q ≤ ys.length ∧ i = .int .i64 q ∧ (∀ r, r < q → ys[r]?.getD 0 ≤ x) ∧ wr = wq) (fun i _ => ys.length - (intOf i).toNat)
      case atStart => exact ⟨0, Nat.zero_le _, rfl, fun r h => by omega, rfl⟩
      case round =>
        obtain ⟨q, hq, rfl, hpre, rfl⟩ := hrel
        have HPq := Lib.hid hpre
        clear hpre
        have fin : ∀ _ : (q < ys.length → x < ys[q]?.getD 0), True := fun _ => trivial
        by_cases hql : q < ys.length
        · have hcell : ∃ b2 o2, p = some ⟨b2, o2, none⟩ ∧ wr.cell? ⟨b2, o2 + q, none⟩ = some (.int .i64 ((ys[q]?.getD 0 : Nat) : Int)) := by
            exact ints_at_form HI.out q hql
          obtain ⟨b2, o2, rfl, cq⟩ := hcell
          have hy := HYj.out q
          by_cases hle : ys[q]?.getD 0 ≤ x
          · have HN := Lib.hid (show ∀ r, r < q + 1 → ys[r]?.getD 0 ≤ x from fun r hr => by
              by_cases e : r = q
              · rw [e]; exact hle
              · exact HPq.out r (by omega))
            generalize ys[q]?.getD 0 = y at cq hy hle
            go_wp2
            go_roundw
            case rel => exact ⟨q + 1, by omega, by go_num, HN.out, trivial⟩
            case measure => simp only [intOf]; omega
          · have HIns := Lib.hid (insT_at x ys q hq HPq.out (fun _ => by omega))
            generalize ys[q]?.getD 0 = y at cq hy hle
            have HFin := Lib.hid (fun B' W v n (h : W.ownsRow B' 3 1 v n ((([] ++ ivals ((natI ys).take q)) ++ [.int .i64 (x : Int)]) ++ ivals ((natI ys).drop q))) => show IntsV W v (natI (riseT (us.take (ys.length + 1)))) by
              rw [HTj.out, HIns.out, natI_append]
              refine IntsV.of_vals (lo := B') (n := n) ?_
              have e : ((([] ++ ivals ((natI ys).take q)) ++ [.int .i64 (x : Int)]) ++ ivals ((natI ys).drop q)) = ivals (natI (ys.take q) ++ natI (x :: ys.drop q)) := by
                simp [ivals, natI, List.map_drop, List.map_take]
              rw [← e]; exact h)
            have hU := HI.out.upto q hq
            have hF := HI.out.from q hq
            have hr1 := run_upto (some ⟨b2, o2, none⟩) ys.length c (q : Int) (by omega) (by omega)
            have hr2 := run_from (some ⟨b2, o2, none⟩) ys.length c (q : Int) (by omega) (by omega)
            rw [Int.toNat_natCast] at hr1 hr2
            have hU' := hU
            have hF' := hF
            obtain ⟨A1, C1, e1, _, _⟩ := hU'
            obtain ⟨A2, C2, e2, _, _⟩ := hF'
            have n1 : ((natI ys).take q).length = q := by rw [List.length_take, natI_length]; omega
            have n2 : ((natI ys).drop q).length = ys.length - q := by rw [List.length_drop, natI_length]
            rw [n1] at e1
            rw [n2] at e2
            rw [e1] at hU hr1
            rw [e2] at hF hr2
            have HU := Lib.hid hU
            have HF := Lib.hid hF
            have HL1 := Lib.hid (show (ivals ((natI ys).take q)).length = q * 1 by rw [ivals_len, n1])
            have HL2 := Lib.hid (show (ivals ((natI ys).drop q)).length = (ys.length - q) * 1 by rw [ivals_len, n2])
            clear hU hF e1 e2 n1 n2
            have hBs := HBw.out.size
            have hHs : H ≤ wr.heap.size := by have := HH.out; omega
            obtain ⟨B, hB⟩ : ∃ B, wr.heap.size = B := ⟨_, rfl⟩
            have HBB := Lib.hid hB
            have HS0 := Lib.hid (show Below B wr wr from Below.refl _ _)
            have hB1 : B ≤ wr.heap.size := Nat.le_of_eq hB.symm
            have hB2 : wr.heap.size ≤ B := Nat.le_of_eq hB
            clear hB
            go_wp2_with fail
            have HA0 := Lib.hid (HBw.out.alloc hHs (.cells #[] 3))
            have HA1 := Lib.hid (HBw.out.alloc hHs (.cells #[.int .i64 (x : Int)] 3))
            have HC0 := Lib.hid (HS0.out.alloc (Nat.le_of_eq HBB.out.symm) (.cells #[] 3))
            have HC1 := Lib.hid (HS0.out.alloc (Nat.le_of_eq HBB.out.symm) (.cells #[.int .i64 (x : Int)] 3))
            have HHB : H ≤ B := by rw [← HBB.out]; exact hHs
            have HM2 := Lib.hid (show (((wr.drew.alloc (.cells #[.int .i64 (x : Int)] 3)).alloc (.cells #[] 3))).ownsRow B 3 1 (.slice (some ⟨wr.heap.size + 1, 0, none⟩) 0 0) 0 [] by
              have := made_row (wr.drew.alloc (.cells #[.int .i64 (x : Int)] 3)) B (by rw [World.size_alloc]; exact Nat.le_succ_of_le hB1)
              rw [World.size_alloc] at this
              exact this)
            have HX1 := Lib.hid (show ∀ j u, [Value.int .i64 (x : Int)][j]? = some u → (((wr.drew.alloc (.cells #[] 3)).alloc (.cells #[.int .i64 (x : Int)] 3))).cell? ((⟨wr.heap.size + 1, 0, none⟩ : Addr).add j) = some u by
              have := new_one (wr.drew.alloc (.cells #[] 3)) (.int .i64 (x : Int))
              rw [World.size_alloc] at this
              exact this)
            have HX2 := Lib.hid (show ∀ j u, [Value.int .i64 (x : Int)][j]? = some u → (((wr.drew.alloc (.cells #[.int .i64 (x : Int)] 3)).alloc (.cells #[] 3))).cell? ((⟨wr.heap.size, 0, none⟩ : Addr).add j) = some u from fun j u hu => by
              have := new_one wr.drew (.int .i64 (x : Int)) j u hu
              rw [add_addr] at this ⊢
              exact cell_later ((Below.refl _ _).alloc (Nat.le_refl _) _) this)
            go_region_held3 (fun w' => Below H w w' ∧ Below B wr w') (first | assumption | exact ⟨HBw.out.drew, HS0.out.drew⟩ | exact ⟨HA0.out.drew, HC0.out.drew⟩ | exact ⟨HA1.out.drew, HC1.out.drew⟩ | exact ⟨(HA0.out.alloc (by rw [World.size_alloc, HBB.out]; omega) _).drew, (HC0.out.alloc (by rw [World.size_alloc, HBB.out]; omega) _).drew⟩ | exact ⟨(HA1.out.alloc (by rw [World.size_alloc, HBB.out]; omega) _).drew, (HC1.out.alloc (by rw [World.size_alloc, HBB.out]; omega) _).drew⟩ | exact ⟨hb2, hc2⟩ | exact ⟨hb3, hc3⟩ | exact ⟨hb4, hc4⟩ | exact ⟨hb2.alloc (by omega) _, hc2.alloc (by omega) _⟩)
              ((first
                | (refine step_append_any (by rfl) _ _ 22 (by rfl) B 3 i0 (.int .i64 0) 1 8 Try.underlying22 hi hz0 hz1 hz2 rfl (by decide) _ 0 [] (by rfl) (by first | exact made_row wr.drew B hB1 | exact (made_row wr.drew B hB1).alloc _ | exact HM2.out) A1 q C1 (ivals ((natI ys).take q)) (by rfl) HL1.out HU.out.nonil (fun ad e j u hu => IntsV.cells (HU.out.later (by rw [HBB.out]; first | exact HC0.out.drew | exact (HC0.out.alloc (by rw [World.size_alloc, HBB.out]; omega) _).drew | exact (HC1.out.alloc (by rw [World.size_alloc, HBB.out]; omega) _).drew)) ad e j u hu) (ivals_one _) (by unfold maxLen; omega) (by omega) (by first | omega | (simp; omega)) ?_; intro v1 w2 hown1 hgrow1; have hs2 : B < w2.heap.size := (by have := hgrow1.size; simp at this; have := HBB.out; omega); have hw2 : B < w2.heap.size := hs2; have hb2 : Below H w w2 := (by first | exact (HA0.out.drew).grown hgrow1 (by first | omega | (simp; omega)) (fun q e => by first | (have e' : some wr.heap.size = some q := e; injection e' with e'; omega) | (have e' : some (wr.heap.size + 1) = some q := e; injection e' with e'; omega)) | exact ((HA0.out.alloc (by rw [World.size_alloc, HBB.out]; omega) _).drew).grown hgrow1 (by first | omega | (simp; omega)) (fun q e => by first | (have e' : some wr.heap.size = some q := e; injection e' with e'; omega) | (have e' : some (wr.heap.size + 1) = some q := e; injection e' with e'; omega)) | exact ((HA1.out.alloc (by rw [World.size_alloc, HBB.out]; omega) _).drew).grown hgrow1 (by first | omega | (simp; omega)) (fun q e => by first | (have e' : some wr.heap.size = some q := e; injection e' with e'; omega) | (have e' : some (wr.heap.size + 1) = some q := e; injection e' with e'; omega))); have hc2 : Below B wr w2 := (by first | exact (HC0.out.drew).grown hgrow1 (by first | omega | (simp; omega)) (fun q e => by first | (have e' : some wr.heap.size = some q := e; injection e' with e'; omega) | (have e' : some (wr.heap.size + 1) = some q := e; injection e' with e'; omega)) | exact ((HC0.out.alloc (by rw [World.size_alloc, HBB.out]; omega) _).drew).grown hgrow1 (by first | omega | (simp; omega)) (fun q e => by first | (have e' : some wr.heap.size = some q := e; injection e' with e'; omega) | (have e' : some (wr.heap.size + 1) = some q := e; injection e' with e'; omega)) | exact ((HC1.out.alloc (by rw [World.size_alloc, HBB.out]; omega) _).drew).grown hgrow1 (by first | omega | (simp; omega)) (fun q e => by first | (have e' : some wr.heap.size = some q := e; injection e' with e'; omega) | (have e' : some (wr.heap.size + 1) = some q := e; injection e' with e'; omega))))
                | (refine step_append_any (by rfl) _ _ 22 (by rfl) B 3 i0 (.int .i64 0) 1 8 Try.underlying22 hi hz0 hz1 hz2 rfl (by decide) _ (0 + q + 1) (([] ++ ivals ((natI ys).take q)) ++ [.int .i64 (x : Int)]) (by rfl) hown2 A2 (ys.length - q) C2 (ivals ((natI ys).drop q)) (by rfl) HL2.out HF.out.nonil (fun ad e j u hu => IntsV.cells (HF.out.later (by rw [HBB.out]; exact hc3)) ad e j u hu) (ivals_one _) (by unfold maxLen; omega) (by omega) (by omega) ?_; intro v3 w4 hown3 hgrow3; have hb4 : Below H w w4 := hb3.grown hgrow3 (by omega) (fun q e => Nat.le_trans HHB (hown2.lt q e).1); have hc4 : Below B wr w4 := hc3.grown hgrow3 (by omega) (fun q e => (hown2.lt q e).1))
                | (refine step_append_any (by rfl) _ _ 22 (by rfl) B 3 i0 (.int .i64 0) 1 8 Try.underlying22 hi hz0 hz1 hz2 rfl (by decide) _ (0 + q) ([] ++ ivals ((natI ys).take q)) (by rfl) (by first | exact hown1.alloc _ | exact hown1) _ 1 1 [.int .i64 (x : Int)] (by rfl) rfl (fun e => by cases e) (fun ad e => by cases e; first | exact new_one w2 _ | exact kept_one HX1.out hgrow1 (by simp <;> omega) (fun e => by first | (have e' : some (wr.heap.size + 1) = some wr.heap.size := e; injection e' with e'; omega) | (have e' : some wr.heap.size = some (wr.heap.size + 1) := e; injection e' with e'; omega)) | exact kept_one HX2.out hgrow1 (by simp <;> omega) (fun e => by first | (have e' : some (wr.heap.size + 1) = some wr.heap.size := e; injection e' with e'; omega) | (have e' : some wr.heap.size = some (wr.heap.size + 1) := e; injection e' with e'; omega))) (by simp [Value.oneCell']) (by unfold maxLen; omega) (by omega) (by first | omega | (simp; omega)) ?_; intro v2 w3 hown2 hgrow2; have hs3 : w2.heap.size ≤ w3.heap.size := (by have := hgrow2.size; first | omega | (simp at this; omega)); have hb3 : Below H w w3 := (by first | exact (hb2.alloc (by omega) _).grown hgrow2 (by first | omega | (simp; omega)) (fun q e => Nat.le_trans HHB (hown1.lt q e).1) | exact hb2.grown hgrow2 (by omega) (fun q e => Nat.le_trans HHB (hown1.lt q e).1)); have hc3 : Below B wr w3 := (by first | exact (hc2.alloc (by omega) _).grown hgrow2 (by first | omega | (simp; omega)) (fun q e => (hown1.lt q e).1) | exact hc2.grown hgrow2 (by omega) (fun q e => (hown1.lt q e).1)))))
            all_goals
              have HF4 := Lib.hid (HFin.out _ _ _ _ hown3)
              have HB4 := Lib.hid hb4
              clear hown1 hown2 hown3 hgrow1 hgrow2 hgrow3 hb2 hb3 hb4 hc2 hc3 hc4
              go_wp2
              go_roundw
              case rel => exact ⟨ys.length + 1, by omega, by go_num, HF4.out, HB4.out⟩
              case measure => simp only [intOf]; omega
        · have HIns := Lib.hid (insT_at x ys q hq HPq.out (fun h => absurd h hql))
          have hqe : (ys.length : Int) ≤ q := by omega
          have HFin := Lib.hid (fun B' W v n (h : W.ownsRow B' 3 1 v n ((([] ++ ivals ((natI ys).take q)) ++ [.int .i64 (x : Int)]) ++ ivals ((natI ys).drop q))) => show IntsV W v (natI (riseT (us.take (ys.length + 1)))) by
            rw [HTj.out, HIns.out, natI_append]
            refine IntsV.of_vals (lo := B') (n := n) ?_
            have e : ((([] ++ ivals ((natI ys).take q)) ++ [.int .i64 (x : Int)]) ++ ivals ((natI ys).drop q)) = ivals (natI (ys.take q) ++ natI (x :: ys.drop q)) := by
              simp [ivals, natI, List.map_drop, List.map_take]
            rw [← e]; exact h)
          have hU := HI.out.upto q hq
          have hF := HI.out.from q hq
          have hr1 := run_upto p ys.length c (q : Int) (by omega) (by omega)
          have hr2 := run_from p ys.length c (q : Int) (by omega) (by omega)
          rw [Int.toNat_natCast] at hr1 hr2
          have hU' := hU
          have hF' := hF
          obtain ⟨A1, C1, e1, _, _⟩ := hU'
          obtain ⟨A2, C2, e2, _, _⟩ := hF'
          have n1 : ((natI ys).take q).length = q := by rw [List.length_take, natI_length]; omega
          have n2 : ((natI ys).drop q).length = ys.length - q := by rw [List.length_drop, natI_length]
          rw [n1] at e1
          rw [n2] at e2
          rw [e1] at hU hr1
          rw [e2] at hF hr2
          have HU := Lib.hid hU
          have HF := Lib.hid hF
          have HL1 := Lib.hid (show (ivals ((natI ys).take q)).length = q * 1 by rw [ivals_len, n1])
          have HL2 := Lib.hid (show (ivals ((natI ys).drop q)).length = (ys.length - q) * 1 by rw [ivals_len, n2])
          clear hU hF e1 e2 n1 n2
          have hBs := HBw.out.size
          have hHs : H ≤ wr.heap.size := by have := HH.out; omega
          obtain ⟨B, hB⟩ : ∃ B, wr.heap.size = B := ⟨_, rfl⟩
          have HBB := Lib.hid hB
          have HS0 := Lib.hid (show Below B wr wr from Below.refl _ _)
          have hB1 : B ≤ wr.heap.size := Nat.le_of_eq hB.symm
          have hB2 : wr.heap.size ≤ B := Nat.le_of_eq hB
          clear hB
          go_wp2_with fail
          have HA0 := Lib.hid (HBw.out.alloc hHs (.cells #[] 3))
          have HA1 := Lib.hid (HBw.out.alloc hHs (.cells #[.int .i64 (x : Int)] 3))
          have HC0 := Lib.hid (HS0.out.alloc (Nat.le_of_eq HBB.out.symm) (.cells #[] 3))
          have HC1 := Lib.hid (HS0.out.alloc (Nat.le_of_eq HBB.out.symm) (.cells #[.int .i64 (x : Int)] 3))
          have HHB : H ≤ B := by rw [← HBB.out]; exact hHs
          have HM2 := Lib.hid (show (((wr.drew.alloc (.cells #[.int .i64 (x : Int)] 3)).alloc (.cells #[] 3))).ownsRow B 3 1 (.slice (some ⟨wr.heap.size + 1, 0, none⟩) 0 0) 0 [] by
            have := made_row (wr.drew.alloc (.cells #[.int .i64 (x : Int)] 3)) B (by rw [World.size_alloc]; exact Nat.le_succ_of_le hB1)
            rw [World.size_alloc] at this
            exact this)
          have HX1 := Lib.hid (show ∀ j u, [Value.int .i64 (x : Int)][j]? = some u → (((wr.drew.alloc (.cells #[] 3)).alloc (.cells #[.int .i64 (x : Int)] 3))).cell? ((⟨wr.heap.size + 1, 0, none⟩ : Addr).add j) = some u by
            have := new_one (wr.drew.alloc (.cells #[] 3)) (.int .i64 (x : Int))
            rw [World.size_alloc] at this
            exact this)
          have HX2 := Lib.hid (show ∀ j u, [Value.int .i64 (x : Int)][j]? = some u → (((wr.drew.alloc (.cells #[.int .i64 (x : Int)] 3)).alloc (.cells #[] 3))).cell? ((⟨wr.heap.size, 0, none⟩ : Addr).add j) = some u from fun j u hu => by
            have := new_one wr.drew (.int .i64 (x : Int)) j u hu
            rw [add_addr] at this ⊢
            exact cell_later ((Below.refl _ _).alloc (Nat.le_refl _) _) this)
          go_region_held3 (fun w' => Below H w w' ∧ Below B wr w') (first | assumption | exact ⟨HBw.out.drew, HS0.out.drew⟩ | exact ⟨HA0.out.drew, HC0.out.drew⟩ | exact ⟨HA1.out.drew, HC1.out.drew⟩ | exact ⟨(HA0.out.alloc (by rw [World.size_alloc, HBB.out]; omega) _).drew, (HC0.out.alloc (by rw [World.size_alloc, HBB.out]; omega) _).drew⟩ | exact ⟨(HA1.out.alloc (by rw [World.size_alloc, HBB.out]; omega) _).drew, (HC1.out.alloc (by rw [World.size_alloc, HBB.out]; omega) _).drew⟩ | exact ⟨hb2, hc2⟩ | exact ⟨hb3, hc3⟩ | exact ⟨hb4, hc4⟩ | exact ⟨hb2.alloc (by omega) _, hc2.alloc (by omega) _⟩)
            ((first
              | (refine step_append_any (by rfl) _ _ 22 (by rfl) B 3 i0 (.int .i64 0) 1 8 Try.underlying22 hi hz0 hz1 hz2 rfl (by decide) _ 0 [] (by rfl) (by first | exact made_row wr.drew B hB1 | exact (made_row wr.drew B hB1).alloc _ | exact HM2.out) A1 q C1 (ivals ((natI ys).take q)) (by rfl) HL1.out HU.out.nonil (fun ad e j u hu => IntsV.cells (HU.out.later (by rw [HBB.out]; first | exact HC0.out.drew | exact (HC0.out.alloc (by rw [World.size_alloc, HBB.out]; omega) _).drew | exact (HC1.out.alloc (by rw [World.size_alloc, HBB.out]; omega) _).drew)) ad e j u hu) (ivals_one _) (by unfold maxLen; omega) (by omega) (by first | omega | (simp; omega)) ?_; intro v1 w2 hown1 hgrow1; have hs2 : B < w2.heap.size := (by have := hgrow1.size; simp at this; have := HBB.out; omega); have hw2 : B < w2.heap.size := hs2; have hb2 : Below H w w2 := (by first | exact (HA0.out.drew).grown hgrow1 (by first | omega | (simp; omega)) (fun q e => by first | (have e' : some wr.heap.size = some q := e; injection e' with e'; omega) | (have e' : some (wr.heap.size + 1) = some q := e; injection e' with e'; omega)) | exact ((HA0.out.alloc (by rw [World.size_alloc, HBB.out]; omega) _).drew).grown hgrow1 (by first | omega | (simp; omega)) (fun q e => by first | (have e' : some wr.heap.size = some q := e; injection e' with e'; omega) | (have e' : some (wr.heap.size + 1) = some q := e; injection e' with e'; omega)) | exact ((HA1.out.alloc (by rw [World.size_alloc, HBB.out]; omega) _).drew).grown hgrow1 (by first | omega | (simp; omega)) (fun q e => by first | (have e' : some wr.heap.size = some q := e; injection e' with e'; omega) | (have e' : some (wr.heap.size + 1) = some q := e; injection e' with e'; omega))); have hc2 : Below B wr w2 := (by first | exact (HC0.out.drew).grown hgrow1 (by first | omega | (simp; omega)) (fun q e => by first | (have e' : some wr.heap.size = some q := e; injection e' with e'; omega) | (have e' : some (wr.heap.size + 1) = some q := e; injection e' with e'; omega)) | exact ((HC0.out.alloc (by rw [World.size_alloc, HBB.out]; omega) _).drew).grown hgrow1 (by first | omega | (simp; omega)) (fun q e => by first | (have e' : some wr.heap.size = some q := e; injection e' with e'; omega) | (have e' : some (wr.heap.size + 1) = some q := e; injection e' with e'; omega)) | exact ((HC1.out.alloc (by rw [World.size_alloc, HBB.out]; omega) _).drew).grown hgrow1 (by first | omega | (simp; omega)) (fun q e => by first | (have e' : some wr.heap.size = some q := e; injection e' with e'; omega) | (have e' : some (wr.heap.size + 1) = some q := e; injection e' with e'; omega))))
              | (refine step_append_any (by rfl) _ _ 22 (by rfl) B 3 i0 (.int .i64 0) 1 8 Try.underlying22 hi hz0 hz1 hz2 rfl (by decide) _ (0 + q + 1) (([] ++ ivals ((natI ys).take q)) ++ [.int .i64 (x : Int)]) (by rfl) hown2 A2 (ys.length - q) C2 (ivals ((natI ys).drop q)) (by rfl) HL2.out HF.out.nonil (fun ad e j u hu => IntsV.cells (HF.out.later (by rw [HBB.out]; exact hc3)) ad e j u hu) (ivals_one _) (by unfold maxLen; omega) (by omega) (by omega) ?_; intro v3 w4 hown3 hgrow3; have hb4 : Below H w w4 := hb3.grown hgrow3 (by omega) (fun q e => Nat.le_trans HHB (hown2.lt q e).1); have hc4 : Below B wr w4 := hc3.grown hgrow3 (by omega) (fun q e => (hown2.lt q e).1))
              | (refine step_append_any (by rfl) _ _ 22 (by rfl) B 3 i0 (.int .i64 0) 1 8 Try.underlying22 hi hz0 hz1 hz2 rfl (by decide) _ (0 + q) ([] ++ ivals ((natI ys).take q)) (by rfl) (by first | exact hown1.alloc _ | exact hown1) _ 1 1 [.int .i64 (x : Int)] (by rfl) rfl (fun e => by cases e) (fun ad e => by cases e; first | exact new_one w2 _ | exact kept_one HX1.out hgrow1 (by simp <;> omega) (fun e => by first | (have e' : some (wr.heap.size + 1) = some wr.heap.size := e; injection e' with e'; omega) | (have e' : some wr.heap.size = some (wr.heap.size + 1) := e; injection e' with e'; omega)) | exact kept_one HX2.out hgrow1 (by simp <;> omega) (fun e => by first | (have e' : some (wr.heap.size + 1) = some wr.heap.size := e; injection e' with e'; omega) | (have e' : some wr.heap.size = some (wr.heap.size + 1) := e; injection e' with e'; omega))) (by simp [Value.oneCell']) (by unfold maxLen; omega) (by omega) (by first | omega | (simp; omega)) ?_; intro v2 w3 hown2 hgrow2; have hs3 : w2.heap.size ≤ w3.heap.size := (by have := hgrow2.size; first | omega | (simp at this; omega)); have hb3 : Below H w w3 := (by first | exact (hb2.alloc (by omega) _).grown hgrow2 (by first | omega | (simp; omega)) (fun q e => Nat.le_trans HHB (hown1.lt q e).1) | exact hb2.grown hgrow2 (by omega) (fun q e => Nat.le_trans HHB (hown1.lt q e).1)); have hc3 : Below B wr w3 := (by first | exact (hc2.alloc (by omega) _).grown hgrow2 (by first | omega | (simp; omega)) (fun q e => (hown1.lt q e).1) | exact hc2.grown hgrow2 (by omega) (fun q e => (hown1.lt q e).1)))))
          all_goals
            have HF4 := Lib.hid (HFin.out _ _ _ _ hown3)
            have HB4 := Lib.hid hb4
            clear hown1 hown2 hown3 hgrow1 hgrow2 hgrow3 hb2 hb3 hb4 hc2 hc3 hc4
            go_wp2
            go_roundw
            case rel => exact ⟨ys.length + 1, by omega, by go_num, HF4.out, HB4.out⟩
            case measure => simp only [intOf]; omega
    · obtain rfl : j = m := by omega
      go_wp2
      go_ret
      exact ⟨_, rfl, by rw [← HR.out]; exact HI.out, HBw.out⟩
end Go.Proofs.Ytkpiakoijkflmaa

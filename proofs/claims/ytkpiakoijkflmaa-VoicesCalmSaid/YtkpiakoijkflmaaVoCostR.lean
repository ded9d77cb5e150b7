/-
  The reference's Lead and Cost.
-/
import Derived.Test.YtkpiakoijkflmaaVoLeadR
namespace Go.Proofs.Ytkpiakoijkflmaa
open Go.ChangeShapes Go.WideShapes Go.ChangeAt Go.RowKit
set_option maxRecDepth 100000

theorem leadL_mem {k : Nat} : ∀ {f : Nat} {l x : List Nat}, (∀ y ∈ l, y < k) → l.Nodup → x ∈ leadL k f l → x.length = l.length + f ∧ (∀ y ∈ x, y < k) ∧ x.Nodup
  | 0, l, x, h1, h2, h => by
    have : x = l := by simpa [leadL] using h
    subst this
    exact ⟨rfl, h1, h2⟩
  | f + 1, l, x, h1, h2, h => by
    rw [leadL, List.mem_flatMap] at h
    obtain ⟨j, hj, h⟩ := h
    rw [List.mem_range] at hj
    by_cases hm : j ∈ l
    · rw [if_pos hm] at h; cases h
    · rw [if_neg hm] at h
      have := leadL_mem (f := f) (l := l ++ [j]) (x := x) (fun y hy => by
        rcases List.mem_append.1 hy with hy | hy
        · exact h1 y hy
        · rw [List.mem_singleton] at hy; omega) (by
        rw [List.nodup_append]
        exact ⟨h2, by simp, fun a ha b hb e => by rw [List.mem_singleton] at hb; exact hm (by rw [← hb, ← e]; exact ha)⟩) h
      rw [List.length_append, List.length_singleton] at this
      exact ⟨by omega, this.2⟩
theorem leadL_all {k : Nat} : ∀ {f : Nat} {l m : List Nat}, m.length = f → (∀ y ∈ m, y < k) → (l ++ m).Nodup → l ++ m ∈ leadL k f l
  | 0, l, m, h, _, _ => by
    have : m = [] := List.eq_nil_of_length_eq_zero h
    subst this
    simp [leadL]
  | f + 1, l, [], h, _, _ => by simp at h
  | f + 1, l, j :: m, h, h1, h2 => by
    rw [leadL, List.mem_flatMap]
    refine ⟨j, List.mem_range.2 (h1 j (by simp)), ?_⟩
    have hm : j ∉ l := fun hm => by
      rw [List.nodup_append] at h2
      exact h2.2.2 j hm j (by simp) rfl
    rw [if_neg hm]
    have e : l ++ j :: m = (l ++ [j]) ++ m := by simp
    rw [e] at h2 ⊢
    exact leadL_all (by simpa using h) (fun y hy => h1 y (by simp [hy])) h2

/-- The first of the cheapest ones. -/
def bestL (pr : List Nat → Nat) (ls : List (List Nat)) : Option (List Nat) := ls.foldl (fun o l => match o with | none => some l | some b => if pr l < pr b then some l else some b) none
theorem bestL_snoc (pr : List Nat → Nat) (ls : List (List Nat)) (l : List Nat) : bestL pr (ls ++ [l]) = (match bestL pr ls with | none => some l | some b => if pr l < pr b then some l else some b) := by
  unfold bestL; rw [List.foldl_append]; rfl
theorem bestL_none (pr : List Nat → Nat) (ls : List (List Nat)) : bestL pr ls = none ↔ ls = [] := by
  refine snoc_ind (P := fun ls => bestL pr ls = none ↔ ls = []) (by simp [bestL]) (fun l x ih => ?_) ls
  rw [bestL_snoc]
  cases bestL pr l with
  | none => simp
  | some m => by_cases h : pr x < pr m <;> simp [h]
theorem bestL_some (pr : List Nat → Nat) (ls : List (List Nat)) : ∀ m, bestL pr ls = some m → m ∈ ls ∧ ∀ x ∈ ls, pr m ≤ pr x := by
  refine snoc_ind (P := fun ls => ∀ m, bestL pr ls = some m → m ∈ ls ∧ ∀ x ∈ ls, pr m ≤ pr x) (by simp [bestL]) (fun l x ih m h => ?_) ls
  rw [bestL_snoc] at h
  cases e : bestL pr l with
  | none =>
    rw [e] at h
    have h' : x = m := by simpa using h
    have := (bestL_none pr l).1 e
    subst this h'
    simp
  | some k =>
    rw [e] at h
    obtain ⟨h1, h2⟩ := ih k e
    by_cases hx : pr x < pr k
    · have : x = m := by simpa [hx] using h
      subst this
      refine ⟨by simp, fun z hz => ?_⟩
      rcases List.mem_append.1 hz with hz | hz
      · have := h2 z hz; omega
      · rw [List.mem_singleton] at hz; rw [hz]; exact Nat.le_refl _
    · have : k = m := by simpa [hx] using h
      subst this
      refine ⟨by simp [h1], fun z hz => ?_⟩
      rcases List.mem_append.1 hz with hz | hz
      · exact h2 z hz
      · rw [List.mem_singleton] at hz; rw [hz]; omega

theorem lead_fits {k : Nat} {x : List Nat} (h : x ∈ leadL k k []) : x.length = k ∧ Fits k 0 x := by
  obtain ⟨h1, h2, h3⟩ := leadL_mem (by simp) List.nodup_nil h
  exact ⟨by simpa using h1, h3, fun p hp => ⟨h2 p hp, Nat.zero_testBit _⟩⟩
theorem lead_in {k : Nat} {x : List Nat} (h1 : x.length = k) (h2 : Fits k 0 x) : x ∈ leadL k k [] := by
  have := leadL_all (k := k) (f := k) (l := []) (m := x) h1 (fun y hy => (h2.2 y hy).1) (by simpa using h2.1)
  simpa using this
/-- The first of the cheapest leadings. -/
theorem lead_best {n : Nat} {us bs : List Nat} (hv : Vc n us bs) : ∃ l, bestL (prT n bs us) (leadL us.length us.length []) = some l ∧ l.length = us.length ∧ Fits us.length 0 l ∧ prT n bs us l = costN n us bs := by
  obtain ⟨l0, a1, a2, a3⟩ := cost_ex (n := n) (bs := bs) («as» := us) (T := 0) (by rw [free_all, hv.len]; exact Nat.le_refl _)
  rw [← hv.len] at a2
  have hin := lead_in a1 a2
  cases e : bestL (prT n bs us) (leadL us.length us.length []) with
  | none => rw [(bestL_none _ _).1 e] at hin; cases hin
  | some l =>
    obtain ⟨h1, h2⟩ := bestL_some _ _ l e
    obtain ⟨h3, h4⟩ := lead_fits h1
    refine ⟨l, rfl, h3, h4, ?_⟩
    have h5 := h2 l0 hin
    have h6 := cost_le (n := n) (bs := bs) («as» := us) h3 (by rw [← hv.len]; exact h4)
    unfold costN
    omega

theorem own_form2 {W : World} {lo n : Nat} {t : TypeId} {v : Value} {xs : List Value} (h : W.ownsRow lo t 1 v n xs) (hn : 0 < n) : ∃ g c, v = .slice (some ⟨g, 0, none⟩) n c ∧ ∀ j u, xs[j]? = some u → W.cell? ⟨g, j, none⟩ = some u := by
  obtain ⟨h1, ⟨rfl, rfl⟩ | ⟨g, cap, cur, rfl, hg, hh, h2⟩⟩ := id h
  · omega
  · refine ⟨g, cap, rfl, fun j u hu => ?_⟩
    have := h.cells (g := g) rfl j u hu
    rwa [add_addr, Nat.zero_add] at this

theorem eq_nil_nil (W : World) : (binOp .eql 22 (.slice none 0 0) (.slice none 0 0)).run Try.prog W = .ok (.bool true) W := by
  first | rfl | kernel_rfl | (go_simp)
theorem eq_some_nil (a : Addr) (n c : Nat) (W : World) : (binOp .eql 22 (.slice (some a) n c) (.slice none 0 0)).run Try.prog W = .ok (.bool false) W := by
  first | rfl | kernel_rfl | (go_simp)

/-- What has been found so far. -/
def BestV (W : World) (v : Value) : Option (List Nat) → Prop
  | none => v = .slice none 0 0
  | some b => ∃ B off c, v = .slice (some ⟨B, off, none⟩) b.length c ∧ IntsV W v (natI b)

set_option maxHeartbeats 2000000 in
theorem RLead_any (n : Nat) (us bs : List Nat) (hv : Vc n us bs) (v u : Value) (w : World) (h : IntsV w v (natI us)) (k : IntsV w u (natI bs)) :
    Calls Try.prog 23 #[.int .i64 n, v, u] w fun e w' => ∃ v' l, e = .returned v' ∧ bestL (prT n bs us) (leadL us.length us.length []) = some l ∧ IntsV w' v' (natI l) ∧ Below w.heap.size w w' := by
  have l1 := hv.l1
  have l6 := hv.l6
  have HLd := Lib.hid (RLeadings_any us.length l6 us.length [] (.slice none 0 0) w (by simp) (by simp) (fun _ => rfl) (IntsT.nil w))
  have HP := Lib.hid (fun (l : List Nat) (hl : l ∈ leadL us.length us.length []) t W (a : IntsV W v (natI us)) (b : IntsV W u (natI bs)) (c : IntsV W t (natI l)) => RPrice_any n us bs l hv (lead_fits hl).1 (lead_fits hl).2 v u t W a b c)
  have H := Lib.hid h
  have K := Lib.hid k
  have HLn := Lib.hid (fun (l : List Nat) (hl : l ∈ leadL us.length us.length []) => (lead_fits hl).1)
  have HFin := Lib.hid (lead_best hv)
  have HLen := Lib.hid (Nat.le_trans (leadL_len us.length us.length []) (pow_small l6 l6))
  obtain ⟨ao, cap, hv', _⟩ := h
  obtain ⟨bo, cap', hu', _⟩ := k
  have HPn := Lib.hid (fun (l : List Nat) => prT_100 hv us.length l)
  rw [natI_length] at hv' hu'
  clear hv
  generalize leadL us.length us.length [] = ls at *
  have hpp : ∀ l : List Nat, prT n bs us l ≤ 96 := fun l => by have := HPn.out l; rwa [List.take_length] at this
  have HPP := Lib.hid hpp
  clear hpp HPn
  generalize prT n bs us = pr at *
  generalize us.length = m at *
  generalize natI us = xs at *
  generalize bs.length = m' at *
  generalize natI bs = zs at *
  subst hv' hu'
  go_enter Try.func23, Try.ntmps23
  go_wp2_with fail
  refine HLd.out.mono ?_
  rintro e w1 ⟨v1, vs, rfl, own1, all1, b1⟩
  have hvl := all1.len
  have hpos : 0 < vs.length := by
    rw [hvl]
    obtain ⟨l, hl, _⟩ := HFin.out
    have : ls ≠ [] := fun e => by rw [(bestL_none _ _).2 e] at hl; cases hl
    exact List.length_pos_iff.2 this
  obtain ⟨g, c1, rfl, hc1⟩ := own_form2 own1 hpos
  have HCl := Lib.hid hc1
  have HAl := Lib.hid all1
  have HB1 := Lib.hid b1
  have hl46 : vs.length ≤ 46656 := by rw [hvl]; exact HLen.out
  have HVL := Lib.hid hvl
  clear own1 all1 b1 hc1 hvl HLd
  go_wp2_with fail
  go_loopw [7, 14] (fun b i wr => ∃ (j d : Nat), j ≤ vs.length ∧ i = .int .i64 j ∧ BestV wr b (bestL pr (ls.take j)) ∧ wr = w1.drewN d) (fun _ i _ => vs.length - (intOf i).toNat)
  case atStart => exact ⟨0, 0, Nat.zero_le _, rfl, rfl, rfl⟩
  case round =>
    obtain ⟨j, d, hj, rfl, hbv, rfl⟩ := hrel
    have hbd := Lib.hid (below_drewN HB1.out d)
    by_cases hlk : j < vs.length
    · obtain ⟨t, l, e1, e2, it⟩ := HAl.out.at j hlk
      have hmem : l ∈ ls := List.mem_of_getElem? e2
      have hT := HLn.out l hmem
      have hjl : j < ls.length := by have := HVL.out; omega
      have hTk : ls.take (j + 1) = ls.take j ++ [l] := by
        rw [List.take_succ_eq_append_getElem hjl]
        rw [List.getElem?_eq_getElem hjl] at e2
        rw [Option.some.inj e2]
      have HBs := Lib.hid (show bestL pr (ls.take (j + 1)) = (match bestL pr (ls.take j) with | none => some l | some b => if pr l < pr b then some l else some b) by rw [hTk, bestL_snoc])
      have ct : (w1.drewN d).cell? ⟨g, j, none⟩ = some t := HCl.out j t e1
      have HIt := Lib.hid it.1
      obtain ⟨ta, tc, htv, _, htc⟩ := it.1
      rw [natI_length, hT] at htv htc
      obtain ⟨tb, to, rfl, _⟩ := htc (by omega)
      have HHT := Lib.hid hT
      have HMem := Lib.hid hmem
      clear hTk e1 e2 it htc hmem hjl
      subst htv
      cases hb0 : bestL pr (ls.take j) with
      | none =>
        rw [hb0] at hbv HBs
        have hbv' := hbv
        unfold BestV at hbv'
        subst hbv'
        have HB2 := Lib.hid (show bestL pr (ls.take (j + 1)) = some l from HBs.out)
        have hnn := eq_nil_nil (w1.drewN d)
        clear hbv HBs hb0 hT
        go_wp2
        go_roundw
        case rel => exact ⟨j + 1, d, by omega, by go_num, by rw [HB2.out]; exact ⟨tb, to, tc, by rw [HHT.out], HIt.out⟩, rfl⟩
        case measure => simp only [intOf]; omega
      | some b =>
        rw [hb0] at hbv HBs
        have hbm : b ∈ ls := List.mem_of_mem_take (bestL_some pr _ b hb0).1
        have HBl := Lib.hid (HLn.out b hbm)
        obtain ⟨Bb, off, cb, hv1, hv2⟩ := hbv
        rw [HBl.out] at hv1
        subst hv1
        have HV2 := Lib.hid hv2
        have HPl := Lib.hid (HP.out l HMem.out _ (w1.drewN d) (H.out.later hbd.out) (K.out.later hbd.out) HIt.out)
        have HPb := Lib.hid (fun d2 => HP.out b hbm (.slice (some ⟨Bb, off, none⟩) m cb) (w1.drewN (d + d2)) (H.out.later (below_drewN HB1.out (d + d2))) (K.out.later (below_drewN HB1.out (d + d2))) hv2)
        have p1 := HPP.out l
        have p2 := HPP.out b
        have HIf := Lib.hid (show bestL pr (ls.take (j + 1)) = if pr l < pr b then some l else some b from HBs.out)
        clear hv2 hbm HBs hb0 hT
        have hnn := eq_some_nil ⟨Bb, off, none⟩ m cb (w1.drewN d)
        generalize pr l = a1 at HPl HIf p1
        generalize pr b = a2 at HPb HIf p2
        by_cases hlt : a1 < a2
        · have HB2 := Lib.hid (show bestL pr (ls.take (j + 1)) = some l by rw [HIf.out, if_pos hlt])
          go_wp2_with fail
          refine HPl.out.mono ?_
          rintro e w3 ⟨rfl, d2, rfl⟩
          go_wp2_with fail
          refine (HPb.out d2).mono ?_
          rintro e w4 ⟨rfl, d3, rfl⟩
          go_wp2
          go_roundw
          case rel => exact ⟨j + 1, d + d2 + d3, by omega, by go_num, by rw [HB2.out]; exact ⟨tb, to, tc, by rw [HHT.out], HIt.out⟩, by first | rfl | simp only [World.drewN_drewN]⟩
          case measure => simp only [intOf]; omega
        · have HB2 := Lib.hid (show bestL pr (ls.take (j + 1)) = some b by rw [HIf.out, if_neg hlt])
          go_wp2_with fail
          refine HPl.out.mono ?_
          rintro e w3 ⟨rfl, d2, rfl⟩
          go_wp2_with fail
          refine (HPb.out d2).mono ?_
          rintro e w4 ⟨rfl, d3, rfl⟩
          go_wp2
          go_roundw
          case rel => exact ⟨j + 1, d + d2 + d3, by omega, by go_num, by rw [HB2.out]; exact ⟨Bb, off, cb, by rw [HBl.out], HV2.out⟩, by first | rfl | simp only [World.drewN_drewN]⟩
          case measure => simp only [intOf]; omega
    · obtain rfl : j = vs.length := by omega
      rw [HVL.out, List.take_length] at hbv
      obtain ⟨l, hl, _⟩ := HFin.out
      have HL := Lib.hid hl
      rw [hl] at hbv
      obtain ⟨Bb, off, cb, hv1, hv2⟩ := hbv
      have HV2 := Lib.hid hv2
      subst hv1
      clear hv2 hl
      go_wp2
      go_ret
      exact ⟨_, l, rfl, HL.out, HV2.out, hbd.out⟩

theorem RCost_any (n : Nat) (us bs : List Nat) (hv : Vc n us bs) (v u : Value) (w : World) (h : IntsV w v (natI us)) (k : IntsV w u (natI bs)) :
    Calls Try.prog 21 #[.int .i64 n, v, u] w fun e w' => e = .returned (.int .i64 (costN n us bs : Nat)) ∧ Below w.heap.size w w' := by
  have HL := Lib.hid (RLead_any n us bs hv v u w h k)
  obtain ⟨l, hl, h1, h2, h3⟩ := lead_best hv
  have HP := Lib.hid (fun t W a b c => RPrice_any n us bs l hv h1 h2 v u t W a b c)
  rw [h3] at HP
  have H := Lib.hid h
  have K := Lib.hid k
  have HLL := Lib.hid hl
  obtain ⟨ao, cap, hv', _⟩ := h
  obtain ⟨bo, cap', hu', _⟩ := k
  rw [natI_length] at hv' hu'
  clear h1 h2 h3 hl hv
  generalize costN n us bs = c at *
  generalize natI us = xs at *
  generalize natI bs = zs at *
  generalize us.length = m at *
  generalize bs.length = m' at *
  subst hv' hu'
  go_enter Try.func21, Try.ntmps21
  go_wp2_with fail
  refine HL.out.mono ?_
  rintro e w1 ⟨v', l', rfl, hl', i1, b1⟩
  obtain rfl : l' = l := by have := HLL.out; rw [hl'] at this; exact Option.some.inj this
  have HP1 := Lib.hid (HP.out v' w1 (H.out.later b1) (K.out.later b1) i1)
  have HB1 := Lib.hid b1
  clear b1 i1 hl'
  go_wp2_with fail
  refine HP1.out.mono ?_
  rintro e w2 ⟨rfl, d, rfl⟩
  go_wp2
  go_ret
  exact ⟨rfl, below_drewN HB1.out d⟩
end Go.Proofs.Ytkpiakoijkflmaa

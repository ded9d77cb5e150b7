/-
  Among the cheapest leadings there is one without crossing: voices that cross are exchanged. Plain mathematics.
-/
import Derived.Test.YtkpiakoijkflmaaVoRot2
import Derived.Test.YtkpiakoijkflmaaVoCross2
import Derived.Test.YtkpiakoijkflmaaVoCostR
import Derived.Test.YtkpiakoijkflmaaVoLeadF
namespace Go.Proofs.Ytkpiakoijkflmaa

section
theorem nodup_at {l : List Nat} (h : l.Nodup) {a b : Nat} (ha : a < l.length) (hb : b < l.length) (e : l[a]?.getD 0 = l[b]?.getD 0) : a = b := by
  rw [List.getElem?_eq_getElem ha, List.getElem?_eq_getElem hb] at e
  have e' : l[a] = l[b] := e
  have hp := List.pairwise_iff_getElem.1 h
  rcases Nat.lt_trichotomy a b with h1 | h1 | h1
  · exact absurd e' (hp a b ha hb h1)
  · exact h1
  · exact absurd e'.symm (hp b a hb ha h1)

def swI (i j m : Nat) : Nat := if m = i then j else if m = j then i else m
/-- Two voices exchanged. -/
def swL (l : List Nat) (i j : Nat) : List Nat := (List.range l.length).map fun m => l[swI i j m]?.getD 0
theorem swL_length (l : List Nat) (i j : Nat) : (swL l i j).length = l.length := by simp [swL]
theorem swI_lt {i j m k : Nat} (hi : i < k) (hj : j < k) (hm : m < k) : swI i j m < k := by unfold swI; split; exact hj; split; exact hi; exact hm
theorem swI_inj {i j a b : Nat} (h : swI i j a = swI i j b) : a = b := by unfold swI at h; repeat' (first | omega | split at h)
theorem swL_at {l : List Nat} {i j m : Nat} (hm : m < l.length) : (swL l i j)[m]?.getD 0 = l[swI i j m]?.getD 0 := by
  unfold swL
  rw [List.getElem?_map, List.getElem?_range hm]; rfl
theorem swL_fits {k : Nat} {l : List Nat} {i j : Nat} (hl : l.length = k) (hi : i < k) (hj : j < k) (h : Fits k 0 l) : Fits k 0 (swL l i j) := by
  refine ⟨?_, fun p hp => ?_⟩
  · unfold swL
    rw [List.Nodup, List.pairwise_map]
    refine (List.pairwise_lt_range).imp_of_mem (fun {a b} ha hb hab e => ?_)
    rw [List.mem_range] at ha hb
    have := nodup_at h.1 (swI_lt (by omega) (by omega) ha) (swI_lt (by omega) (by omega) hb) e
    have := swI_inj this
    omega
  · obtain ⟨m, hm, rfl⟩ := List.mem_map.1 hp
    rw [List.mem_range] at hm
    have hs := swI_lt (k := l.length) (i := i) (j := j) (by omega) (by omega) hm
    rw [List.getElem?_eq_getElem hs]
    exact h.2 _ (List.getElem_mem hs)

theorem mv_turn {n x y : Nat} (hx : x < n) : ∃ e : Int, (x : Int) + mvN' n x y = y + (n : Int) * e := by
  have h := up_int (n := n) (x := x) (y := y) hx
  have h2 := Int.mul_ediv_add_emod ((y : Int) - x) n
  rw [h] at h2
  unfold mvN'
  split
  · refine ⟨-((y : Int) - x) / n - 1 + (-(-((y : Int) - x) / n) - (((y : Int) - x) / n)), ?_⟩
    have e : (-((y : Int) - x) / n - 1 + (-(-((y : Int) - x) / n) - (((y : Int) - x) / n))) = -(((y : Int) - x) / n) - 1 := by omega
    rw [e, Int.mul_sub, Int.mul_neg, Int.mul_one]
    omega
  · refine ⟨-(((y : Int) - x) / n), ?_⟩
    rw [Int.mul_neg]
    omega

theorem sq_le {a d : Int} (h0 : 0 ≤ a) (h : a ≤ absZ d) : a * a ≤ d * d := by
  unfold absZ at h
  by_cases hd : 0 ≤ d
  · exact Int.mul_le_mul (by omega) (by omega) h0 hd
  · have := Int.mul_le_mul (show a ≤ -d by omega) (show a ≤ -d by omega) h0 (by omega)
    rwa [Int.neg_mul_neg] at this
theorem exch_sq (p q v : Int) (h : hitP v (p - q)) : (q + v) * (q + v) + (p - v) * (p - v) < p * p + q * q := by
  have h1 : 0 < v * (p - q - v) := by
    rcases h with ⟨a, b⟩ | ⟨a, b⟩
    · exact Int.mul_pos a (by omega)
    · exact Int.mul_pos_of_neg_of_neg a (by omega)
  have e1 : v * (p - q - v) = v * p - v * q - v * v := by rw [Int.mul_sub, Int.mul_sub]
  have e2 : (q + v) * (q + v) = q * q + v * q + v * q + v * v := by rw [Int.add_mul, Int.mul_add, Int.mul_add, Int.mul_comm q v]; omega
  have e3 : (p - v) * (p - v) = p * p - v * p - v * p + v * v := by rw [Int.sub_mul, Int.mul_sub, Int.mul_sub, Int.mul_comm p v]; omega
  omega

/-- Two voices that cross cost no more when they are exchanged, and their squares are less. -/
theorem exch_ds {n x y p q : Nat} (hx : x < n) (hy : y < n) (hp : p < n) (hq : q < n) (c : Int) (h : hitP (c * n - ((x : Int) - y)) (mvN' n x p - mvN' n y q)) :
    dsN n x q + dsN n y p ≤ dsN n x p + dsN n y q ∧ (dsN n x q : Int) * dsN n x q + (dsN n y p : Int) * dsN n y p < (dsN n x p : Int) * dsN n x p + (dsN n y q : Int) * dsN n y q := by
  obtain ⟨e1, h1⟩ := mv_turn (y := p) hx
  obtain ⟨e2, h2⟩ := mv_turn (y := q) hy
  have m1 := ds_mv hx hp
  have m2 := ds_mv hy hq
  have d1 := ds_le_turn hx hq (c + e2)
  have d2 := ds_le_turn hy hp (e1 - c)
  rw [Int.mul_add, Int.mul_comm (n : Int) c] at d1
  rw [Int.mul_sub, Int.mul_comm (n : Int) c] at d2
  generalize mvN' n x p = s at *
  generalize mvN' n y q = t at *
  generalize hv : c * (n : Int) - ((x : Int) - y) = v at *
  have f1 : (x : Int) - (q + (c * n + (n : Int) * e2)) = -(t + v) := by omega
  have f2 : (y : Int) - (p + ((n : Int) * e1 - c * n)) = -(s - v) := by omega
  rw [f1] at d1
  rw [f2] at d2
  have g1 := sq_le (Int.natCast_nonneg (dsN n x q)) d1
  have g2 := sq_le (Int.natCast_nonneg (dsN n y p)) d2
  rw [Int.neg_mul_neg] at g1 g2
  have g3 := exch_sq s t v h
  have q1 : (dsN n x p : Int) * dsN n x p = s * s := by
    rw [← m1]
    by_cases hs : 0 ≤ s
    · rw [show max s (-s) = s by omega]
    · rw [show max s (-s) = -s by omega, Int.neg_mul_neg]
  have q2 : (dsN n y q : Int) * dsN n y q = t * t := by
    rw [← m2]
    by_cases hs : 0 ≤ t
    · rw [show max t (-t) = t by omega]
    · rw [show max t (-t) = -t by omega, Int.neg_mul_neg]
  refine ⟨?_, by omega⟩
  unfold absZ at d1 d2
  rcases h with ⟨a, b⟩ | ⟨a, b⟩ <;> omega

def sqT (n : Nat) (us bs l : List Nat) (m : Nat) : Int := (dsN n (us[m]?.getD 0) (bs[l[m]?.getD 0]?.getD 0) : Int) * dsN n (us[m]?.getD 0) (bs[l[m]?.getD 0]?.getD 0)
def sqS (n : Nat) (us bs l : List Nat) : Int := sumZ' us.length (sqT n us bs l)
theorem sqS_nonneg (n : Nat) (us bs l : List Nat) : 0 ≤ sqS n us bs l := sumZ'_nonneg fun _ _ => sq_nonneg' _

theorem uncross_lead {n : Nat} {us bs : List Nat} (hv : Vc n us bs) : ∀ (D : Nat) (l : List Nat), (sqS n us bs l).toNat ≤ D → l.length = us.length → Fits us.length 0 l → prT n bs us l = costN n us bs → ∃ l', l'.length = us.length ∧ Fits us.length 0 l' ∧ prT n bs us l' = costN n us bs ∧ crossB n us bs l' = false := by
  intro D
  induction D using Nat.strongRecOn with
  | ind D ih =>
  intro l hD hl hf hc
  cases hx : crossB n us bs l with
  | false => exact ⟨l, hl, hf, hc, hx⟩
  | true =>
    obtain ⟨i, hi, j, hj, hr⟩ := (cross_rc hv.pos (getD_lt hv.la hv.pos)).1 hx
    -- the smaller index first
    obtain ⟨i, j, hij, hj, hr⟩ : ∃ i j, i < j ∧ j < us.length ∧ rcP n us bs l i j := by
      rcases Nat.lt_trichotomy i j with h | h | h
      · exact ⟨i, j, h, hj, hr⟩
      · subst h; exact (hr.1 rfl).elim
      · exact ⟨j, i, h, hi, rc_symm hr⟩
    have hi : i < us.length := by omega
    obtain ⟨_, c, _, _, hh⟩ := hr
    obtain ⟨x1, x2⟩ := exch_ds (getD_lt hv.la hv.pos i) (getD_lt hv.la hv.pos j) (getD_lt hv.lb hv.pos (l[i]?.getD 0)) (getD_lt hv.lb hv.pos (l[j]?.getD 0)) c hh
    have hsl := swL_length l i j
    have hsf := swL_fits hl hi hj hf
    have ai : (swL l i j)[i]?.getD 0 = l[j]?.getD 0 := by rw [swL_at (by omega)]; simp [swI]
    have aj : (swL l i j)[j]?.getD 0 = l[i]?.getD 0 := by rw [swL_at (by omega)]; have : ¬ j = i := by omega
                                                          simp [swI, this]
    have ae : ∀ m, m < us.length → m ≠ i → m ≠ j → (swL l i j)[m]?.getD 0 = l[m]?.getD 0 := fun m hm h1 h2 => by rw [swL_at (by omega)]; simp [swI, h1, h2]
    have s1 := prT_all (n := n) (bs := bs) (us := us) (l := swL l i j) (by omega)
    have s2 := prT_all (n := n) (bs := bs) (us := us) (l := l) (by omega)
    rw [sumZ'_two (f := fun m => (dsN n (us[m]?.getD 0) (bs[l[m]?.getD 0]?.getD 0) : Int)) hij hj (fun m hm h1 h2 => by rw [ae m hm h1 h2]), ← s2] at s1
    simp only [ai, aj] at s1
    have t1 : sqS n us bs (swL l i j) = sqS n us bs l + (sqT n us bs (swL l i j) i - sqT n us bs l i) + (sqT n us bs (swL l i j) j - sqT n us bs l j) :=
      sumZ'_two (f := sqT n us bs l) (g := sqT n us bs (swL l i j)) hij hj (fun m hm h1 h2 => by unfold sqT; rw [ae m hm h1 h2])
    unfold sqT at t1
    rw [ai, aj] at t1
    have n1 := sqS_nonneg n us bs (swL l i j)
    have n2 := sqS_nonneg n us bs l
    have hle := cost_le (n := n) (bs := bs) («as» := us) (l := swL l i j) (T := 0) (by omega) (by rw [← hv.len]; exact hsf)
    refine ih (sqS n us bs (swL l i j)).toNat (by omega) (swL l i j) (Nat.le_refl _) (by omega) hsf ?_
    have hcn : costT n bs us 0 = costN n us bs := rfl
    omega

theorem calm_ex {n : Nat} {us bs : List Nat} (hv : Vc n us bs) : ∃ l, l.length = us.length ∧ Fits us.length 0 l ∧ prT n bs us l = costN n us bs ∧ crossB n us bs l = false := by
  obtain ⟨l, _, h1, h2, h3⟩ := lead_best hv
  exact uncross_lead hv _ l (Nat.le_refl _) h1 h2 h3
end

section
/-
  The document's answer for the first of the cheapest leadings without crossing.
-/
open Go.ChangeShapes Go.WideShapes Go.ChangeAt Go.RowKit
set_option maxRecDepth 100000

/-- The first of the cheapest leadings without crossing. -/
def calmL (n : Nat) (us bs : List Nat) : Option (List Nat) := (leadL us.length us.length []).find? fun l => decide (prT n bs us l = costN n us bs) && !crossB n us bs l
theorem calm_some {n : Nat} {us bs : List Nat} (hv : Vc n us bs) : ∃ l, calmL n us bs = some l ∧ l.length = us.length ∧ Fits us.length 0 l ∧ prT n bs us l = costN n us bs ∧ crossB n us bs l = false := by
  obtain ⟨l, h1, h2, h3, h4⟩ := calm_ex hv
  have hm := lead_in h1 h2
  cases e : calmL n us bs with
  | none =>
    have := List.find?_eq_none.1 e l hm
    rw [h3, h4] at this
    simp at this
  | some m =>
    have a1 := List.find?_some e
    have a2 := List.mem_of_find?_eq_some e
    rw [Bool.and_eq_true, decide_eq_true_eq, Bool.not_eq_true'] at a1
    exact ⟨m, rfl, (lead_fits a2).1, (lead_fits a2).2, a1.1, a1.2⟩
theorem find_take {α : Type} (q : α → Bool) {ls : List α} {j : Nat} {l : α} (hl : ls[j]? = some l) (h0 : (ls.take j).find? q = none) (h : q l = true) : ls.find? q = some l := by
  have hj : j < ls.length := (List.getElem?_eq_some_iff.1 hl).1
  have e : ls = ls.take j ++ l :: ls.drop (j + 1) := by
    have := List.take_append_drop j ls
    rw [List.drop_eq_getElem_cons hj, (List.getElem?_eq_some_iff.1 hl).2] at this
    exact this.symm
  rw [e, List.find?_append, h0, List.find?_cons, h]
  rfl
theorem find_none_step {α : Type} (q : α → Bool) {ls : List α} {j : Nat} {l : α} (hl : ls[j]? = some l) (h0 : (ls.take j).find? q = none) (h : q l = false) : (ls.take (j + 1)).find? q = none := by
  have hj : j < ls.length := (List.getElem?_eq_some_iff.1 hl).1
  rw [List.take_succ_eq_append_getElem hj, (List.getElem?_eq_some_iff.1 hl).2, List.find?_append, h0, List.find?_cons, h]
  rfl

set_option maxHeartbeats 2000000 in
theorem RCalm_any (n : Nat) (us bs : List Nat) (hv : Vc n us bs) (v u : Value) (w : World) (h : IntsV w v (natI us)) (k : IntsV w u (natI bs)) :
    Calls Try.prog 25 #[.int .i64 n, v, u] w fun e w' => ∃ v' l, e = .returned v' ∧ calmL n us bs = some l ∧ IntsV w' v' (natI l) ∧ Below w.heap.size w w' := by
  have l1 := hv.l1
  have l6 := hv.l6
  have HC := Lib.hid (RCost_any n us bs hv v u w h k)
  have HLd := Lib.hid (fun W => RLeadings_any us.length l6 us.length [] (.slice none 0 0) W (by simp) (by simp) (fun _ => rfl) (IntsT.nil W))
  have HP := Lib.hid (fun (l : List Nat) (hl : l ∈ leadL us.length us.length []) t W (a : IntsV W v (natI us)) (b : IntsV W u (natI bs)) (c : IntsV W t (natI l)) => RPrice_any n us bs l hv (lead_fits hl).1 (lead_fits hl).2 v u t W a b c)
  have HX := Lib.hid (fun (l : List Nat) (hl : l ∈ leadL us.length us.length []) t W (a : IntsV W v (natI us)) (b : IntsV W u (natI bs)) (c : IntsV W t (natI l)) => RCross_any n us bs l hv (lead_fits hl).1 (lead_fits hl).2 v u t W a b c)
  have H := Lib.hid h
  have K := Lib.hid k
  have HLn := Lib.hid (fun (l : List Nat) (hl : l ∈ leadL us.length us.length []) => (lead_fits hl).1)
  have HFin := Lib.hid (calm_some hv)
  have HDef := Lib.hid (show calmL n us bs = (leadL us.length us.length []).find? fun l => decide (prT n bs us l = costN n us bs) && !crossB n us bs l from rfl)
  have HLen := Lib.hid (Nat.le_trans (leadL_len us.length us.length []) (pow_small l6 l6))
  obtain ⟨ao, cap, hv', _⟩ := h
  obtain ⟨bo, cap', hu', _⟩ := k
  have HPn := Lib.hid (fun (l : List Nat) => prT_100 hv us.length l)
  rw [natI_length] at hv' hu'
  clear hv
  have hcc : ∃ l, prT n bs us l = costN n us bs := by obtain ⟨l, _, _, _, h, _⟩ := HFin.out; exact ⟨l, h⟩
  have hpp : ∀ l : List Nat, prT n bs us l ≤ 96 := fun l => by have := HPn.out l; rwa [List.take_length] at this
  have hcm : costN n us bs ≤ 96 := by obtain ⟨l, e⟩ := hcc; have := hpp l; omega
  have HPP := Lib.hid hpp
  clear hpp HPn hcc
  generalize calmL n us bs = res at *
  generalize leadL us.length us.length [] = ls at *
  generalize prT n bs us = pr at *
  generalize crossB n us bs = cr at *
  generalize costN n us bs = cost at *
  generalize us.length = m at *
  generalize natI us = xs at *
  generalize bs.length = m' at *
  generalize natI bs = zs at *
  subst hv' hu'
  go_enter Try.func25, Try.ntmps25
  go_wp2_with fail
  refine HC.out.mono ?_
  rintro e w0 ⟨rfl, b0⟩
  have HB0 := Lib.hid b0
  clear b0
  go_wp2_with fail
  refine (HLd.out _).mono ?_
  rintro e w1 ⟨v1, vs, rfl, own1, all1, b1⟩
  have b1 := below_nx HB0.out b1
  have hvl := all1.len
  have hpos : 0 < vs.length := by
    rw [hvl]
    obtain ⟨l, hl, _⟩ := HFin.out
    rw [HDef.out] at hl
    exact List.length_pos_iff.2 (fun e => by rw [e] at hl; cases hl)
  obtain ⟨g, c1, rfl, hc1⟩ := own_form2 own1 hpos
  have HCl := Lib.hid hc1
  have HAl := Lib.hid all1
  have HB1 := Lib.hid b1
  have hl46 : vs.length ≤ 46656 := by rw [hvl]; exact HLen.out
  have HVL := Lib.hid hvl
  clear own1 all1 b1 hc1 hvl HLd
  go_wp2_with fail
  go_loopw [18] (fun i wr => ∃ (j d : Nat), j ≤ vs.length ∧ i = .int .i64 j ∧ (ls.take j).find? (fun l => decide (pr l = cost) && !cr l) = none ∧ wr = w1.drewN d) (fun i _ => vs.length - (intOf i).toNat)
  case atStart => exact ⟨0, 0, Nat.zero_le _, rfl, rfl, rfl⟩
  case round =>
    obtain ⟨j, d, hj, rfl, hbv, rfl⟩ := hrel
    have hbd := Lib.hid (below_drewN HB1.out d)
    have HBV := Lib.hid hbv
    clear hbv
    by_cases hlk : j < vs.length
    · obtain ⟨t, l, e1, e2, it⟩ := HAl.out.at j hlk
      have hmem : l ∈ ls := List.mem_of_getElem? e2
      have hT := HLn.out l hmem
      have ct : (w1.drewN d).cell? ⟨g, j, none⟩ = some t := HCl.out j t e1
      have HIt := Lib.hid it.1
      have HE2 := Lib.hid e2
      obtain ⟨ta, tc, htv, _, htc⟩ := it.1
      rw [natI_length, hT] at htv htc
      obtain ⟨tb, to, rfl, _⟩ := htc (by omega)
      clear e1 e2 it htc hT
      subst htv
      have HPl := Lib.hid (HP.out l hmem _ (w1.drewN d) (H.out.later hbd.out) (K.out.later hbd.out) HIt.out)
      have HXl := Lib.hid (fun d2 => HX.out l hmem (.slice (some ⟨tb, to, none⟩) m tc) (w1.drewN (d + d2)) (H.out.later (below_drewN HB1.out (d + d2))) (K.out.later (below_drewN HB1.out (d + d2))) HIt.out)
      have p1 := HPP.out l
      have HQ := Lib.hid (show (fun l => decide (pr l = cost) && !cr l) l = (decide (pr l = cost) && !cr l) from rfl)
      clear hmem
      by_cases hc : pr l = cost
      · rw [hc] at HPl
        cases hx : cr l with
        | false =>
          rw [hx] at HXl
          have HF := Lib.hid (find_take (fun l => decide (pr l = cost) && !cr l) HE2.out HBV.out (by simp [hc, hx]))
          clear hc hx p1
          go_wp2_with fail
          refine HPl.out.mono ?_
          rintro e w3 ⟨rfl, d2, rfl⟩
          go_wp2_with fail
          refine (HXl.out d2).mono ?_
          rintro e w4 ⟨rfl, d3, rfl⟩
          go_wp2
          go_ret
          exact ⟨_, l, rfl, by rw [HDef.out]; exact HF.out, HIt.out, below_drewN HB1.out (d + d2 + d3)⟩
        | true =>
          rw [hx] at HXl
          have HF := Lib.hid (find_none_step (fun l => decide (pr l = cost) && !cr l) HE2.out HBV.out (by simp [hc, hx]))
          clear hc hx p1
          go_wp2_with fail
          refine HPl.out.mono ?_
          rintro e w3 ⟨rfl, d2, rfl⟩
          go_wp2_with fail
          refine (HXl.out d2).mono ?_
          rintro e w4 ⟨rfl, d3, rfl⟩
          go_wp2
          go_roundw
          case rel => exact ⟨j + 1, d + d2 + d3, by omega, by go_num, HF.out, by first | rfl | simp only [World.drewN_drewN]⟩
          case measure => simp only [intOf]; omega
      · have HF := Lib.hid (find_none_step (fun l => decide (pr l = cost) && !cr l) HE2.out HBV.out (by simp [hc]))
        generalize pr l = a1 at HPl hc p1
        have hne : ((a1 : Int) == (cost : Int)) = false := by rw [beq_eq_false_iff_ne]; omega
        clear hc
        go_wp2_with fail
        refine HPl.out.mono ?_
        rintro e w3 ⟨rfl, d2, rfl⟩
        go_wp2
        go_roundw
        case rel => exact ⟨j + 1, d + d2, by omega, by go_num, HF.out, by first | rfl | simp only [World.drewN_drewN]⟩
        case measure => simp only [intOf]; omega
    · exfalso
      obtain rfl : j = vs.length := by omega
      have hb := HBV.out
      rw [HVL.out, List.take_length] at hb
      obtain ⟨l, hl, _⟩ := HFin.out
      rw [HDef.out, hb] at hl
      cases hl
end

section
/-
  Calm: its contract.
-/
open Go.RowKit Go.Shelf Go.ChangeShapes Go.WideShapes Go.ChangeAt
attribute [local go_sem] Oper.semAt_some
set_option maxRecDepth 100000

theorem calm_results (tmps : Array Value) (w : World) (g h : Nat) (a b : Value) (hp : tmps.getD 6 undef = .pointer (some ⟨g, 0, none⟩)) (hq : tmps.getD 7 undef = .pointer (some ⟨h, 0, none⟩))
    (h1 : Row w g 22 [a]) (h2 : Row w h 23 [b]) : (results Try.f24 tmps).run Try.prog w = .ok (.tuple #[a, b]) w := by
  have c0 : w.cell? ⟨g, 0, none⟩ = some a := h1.cell 0
  have c2 : w.cell? ⟨h, 0, none⟩ = some b := h2.cell 0
  have hp' : tmps[6]?.getD undef = .pointer (some ⟨g, 0, none⟩) := by simpa using hp
  have hq' : tmps[7]?.getD undef = .pointer (some ⟨h, 0, none⟩) := by simpa using hq
  simp [results, Try.f24, go_sem, hp', hq', c0, c2]

set_option maxHeartbeats 4000000 in
theorem Calm_ok (n : Nat) (us bs : List Nat) (hv : Vc n us bs) (v u : Value) (w : World) (h : IntsV w v (natI us)) (k : IntsV w u (natI bs)) :
    Calls Try.prog 24 #[.int .i64 n, v, u] w fun e w' => ∃ v' l, e = .returned (.tuple #[v', .int .i64 0]) ∧ calmL n us bs = some l ∧ IntsV w' v' (natI l) ∧ Below w.heap.size w w' := by
  obtain ⟨l0, hcalm, hll, hfit, hpr, hcr⟩ := calm_some hv
  have HBest := Lib.hid hcalm
  have HLf := Lib.hid (leads_filter n us bs hv.len)
  have HVc := Lib.hid hv
  obtain ⟨Wb, hWb⟩ : ∃ Wb, ((w.alloc (.cells #[.int .i64 n] 3)).alloc (.cells #[v] 22)).alloc (.cells #[u] 22) = Wb := ⟨_, rfl⟩
  have hbb : Below w.heap.size w Wb := by rw [← hWb]; exact (((Below.refl _ w).alloc (Nat.le_refl _) _).alloc (by simp) _).alloc (by simp; omega) _
  have h := h.later hbb
  have k := k.later hbb
  have HBB := Lib.hid hbb
  obtain ⟨H0, hH0⟩ : ∃ X, w.heap.size = X := ⟨_, rfl⟩
  have hsb : Wb.heap.size = H0 + 1 + 1 + 1 := by rw [← hWb, ← hH0]; simp
  have x1 : Row Wb H0 3 [.int .i64 n] := by rw [← hWb, ← hH0]; exact ((Row.new w _ _).alloc _).alloc _
  have x2 : Row Wb (H0 + 1) 22 [v] := by
    have := Row.new (w.alloc (.cells #[.int .i64 n] 3)) 22 [v]
    rw [World.size_alloc] at this
    rw [← hWb, ← hH0]; exact this.alloc _
  have x3 : Row Wb (H0 + 1 + 1) 22 [u] := by
    have := Row.new ((w.alloc (.cells #[.int .i64 n] 3)).alloc (.cells #[v] 22)) 22 [u]
    rw [World.size_alloc, World.size_alloc] at this
    rw [← hWb, ← hH0]; exact this
  have H1 := Lib.hid h
  have H2 := Lib.hid k
  have HVc := Lib.hid hv
  obtain ⟨ao, cap, rfl, _⟩ := h
  obtain ⟨bo, cap', rfl, _⟩ := k
  have HI := Lib.hid (fun W => leadings_any (n : Int) ao bo (natI us).length (natI bs).length cap cap' W)
  obtain ⟨W2, hW2⟩ : ∃ W2, (Wb.alloc (.cells #[.slice none 0 0] 22)).alloc (.cells #[.int .i64 0] 23) = W2 := ⟨_, rfl⟩
  have hb2 : Below Wb.heap.size Wb W2 := by rw [← hW2]; exact ((Below.refl _ Wb).alloc (Nat.le_refl _) _).alloc (by simp) _
  have HV := Lib.hid (valid2_any n (natI us) (natI bs) _ _ W2 (by rw [natI_length]; have := hv.l6; unfold maxLen; omega) (by rw [natI_length]; have := hv.symm.l6; unfold maxLen; omega) (H1.out.later hb2) (H2.out.later hb2))
  rw [two_of hv] at HV
  obtain ⟨N, hN⟩ : ∃ N, (leads n us bs).length + 1 = N := ⟨_, rfl⟩
  have hs2 : W2.heap.size = (H0 + 1 + 1 + 1) + 1 + 1 := by rw [← hW2]; simp [hsb]
  have r1 : Row W2 (H0 + 1 + 1 + 1) 22 [.slice none 0 0] := by rw [← hW2, ← hsb]; exact (Row.new Wb _ _).alloc _
  have r2 : Row W2 ((H0 + 1 + 1 + 1) + 1) 23 [.int .i64 0] := by
    rw [← hW2, ← hsb]
    have := Row.new (Wb.alloc (.cells #[.slice none 0 0] 22)) 23 [.int .i64 0]
    rw [World.size_alloc] at this
    exact this
  refine (callsIn_wide (n := 9)).1 ?_
  refine callsIn_of_wp_marks Try.func24 rfl trivial ?_ rfl
  simp only [Try.ntmps24, List.size_toArray, List.length_cons, List.length_nil, Nat.reduceAdd, Nat.reduceSub, Array.replicate_succ, Array.replicate_zero, List.push_toArray, List.append_toArray, List.nil_append, List.cons_append]
  rw [← hWb] at hW2
  have HW2 := Lib.hid hW2
  have HX := Lib.hid (And.intro x1 (And.intro x2 x3))
  have hb0 := hb2
  clear hW2 hv hll hfit hpr hcr hcalm hWb hbb
  rw [hs2] at HV
  obtain ⟨W3, hW3⟩ : ∃ W3, W2.alloc (.cells #[.slice ao (natI us).length cap, .slice bo (natI bs).length cap'] 22) = W3 := ⟨_, rfl⟩
  have b23 : Below W2.heap.size W2 W3 := by rw [← hW3]; exact (Below.refl _ W2).alloc (Nat.le_refl _) _
  have hs3 : W3.heap.size = (H0 + 1 + 1 + 1) + 1 + 1 + 1 := by rw [← hW3, World.size_alloc, hs2]
  have r1 := r1.later b23
  have r2 := r2.later b23
  have hb3 := below_nx hb2 b23
  rw [hW3] at HV
  have HW3 := Lib.hid hW3
  clear hW3 b23
  obtain ⟨W0, hW0⟩ : ∃ W0, ((W3.alloc (.cells #[.int .i64 n] 3)).alloc (.cells #[.slice ao (natI us).length cap] 22)).alloc (.cells #[.slice bo (natI bs).length cap'] 22) = W0 := ⟨_, rfl⟩
  have hs0 : W0.heap.size = (H0 + 1 + 1 + 1) + 6 := by rw [← hW0]; simp [hs3]
  have b30 : Below W3.heap.size W3 W0 := by rw [← hW0]; exact (((Below.refl _ W3).alloc (Nat.le_refl _) _).alloc (by simp) _).alloc (by simp; omega) _
  have hB0 : Below (H0 + 1 + 1 + 1) Wb W0 := by rw [← hsb]; exact below_nx hb3 b30
  have r1 := r1.later b30
  have r2 := r2.later b30
  have c3 : W0.cell? ⟨(H0 + 1 + 1 + 1) + 1 + 1 + 1, 0, none⟩ = some (.int .i64 n) := by
    rw [← hW0, ← hs3]; exact (((Row.new W3 3 [.int .i64 n]).alloc _).alloc _).cell 0
  have c4 : W0.cell? ⟨(H0 + 1 + 1 + 1) + 1 + 1 + 1 + 1, 0, none⟩ = some (.slice ao (natI us).length cap) := by
    have := Row.new (W3.alloc (.cells #[.int .i64 n] 3)) 22 [.slice ao (natI us).length cap]
    rw [World.size_alloc, hs3] at this
    rw [← hW0]; exact (this.alloc _).cell 0
  have c5 : W0.cell? ⟨(H0 + 1 + 1 + 1) + 1 + 1 + 1 + 1 + 1, 0, none⟩ = some (.slice bo (natI bs).length cap') := by
    have := Row.new ((W3.alloc (.cells #[.int .i64 n] 3)).alloc (.cells #[.slice ao (natI us).length cap] 22)) 22 [.slice bo (natI bs).length cap']
    rw [World.size_alloc, World.size_alloc, hs3] at this
    rw [← hW0]; exact this.cell 0
  have HI3 := HI.out W3
  rw [hW0, hs3] at HI3
  have HI3 := Lib.hid HI3
  have hi1 := H1.out.later (hb3.trans (b30.mono hb3.size))
  have hi2 := H2.out.later (hb3.trans (b30.mono hb3.size))
  have HH := Lib.hid hsb
  have y1 := ((x1.later hb3).cell 0)
  have y2 := ((x2.later hb3).cell 0)
  have y3 := ((x3.later hb3).cell 0)
  clear HI hb2 hb0 hs2 hs3 hb3 b30 hW0 x1 x2 x3
  gi_wp2_with (refine ⟨trivial, ?_⟩; first | (gi_at_call 60; rw [HW2.out, HW3.out]; refine (callsIn_wide.2 HV.out).mono ?_; rintro e w' ⟨rfl, rfl⟩) | (gi_at_call 62; refine (callsIn_wide.2 HI3.out).mono ?_; rintro e w' ⟨rfl, rfl⟩))
  have hSS : ∀ k, k < (H0 + 1 + 1 + 1) + 6 ∧ k ≠ (H0 + 1 + 1 + 1) ∧ k ≠ (H0 + 1 + 1 + 1) + 1 → k < W0.heap.size := fun k h => by omega
  have hown : ∀ (a : Addr) (m c : Nat) (vv : Value) (ys : List Nat), vv = .slice (some a) m c → IntsV Wb vv (natI ys) → 0 < ys.length → a.block < (H0 + 1 + 1 + 1) + 6 ∧ a.block ≠ (H0 + 1 + 1 + 1) ∧ a.block ≠ (H0 + 1 + 1 + 1) + 1 := fun a m c vv ys e hi hp => by
    obtain ⟨ao', cap'', e2, _, hc⟩ := hi
    obtain ⟨b, off, e3, hd⟩ := hc (by rw [natI_length]; exact hp)
    have h0 := World.block_lt_of_cell? Wb _ (hd 0 (by rw [natI_length]; exact hp))
    have h9 := HH.out
    rw [e, e3] at e2
    cases e2
    dsimp only at h0 ⊢
    omega
  refine wpIn_rangeFunc_sepO (α := LX) (by omega) (gf := 93) (lb := #[.pointer (some ⟨(H0 + 1 + 1 + 1) + 1 + 1 + 1, 0, none⟩), .pointer (some ⟨(H0 + 1 + 1 + 1) + 1 + 1 + 1 + 1, 0, none⟩), .pointer (some ⟨(H0 + 1 + 1 + 1) + 1 + 1 + 1 + 1 + 1, 0, none⟩)]) rfl leadings_enters
    (leadings1_seq n us bs HVc.out ((H0 + 1 + 1 + 1) + 1 + 1 + 1) ((H0 + 1 + 1 + 1) + 1 + 1 + 1 + 1) ((H0 + 1 + 1 + 1) + 1 + 1 + 1 + 1 + 1) N (fun k => k < (H0 + 1 + 1 + 1) + 6 ∧ k ≠ (H0 + 1 + 1 + 1) ∧ k ≠ (H0 + 1 + 1 + 1) + 1) _ _ W0 (by omega) hi1 hi2 c3 c4 c5 ⟨by omega, by omega, by omega⟩ ⟨by omega, by omega, by omega⟩ ⟨by omega, by omega, by omega⟩
      (fun a m c e => hown a m c _ us e H1.out (by have := HVc.out.l1; omega)) (fun a m c e => hown a m c _ bs e H2.out (by have := HVc.out.symm.l1; omega)) hSS) VLP_put keptOn_t (keptOn_b hSS) (Below.refl _ _) (fun _ => rfl)
    (LdI (fun ls => ∀ l ∈ ls, crossB n us bs l = true) (H0 + 1 + 1 + 1) Wb (H0 + 1 + 1 + 1) ((H0 + 1 + 1 + 1) + 1)) (fun c pre Z W => c = .ret ∧ LdX (fun ls => ∃ p l, ls = p ++ [l] ∧ (∀ y ∈ p, crossB n us bs y = true) ∧ crossB n us bs l = false) (H0 + 1 + 1 + 1) Wb (H0 + 1 + 1 + 1) ((H0 + 1 + 1 + 1) + 1) pre Z W) (LdI.sep HH.out.symm (by omega) (by omega) (by omega)) (fun c => LdR.sep HH.out.symm (by omega) (by omega) (by omega) c)
    ⟨by simp, ⟨r1, r2⟩, fun k h => h.elim, hB0, by omega⟩
    (fun x => { tmps := #[.int .i64 n, .slice ao (natI us).length cap, .slice bo (natI bs).length cap', .pointer (some ⟨H0, 0, none⟩), .pointer (some ⟨H0 + 1, 0, none⟩), .pointer (some ⟨H0 + 1 + 1, 0, none⟩), .pointer (some ⟨(H0 + 1 + 1 + 1), 0, none⟩), .pointer (some ⟨(H0 + 1 + 1 + 1) + 1, 0, none⟩), x.2, .int .i64 n, .slice ao (natI us).length cap, .slice bo (natI bs).length cap', .slice (some ⟨(H0 + 1 + 1 + 1) + 1 + 1, 0, none⟩) 2 2, .bool true, .bool false, .int .i64 n, .slice ao (natI us).length cap, .slice bo (natI bs).length cap', .func (.func 93) #[] #[.pointer (some ⟨(H0 + 1 + 1 + 1) + 1 + 1 + 1, 0, none⟩), .pointer (some ⟨(H0 + 1 + 1 + 1) + 1 + 1 + 1 + 1, 0, none⟩), .pointer (some ⟨(H0 + 1 + 1 + 1) + 1 + 1 + 1 + 1 + 1, 0, none⟩)], x.2, undef, undef, undef, undef, undef, undef, undef], defers := [] }) ?assign ?body ?done ?stop
  case assign =>
    intro l x W K hK
    simp only [encL]
    gi_wp2
    simpa using hK
  case body =>
    rintro l pre ⟨xl, xv⟩ Z W ⟨h0, ⟨q1, q2⟩, h3, h4, h5⟩ ⟨hV, hMem⟩ hZ hlen
    have hfl := HLf.out
    have hmm : xl ∈ leads n us bs := hMem
    rw [show leads n us bs = lds n bs us 0 [] from rfl, hfl, List.mem_filter] at hmm
    obtain ⟨hll, hfit⟩ := lead_fits hmm.1
    have hbW : Below Wb.heap.size Wb W := by rw [HH.out]; exact h4
    have iv : IntsV W xv (natI xl) := IntsV.of_own (by rw [natI_length]; exact hV.1)
    have HCr := Lib.hid (cross_any n us bs xl HVc.out hll hfit _ _ xv W (H1.out.later hbW) (H2.out.later hbW) iv)
    obtain ⟨xa, xm, xc, rfl⟩ : ∃ a m c, xv = .slice a m c := by
      rcases hV.1.2 with ⟨e, _⟩ | ⟨g, c, cur, e, _⟩
      · exact ⟨_, _, _, e⟩
      · exact ⟨_, _, _, e⟩
    have k1 := q1.cell 0
    have k2 := q2.cell 0
    have f1 := q1.frozen 0
    have f2 := q2.frozen 0
    have y1 := (HX.out.1.later hbW).cell 0
    have y2 := (HX.out.2.1.later hbW).cell 0
    have y3 := (HX.out.2.2.later hbW).cell 0
    have Q1 := Lib.hid q1
    have Q2 := Lib.hid q2
    have H3 := Lib.hid h3
    have H4 := Lib.hid h4
    have H5 := Lib.hid h5
    have H0' := Lib.hid h0
    have HVx := Lib.hid hV
    clear h0 q1 q2 h3 h4 h5 hV hMem hmm hfl hll hfit hbW iv
    cases hx : crossB n us bs xl
    · rw [hx] at HCr
      have HXc := Lib.hid hx
      clear hx
      gi_wp2_with (refine ⟨trivial, ?_⟩; gi_at_call 65; refine (CallsIn.inRound l (callsIn_wide.2 HCr.out)).mono ?_; rintro e w' ⟨rfl, q, rfl⟩)
      have hkq : KeepsOthers W (W.drewN q) := keepsOthers_belowL (below_drewN (Below.refl W.heap.size W) q)
      have R1 := ((show Row (W.drewN q) (H0 + 1 + 1 + 1) 22 [.slice none 0 0] from Q1.out).set 0 (.slice xa xm xc)).other (show (H0 + 1 + 1 + 1) ≠ (H0 + 1 + 1 + 1) + 1 by omega) (i := 0) (.int .i64 0)
      have R2 := ((show Row (W.drewN q) ((H0 + 1 + 1 + 1) + 1) 23 [.int .i64 0] from Q2.out).other (show (H0 + 1 + 1 + 1) + 1 ≠ (H0 + 1 + 1 + 1) by omega) (i := 0) (.slice xa xm xc)).set 0 (.int .i64 0)
      have ho : (W.drewN q).ownsRow 0 3 1 (.slice xa xm xc) xl.length (ivals (natI xl)) := HVx.out.1
      have ho1 := own_apart ho (grow_setL (W.drewN q) (H0 + 1 + 1 + 1) 0 (.slice xa xm xc)) (fun g hg e => by cases e; exact own_row_other Q1.out HVx.out.1 hg (by decide) rfl)
      have ho2 := own_apart ho1 (grow_setL _ ((H0 + 1 + 1 + 1) + 1) 0 (.int .i64 0)) (fun g hg e => by cases e; exact own_row_other Q2.out HVx.out.1 hg (by decide) rfl)
      refine ⟨(hkq.trans (KeepsOthers.setCell _ ⟨(H0 + 1 + 1 + 1), 0, none⟩ _)).trans (KeepsOthers.setCell _ ⟨(H0 + 1 + 1 + 1) + 1, 0, none⟩ _),
        (((KeptOn.refl Z W).drewN q).setCell (p := ⟨(H0 + 1 + 1 + 1), 0, none⟩) (fun h => by have := H3.out _ h; dsimp only at this; omega) _).setCell (p := ⟨(H0 + 1 + 1 + 1) + 1, 0, none⟩) (fun h => by have := H3.out _ h; dsimp only at this; omega) _,
        (((KeptOn.refl _ W).drewN q).setCell (p := ⟨(H0 + 1 + 1 + 1), 0, none⟩) (fun h => h.2.1 rfl) _).setCell (p := ⟨(H0 + 1 + 1 + 1) + 1, 0, none⟩) (fun h => h.2.2 rfl) _,
        rfl, ⟨pre, (xl, .slice xa xm xc), rfl, ⟨pre.map Prod.fst, xl, by rw [List.map_append]; rfl, H0'.out, HXc.out⟩, R1, R2, ho2, HVx.out.2⟩, H3.out, ((below_drewN H4.out q).setCell (p := ⟨(H0 + 1 + 1 + 1), 0, none⟩) (show (H0 + 1 + 1 + 1) ≤ (H0 + 1 + 1 + 1) by omega) _).setCell (p := ⟨(H0 + 1 + 1 + 1) + 1, 0, none⟩) (show (H0 + 1 + 1 + 1) ≤ (H0 + 1 + 1 + 1) + 1 by omega) _, ?_⟩
      have := H5.out
      simpa [World.setCell] using this
    · rw [hx] at HCr
      have HXc := Lib.hid hx
      clear hx
      gi_wp2_with (refine ⟨trivial, ?_⟩; gi_at_call 65; refine (CallsIn.inRound l (callsIn_wide.2 HCr.out)).mono ?_; rintro e w' ⟨rfl, q, rfl⟩)
      have hbq := below_drewN (Below.refl W.heap.size W) q
      refine ⟨keepsOthers_belowL hbq, (KeptOn.refl Z W).drewN q, (KeptOn.refl _ W).drewN q, fun y hy => ?_, ⟨Q1.out, Q2.out⟩, H3.out, below_drewN H4.out q, H5.out⟩
      rw [List.map_append] at hy
      rcases List.mem_append.1 hy with hy | hy
      · exact H0'.out y hy
      · have e : y = xl := by simpa using hy
        rw [e]; exact HXc.out
  case done =>
    rintro D xs Z W hD hS ⟨h0, _⟩ hK
    exfalso
    obtain ⟨l', e1, e2, e3, e4, e5⟩ := calm_some HVc.out
    have hm : l' ∈ leads n us bs := by
      rw [show leads n us bs = lds n bs us 0 [] from rfl, HLf.out, List.mem_filter]
      exact ⟨lead_in e2 e3, decide_eq_true e4⟩
    rw [← hS] at hm
    have := h0 l' hm
    rw [e5] at this
    cases this
  case stop =>
    rintro D c pre Z W hD ⟨q, hq⟩ ⟨rfl, ⟨p, x, e1, ⟨p', a, e2, e3, e4⟩, h1, h2, h6, h7⟩, h3, h4, h5⟩ hK
    have HL := Lib.hid (show x.1 = l0 by
      have e5 : a = x.1 := by
        rw [e1, List.map_append] at e2
        have e6 := congrArg List.getLast? e2
        simp at e6
        exact e6.symm
      rw [← e5]
      have h8 := HBest.out
      unfold calmL at h8
      have h9 : (leads n us bs).find? (fun l => !crossB n us bs l) = some l0 := by
        rw [show leads n us bs = lds n bs us 0 [] from rfl, HLf.out, List.find?_filter, ← h8]
        congr 1
        funext a
        by_cases hq : prT n bs us a = costN n us bs <;> cases crossB n us bs a <;> simp [hq]
      rw [hq, e2, List.append_assoc, List.find?_append, List.find?_eq_none.2 (fun y hy => by rw [e3 y hy]; simp)] at h9
      simp [e4] at h9
      exact h9)
    have HR1 := Lib.hid h1
    have HR2 := Lib.hid h2
    have HB := Lib.hid h4
    have HO := Lib.hid h6
    clear e1 e2 e3 e4 h1 h2 h3 h4 h5 h6 h7 hq
    gi_wp2
    refine ⟨by simp, .inl ⟨_, _, rfl, run_takeDeferred hK, ?_⟩⟩
    have R1' := HR1.out.kept (grownBy_putObj' W D (.deferred none)) (fun r e => by cases e; exact ⟨_, hK, rfl⟩)
    have R2' := HR2.out.kept (grownBy_putObj' W D (.deferred none)) (fun r e => by cases e; exact ⟨_, hK, rfl⟩)
    have O' := own_grown HO.out (grownBy_putObj' W D (.deferred none)) (fun r e => by cases e; exact ⟨_, hK, rfl⟩)
    refine ⟨.tuple #[x.2, .int .i64 0], ?_, ⟨x.2, l0, rfl, HBest.out, ?_, ?_⟩⟩
    · exact calm_results _ _ _ _ _ _ rfl rfl R1' R2'
    · have e := HL.out
      rw [e] at O'
      exact IntsV.of_own (by rw [natI_length]; exact O')
    · refine below_nx HBB.out ?_
      rw [HH.out]
      exact HB.out.trans (belowK_b (w := W0) (by omega) W D _ _ (by omega) hK rfl rfl)

/-- The five boxes that Calm lays first. -/
def calmW (n : Int) (v u : Value) (w : World) : World :=
  ((((w.alloc (.cells #[.int .i64 n] 3)).alloc (.cells #[v] 22)).alloc (.cells #[u] 22)).alloc (.cells #[.slice none 0 0] 22)).alloc (.cells #[.int .i64 0] 23)
theorem calmW_facts (n : Int) (v u : Value) (w : World) : Below w.heap.size w (calmW n v u w) ∧ (calmW n v u w).heap.size = w.heap.size + 1 + 1 + 1 + 1 + 1 ∧ Row (calmW n v u w) w.heap.size 3 [.int .i64 n] ∧ Row (calmW n v u w) (w.heap.size + 1) 22 [v] ∧ Row (calmW n v u w) (w.heap.size + 1 + 1) 22 [u] ∧
    Row (calmW n v u w) (w.heap.size + 1 + 1 + 1) 22 [.slice none 0 0] ∧ Row (calmW n v u w) (w.heap.size + 1 + 1 + 1 + 1) 23 [.int .i64 0] := by
  unfold calmW
  have a1 := Row.new w 3 [.int .i64 n]
  have a2 := Row.new (w.alloc (.cells #[.int .i64 n] 3)) 22 [v]
  have a3 := Row.new ((w.alloc (.cells #[.int .i64 n] 3)).alloc (.cells #[v] 22)) 22 [u]
  have a4 := Row.new (((w.alloc (.cells #[.int .i64 n] 3)).alloc (.cells #[v] 22)).alloc (.cells #[u] 22)) 22 [.slice none 0 0]
  have a5 := Row.new ((((w.alloc (.cells #[.int .i64 n] 3)).alloc (.cells #[v] 22)).alloc (.cells #[u] 22)).alloc (.cells #[.slice none 0 0] 22)) 23 [.int .i64 0]
  rw [World.size_alloc] at a2
  rw [World.size_alloc, World.size_alloc] at a3
  rw [World.size_alloc, World.size_alloc, World.size_alloc] at a4
  rw [World.size_alloc, World.size_alloc, World.size_alloc, World.size_alloc] at a5
  refine ⟨(((((Below.refl _ w).alloc (Nat.le_refl _) _).alloc (by simp) _).alloc (by simp; omega) _).alloc (by simp; omega) _).alloc (by simp; omega) _, by simp, (((a1.alloc _).alloc _).alloc _).alloc _, ((a2.alloc _).alloc _).alloc _, (a3.alloc _).alloc _, a4.alloc _, a5⟩

theorem Calm_bad (n : Int) (xs zs : List Int) (hl : xs.length ≤ maxLen) (hm : zs.length ≤ maxLen) (hb : twoB n xs zs = false) (v u : Value) (w : World) (h : IntsV w v xs) (k : IntsV w u zs) :
    Calls Try.prog 24 #[.int .i64 n, v, u] w fun e w' => e = .returned (.tuple #[.slice none 0 0, .int .i64 2]) ∧ Below w.heap.size w w' := by
  obtain ⟨hb2, hs2, x1, x2, x3, r1, r2⟩ := calmW_facts n v u w
  have hW2 : ((((w.alloc (.cells #[.int .i64 n] 3)).alloc (.cells #[v] 22)).alloc (.cells #[u] 22)).alloc (.cells #[.slice none 0 0] 22)).alloc (.cells #[.int .i64 0] 23) = calmW n v u w := rfl
  generalize calmW n v u w = W2 at hW2 hb2 hs2 x1 x2 x3 r1 r2
  have HV := Lib.hid (valid2_any n xs zs v u W2 hl hm (h.later hb2) (k.later hb2))
  rw [hb] at HV
  obtain ⟨H, hH⟩ : ∃ H, w.heap.size = H := ⟨_, rfl⟩
  rw [hH] at hs2 x1 x2 x3 r1 r2
  rw [hs2] at HV
  obtain ⟨W3, hW3⟩ : ∃ W3, W2.alloc (.cells #[v, u] 22) = W3 := ⟨_, rfl⟩
  have b23 : Below W2.heap.size W2 W3 := by rw [← hW3]; exact (Below.refl _ W2).alloc (Nat.le_refl _) _
  have r1 := r1.later b23
  have r2 := r2.later b23
  have hb3 := below_nx hb2 b23
  rw [hW3] at HV
  have HB3 := Lib.hid hb3
  have R1 := Lib.hid r1
  have R2 := Lib.hid r2
  have k1 := r1.cell 0
  have k2 := r2.cell 0
  have f1 := r1.frozen 0
  have f2 := r2.frozen 0
  have HH := Lib.hid hH
  rw [← hW2] at hW3
  have HW3 := Lib.hid hW3
  obtain ⟨ao, cap, rfl, _⟩ := h
  obtain ⟨bo, cap', rfl, _⟩ := k
  clear hb hb2 b23 r1 r2 hb3 hW3 hs2 hW2 x1 x2 x3
  go_enter Try.func24, Try.ntmps24
  go_wp2_with fail
  rw [HW3.out]
  refine HV.out.mono ?_
  rintro e w' ⟨rfl, rfl⟩
  go_wp2
  have q1 := (R1.out.set 0 (.slice none 0 0)).other (show H + 1 + 1 + 1 ≠ H + 1 + 1 + 1 + 1 by omega) (i := 0) (.int .i64 2)
  have q2 := (R2.out.other (show H + 1 + 1 + 1 + 1 ≠ H + 1 + 1 + 1 by omega) (i := 0) (.slice none 0 0)).set 0 (.int .i64 2)
  refine bodyPost_ret (calm_results _ _ (H + 1 + 1 + 1) (H + 1 + 1 + 1 + 1) _ _ rfl rfl q1 q2) rfl ⟨rfl, ?_⟩
  have hB := HB3.out
  have e := HH.out
  rw [e] at hB
  first | (rw [e]; exact (hB.setCell (p := ⟨H + 1 + 1 + 1, 0, none⟩) (show H ≤ H + 1 + 1 + 1 by omega) _).setCell (p := ⟨H + 1 + 1 + 1 + 1, 0, none⟩) (show H ≤ H + 1 + 1 + 1 + 1 by omega) _) | exact (hB.setCell (p := ⟨H + 1 + 1 + 1, 0, none⟩) (show H ≤ H + 1 + 1 + 1 by omega) _).setCell (p := ⟨H + 1 + 1 + 1 + 1, 0, none⟩) (show H ≤ H + 1 + 1 + 1 + 1 by omega) _
end

end Go.Proofs.Ytkpiakoijkflmaa

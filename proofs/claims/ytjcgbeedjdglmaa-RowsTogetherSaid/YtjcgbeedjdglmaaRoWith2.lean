/-
  The reference's With.
-/
import Derived.Test.YtjcgbeedjdglmaaRoWith
import Derived.Test.YtjcgbeedjdglmaaRoWay3
namespace Go.Proofs.Ytjcgbeedjdglmaa
open Go.ChangeShapes Go.WideShapes Go.ChangeAt Go.RowKit
set_option maxRecDepth 100000

theorem nodup_subset : ∀ {l m : List Nat}, l.Nodup → (∀ x ∈ l, x ∈ m) → l.length ≤ m.length
  | [], _, _, _ => Nat.zero_le _
  | x :: l, m, hn, h => by
    rw [List.nodup_cons] at hn
    have hm := h x (by simp)
    have h1 := nodup_subset (m := m.erase x) hn.2 (fun y hy => by
      refine (List.mem_erase_of_ne ?_).2 (h y (by simp [hy]))
      rintro rfl; exact hn.1 hy)
    rw [List.length_erase_of_mem hm] at h1
    have : 0 < m.length := List.length_pos_of_mem hm
    rw [List.length_cons]; omega

/-- Among n numbers below n all occur exactly if none occurs twice. -/
theorem full_iff {n : Nat} {zs : List Nat} (hl : zs.length = n) (hlt : ∀ z ∈ zs, z < n) : maskL zs = 2 ^ n - 1 ↔ zs.Nodup := by
  have h1 : maskL zs = 2 ^ n - 1 ↔ ∀ i, i < n → i ∈ zs := by
    constructor
    · intro h i hi
      have := mask_bit zs i
      rw [h, Nat.testBit_two_pow_sub_one, decide_eq_true hi] at this
      exact of_decide_eq_true this.symm
    · intro h
      refine Nat.eq_of_testBit_eq fun i => ?_
      rw [mask_bit, Nat.testBit_two_pow_sub_one]
      by_cases hi : i < n
      · rw [decide_eq_true hi, decide_eq_true (h i hi)]
      · rw [decide_eq_false hi, decide_eq_false (fun hm => hi (hlt i hm))]
  rw [h1]
  constructor
  · intro h
    refine Classical.byContradiction fun hd => ?_
    rw [List.nodup_iff_pairwise_ne] at hd
    have hx : ∃ (a c : List Nat) (y : Nat), zs = a ++ y :: c ∧ y ∈ c := by
      clear h1 h hl hlt
      induction zs with
      | nil => exact (hd List.Pairwise.nil).elim
      | cons z zs ih =>
        by_cases hz : z ∈ zs
        · exact ⟨[], zs, z, rfl, hz⟩
        · obtain ⟨a, c, y, e, hy⟩ := ih (fun hp => hd (List.pairwise_cons.2 ⟨fun x hx e => hz (e ▸ hx), hp⟩))
          exact ⟨z :: a, c, y, by rw [e]; rfl, hy⟩
    obtain ⟨a, c, y, rfl, hy⟩ := hx
    have h2 := nodup_subset (l := List.range n) (m := a ++ c) List.nodup_range (fun x hx => by
      have := h x (List.mem_range.1 hx)
      rcases List.mem_append.1 this with h3 | h3
      · exact List.mem_append_left _ h3
      · rcases List.mem_cons.1 h3 with rfl | h3
        · exact List.mem_append_right _ hy
        · exact List.mem_append_right _ h3)
    rw [List.length_range, List.length_append] at h2
    rw [List.length_append, List.length_cons] at hl
    omega
  · intro hd i hi
    refine Classical.byContradiction fun hm => ?_
    have h2 := nodup_subset (l := i :: zs) (m := List.range n) (List.nodup_cons.2 ⟨hm, hd⟩) (fun x hx => by
      rw [List.mem_range]
      rcases List.mem_cons.1 hx with rfl | hx
      · exact hi
      · exact hlt x hx)
    rw [List.length_range, List.length_cons] at h2
    omega

def uniM (ys fs : List Nat) (i : Nat) : Nat := maskL (ys.take i) ||| maskL (fs.take i)
theorem mask_append (a b : List Nat) : maskL (a ++ b) = maskL a ||| maskL b := by
  refine Nat.eq_of_testBit_eq fun i => ?_
  rw [Nat.testBit_or, mask_bit, mask_bit, mask_bit, Bool.eq_iff_iff]
  simp
theorem uni_succ {ys fs : List Nat} {i : Nat} (h1 : i < ys.length) (h2 : i < fs.length) : uniM ys fs (i + 1) = uniM ys fs i ||| ((1 <<< ys[i]?.getD 0) ||| (1 <<< fs[i]?.getD 0)) := by
  unfold uniM
  rw [List.take_succ_eq_append_getElem h1, List.take_succ_eq_append_getElem h2, mask_snoc, mask_snoc, List.getElem?_eq_getElem h1, List.getElem?_eq_getElem h2]
  simp only [Option.getD_some]
  generalize maskL (ys.take i) = a
  generalize maskL (fs.take i) = b
  generalize 1 <<< ys[i] = c
  generalize 1 <<< fs[i] = d
  refine Nat.eq_of_testBit_eq fun j => ?_
  simp only [Nat.testBit_or]
  cases a.testBit j <;> cases b.testBit j <;> cases c.testBit j <;> cases d.testBit j <;> rfl
theorem uni_lt {ys fs : List Nat} {n : Nat} (h1 : ∀ y ∈ ys, y < n) (h2 : ∀ y ∈ fs, y < n) (i : Nat) : uniM ys fs i < 2 ^ n := by
  unfold uniM
  rw [← mask_append]
  refine mask_lt fun y hy => ?_
  rcases List.mem_append.1 hy with hy | hy
  · exact h1 y (List.mem_of_mem_take hy)
  · exact h2 y (List.mem_of_mem_take hy)
theorem uni_goes {n : Nat} {ys : List Nat} (hr : IsRow n ys) (he : n % 2 = 0) (k m : Nat) : goesB n ys (k, m) = decide (uniM ys (formL n k m ys) (n / 2) = 2 ^ n - 1) := by
  have hlen := hr.len
  have hf : (formL n k m ys).length = n := by rw [formL_length, hlen]
  have h1 : ∀ z ∈ ys.take (n / 2) ++ (formL n k m ys).take (n / 2), z < n := fun z hz => by
    rcases List.mem_append.1 hz with hz | hz
    · exact hr.lt z (List.mem_of_mem_take hz)
    · exact formL_lt hr.pos k m ys z (List.mem_of_mem_take hz)
  have hl : (ys.take (n / 2) ++ (formL n k m ys).take (n / 2)).length = n := by
    rw [List.length_append, List.length_take, List.length_take, hlen, hf]; omega
  have e : bothL n ys k m = natI (ys.take (n / 2) ++ (formL n k m ys).take (n / 2)) := by
    unfold bothL natI; rw [List.map_append, List.map_take, List.map_take]
  unfold goesB partB uniM
  rw [← mask_append, Bool.eq_iff_iff, decide_eq_true_eq, decide_eq_true_eq, full_iff hl h1, e, natI_nodup]
  refine ⟨fun h => h.2, fun h => ⟨fun x hx => ?_, h⟩⟩
  obtain ⟨y, hy, rfl⟩ := List.mem_map.1 hx
  have := h1 y hy
  omega
theorem withN_snoc (n : Nat) (ys : List Nat) (l : List (Nat × Nat)) (p : Nat × Nat) : withN n ys (l ++ [p]) = if goesB n ys p = true then withN n ys l ++ [p] else withN n ys l := by
  unfold withN
  rw [List.filter_append]
  cases h : goesB n ys p <;> simp [h]

theorem pow_wrap {P : Nat} (h1 : 1 ≤ P) (h2 : P ≤ 1024) : IntKind.i64.wrap ((P : Int) - 1) = (P : Int) - 1 := IntWalk.i64_in _ (by omega)
theorem mask_eq {M P : Nat} (h1 : 1 ≤ P) : ((M : Int) == (P : Int) - 1) = decide (M = P - 1) := by
  rw [Bool.eq_iff_iff, beq_iff_eq, decide_eq_true_eq]; omega

set_option maxHeartbeats 2000000 in
theorem RWith_any (n : Nat) (ys : List Nat) (hr : IsRow n ys) (he : n % 2 = 0) (v : Value) (w : World) (h : IntsV w v (natI ys)) :
    Calls Try.prog 48 #[v] w fun e w' => ∃ v', e = .returned v' ∧ w'.ownsRow w.heap.size 42 2 v' (withL n ys).length (pairsV (withL n ys)) ∧ Below w.heap.size w w' := by
  have hlen := hr.len
  have hlo := hr.lo
  have hhi := hr.hi
  have hmx : Try.prog.follows .mixedOrders = true := by kernel_rfl
  obtain ⟨i0, hi, hz0, hz1, hz2⟩ := info_parts info_pair
  have HFo := Lib.hid (fun kind hk (k : Int) u W hu => RForm_any n ys hr.lo hr.hi hr.lt (by omega) (by omega) kind hk k u W hu)
  have HFl := Lib.hid (fun k m => show (formL n k m ys).length = n by rw [formL_length, hlen])
  have HFt := Lib.hid (fun k m => formL_lt hr.pos k m ys)
  have HYt := Lib.hid (fun i => getD_lt hr.lt hr.pos i)
  have HFi := Lib.hid (fun k m i => getD_lt (formL_lt hr.pos k m ys) hr.pos i)
  have HUn := Lib.hid (fun k m i (hi : i < n) => uni_succ (ys := ys) (fs := formL n k m ys) (i := i) (by omega) (by rw [formL_length]; omega))
  have HUl := Lib.hid (fun k m i => uni_lt (n := n) hr.lt (formL_lt hr.pos k m ys) i)
  have HGo := Lib.hid (fun k m => uni_goes hr he k m)
  have HWs := Lib.hid (fun l p => withN_snoc n ys l p)
  have HNm := Lib.hid (fun (u y : Nat) (hy : y < n) => show namesL n (u * n + (y + 1)) = namesL n (u * n + y) ++ [(u, y)] by rw [← Nat.add_assoc, namesL_succ, nmT_at hy])
  have HWl := Lib.hid (show withL n ys = withN n ys (namesL n (4 * n)) from rfl)
  have HLe := Lib.hid (fun m => show (withN n ys (namesL n m)).length ≤ m from Nat.le_trans (List.length_filter_le _ _) (Nat.le_of_eq (namesL_length n m)))
  have H1 := Lib.hid h
  obtain ⟨ao, cap, hv, _, hc⟩ := h
  rw [natI_length, hlen] at hv hc
  obtain ⟨b, off, rfl, hd⟩ := hc (by omega)
  subst hv
  have HC := Lib.hid (fun i hi => (hd i hi).trans (by rw [natI_at]))
  obtain ⟨Hs, hHs⟩ : ∃ Hs, w.heap.size = Hs := ⟨_, rfl⟩
  have HH := Lib.hid hHs
  generalize withL n ys = wl at *
  clear hr hc hd hHs
  go_enter Try.func48, Try.ntmps48
  go_wp2
  go_loopw [3, 9] (fun o i wr => ∃ u : Nat, u ≤ 4 ∧ i = .int .i64 u ∧ wr.ownsRow Hs 42 2 o (withN n ys (namesL n (u * n))).length (pairsV (withN n ys (namesL n (u * n)))) ∧ Below Hs w wr) (fun _ i _ => 4 - (intOf i).toNat)
  case atStart => exact ⟨0, by omega, rfl, by rw [Nat.zero_mul]; exact World.ownsRow_nil _ _ _ _, by rw [← HH.out]; exact Below.refl _ _⟩
  case round =>
    obtain ⟨u, hu, rfl, hown, hB⟩ := hrel
    have HO := Lib.hid hown
    have HB := Lib.hid hB
    by_cases hu4 : u < 4
    · clear hown hB
      go_wp2
      rw [show decide ((u : Int) < 4) = true from decide_eq_true (by omega)]
      go_loopw [3, 14] (fun o j wr => ∃ y : Nat, y ≤ n ∧ j = .int .i64 y ∧ wr.ownsRow Hs 42 2 o (withN n ys (namesL n (u * n + y))).length (pairsV (withN n ys (namesL n (u * n + y)))) ∧ Below Hs w wr) (fun _ j _ => n - (intOf j).toNat)
      case atStart => exact ⟨0, Nat.zero_le _, rfl, HO.out, HB.out⟩
      case round =>
        obtain ⟨y, hy, rfl, hown, hB⟩ := hrel
        have HO2 := Lib.hid hown
        have HB2 := Lib.hid hB
        by_cases hyn : y < n
        · have hBw : Below w.heap.size w wr := by rw [HH.out]; exact hB
          have HFy := Lib.hid (HFo.out u hu4 (y : Int) _ wr (H1.out.later hBw))
          have ey : ((y : Int) % (n : Int)).toNat = y := by rw [Int.emod_eq_of_lt (by omega) (by omega)]; simp
          rw [ey] at HFy
          have HNs := Lib.hid (HNm.out u y hyn)
          have HFl2 := HFl.out u y
          have HFi2 := Lib.hid (HFi.out u y)
          have HUn2 := Lib.hid (HUn.out u y)
          have HUl2 := Lib.hid (HUl.out u y)
          have HGo2 := Lib.hid (HGo.out u y)
          clear hown hB ey
          go_wp2_with fail
          refine HFy.out.mono ?_
          rintro e w1 ⟨v', rfl, i1, b1⟩
          obtain ⟨am, cm, rfl, _, hcm⟩ := i1
          rw [natI_length, HFl2] at hcm
          obtain ⟨b2, o2, rfl, hd2⟩ := hcm (by omega)
          have HD := Lib.hid (fun i hi => (hd2 i hi).trans (by rw [natI_at]))
          rw [natI_length, HFl2]
          have HB3 := Lib.hid (below_nx hBw b1)
          have HO3 := Lib.hid (own_later HO2.out b1)
          have HC3 := Lib.hid (fun i hi => cell_later HB3.out (HC.out i hi))
          clear hcm hd2 b1 hBw HFl2
          generalize formL n u y ys = fs at *
          go_wp2
          go_loopw [7, 26] (fun m i wr => ∃ k : Nat, k ≤ n / 2 ∧ i = .int .i64 k ∧ m = .int .i64 ((uniM ys fs k : Nat) : Int) ∧ Below w1.heap.size w1 wr) (fun _ i _ => n - (intOf i).toNat)
          case atStart => exact ⟨0, Nat.zero_le _, rfl, by simp [uniM, mask_nil], Below.refl _ _⟩
          case round =>
            obtain ⟨k, hk, rfl, rfl, hbk⟩ := hrel
            by_cases hkn : k < n / 2
            · have c1 := cell_later hbk (HC3.out k (by omega))
              have c2 := cell_later hbk (HD.out k (by omega))
              have y1 := HYt.out k
              have y2 := HFi2.out k
              have HU := Lib.hid (HUn2.out k (by omega))
              have hml := HUl2.out k
              have hpw : (2 : Nat) ^ n ≤ 2 ^ 16 := Nat.pow_le_pow_right (by omega) (by omega)
              generalize ys[k]?.getD 0 = a at c1 y1 HU
              generalize fs[k]?.getD 0 = d at c2 y2 HU
              have HWa := Lib.hid (w64_pow (y := a) (by omega))
              have HWd := Lib.hid (w64_pow (y := d) (by omega))
              have ha := one_shl (n := a) (by omega)
              have hd := one_shl (n := d) (by omega)
              have HO1 := Lib.hid (or_nat (1 <<< a) (1 <<< d) (by omega) (by omega))
              have hor : 1 <<< a ||| 1 <<< d < 2 ^ 16 := Nat.or_lt_two_pow ha hd
              have HO2' := Lib.hid (or_nat (uniM ys fs k) (1 <<< a ||| 1 <<< d) (by omega) (by omega))
              have HBk := Lib.hid hbk
              have k0 : (0 : Int) ≤ (k : Int) := by omega
              have k1 : (k : Int) < (n : Int) := by omega
              have k2 : (k : Int) < (n : Int) / 2 := by omega
              clear hbk hpw hml ha hd hor
              go_wp2
              go_quiet (fail)
              go_wp2
              go_roundw
              case rel => exact ⟨k + 1, by omega, by go_num, by rw [HWa.out, HWd.out, HO1.out, HO2'.out, HU.out], by first | exact HBk.out.drew | exact below_drewN HBk.out _⟩
              case measure => simp only [intOf]; omega
            · obtain rfl : k = n / 2 := by omega
              have HBk := Lib.hid hbk
              have HO4 := Lib.hid (own_later HO3.out hbk)
              have HB4 := Lib.hid (show Below Hs w wr by rw [← HH.out]; exact HB3.out.trans (hbk.mono HB3.out.size))
              have hml := HUl2.out (n / 2)
              have hpw : (2 : Nat) ^ n ≤ 1024 := Nat.le_trans (Nat.pow_le_pow_right (by omega) hhi) (by decide)
              have hp1 : 1 ≤ (2 : Nat) ^ n := Nat.one_le_two_pow
              have hw1 := w64_pow (y := n) (by omega)
              rw [Nat.one_shiftLeft] at hw1
              have hG := HGo2.out
              have HW1 := HWs.out (namesL n (u * n + y)) (u, y)
              rw [← HNs.out] at HW1
              have hle := HLe.out (u * n + y)
              have hun : u * n + y < 64 := by
                have : u * n ≤ 3 * n := Nat.mul_le_mul_right n (by omega)
                omega
              generalize uniM ys fs (n / 2) = M at *
              generalize (2 : Nat) ^ n = P at *
              have hw2 := pow_wrap hp1 hpw
              have hme := mask_eq (M := M) hp1
              clear hbk hpw hml HUn2 HUl2 HFi2 HGo2
              generalize withN n ys (namesL n (u * n + y)) = N at *
              by_cases hg : M = P - 1
              · have hq : ((M : Int) == (P : Int) - 1) = true := by rw [hme, decide_eq_true hg]
                rw [decide_eq_true hg] at hG
                rw [hG, if_pos rfl] at HW1
                have HN := Lib.hid HW1
                have hsz : Hs ≤ wr.heap.size := by have := HB4.out.size; have := HH.out; omega
                clear hg hG HW1 hme
                generalize hNl : N.length = NL at *
                go_wp2_with (first | (at_builtin; refine wpList_append_own_at _ rfl _ _ 55 rfl Hs 42 i0 (.agg #[.int .i64 0, .int .i64 0]) 2 16 Try.underlying55 hi hz0 hz1 hz2 rfl (by decide) _ _ _ rfl (HO4.out.alloc _) ⟨wr.heap.size, 0, none⟩ 1 1 [.int .i64 (u : Int), .int .i64 (y : Int)] rfl rfl (rows_new _ _ _) (by simp [Value.oneCell']) (by unfold maxLen; omega) (by omega) (by simp; omega) ?_; intro v' w2 hown1 hgrow1 hnil1 hblk))
                go_roundw
                case rel => exact ⟨y + 1, by omega, by go_num, by rw [HN.out, List.length_append, hNl, pairsV_snoc]; exact hown1, (HB4.out.alloc hsz _).grown hgrow1 (by simp; omega) (fun q e => (HO4.out.lt q e).1)⟩
                case measure => simp only [intOf]; omega
              · have hq : ((M : Int) == (P : Int) - 1) = false := by rw [hme, decide_eq_false hg]
                rw [decide_eq_false hg] at hG
                rw [hG, if_neg (by simp)] at HW1
                have HN := Lib.hid HW1
                clear hg hG HW1 hme
                go_wp2
                go_roundw
                case rel => exact ⟨y + 1, by omega, by go_num, by rw [HN.out]; exact HO4.out, HB4.out⟩
                case measure => simp only [intOf]; omega
        · obtain rfl : y = n := by omega
          clear hown hB
          go_wp2
          go_roundw
          case rel => exact ⟨u + 1, by omega, by go_num, by rw [Nat.add_mul, Nat.one_mul]; exact HO2.out, HB2.out⟩
          case measure => simp only [intOf]; omega
    · obtain rfl : u = 4 := by omega
      clear hown hB
      go_wp2
      go_ret
      exact ⟨_, rfl, by rw [HWl.out, HH.out]; exact HO.out, by rw [HH.out]; exact HB.out⟩
end Go.Proofs.Ytjcgbeedjdglmaa

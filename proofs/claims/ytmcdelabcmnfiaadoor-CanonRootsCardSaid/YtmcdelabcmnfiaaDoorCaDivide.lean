/-
  The reference's division of polynomials.
-/
import Derived.Test.YtmcdelabcmnfiaaDoorCaRootsFns
import Derived.WalkLawsBesides
namespace Go.Proofs.YtmcdelabcmnfiaaDoor
open Go.RowKit Go.Shelf
attribute [local go_sem] Oper.semAt_some
set_option maxRecDepth 100000

/-- What is left after t steps of the division of F (m places) by G (of the degree top). -/
def rsN (F G : Nat → Int) (m top : Nat) : Nat → Nat → Int
  | 0 => F
  | t + 1 => fun j => if m - 1 - t - top ≤ j ∧ j ≤ m - 1 - t then rsN F G m top t j - rsN F G m top t (m - 1 - t) * G (j - (m - 1 - t - top)) else rsN F G m top t j
/-- The quotient. -/
def quN (F G : Nat → Int) (m top i : Nat) : Int := rsN F G m top (m - 1 - (i + top)) (i + top)
/-- One step under way: the first i places are done. -/
def ptN (R G : Nat → Int) (b i : Nat) (c : Int) : Nat → Int := fun j => if b ≤ j ∧ j < b + i then R j - c * G (j - b) else R j
theorem ptN_zero (R G : Nat → Int) (b : Nat) (c : Int) : ptN R G b 0 c = R := by funext j; unfold ptN; rw [if_neg (by omega)]
theorem ptN_full {F G : Nat → Int} {m top t : Nat} (h : t + top < m) : ptN (rsN F G m top t) G (m - 1 - t - top) (top + 1) (rsN F G m top t (m - 1 - t)) = rsN F G m top (t + 1) := by
  funext j
  show _ = if _ then _ else _
  unfold ptN
  by_cases h1 : m - 1 - t - top ≤ j ∧ j ≤ m - 1 - t
  · rw [if_pos h1, if_pos (by omega)]
  · rw [if_neg h1, if_neg (by omega)]
theorem ptN_succ (R G : Nat → Int) (b i : Nat) (c : Int) (j : Nat) : ptN R G b (i + 1) c j = if j = b + i then R j - c * G i else ptN R G b i c j := by
  unfold ptN
  by_cases h : j = b + i
  · subst h
    rw [if_pos (by omega), if_pos rfl, Nat.add_sub_cancel_left]
  · rw [if_neg h]
    by_cases h2 : b ≤ j ∧ j < b + i
    · rw [if_pos (by omega), if_pos h2]
    · rw [if_neg (by omega), if_neg h2]
theorem ptN_same (R G : Nat → Int) (b i : Nat) (c : Int) : ptN R G b i c (b + i) = R (b + i) := by unfold ptN; rw [if_neg (by omega)]
theorem rsN_succ (F G : Nat → Int) (m top t j : Nat) : rsN F G m top (t + 1) j = if m - 1 - t - top ≤ j ∧ j ≤ m - 1 - t then rsN F G m top t j - rsN F G m top t (m - 1 - t) * G (j - (m - 1 - t - top)) else rsN F G m top t j := rfl
theorem rsN_bd {F G : Nat → Int} {m top : Nat} {B : Int} (hB : 0 ≤ B) (hF : ∀ j, -B ≤ F j ∧ F j ≤ B) (hG : ∀ j, -1 ≤ G j ∧ G j ≤ 1) : ∀ t j, -(B * 2 ^ t) ≤ rsN F G m top t j ∧ rsN F G m top t j ≤ B * 2 ^ t
  | 0, j => by rw [Int.pow_zero, Int.mul_one]; exact hF j
  | t + 1, j => by
    have h1 := rsN_bd (m := m) (top := top) hB hF hG t j
    have h2 := rsN_bd (m := m) (top := top) hB hF hG t (m - 1 - t)
    have hp : B * 2 ^ (t + 1) = B * 2 ^ t + B * 2 ^ t := by rw [Int.pow_succ, ← Int.mul_assoc]; omega
    rw [hp, rsN_succ]
    have h0 : 0 ≤ B * 2 ^ t := Int.mul_nonneg hB (Int.pow_nonneg (by decide))
    generalize B * 2 ^ t = C at *
    split
    · have hg := hG (j - (m - 1 - t - top))
      generalize G (j - (m - 1 - t - top)) = g at *
      rcases (show g = -1 ∨ g = 0 ∨ g = 1 by omega) with rfl | rfl | rfl <;> omega
    · omega

/-- A row, as far as its first places go. -/
def RowP (W : World) (g m : Nat) (F : Nat → Int) : Prop := ∃ cur : Array Value, W.heap[g]? = some (.cells cur 3 (0, 0)) ∧ ∀ j, j < m → cur[j]? = some (.int .i64 (F j))
theorem RowP.lt {W : World} {g m : Nat} {F : Nat → Int} (h : RowP W g m F) : g < W.heap.size := by obtain ⟨cur, h1, _⟩ := h; exact (Array.getElem?_eq_some_iff.1 h1).1
theorem RowP.cell {W : World} {g m : Nat} {F : Nat → Int} (h : RowP W g m F) {j : Nat} (hj : j < m) : W.cell? ⟨g, j, none⟩ = some (.int .i64 (F j)) := by
  obtain ⟨cur, h1, h2⟩ := h
  simp [World.cell?, h1, h2 j hj]
theorem RowP.frozen {W : World} {g m : Nat} {F : Nat → Int} (h : RowP W g m F) (j : Nat) : W.frozen? ⟨g, j, none⟩ = false := by
  obtain ⟨cur, h1, h2⟩ := h
  simp [World.frozen?, h1]
theorem RowP.later {W W' : World} {g m : Nat} {F : Nat → Int} (h : RowP W g m F) (hb : Below W.heap.size W W') : RowP W' g m F := by
  have hl := h.lt
  obtain ⟨cur, h1, h2⟩ := h
  exact ⟨cur, (hb.block g hl).trans h1, h2⟩
theorem RowP.congr {W : World} {g m : Nat} {F G : Nat → Int} (h : RowP W g m F) (e : ∀ j, j < m → F j = G j) : RowP W g m G := by
  obtain ⟨cur, h1, h2⟩ := h
  exact ⟨cur, h1, fun j hj => by rw [h2 j hj, e j hj]⟩
theorem RowP.set {W : World} {g m : Nat} {F G : Nat → Int} (h : RowP W g m F) {i : Nat} {v : Int} (hi : i < m) (h1 : G i = v) (h2 : ∀ j, j < m → j ≠ i → G j = F j) : RowP (W.setCell ⟨g, i, none⟩ (.int .i64 v)) g m G := by
  obtain ⟨cur, a, b⟩ := h
  refine ⟨cur.setIfInBounds i (.int .i64 v), ?_, fun j hj => ?_⟩
  · simp only [World.setCell, Array.getElem?_modify, a, if_true, Option.map_some, Option.isSome_none, Bool.false_eq_true, if_false]
  · by_cases e : i = j
    · subst e
      have := b i hi
      rw [Array.getElem?_setIfInBounds_self, h1, if_pos (Array.getElem?_eq_some_iff.1 this).1]
    · rw [Array.getElem?_setIfInBounds_ne e, b j hj, h2 j hj (fun x => e x.symm)]
theorem RowP.other {W : World} {g g' m : Nat} {F : Nat → Int} (h : RowP W g m F) (hne : g ≠ g') (i : Nat) (v : Value) : RowP (W.setCell ⟨g', i, none⟩ v) g m F := by
  obtain ⟨cur, a, b⟩ := h
  exact ⟨cur, (Below.heap_setCell W ⟨g', i, none⟩ v g hne).trans a, b⟩
theorem RowP.of_row {W : World} {g m : Nat} {F : Nat → Int} (h : Row W g 3 (zrow F m)) : RowP W g m F :=
  ⟨(zrow F m).toArray, h, fun j hj => by rw [List.getElem?_toArray, zrow_at hj]⟩
theorem RowP.of_own {W : World} {lo g m cap : Nat} {F : Nat → Int} (h : W.ownsRow lo 3 1 (.slice (some ⟨g, 0, none⟩) m cap) m (zrow F m)) : RowP W g m F := by
  obtain ⟨h0, h1 | ⟨g', cap', cur, hv, hg, hh, hn, hm, hc, ht⟩⟩ := h
  · cases h1.1
  · cases hv
    refine ⟨cur, hh, fun j hj => ?_⟩
    have e := zrow_at (F := F) hj
    rw [← ht, Nat.mul_one, List.getElem?_take, if_pos hj] at e
    rwa [Array.getElem?_toList] at e

theorem zrow_len1 (F : Nat → Int) (m : Nat) : (zrow F m).length = m * 1 := by rw [zrow_length, Nat.mul_one]
theorem zrow_one {F : Nat → Int} {m : Nat} : ∀ u ∈ zrow F m, u.oneCell' = true := by
  intro u hu
  unfold zrow at hu
  obtain ⟨k, _, rfl⟩ := List.mem_map.1 hu
  rfl

/-- The state of the division. -/
structure DvS (w : World) (H gR gO bg m top : Nat) (G Q R : Nat → Int) (W : World) : Prop where
  rest : RowP W gR m R
  out : RowP W gO (m - top) Q
  gc : ∀ j, j < top + 1 → W.cell? ⟨bg, j, none⟩ = some (.int .i64 (G j))
  bel : Below H w W
theorem DvS.rput {w : World} {H gR gO bg m top : Nat} {G Q R R' : Nat → Int} {W : World} (h : DvS w H gR gO bg m top G Q R W) (n1 : gO ≠ gR) (n2 : bg ≠ gR) (hH : H ≤ gR) {i : Nat} {v : Int} (hi : i < m) (h1 : R' i = v) (h2 : ∀ j, j < m → j ≠ i → R' j = R j) :
    DvS w H gR gO bg m top G Q R' (W.setCell ⟨gR, i, none⟩ (.int .i64 v)) :=
  ⟨h.rest.set hi h1 h2, h.out.other n1 _ _, fun j hj => cell_set_other (h.gc j hj) n2, h.bel.setCell (p := ⟨gR, i, none⟩) hH _⟩
theorem DvS.oput {w : World} {H gR gO bg m top : Nat} {G Q Q' R : Nat → Int} {W : World} (h : DvS w H gR gO bg m top G Q R W) (n1 : gR ≠ gO) (n2 : bg ≠ gO) (hH : H ≤ gO) {i : Nat} {v : Int} (hi : i < m - top) (h1 : Q' i = v) (h2 : ∀ j, j < m - top → j ≠ i → Q' j = Q j) :
    DvS w H gR gO bg m top G Q' R (W.setCell ⟨gO, i, none⟩ (.int .i64 v)) :=
  ⟨h.rest.other n1 _ _, h.out.set hi h1 h2, fun j hj => cell_set_other (h.gc j hj) n2, h.bel.setCell (p := ⟨gO, i, none⟩) hH _⟩

/-- The quotient as far as it is known after t steps. -/
def qtN (F G : Nat → Int) (m top t : Nat) : Nat → Int := fun i => if m - t ≤ i + top then quN F G m top i else 0
theorem qtN_step {F G : Nat → Int} {m top t : Nat} (h : t + top < m) {i : Nat} (hi : i < m - top) : qtN F G m top (t + 1) i = if i = m - 1 - t - top then rsN F G m top t (m - 1 - t) else qtN F G m top t i := by
  unfold qtN
  by_cases e : i = m - 1 - t - top
  · rw [if_pos e, if_pos (by omega)]
    unfold quN
    rw [show i + top = m - 1 - t by omega, show m - 1 - (m - 1 - t) = t by omega]
  · rw [if_neg e]
    by_cases h2 : m - t ≤ i + top
    · rw [if_pos (by omega), if_pos h2]
    · rw [if_neg (by omega), if_neg h2]

set_option maxHeartbeats 2000000 in
theorem divide_any (F G : Nat → Int) (m top bf bg capf capg : Nat) (hm : m ≤ 26) (ht : 1 ≤ top) (htm : top < m) (hF : ∀ j, -64 ≤ F j ∧ F j ≤ 64) (hG : ∀ j, -1 ≤ G j ∧ G j ≤ 1) (w : World)
    (hcf : ∀ j, j < m → w.cell? ⟨bf, j, none⟩ = some (.int .i64 (F j))) (hcg : ∀ j, j < top + 1 → w.cell? ⟨bg, j, none⟩ = some (.int .i64 (G j))) :
    Calls Tryd.prog 80 #[.slice (some ⟨bf, 0, none⟩) m capf, .slice (some ⟨bg, 0, none⟩) (top + 1) capg] w fun e w' =>
      (((∀ j, j < m → rsN F G m top (m - top) j = 0) ∧ ∃ g cap, e = .returned (.tuple #[.slice (some ⟨g, 0, none⟩) (m - top) cap, .bool true]) ∧ w.heap.size ≤ g ∧ ∀ i, i < m - top → w'.cell? ⟨g, i, none⟩ = some (.int .i64 (quN F G m top i))) ∨
        (¬ (∀ j, j < m → rsN F G m top (m - top) j = 0) ∧ e = .returned (.tuple #[.slice none 0 0, .bool false]))) ∧ Below w.heap.size w w' := by
  obtain ⟨i0, hi, hz0, hz1, hz2⟩ := info_parts info_intR
  obtain ⟨H, hH⟩ : ∃ H, w.heap.size = H := ⟨_, rfl⟩
  have hHle : H ≤ w.heap.size := by omega
  have hbgl : bg < H := by
    rw [← hH]
    exact World.block_lt_of_cell? w _ (hcg 0 (by omega))
  obtain ⟨W1, hW1⟩ : ∃ W1, w.alloc (.cells #[] 3) = W1 := ⟨_, rfl⟩
  have hB1 : Below H w W1 := by rw [← hW1, ← hH]; exact (Below.refl _ w).alloc (Nat.le_refl _) _
  have hb1 : Below w.heap.size w W1 := by rw [← hW1]; exact (Below.refl _ w).alloc (Nat.le_refl _) _
  have ho1 : W1.ownsRow H 3 1 (.slice (some ⟨H, 0, none⟩) 0 0) 0 [] := by
    rw [← hW1, ← hH]; exact World.ownsRow_made w #[] 0 (Nat.le_refl _) (by unfold maxLen; omega) rfl
  have hcf1 : ∀ j u, (zrow F m)[j]? = some u → W1.cell? ((⟨bf, 0, none⟩ : Addr).add j) = some u := by
    intro j u hj
    have hjm : j < m := by have := (List.getElem?_eq_some_iff.1 hj).1; rwa [zrow_length] at this
    rw [addr_add, cell_later hb1 (hcf j hjm), ← zrow_at hjm, hj]
  have HW1 := Lib.hid hW1
  have ho1' := Lib.hid ho1
  have hcf1' := Lib.hid hcf1
  have hs1 : H ≤ W1.heap.size := Nat.le_trans hHle hb1.size
  have HBd := Lib.hid (fun t j => rsN_bd (F := F) (G := G) (m := m) (top := top) (B := 64) (by decide) hF hG t j)
  have HGb := Lib.hid hG
  have HCg := Lib.hid hcg
  have HR0 : Hid (rsN F G m top 0 = F) := Lib.hid rfl
  clear hW1 ho1 hcf1 hcf hF hG hcg
  rw [hH]
  go_enter Tryd.func80, Tryd.ntmps80
  go_wp2_with (first | (at_builtin; rw [HW1.out]; refine wpList_append_own_at _ rfl _ _ 22 rfl H 3 i0 (.int .i64 0) 1 8 Tryd.underlying22 hi hz0 hz1 hz2 rfl (by decide) _ _ _ rfl ho1'.out ⟨bf, 0, none⟩ m capf (zrow F m) rfl (zrow_len1 F m) hcf1'.out zrow_one (by unfold maxLen; omega) (by omega) hs1 ?_; intro v' w2 hown1 hgrow1 hnil1 hblk))
  rw [show max (0 : Int) ((m : Int) - (top : Int)) = ((m - top : Nat) : Int) by omega, run_make_zeros (m - top) (by omega) w2]
  obtain ⟨gR, capR, rfl⟩ : ∃ g cap, v' = .slice (some ⟨g, 0, none⟩) m cap := by
    obtain ⟨h0, h1 | ⟨g, cap, cur, hv, _⟩⟩ := hown1
    · exact absurd h1.2 (by omega)
    · exact ⟨g, cap, by rw [hv, Nat.zero_add]⟩
  rw [Nat.zero_add, List.nil_append] at hown1
  have hRl := hown1.lt gR rfl
  have hB2 : Below H w w2 := hB1.grown hgrow1 hs1 (fun q e => (ho1'.out.lt q e).1)
  obtain ⟨gO, hgO⟩ : ∃ g, w2.heap.size = g := ⟨_, rfl⟩
  obtain ⟨W3, hW3⟩ : ∃ W3, w2.alloc (.cells (zrow (fun _ => 0) (m - top)).toArray 3) = W3 := ⟨_, rfl⟩
  have hb3 : Below w2.heap.size w2 W3 := by rw [← hW3]; exact (Below.refl _ w2).alloc (Nat.le_refl _) _
  have hst : DvS w H gR gO bg m top G (qtN F G m top 0) (rsN F G m top 0) W3 := by
    have hr : RowP W3 gO (m - top) (fun _ => 0) := RowP.of_row (by rw [← hW3, ← hgO]; exact Row.new w2 _ _)
    refine ⟨(RowP.of_own hown1).later hb3, hr.congr (fun j hj => by unfold qtN; rw [if_neg (by omega)]), fun j hj => ?_, hB2.trans (hb3.mono (by omega))⟩
    have hc := HCg.out j hj
    have h3 : Below H w W3 := hB2.trans (hb3.mono (by omega))
    exact (h3.cell (p := ⟨bg, j, none⟩) hbgl).trans hc
  have HST := Lib.hid hst
  have HgO := Lib.hid hgO
  have HW3 := Lib.hid hW3
  have n1 : gO ≠ gR := by omega
  have n2 : bg ≠ gR := by omega
  have n3 : bg ≠ gO := by omega
  have hHR : H ≤ gR := hRl.1
  have hHO : H ≤ gO := by omega
  have HH := Lib.hid hH
  clear hH hst hgO hW3 hown1 hgrow1 hnil1 hblk hRl hB2 hb3 hB1 hb1
  go_wp2
  rw [HW3.out, HgO.out]
  have hk0 : ((m : Int) - 1) = ((m - 1 : Nat) : Int) := by omega
  go_loopw [9] (fun k wr => ∃ t : Nat, t ≤ m - top ∧ k = .int .i64 (m - 1 - t : Nat) ∧ DvS w H gR gO bg m top G (qtN F G m top t) (rsN F G m top t) wr) (fun k _ => (intOf k).toNat + 1)
  case atStart => exact ⟨0, Nat.zero_le _, by rw [Nat.sub_zero, hk0], HST.out⟩
  case round =>
    obtain ⟨t, htl, rfl, hst⟩ := hrel
    by_cases hlt : t < m - top
    · obtain ⟨k, hk⟩ : ∃ k, m - 1 - t = k := ⟨_, rfl⟩
      obtain ⟨b, hb⟩ : ∃ b, k - top = b := ⟨_, rfl⟩
      have hPz := ptN_zero (rsN F G m top t) G b (rsN F G m top t k)
      have hPf := ptN_full (F := F) (G := G) (m := m) (top := top) (t := t) (by omega)
      have hQs := fun i hi => qtN_step (F := F) (G := G) (m := m) (top := top) (t := t) (by omega) (i := i) hi
      rw [hk, hb] at hPf
      rw [hk] at hQs ⊢
      simp only [hb] at hQs
      have hkm : k < m := by omega
      have hkt : top ≤ k := by omega
      have hbm : b < m - top := by omega
      have hkb : (k : Int) - (top : Int) = (b : Int) := by omega
      have hge : (top : Int) ≤ (k : Int) := by omega
      have hbd := HBd.out t
      have hpow : (2 : Int) ^ t ≤ 2 ^ 26 := by
        have h1 : 2 ^ t ≤ 2 ^ 26 := Nat.pow_le_pow_right (by omega) (by omega)
        exact_mod_cast h1
      have hbd2 : ∀ j, -(2 ^ 32) ≤ rsN F G m top t j ∧ rsN F G m top t j ≤ 2 ^ 32 := fun j => by
        have := hbd j
        have h64 : (64 : Int) * 2 ^ t ≤ 64 * 2 ^ 26 := Int.mul_le_mul_of_nonneg_left hpow (by decide)
        omega
      have HBd2 := Lib.hid hbd2
      have hck := hst.rest.cell hkm
      have hfo := hst.out.frozen b
      have hoc := hst.out.cell hbm
      have HPz := Lib.hid hPz
      have HPf := Lib.hid hPf
      have HQs := Lib.hid hQs
      have hkk : k + 1 ≤ m ∧ m - 1 - (t + 1) = k - 1 ∧ 1 ≤ k := by omega
      obtain ⟨R, hR⟩ : ∃ R, rsN F G m top t = R := ⟨_, rfl⟩
      rw [hR] at hck hst
      have HRe := Lib.hid hR
      simp only [hR] at HBd2 HPz HPf HQs
      obtain ⟨c, hc⟩ : ∃ c, R k = c := ⟨_, rfl⟩
      rw [hc] at hck
      simp only [hc] at HPz HPf HQs
      have hcb := HBd2.out k
      rw [hc] at hcb
      have HPut : Hid (∀ V, DvS w H gR gO bg m top G (qtN F G m top t) R V → DvS w H gR gO bg m top G (qtN F G m top (t + 1)) (ptN R G b 0 c) (V.setCell ⟨gO, b, none⟩ (.int .i64 c))) := Lib.hid (fun V h => by
        rw [HPz.out]
        exact h.oput (fun e => n1 e.symm) n3 hHO hbm (by rw [HQs.out b hbm, if_pos rfl]) (fun j hj hne => by rw [HQs.out j hj, if_neg hne]))
      have HS1 := Lib.hid (HPut.out _ hst)
      clear hst hbd hbd2 hpow hPz hPf hQs hk hb hR hc
      go_wp2
      go_loopw [47] (fun i wv => ∃ i' : Nat, i' ≤ top + 1 ∧ i = .int .i64 i' ∧ DvS w H gR gO bg m top G (qtN F G m top (t + 1)) (ptN R G b i' c) wv) (fun i _ => top + 1 - (intOf i).toNat)
      case atStart => exact ⟨0, Nat.zero_le _, rfl, HS1.out⟩
      case round =>
        obtain ⟨i, hil, rfl, hst⟩ := hrel
        by_cases hit : i < top + 1
        · have hrc := hst.rest.cell (j := b + i) (by omega)
          rw [ptN_same] at hrc
          have hgc := hst.gc i hit
          have hfr := hst.rest.frozen (b + i)
          have hgb := HGb.out i
          have hRb := HBd2.out (b + i)
          have HPut2 : Hid (∀ V, DvS w H gR gO bg m top G (qtN F G m top (t + 1)) (ptN R G b i c) V → DvS w H gR gO bg m top G (qtN F G m top (t + 1)) (ptN R G b (i + 1) c) (V.setCell ⟨gR, b + i, none⟩ (.int .i64 (R (b + i) - c * G i)))) := Lib.hid (fun V h =>
            h.rput n1 n2 hHR (by omega) (by rw [ptN_succ, if_pos rfl]) (fun j hj hne => by rw [ptN_succ, if_neg hne]))
          have HS2 := Lib.hid (HPut2.out _ hst)
          obtain ⟨x, hx⟩ : ∃ x, G i = x := ⟨_, rfl⟩
          obtain ⟨y, hy⟩ : ∃ y, R (b + i) = y := ⟨_, rfl⟩
          obtain ⟨z, hz⟩ : ∃ z, c * x = z := ⟨_, rfl⟩
          have hzb : -(2 ^ 32) ≤ z ∧ z ≤ 2 ^ 32 := by
            rw [hx] at hgb
            rw [← hz]
            rcases (show x = -1 ∨ x = 0 ∨ x = 1 by omega) with rfl | rfl | rfl <;> omega
          rw [hx] at hgc
          rw [hy] at hrc hRb
          rw [hx, hy, hz] at HS2
          have hbi : (b : Int) + (i : Int) = ((b + i : Nat) : Int) := by omega
          obtain ⟨q, hq⟩ : ∃ q, b + i = q := ⟨_, rfl⟩
          have hqm : q < m := by omega
          rw [hq] at hrc hfr hbi HS2
          clear hst hx hy hq
          go_wp2
          go_roundw
          case rel => exact ⟨i + 1, by omega, by go_num, HS2.out⟩
          case measure => simp only [intOf]; omega
        · obtain rfl : i = top + 1 := by omega
          have HS3 : Hid (DvS w H gR gO bg m top G (qtN F G m top (t + 1)) (rsN F G m top (t + 1)) wr) := Lib.hid (by rw [← HPf.out]; exact hst)
          clear hst
          go_wp2
          go_roundw
          case rel => exact ⟨t + 1, by omega, by rw [hkk.2.1]; go_num, HS3.out⟩
          case measure => simp only [intOf]; omega
    · obtain rfl : t = m - top := by omega
      have hke : ((m - 1 - (m - top) : Nat) : Int) = (top : Int) - 1 := by omega
      have hlt2 : ¬ ((top : Int) ≤ (top : Int) - 1) := by omega
      rw [hke]
      have HST2 := Lib.hid hst
      have HO : Hid (∀ i, i < m - top → wr.cell? ⟨gO, i, none⟩ = some (.int .i64 (quN F G m top i))) := Lib.hid (fun i hi => by
        rw [hst.out.cell hi]
        unfold qtN
        rw [if_pos (by omega)])
      clear hst
      obtain ⟨R, hR⟩ : ∃ R, rsN F G m top (m - top) = R := ⟨_, rfl⟩
      rw [hR] at HST2
      have HRq := Lib.hid hR
      clear hR
      go_wp2
      go_loopw [68] (fun i wv => ∃ i' : Nat, i' ≤ m ∧ i = .int .i64 i' ∧ (∀ j, j < i' → R j = 0) ∧ wr = wv) (fun i _ => m - (intOf i).toNat)
      case atStart => exact ⟨0, Nat.zero_le _, rfl, fun j hj => by omega, rfl⟩
      case round =>
        obtain ⟨i, hil, rfl, hz, rfl⟩ := hrel
        by_cases him : i < m
        · have hrc := HST2.out.rest.cell him
          by_cases h0 : R i = 0
          · have hq : (R i != 0) = false := by rw [bne_eq_false_iff_eq]; exact h0
            have HZ : Hid (∀ j, j < i + 1 → R j = 0) := Lib.hid (fun j hj => by
              by_cases hji : j < i
              · exact hz j hji
              · obtain rfl : j = i := by omega
                exact h0)
            clear h0 hz
            generalize R i = x at *
            go_wp2
            go_roundw
            case rel => exact ⟨i + 1, by omega, by go_num, HZ.out, trivial⟩
            case measure => simp only [intOf]; omega
          · have hq : (R i != 0) = true := by rw [bne_iff_ne]; exact h0
            have HN : Hid (¬ ∀ j, j < m → R j = 0) := Lib.hid (fun h => h0 (h i him))
            clear h0 hz
            generalize R i = x at *
            go_wp2
            go_ret2
            exact ⟨.inr ⟨by rw [HRq.out]; exact HN.out, rfl⟩, HST2.out.bel⟩
        · have HY : Hid (∀ j, j < m → R j = 0) := Lib.hid (fun j hj => hz j (by omega))
          clear hz
          go_wp2
          go_ret2
          exact ⟨.inl ⟨by rw [HRq.out]; exact HY.out, gO, _, rfl, hHO, HO.out⟩, HST2.out.bel⟩
end Go.Proofs.YtmcdelabcmnfiaaDoor

/-
  The value of a wheel's polynomial; the spectrum.
-/
import Derived.Test.YthnenhfdojpobaaDoorWhVal
import Derived.Test.YthnenhfdojpobaaDoorKeep
import Derived.RangeFuncNested
import Derived.RangeFuncBound
import Derived.RangeFuncCalls
import Derived.RangeFuncLeaves
import Derived.RangeFuncFrom
import Derived.Shelf.Abstract
import Derived.Shelf.RegionOpen
import Derived.OwnWalkIn
import Derived.TacticsInMore
import Derived.LoopNIn
import Derived.LoopIn
import Derived.WalkSpells
namespace Go.Proofs.YthnenhfdojpobaaDoor
open Go.ChangeShapes Go.WideShapes Go.ChangeAt Go.RowKit Go.Shelf
attribute [local go_sem] Oper.semAt_some
set_option maxRecDepth 100000

theorem snoc_indW {α : Type} {P : List α → Prop} (h0 : P []) (h1 : ∀ l x, P l → P (l ++ [x])) (l : List α) : P l := by
  have h : ∀ r : List α, P r.reverse := fun r => by
    induction r with
    | nil => exact h0
    | cons x r ih => rw [List.reverse_cons]; exact h1 _ _ ih
  have := h l.reverse
  rwa [List.reverse_reverse] at this

/-- The places from the last one on. -/
def downL (k : Nat) : List Nat := (List.range k).reverse
theorem downL_succ (k : Nat) : downL (k + 1) = k :: downL k := by unfold downL; rw [List.range_succ, List.reverse_append]; rfl

theorem Backward_any (a : Option Addr) (m c : Nat) (w : World) :
    Calls Tryd.prog 39 #[.slice a m c] w fun e w' => e = .returned (.func (.func 43) #[] #[.pointer (some ⟨w.heap.size, 0, none⟩)]) ∧ w.alloc (.cells #[.slice a m c] 24) = w' := by
  go_enter Tryd.func39, Tryd.ntmps39
  go_wp2
  go_ret
  exact ⟨rfl, rfl⟩

set_option maxHeartbeats 1000000 in
theorem back1_stops (S : Nat → Prop) (k n b sB : Nat) (f : Nat → Nat) (hk : 1 ≤ k) (w : World)
    (hs : w.cell? ⟨sB, 0, none⟩ = some (.slice (some ⟨b, 3, none⟩) 16 16)) (hr : Row w b 43 (whC n f)) (s1 : S sB) (s2 : S b) :
    SeqStopsK Fence.wide k Tryd.prog 43 #[.pointer (some ⟨sB, 0, none⟩)] (fun t : Fin 16 => #[.int .i64 (t.val : Int), .int .i64 ((f t.val : Nat) : Int)]) (KeptOn S) (fun ys => ys.map Fin.val = downL 16) (fun ys => ∃ r, downL 16 = ys.map Fin.val ++ r) 64 w :=
  fun l J Jx W hW hJ hJx hY h0 => by
  have hsW : W.cell? ⟨sB, 0, none⟩ = some (.slice (some ⟨b, 3, none⟩) 16 16) := cell_later hW hs
  have HSW := Lib.hid hsW
  have HRW := Lib.hid (hr.later hW)
  clear hs hr
  refine callsIn_of_wp Tryd.func43 rfl trivial ?_ rfl
  simp only [Tryd.ntmps43, List.size_toArray, List.length_cons, List.length_nil, Nat.reduceAdd, Nat.reduceSub, Array.replicate_succ, Array.replicate_zero, List.push_toArray, List.append_toArray, List.nil_append, List.cons_append]
  gi_wp2
  gi_loopw [3] (fun p wr => ∃ (pre : List (Fin 16)) (k : Nat), k ≤ 16 ∧ p = .int .i64 ((k : Int) - 1) ∧ downL 16 = pre.map Fin.val ++ downL k ∧ J pre wr ∧ KeptOn S W wr) (fun p _ => (intOf p + 1).toNat)
  case atStart => exact ⟨[], 16, by omega, rfl, by simp, h0, KeptOn.refl _ _⟩
  case round =>
    obtain ⟨pre, k, hk16, rfl, hx, hJs, hb⟩ := hrel
    rcases k with _ | x
    · have hfin := Lib.hid (show pre.map Fin.val = downL 16 by rw [hx]; simp [downL])
      rw [show (((0 : Nat) : Int) - 1) = -1 from rfl]
      clear hx
      gi_wp2
      go_end0
      exact ⟨⟨_, rfl⟩, .inl ⟨pre, hfin.out, hJs⟩⟩
    · rw [show (((x + 1 : Nat) : Int) - 1) = (x : Int) by omega]
      have hx16 : x < 16 := by omega
      have hc : wr.cell? ⟨sB, 0, none⟩ = some (.slice (some ⟨b, 3, none⟩) 16 16) := (hb.cell (p := ⟨sB, 0, none⟩) s1).trans HSW.out
      have hr' : Row wr b 43 (whC n f) := (hb.block b s2).trans HRW.out
      have hv : wr.cell? ⟨b, 3 + x, none⟩ = some (.int .i64 ((f x : Nat) : Int)) := by rw [hr'.cell, whC_at hx16]
      have hlen : pre.length < 64 := by
        have e := congrArg List.length hx
        simp [downL] at e
        omega
      have hnext := Lib.hid (show downL 16 = (pre ++ [(⟨x, hx16⟩ : Fin 16)]).map Fin.val ++ downL x by
        rw [hx, downL_succ]; simp)
      clear hx hr'
      obtain ⟨fn, tmps, assign, body, hy, hR⟩ := hY pre ⟨x, hx16⟩ wr hJs hlen
      dsimp only at hy hR
      have hR' := Lib.hid hR
      clear hR
      generalize f x = y at *
      gi_wp2
      refine hR'.out.mono ?_
      rintro e W3 (⟨rfl, hJ3, hk3⟩ | ⟨rfl, hJx3⟩)
      · gi_wp2
        go_roundw
        case rel => exact ⟨_, x, by omega, rfl, hnext.out, hJ3, hb.trans hk3⟩
        case measure => simp only [intOf]; omega
      · gi_wp2
        refine bodyPost_ret (results_none rfl _ _ _) rfl ?_
        exact ⟨⟨_, rfl⟩, .inr ⟨_, ⟨_, hnext.out⟩, hJx3⟩⟩

/-- Horner's sums. -/
def horF (q p : Nat) (f : Nat → Nat) (l : List Nat) : Nat := l.foldl (fun s x => (s * p + f x) % q) 0
theorem hor_snoc (q p : Nat) (f : Nat → Nat) (l : List Nat) (x : Nat) : horF q p f (l ++ [x]) = (horF q p f l * p + f x) % q := by
  unfold horF; rw [List.foldl_append]; rfl
theorem hor_lt {q : Nat} (hq : 0 < q) (p : Nat) (f : Nat → Nat) (l : List Nat) : horF q p f l < q := by
  refine snoc_indW (P := fun l => horF q p f l < q) ?_ ?_ l
  · exact hq
  · intro l x _; rw [hor_snoc]; exact Nat.mod_lt _ hq

theorem cell_atW {w : World} {k : Nat} {v : Value} {t : TypeId} (h : k = w.heap.size) : (w.alloc (.cells #[v] t)).cell? ⟨k, 0, none⟩ = some v := by
  subst h; simp
theorem frozen_atW {w : World} {k : Nat} {v : Value} {t : TypeId} (h : k = w.heap.size) : (w.alloc (.cells #[v] t)).frozen? ⟨k, 0, none⟩ = false := by
  subst h; simp
theorem cell_upW {w : World} {a : Addr} {v : Value} {o : Obj} (h : w.cell? a = some v) : (w.alloc o).cell? a = some v :=
  cell_kept h (World.grownBy_alloc w o none) (fun r e => by cases e)
theorem frozen_upW {w : World} {a : Addr} {v : Value} {o : Obj} (h : w.cell? a = some v) (hf : w.frozen? a = false) : (w.alloc o).frozen? a = false :=
  (frozen_kept h (World.grownBy_alloc w o none) (fun r e => by cases e)).trans hf

set_option maxHeartbeats 1000000 in
theorem value_any (n : Nat) (h : Circ n) (f : Nat → Nat) (hf : ∀ x, f x < qN n) (p : Nat) (hp : p < qN n) (w : World) :
    Calls Tryd.prog 30 #[whV n f, .int .i64 p] w fun e w' => e = .returned (.int .i64 ((horF (qN n) p f (downL 16) : Nat) : Int)) ∧ Below w.heap.size w w' := by
  have hq := h.q_le
  have hq0 := h.q_pos
  have HW := Lib.hid (WAt.new n f w)
  have HFl := Lib.hid hf
  clear hf
  unfold whV
  obtain ⟨cs, hcs⟩ : ∃ cs, (whC n f).toArray = cs := ⟨_, rfl⟩
  rw [hcs] at HW
  rw [hcs]
  clear hcs
  have hall := run_arr_all
  refine (callsIn_wide (n := 9)).1 ?_
  refine callsIn_of_wp_marks Tryd.func30 rfl trivial ?_ rfl
  simp only [Tryd.ntmps30, List.size_toArray, List.length_cons, List.length_nil, Nat.reduceAdd, Nat.reduceSub, Array.replicate_succ, Array.replicate_zero, List.push_toArray, List.append_toArray, List.nil_append, List.cons_append]
  gi_wp2_with (refine ⟨trivial, ?_⟩; gi_at_call 39; refine (callsIn_wide.2 (Backward_any _ _ _ _)).mono ?_; rintro e w' ⟨rfl, rfl⟩)
  obtain ⟨H, hH⟩ : ∃ H, w.heap.size = H := ⟨_, rfl⟩
  have hH' := Lib.hid hH
  have hHle : H ≤ w.heap.size := by omega
  obtain ⟨W0, hW0⟩ : ∃ W0, ((((w.alloc (Obj.cells cs 43)).alloc (Obj.cells #[Value.int IntKind.i64 ↑p] 3)).alloc (Obj.cells #[Value.int IntKind.i64 0] 3)).alloc (Obj.cells #[Value.slice (some { block := H, off := 3 }) 16 16] 24)) = W0 := ⟨_, rfl⟩
  have c1 : W0.cell? ⟨H + 1, 0, none⟩ = some (.int .i64 p) := by rw [← hW0]; exact cell_upW (cell_upW (cell_atW (by simp; omega)))
  have c2 : W0.cell? ⟨H + 1 + 1, 0, none⟩ = some (.int .i64 0) := by rw [← hW0]; exact cell_upW (cell_atW (by simp; omega))
  have c3 : W0.cell? ⟨H + 1 + 1 + 1, 0, none⟩ = some (.slice (some ⟨H, 3, none⟩) 16 16) := by rw [← hW0]; exact cell_atW (by simp; omega)
  have f2 : W0.frozen? ⟨H + 1 + 1, 0, none⟩ = false := by rw [← hW0]; exact frozen_upW (cell_atW (by simp; omega)) (frozen_atW (by simp; omega))
  have hB0 : Below H w W0 := by rw [← hW0, ← hH]; exact ((((Below.refl _ w).alloc (Nat.le_refl _) _).alloc (by simp) _).alloc (by simp; omega) _).alloc (by simp; omega) _
  have hS0 : W0.heap.size = H + 4 := by rw [← hW0, ← hH]; simp
  have hr0 : Row W0 H 43 (whC n f) := by rw [← hW0]; have := HW.out.row; rw [hH] at this; exact ((this.alloc _).alloc _).alloc _
  rw [hH, hW0]
  clear hW0 hH
  refine wpIn_rangeFunc_ownF rfl (by omega) (gf := 43) (lb := #[.pointer (some ⟨H + 1 + 1 + 1, 0, none⟩)]) rfl trivial (enters_of Tryd.func43 (by kernel_rfl) rfl)
    (back1_stops (fun k => k = H ∨ k = H + 1 + 1 + 1) (9 - 1) n H (H + 1 + 1 + 1) f (by omega) W0 c3 hr0 (Or.inr rfl) (Or.inl rfl)) keptOn_t (keptOn_b (fun k hk => by rcases hk with rfl | rfl <;> omega)) (Below.refl _ _) (fun _ => rfl)
    (fun pre W => (W.cell? ⟨H + 1 + 1, 0, none⟩ = some (.int .i64 ((horF (qN n) p f (pre.map Fin.val) : Nat) : Int)) ∧ W.frozen? ⟨H + 1 + 1, 0, none⟩ = false ∧ W.cell? ⟨H + 1, 0, none⟩ = some (.int .i64 p) ∧ Row W H 43 (whC n f)) ∧ Below H w W)
    (fun _ _ _ => False)
    (OwnFrom.and (Own.from (fun s A B row hs hg hr => ⟨cell_kept hs.1 hg hr, (frozen_kept hs.1 hg hr).trans hs.2.1, cell_kept hs.2.2.1 hg hr, hs.2.2.2.kept hg hr⟩) _) (ownFrom_below hHle (by omega)))
    (fun _ _ _ _ _ hs _ _ => hs)
    ⟨⟨c2, f2, c1, hr0⟩, hB0⟩
    (fun x => { tmps := #[.agg cs, .int .i64 p, .pointer (some ⟨H, 0, none⟩), .pointer (some ⟨H + 1, 0, none⟩), .int .i64 0, .pointer (some ⟨H + 1 + 1, 0, none⟩), undef, .int .i64 ((f x.val : Nat) : Int), .pointer (some ⟨H, 3, none⟩), .slice (some ⟨H, 3, none⟩) 16 16, .func (.func 43) #[] #[.pointer (some ⟨H + 1 + 1 + 1, 0, none⟩)], .int .i64 x.val, .int .i64 ((f x.val : Nat) : Int), undef, undef, undef, undef, undef, undef, undef, undef, undef, undef], defers := [] }) ?assign ?body ?done ?stop
  case assign =>
    intro l x W K hK
    gi_wp2
    exact hK
  case body =>
    rintro l pre x W ⟨⟨hc1, hc2, hc3, hc4⟩, hB⟩ _
    have hd : 1 ≤ 9 - 1 - 1 := by omega
    have hxl := x.isLt
    have hm := mul_bd (show horF (qN n) p f (pre.map Fin.val) ≤ 100000 by have := hor_lt hq0 p f (pre.map Fin.val); omega) (show p ≤ 100000 by omega)
    have hy := HFl.out x.val
    have hq1 : W.cell? ⟨H, 1, none⟩ = some (.int .i64 ((qN n : Nat) : Int)) := hc4.cell 1
    have HT := Lib.hid (show (((horF (qN n) p f (pre.map Fin.val) : Nat) : Int) * (p : Int) + ((f x.val : Nat) : Int)) % ((qN n : Nat) : Int) = ((horF (qN n) p f ((pre ++ [x]).map Fin.val) : Nat) : Int) by
      rw [List.map_append, List.map_singleton, hor_snoc]; simp)
    have HN := Lib.hid hc4
    have HC := Lib.hid hc1
    have HBB := Lib.hid hB
    generalize horF (qN n) p f (List.map Fin.val pre) = s at *
    generalize f x.val = y at *
    have hq0' : (((qN n : Nat) : Int) == 0) = false := by rw [beq_eq_false_iff_ne]; omega
    clear hc4 hB
    gi_wp2
    rw [HT.out]
    refine ⟨KeepsOthers.setCell _ _ _, (KeptOn.refl _ W).setCell (p := ⟨H + 1 + 1, 0, none⟩) (show ¬ (H + 1 + 1 = H ∨ H + 1 + 1 = H + 1 + 1 + 1) by omega) _,
      ⟨cell_set_same HC.out, frozen_set hc2, cell_set_other hc3 (show H + 1 ≠ H + 1 + 1 by omega), HN.out.other (by omega) _⟩, HBB.out.setCell (p := ⟨H + 1 + 1, 0, none⟩) (show H ≤ H + 1 + 1 by omega) _⟩
  case done =>
    rintro D ys W hD hys ⟨⟨hc1, hc2, hc3, hc4⟩, hB⟩ hK
    have hys' := Lib.hid hys; clear hys hc4
    gi_wp2
    refine ⟨by simp, .inl ⟨_, _, rfl, run_takeDeferred hK, ?_⟩⟩
    refine ⟨_, results_tmp rfl _ _ _, ?_, by rw [hH'.out]; exact hB.trans (belowK_b (w := W0) (by omega) W D _ _ (by omega) hK rfl rfl)⟩
    show Ending.returned (.int .i64 ((horF (qN n) p f (ys.map Fin.val) : Nat) : Int)) = _
    rw [hys'.out]
  case stop =>
    rintro D c pre W _ _ h _
    exact h.elim

/-- Horner's sums are the polynomial's values. -/
theorem hor_from (q p : Nat) (f : Nat → Nat) : ∀ (k s0 : Nat), Md q ((downL k).foldl (fun s x => (s * p + f x) % q) s0) (s0 * p ^ k + sumN k fun x => f x * p ^ x)
  | 0, s0 => by simp only [downL, List.range_zero, List.reverse_nil, List.foldl_nil, Nat.pow_zero, sumN, Nat.mul_one, Nat.add_zero]; exact Md.refl _ _
  | k + 1, s0 => by
    rw [downL_succ, List.foldl_cons]
    refine (hor_from q p f k _).trans ?_
    simp only [sumN]
    refine (((Md.mod q (s0 * p + f k)).mul (Md.refl _ _)).add (Md.refl _ _)).trans (Md.of_eq ?_)
    rw [Nat.add_mul, Nat.pow_succ, Nat.mul_assoc, Nat.mul_comm p (p ^ k)]
    omega
theorem sum_cut {n m : Nat} (h : n ≤ m) {f : Nat → Nat} (h0 : ∀ x, n ≤ x → f x = 0) : sumN m f = sumN n f := by
  induction m with
  | zero => obtain rfl : n = 0 := by omega
            rfl
  | succ m ih =>
    by_cases e : n = m + 1
    · subst e; rfl
    · simp only [sumN]; rw [ih (by omega), h0 m (by omega)]; rfl
theorem hor_spec {n k : Nat} (h : Circ n) {f : Nat → Nat} (hf : IsWh n f) (hk : k < n) : horF (qN n) (wN n ^ k % qN n) f (downL 16) = spF n f k := by
  refine Md.eq ?_ (hor_lt h.q_pos _ _ _) ((sp_wh h f).lt k)
  refine (hor_from (qN n) _ f 16 0).trans ?_
  rw [Nat.zero_mul, Nat.zero_add, sum_cut (n := n) (by have := h.2; omega) (fun x hx => by rw [hf.out x hx, Nat.zero_mul])]
  refine Md.trans (Md.sum fun x _ => (Md.refl _ _).mul ?_) (sp_md hk f).symm
  exact ((Md.mod _ _).pow x).trans (Md.of_eq (Nat.pow_mul _ _ _).symm)

/-- The first numbers of a wheel, the rest nothing. -/
def uptF (k : Nat) (f : Nat → Nat) (x : Nat) : Nat := if x < k then f x else 0
theorem uptF_zero (f : Nat → Nat) : uptF 0 f = zeroF := by funext x; simp [uptF, zeroF]
theorem uptF_succ (k : Nat) (f : Nat → Nat) : (fun x => if x = k then f k else uptF k f x) = uptF (k + 1) f := by
  funext x; unfold uptF
  by_cases e : x = k
  · subst e; simp
  · by_cases h : x < k
    · rw [if_neg e, if_pos h, if_pos (by omega)]
    · rw [if_neg e, if_neg h, if_neg (by omega)]
theorem uptF_all {n : Nat} {f : Nat → Nat} (h : IsWh n f) : uptF n f = f := by
  funext x; unfold uptF; split
  · rfl
  · exact (h.out x (by omega)).symm

/-- A wheel's field is read. -/
theorem wpList_infield {ops : Array Oper} {o1 o2 : Oper} {rest : List Oper} {a : Act} {w : World} {Q : Exit → Act → World → Prop} (n : Nat) (f : Nat → Nat) (x d1 d2 : Tmp)
    (h1 : o1.op = .fieldAddr 43 (.tmp x) 0) (g1 : o1.guard = none) (e1 : o1.dst = some d1)
    (h2 : o2.op = .load 38 (.tmp d1)) (g2 : o2.guard = none) (e2 : o2.dst = some d2)
    (g : Nat) (hx : a.eval (.tmp x) = .pointer (some ⟨g, 0, none⟩)) (hd : ∀ v, (a.put (some d1) v).eval (.tmp d1) = v)
    (hg : Row w g 43 (whC n f))
    (h : wpList Tryd.prog ops Q rest ((a.put (some d1) (.pointer (some ⟨g, 0, none⟩))).put (some d2) (fV n (qN n) (wN n))) w) :
    wpList Tryd.prog ops Q (o1 :: o2 :: rest) a w := by
  refine Great.wpList_runTo g1 _ e1 (.pointer (some ⟨g, 0, none⟩)) w ?_ ?_
  · simp only [execOp, h1, hx]
    simp [Instr.fieldAt, Instr.sureAddr, Sem.run_bind, run_underlying Tryd.underlying43, go_sem, fieldPlace]
  refine Great.wpList_runTo g2 _ e2 (fV n (qN n) (wN n)) w ?_ h
  simp only [execOp, h2, hd, Sem.run_bind, run_load_head (hg.cell 0) (hg.cell 1) (hg.cell 2), Result.andThen_ok]
  rfl

set_option maxHeartbeats 1000000 in
theorem spectrum_any (n : Nat) (h : Circ n) (f : Nat → Nat) (hf : IsWh n f) (w : World) :
    Calls Tryd.prog 17 #[whV n f] w fun e w' => e = .returned (whV n (spF n f)) ∧ Below w.heap.size w w' := by
  have hn := h.2
  have hn0 := h.pos
  have hwl := h.w_lt
  have hq := h.q_le
  have hq0 := h.q_pos
  have HE := Lib.hid (headC_eq n)
  have HV := Lib.hid (fun k (hk : k < n) W => by have := value_any n h f hf.lt (wN n ^ k % qN n) (Nat.mod_lt _ h.q_pos) W; rwa [hor_spec h hf hk] at this)
  have HP := Lib.hid (fun k W => by have := product_any n (qN n) (wN n) (wN n ^ k % qN n) (wN n) h.q_pos (by have := Nat.mod_lt (wN n ^ k) h.q_pos; omega) (by omega) W; rwa [Nat.mod_mul_mod, ← Nat.pow_succ] at this)
  have H1 := Lib.hid (show wN n ^ 0 % qN n = 1 by rw [Nat.pow_zero, Nat.mod_eq_of_lt (by have := h.n_lt; omega)])
  have HAll := Lib.hid (uptF_all (sp_wh h f))
  obtain ⟨W0, hW0⟩ : ∃ W0, w.alloc (.cells (whC n f).toArray 43) = W0 := ⟨_, rfl⟩
  have hs0 : W0.heap.size = w.heap.size + 1 := by rw [← hW0]; exact World.size_alloc _ _
  have hF0 : WAt w w.heap.size n f W0 := hW0 ▸ WAt.new n f w
  have hF1 := hF0.later ((Below.refl _ W0).alloc (Nat.le_refl _) (.cells zeroC 43))
  have hz1 := zero_new W0
  have hs1 : (W0.alloc (.cells zeroC 43)).heap.size = w.heap.size + 1 + 1 := by rw [World.size_alloc, hs0]
  rw [hs0, ← hW0] at hz1
  rw [← hW0] at hF1 hs1
  have HF1 := Lib.hid hF1
  have HZ1 := Lib.hid hz1
  have HS1 := Lib.hid hs1
  clear hF0 hF1 hz1 hs1 hs0 hW0
  unfold whV at *
  have HSF := Lib.hid (info_whC n f)
  obtain ⟨cs, hcs⟩ : ∃ cs, (whC n f).toArray = cs := ⟨_, rfl⟩
  rw [hcs] at HF1 HZ1 HS1 HV HSF ⊢
  have HCS := Lib.hid hcs
  clear hcs
  obtain ⟨B, hB⟩ : ∃ B, w.heap.size = B := ⟨_, rfl⟩
  rw [hB] at HF1 HZ1 HS1
  go_enter Tryd.func17, Tryd.ntmps17
  go_upto_region 1 with fail
  go_step
  refine wpList_infield n f 1 6 7 rfl rfl rfl rfl rfl rfl B rfl (fun _ => rfl) HF1.out.row ?_
  refine wpList_fresh n (qN n) (wN n) 7 8 3 rfl rfl rfl rfl rfl rfl rfl rfl rfl rfl (fun _ _ => rfl) (fun _ _ => rfl) (B + 1 + 1) HS1.out ?_
  intro W2 hcv hcs2 hs2 hr2 hb2
  go_frame
  have HF2 := Lib.hid (⟨HF1.out.hb.trans (hb2.mono (by omega)), (hb2.block _ (by omega)).trans HF1.out.row⟩ : WAt w B n f W2)
  have HR2 := Lib.hid (show Row W2 (B + 1 + 1) 43 (whC n (uptF 0 (spF n f))) by rw [uptF_zero]; rw [hcs2, ← HE.out] at hr2; exact hr2)
  have HZ2 := Lib.hid ((hb2.block (B + 1) (by omega)).trans HZ1.out)
  clear hcs2 hs2 hr2 hb2
  generalize Value.agg hcv = csv
  obtain ⟨k0, k1, k2⟩ := HF2.out.head
  go_wp2_with fail
  clear k0 k1 k2
  go_loopw [4, 12] (fun p i wr => ∃ k : Nat, k ≤ n ∧ p = .int .i64 ((wN n ^ k % qN n : Nat) : Int) ∧ i = .int .i64 (k : Int) ∧ WAt w B n f wr ∧ WAt w (B + 1 + 1) n (uptF k (spF n f)) wr ∧ wr.heap[B + 1]? = some (.cells zeroC 43 (0, 0))) (fun _ i _ => n - (intOf i).toNat)
  case atStart => exact ⟨0, Nat.zero_le _, by rw [H1.out]; rfl, rfl, HF2.out, ⟨HF2.out.hb, HR2.out⟩, HZ2.out⟩
  case round =>
    obtain ⟨k, hk, rfl, rfl, hF, hR, hZ⟩ := hrel
    have HF := Lib.hid hF
    have HR := Lib.hid hR
    have HZ := Lib.hid hZ
    obtain ⟨k0, k1, k2⟩ := hF.head
    clear hF hR hZ
    by_cases hlt : k < n
    · have HVk := Lib.hid (HV.out k hlt)
      have HPk := Lib.hid (HP.out k)
      have hk16 : k < 16 := by omega
      have HU := Lib.hid (uptF_succ k (spF n f))
      obtain ⟨p2, hp2⟩ : ∃ p2, wN n ^ (k + 1) % qN n = p2 := ⟨_, rfl⟩
      have HP2 := Lib.hid hp2
      rw [show k.succ = k + 1 from rfl, hp2] at HPk
      clear hp2
      generalize wN n ^ k % qN n = p1 at *
      go_upto_region 6 with fail
      go_step
      refine Great.wpList_readTo rfl (some 15) rfl (.int .i64 (k : Int)) rfl ?_
      refine wpList_load_row rfl 43 (.tmp 1) rfl B rfl 43 cs (0, 0) _ (by have := HF.out.row; unfold Row at this; rw [HCS.out] at this; exact this) Tryd.underlying43 rfl HSF.out ?_
      go_frame
      go_wp2_with fail
      refine (HVk.out _).mono ?_
      rintro e w1 ⟨rfl, b1⟩
      have HF1 := Lib.hid (HF.out.later b1)
      have HR1 := Lib.hid (HR.out.later b1)
      have HZ1 := Lib.hid (heap_later HZ.out b1)
      clear b1 k0 k1 k2
      have e1 := HR1.out.at hk16
      have e2 := HR1.out.row.frozen (3 + k)
      have HF3 := Lib.hid (HF1.out.other (b' := B + 1 + 1) (i := 3 + k) (by omega) (by omega) (.int .i64 ((spF n f k : Nat) : Int)))
      have HR3 := Lib.hid (HR1.out.set (by omega) hk16 (spF n f k))
      rw [HU.out] at HR3
      have HZ3 := Lib.hid ((heap_setCell_other w1 ⟨B + 1 + 1, 3 + k, none⟩ (B + 1) (.int .i64 ((spF n f k : Nat) : Int)) (by show B + 1 ≠ B + 1 + 1; omega)).trans HZ1.out)
      generalize spF n f k = y at *
      go_upto_region 7 with fail
      generalize World.setCell _ _ _ = w3 at *
      obtain ⟨k0, k1, k2⟩ := HF3.out.head
      go_wp2_with fail
      refine (HPk.out _).mono ?_
      rintro e w4 ⟨rfl, b4⟩
      have HF4 := Lib.hid (HF3.out.later b4)
      have HR4 := Lib.hid (HR3.out.later b4)
      have HZ4 := Lib.hid (heap_later HZ3.out b4)
      clear b4 k0 k1 k2
      go_wp2
      go_roundw
      case rel => exact ⟨k + 1, by omega, by rw [HP2.out], by go_num, HF4.out, HR4.out, HZ4.out⟩
      case measure => simp only [intOf]; omega
    · obtain rfl : k = n := by omega
      rw [HAll.out] at HR
      go_upto_region 9 with fail
      go_step
      refine wpList_give k (spF k f) 3 2 29 rfl rfl rfl rfl rfl rfl (B + 1 + 1) (B + 1) rfl (fun _ => rfl) (fun _ => rfl) HR.out.row zeroC HZ.out rfl ?_
      intro W4 hr4 hb4
      have HB4 := Lib.hid (HR.out.hb.trans (hb4.mono (by omega)))
      go_frame
      go_wp2
      refine bodyPost_ret (results_cell_row rfl _ _ (B + 1) 43 (whC k (spF k f)).toArray (0, 0) _ rfl hr4 Tryd.underlying43 rfl (info_whC _ _)) rfl ?_
      exact ⟨rfl, HB4.out⟩
end Go.Proofs.YthnenhfdojpobaaDoor

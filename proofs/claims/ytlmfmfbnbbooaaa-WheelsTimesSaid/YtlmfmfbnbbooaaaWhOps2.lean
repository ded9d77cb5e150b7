/-
  Wheels moved; what undoes a number; wheels multiplied place by place; the wheel with a spectrum.
-/
import Derived.Test.YtlmfmfbnbbooaaaWhOps
namespace Go.Proofs.Ytlmfmfbnbbooaaa
open Go.ChangeShapes Go.WideShapes Go.ChangeAt Go.RowKit
set_option maxRecDepth 100000

/-! ### moved -/
def mvpF (n t k : Nat) (f : Nat → Nat) (x : Nat) : Nat := if x < n ∧ (x + (n - t)) % n < k then f ((x + (n - t)) % n) else 0
theorem mv_to {n t k : Nat} (ht : t < n) (hk : k < n) : ((k + t) % n + (n - t)) % n = k := by
  rw [Nat.mod_add_mod, show k + t + (n - t) = k + n from by omega, Nat.add_mod_right, Nat.mod_eq_of_lt hk]
theorem mv_from {n t x : Nat} (ht : t < n) (hx : x < n) : ((x + (n - t)) % n + t) % n = x := by
  rw [Nat.mod_add_mod, show x + (n - t) + t = x + n from by omega, Nat.add_mod_right, Nat.mod_eq_of_lt hx]
theorem mvpF_zero (n t : Nat) (f : Nat → Nat) : mvpF n t 0 f = zeroF := by funext x; simp [mvpF, zeroF]
theorem mvpF_succ {n t k : Nat} (ht : t < n) (hk : k < n) (f : Nat → Nat) : (fun x => if x = (k + t) % n then f k else mvpF n t k f x) = mvpF n t (k + 1) f := by
  funext x
  unfold mvpF
  by_cases e : x = (k + t) % n
  · subst e
    have h1 := Nat.mod_lt (k + t) (show 0 < n by omega)
    rw [if_pos rfl, mv_to ht hk, if_pos ⟨h1, by omega⟩]
  · rw [if_neg e]
    by_cases hx : x < n
    · have h2 : (x + (n - t)) % n ≠ k := fun h2 => e (by rw [← h2, mv_from ht hx])
      by_cases h3 : (x + (n - t)) % n < k
      · rw [if_pos ⟨hx, h3⟩, if_pos ⟨hx, by omega⟩]
      · rw [if_neg (fun h => h3 h.2), if_neg (fun h => by have := h.2; omega)]
    · rw [if_neg (fun h => hx h.1), if_neg (fun h => hx h.1)]
theorem mvpF_all (n t : Nat) (f : Nat → Nat) : mvpF n t n f = mvF n t f := by
  funext x
  unfold mvpF mvF
  by_cases hx : x < n
  · rw [if_pos ⟨hx, Nat.mod_lt _ (by omega)⟩, if_pos hx]
  · rw [if_neg (fun h => hx h.1), if_neg hx]

set_option maxHeartbeats 1000000 in
theorem inverse_any (n : Nat) (h : Circ n) (x : Nat) (hx : x < qN n) (w : World) :
    Calls Try.prog 107 #[fV n (qN n) (wN n), .int .i64 x] w fun e w' => e = .returned (.int .i64 ((ivN n x : Nat) : Int)) ∧ Below w.heap.size w w' := by
  have hq := h.q_le
  have hq0 := h.q_pos
  have hq1 : 2 < qN n := by have := h.n_lt; have := h.1; omega
  have HP := Lib.hid (fun j W => by have := product_any n (qN n) (wN n) (x ^ j % qN n) x h.q_pos (by have := Nat.mod_lt (x ^ j) h.q_pos; omega) (by omega) W; rwa [Nat.mod_mul_mod, ← Nat.pow_succ] at this)
  have HF := Lib.hid (FAt.new n (qN n) (wN n) w)
  have H1 := Lib.hid (show x ^ 0 % qN n = 1 by rw [Nat.pow_zero, Nat.mod_eq_of_lt (by omega)])
  have HI := Lib.hid (show ivN n x = x ^ (qN n - 2) % qN n from rfl)
  obtain ⟨q, hqq⟩ : ∃ q, qN n = q := ⟨_, rfl⟩
  rw [hqq] at HP HF H1 HI hq hq0 hq1 ⊢
  clear hqq h hx
  obtain ⟨B, hB⟩ : ∃ B, w.heap.size = B := ⟨_, rfl⟩
  rw [hB] at HF
  obtain ⟨c0, c1, c2⟩ := HF.out.cell
  unfold fV at *
  go_enter Try.func107, Try.ntmps107
  go_wp2
  clear c0 c1 c2
  go_loopw [5, 9] (fun p i wr => ∃ j : Nat, j ≤ q - 2 ∧ p = .int .i64 ((x ^ j % q : Nat) : Int) ∧ i = .int .i64 (j : Int) ∧ FAt w B n q (wN n) wr) (fun _ i _ => q - (intOf i).toNat)
  case atStart => exact ⟨0, Nat.zero_le _, by rw [H1.out]; rfl, rfl, HF.out⟩
  case round =>
    obtain ⟨j, hj, rfl, rfl, hF⟩ := hrel
    have HF' := Lib.hid hF
    obtain ⟨c0, c1, c2⟩ := hF.cell
    clear hF
    by_cases hlt : j < q - 2
    · have HPj := Lib.hid (HP.out j)
      obtain ⟨p2, hp2⟩ : ∃ p2, x ^ (j + 1) % q = p2 := ⟨_, rfl⟩
      have HP2 := Lib.hid hp2
      rw [show j.succ = j + 1 from rfl, hp2] at HPj
      clear hp2
      generalize x ^ j % q = p1 at *
      go_wp2_with fail
      refine (HPj.out _).mono ?_
      rintro e w1 ⟨rfl, b1⟩
      have HF1 := Lib.hid (HF'.out.later b1)
      clear b1
      go_wp2
      go_roundw
      case rel => exact ⟨j + 1, by omega, by rw [HP2.out], by go_num, HF1.out⟩
      case measure => simp only [intOf]; omega
    · obtain rfl : j = q - 2 := by omega
      rw [← HI.out]
      go_wp2
      go_ret
      exact ⟨rfl, HF'.out.hb⟩

/-! ### place by place -/
/-- The array of a wheel, as a value. -/
def arC (f : Nat → Nat) : Array Value := (ints (tabN 16 f)).toArray
theorem arC_at {x : Nat} (h : x < 16) (f : Nat → Nat) : (arC f)[x]? = some (.int .i64 ((f x : Nat) : Int)) := by
  unfold arC
  rw [List.getElem?_toArray, ints_at (by rw [tabN_length]; exact h), tabN_at h]
theorem run_index_16 (cs : Array Value) (i : Nat) (hi : i < 16) (a : Int) (h : cs[i]? = some (.int .i64 a)) (w : World) : (Instr.index 63 (.agg cs) (.int .i64 i)).run Try.prog w = .ok (.int .i64 a) w := by
  simp [Instr.index, run_underlying Try.underlying63, asIntOf, go_sem, part, h]
  intro h; omega
theorem run_load_arr {W : World} {b n : Nat} {f : Nat → Nat} (h : Row W b 65 (whC n f)) :
    (Instr.loadAt 63 (.pointer (some ⟨b, 3, none⟩))).run Try.prog W = .ok (.agg (arC f)) W := by
  have hl : (loadCells ⟨b, 3, none⟩ (ints (tabN 16 f)).length).run Try.prog W = .ok (ints (tabN 16 f)).toArray W :=
    run_loadCells_list (P := Try.prog) W ⟨b, 3, none⟩ (ints (tabN 16 f)) (fun j v hv => by
      have hadd : (⟨b, 3, none⟩ : Addr).add j = ⟨b, 3 + j, none⟩ := by unfold Addr.add; split <;> simp_all
      have hj : j < 16 := by
        apply Nat.lt_of_not_le; intro hle
        rw [List.getElem?_eq_none (by rw [ints_length, tabN_length]; exact hle)] at hv; cases hv
      rw [ints_at (by rw [tabN_length]; exact hj), tabN_at hj] at hv
      rw [hadd, h.cell, whC_at hj, hv])
  have hl' : (loadCells ⟨b, 3, none⟩ 16).run Try.prog W = .ok (arC f) W := by
    have e : (ints (tabN 16 f)).length = 16 := by rw [ints_length, tabN_length]
    rw [e] at hl
    exact hl
  simp only [Instr.loadAt, Instr.sureAddr, Sem.run_bind, Sem.run_pure, Result.andThen_ok, loadVar, Try.isAgg63, Try.sizeOf63, if_true, hl']
/-- A wheel's array is read. -/
theorem wpList_inarr {ops : Array Oper} {o1 o2 : Oper} {rest : List Oper} {a : Act} {w : World} {Q : Exit → Act → World → Prop} (n : Nat) (f : Nat → Nat) (x d1 d2 : Tmp)
    (h1 : o1.op = .fieldAddr 65 (.tmp x) 1) (g1 : o1.guard = none) (e1 : o1.dst = some d1)
    (h2 : o2.op = .load 63 (.tmp d1)) (g2 : o2.guard = none) (e2 : o2.dst = some d2)
    (g : Nat) (hx : a.eval (.tmp x) = .pointer (some ⟨g, 0, none⟩)) (hd : ∀ v, (a.put (some d1) v).eval (.tmp d1) = v)
    (hg : Row w g 65 (whC n f))
    (h : wpList Try.prog ops Q rest ((a.put (some d1) (.pointer (some ⟨g, 3, none⟩))).put (some d2) (.agg (arC f))) w) :
    wpList Try.prog ops Q (o1 :: o2 :: rest) a w := by
  refine Great.wpList_runTo g1 _ e1 (.pointer (some ⟨g, 3, none⟩)) w ?_ ?_
  · simp only [execOp, h1, hx]
    simp [Instr.fieldAt, Instr.sureAddr, Sem.run_bind, run_underlying Try.underlying65, go_sem, fieldPlace]
  refine Great.wpList_runTo g2 _ e2 (.agg (arC f)) w ?_ h
  simp only [execOp, h2, hd, Sem.run_bind, run_load_arr hg, Result.andThen_ok]
  rfl

/-- One wheel that is written, and the result's place. -/
def Own1 (w0 : World) (b n : Nat) (f : Nat → Nat) (z : Nat) (W : World) : Prop := WAt w0 b n f W ∧ W.heap[z]? = some (.cells zeroC 65 (0, 0))
theorem Own1.later {w0 : World} {b n : Nat} {f : Nat → Nat} {z : Nat} {W W' : World} (h : Own1 w0 b n f z W) (k : Below W.heap.size W W') : Own1 w0 b n f z W' := ⟨h.1.later k, heap_later h.2 k⟩
theorem Own1.set {w0 : World} {b n : Nat} {f : Nat → Nat} {z : Nat} {W : World} (h : Own1 w0 b n f z W) (h1 : w0.heap.size ≤ b) (h3 : z ≠ b) {x : Nat} (hx : x < 16) (v : Nat) :
    Own1 w0 b n (fun k => if k = x then v else f k) z (W.setCell ⟨b, 3 + x, none⟩ (.int .i64 (v : Int))) :=
  ⟨h.1.set h1 hx v, (heap_setCell_other W ⟨b, 3 + x, none⟩ z _ h3).trans h.2⟩
/-- The first places have their new numbers. -/
def mixW (k : Nat) (f g : Nat → Nat) (x : Nat) : Nat := if x < k then f x else g x
theorem mixW_zero (f g : Nat → Nat) : mixW 0 f g = g := by funext x; simp [mixW]
theorem mixW_at (k : Nat) (f g : Nat → Nat) : mixW k f g k = g k := by simp [mixW]
theorem mixW_succ (k : Nat) (f g : Nat → Nat) : (fun x => if x = k then f k else mixW k f g x) = mixW (k + 1) f g := by
  funext x; unfold mixW
  by_cases e : x = k
  · subst e; simp
  · by_cases h : x < k
    · rw [if_neg e, if_pos h, if_pos (by omega)]
    · rw [if_neg e, if_neg h, if_neg (by omega)]
theorem mixW_all {k : Nat} {f g : Nat → Nat} (h : ∀ x, k ≤ x → f x = g x) : mixW k f g = f := by
  funext x; unfold mixW; split
  · rfl
  · exact (h x (by omega)).symm

set_option maxHeartbeats 1000000 in
theorem pointwise_any (n : Nat) (h : Circ n) (f g : Nat → Nat) (hf : IsWh n f) (hg : IsWh n g) (w : World) :
    Calls Try.prog 69 #[whV n f, whV n g] w fun e w' => e = .returned (whV n (piF n f g)) ∧ Below w.heap.size w w' := by
  have HAll := Lib.hid (mixW_all (k := 16) (f := piF n f g) (g := f) (fun x hx => by rw [(pi_wh h f hg).out x (by have := h.2; omega), hf.out x (by have := h.2; omega)]))
  have HP := Lib.hid (fun k W => product_any n (qN n) (wN n) (f k) (g k) h.q_pos (by have := hf.lt k; have := h.q_le; omega) (by have := hg.lt k; have := h.q_le; omega) W)
  have hmx : Try.prog.follows .mixedOrders = true := by kernel_rfl
  have hn := h.2
  have hn0 := h.pos
  have hq := h.q_le
  have hq0 := h.q_pos
  have HE := Lib.hid (headC_eq n)
  obtain ⟨B, hB⟩ : ∃ B, w.heap.size = B := ⟨_, rfl⟩
  obtain ⟨W0, hW0⟩ : ∃ W0, w.alloc (.cells (whC n f).toArray 65) = W0 := ⟨_, rfl⟩
  have hs0 : W0.heap.size = B + 1 := by rw [← hW0, World.size_alloc, hB]
  have hF0 : WAt w B n f W0 := by rw [← hW0, ← hB]; exact WAt.new n f w
  obtain ⟨W1, hW1⟩ : ∃ W1, W0.alloc (.cells (whC n g).toArray 65) = W1 := ⟨_, rfl⟩
  have hs1 : W1.heap.size = B + 1 + 1 := by rw [← hW1, World.size_alloc, hs0]
  have b01 : Below W0.heap.size W0 W1 := by rw [← hW1]; exact (Below.refl _ W0).alloc (Nat.le_refl _) _
  have hG1 : WAt w (B + 1) n g W1 := by
    have := WAt.new n g W0
    rw [hs0, hW1] at this
    exact ⟨hF0.hb.trans (b01.mono hF0.hb.size), this.row⟩
  have hF1 := hF0.later b01
  have b12 := (Below.refl _ W1).alloc (Nat.le_refl W1.heap.size) (.cells zeroC 65)
  have hz2 := zero_new W1
  have hs2 : (W1.alloc (.cells zeroC 65)).heap.size = B + 1 + 1 + 1 := by rw [World.size_alloc, hs1]
  have hF2 := hF1.later b12
  have hG2 := hG1.later b12
  rw [hs1, ← hW1, ← hW0] at hz2
  rw [← hW1, ← hW0] at hF2 hG2 hs2
  have HF1 := Lib.hid hF2
  have HG1 := Lib.hid hG2
  have HZ1 := Lib.hid hz2
  have HS1 := Lib.hid hs2
  clear hF0 hF1 hF2 hG1 hG2 hz2 hs2 hs1 hs0 hW0 hW1 b01 b12
  unfold whV at *
  have HSF := Lib.hid (info_whC n f)
  obtain ⟨cs, hcs⟩ : ∃ cs, (whC n f).toArray = cs := ⟨_, rfl⟩
  obtain ⟨ct, hct⟩ : ∃ ct, (whC n g).toArray = ct := ⟨_, rfl⟩
  rw [hcs, hct] at HF1 HG1 HZ1 HS1 ⊢
  rw [hcs] at HSF
  have HCS := Lib.hid hcs
  have HCT := Lib.hid hct
  obtain ⟨WX, hWX⟩ : ∃ WX, ((w.alloc (.cells cs 65)).alloc (.cells ct 65)).alloc (.cells zeroC 65) = WX := ⟨_, rfl⟩
  rw [hWX] at HF1 HG1 HZ1 HS1
  unfold zeroC at hWX
  have HWX := Lib.hid hWX
  clear hWX
  clear hcs hct
  go_enter Try.func69, Try.ntmps69
  go_upto_region 1 with fail
  rw [HWX.out]
  go_step
  refine wpList_inarr n g 3 7 8 rfl rfl rfl rfl rfl rfl (B + 1) rfl (fun _ => rfl) HG1.out.row ?_
  go_frame
  have HX := Lib.hid (fun x (hx : x < 16) => run_index_16 (arC g) x hx _ (arC_at hx g))
  generalize arC g = ag at *
  have HT1 := Lib.hid (show Own1 w B n (mixW 0 (piF n f g) f) (B + 1 + 1) _ from ⟨by rw [mixW_zero]; exact HF1.out, HZ1.out⟩)
  clear HF1 HG1 HZ1
  go_wp2_with fail
  go_loopw [9] (fun i wr => ∃ k : Nat, k ≤ 16 ∧ i = .int .i64 (k : Int) ∧ Own1 w B n (mixW k (piF n f g) f) (B + 1 + 1) wr) (fun i _ => 16 - (intOf i).toNat)
  case atStart => exact ⟨0, by omega, rfl, HT1.out⟩
  case round =>
    obtain ⟨k, hk, rfl, hT⟩ := hrel
    have HT := Lib.hid hT
    clear hT
    by_cases hk16 : k < 16
    · have hx := HX.out k hk16
      have HPk := Lib.hid (HP.out k)
      rw [show f k * g k % qN n = piF n f g k from rfl] at HPk
      have HU := Lib.hid (mixW_succ k (piF n f g) f)
      have HNx := Lib.hid (fun W (hT : Own1 w B n (mixW k (piF n f g) f) (B + 1 + 1) W) => by have := hT.set (by omega) (by omega) hk16 (piF n f g k); rw [HU.out] at this; exact this)
      have HMa := Lib.hid (mixW_at k (piF n f g) f)
      obtain ⟨m0, m1, m2⟩ := HT.out.1.head
      have m3 := HT.out.1.at hk16
      rw [HMa.out] at m3
      generalize piF n f g k = r at *
      generalize f k = y at *
      generalize g k = v at *
      go_upto_region 4 with fail
      refine region_calm_tail 10 hmx (by kernel_rfl) ?_
      simp only [List.take_succ_cons, List.take_zero, List.drop_succ_cons, List.drop_zero]
      intro S hSn fw hS1 hS2
      have l0 := fun z => cell_later (hS1 z) m0
      have l1 := fun z => cell_later (hS1 z) m1
      have l2 := fun z => cell_later (hS1 z) m2
      have l3 := fun z => cell_later (hS1 z) m3
      have hC0 := Lib.hid (calm_call hS1 hS2 (fun z => HPk.out (fw z)))
      repeat (go_big_quiet_step (exact hC0.out _))
      refine wpQuiet_nil ?_
      rintro _ ⟨z, rfl⟩
      have hT4 := HT.out.later (hS1 z)
      generalize fw z = w4 at hT4
      have HT5 := Lib.hid (HNx.out _ hT4)
      have e1 := hT4.1.at hk16
      have e2 := hT4.1.row.frozen (3 + k)
      clear l0 l1 l2 l3 hC0 hS1 hS2 hT4 m0 m1 m2 m3
      try dsimp only [Exit.then]
      go_wp2
      go_roundw
      case rel => exact ⟨k + 1, by omega, by go_num, HT5.out⟩
      case measure => simp only [intOf]; omega
    · obtain rfl : k = 16 := by omega
      rw [HAll.out] at HT
      have h16 : ((16 : Nat) : Int) = 16 := rfl
      rw [h16]
      go_upto_region 6 with fail
      go_step
      refine wpList_give n (piF n f g) 2 4 25 rfl rfl rfl rfl rfl rfl (B) (B + 1 + 1) rfl (fun _ => rfl) (fun _ => rfl) HT.out.1.row zeroC HT.out.2 rfl ?_
      intro W4 hr4 hb4
      have HB4 := Lib.hid (HT.out.1.hb.trans (hb4.mono (by omega)))
      go_frame
      go_wp2
      refine bodyPost_ret (results_cell_row rfl _ _ (B + 1 + 1) 65 (whC n (piF n f g)).toArray (0, 0) _ rfl hr4 Try.underlying65 rfl (info_whC _ _)) rfl ?_
      exact ⟨rfl, HB4.out⟩

set_option maxHeartbeats 1000000 in
theorem inverses_any (n : Nat) (h : Circ n) (f : Nat → Nat) (hf : IsWh n f) (w : World) :
    Calls Try.prog 70 #[whV n f] w fun e w' => e = .returned (whV n (ivF n f)) ∧ Below w.heap.size w w' := by
  have HAll := Lib.hid (mixW_all (k := n) (f := ivF n f) (g := f) (fun x hx => by rw [(iv_wh h f).out x hx, hf.out x hx]))
  have HP := Lib.hid (fun k (hk : k < n) W => by have := inverse_any n h (f k) (hf.lt k) W; rwa [show ivN n (f k) = ivF n f k by unfold ivF; rw [if_pos hk]] at this)
  have hmx : Try.prog.follows .mixedOrders = true := by kernel_rfl
  have hn := h.2
  have hn0 := h.pos
  have hq := h.q_le
  have hq0 := h.q_pos
  have HE := Lib.hid (headC_eq n)
  obtain ⟨W0, hW0⟩ : ∃ W0, w.alloc (.cells (whC n f).toArray 65) = W0 := ⟨_, rfl⟩
  have hs0 : W0.heap.size = w.heap.size + 1 := by rw [← hW0]; exact World.size_alloc _ _
  have hF0 : WAt w w.heap.size n f W0 := hW0 ▸ WAt.new n f w
  have hF1 := hF0.later ((Below.refl _ W0).alloc (Nat.le_refl _) (.cells zeroC 65))
  have hz1 := zero_new W0
  have hs1 : (W0.alloc (.cells zeroC 65)).heap.size = w.heap.size + 1 + 1 := by rw [World.size_alloc, hs0]
  rw [hs0, ← hW0] at hz1
  rw [← hW0] at hF1 hs1
  have HF1 := Lib.hid hF1
  have HZ1 := Lib.hid hz1
  have HS1 := Lib.hid hs1
  clear hF0 hF1 hz1 hs1 hs0 hW0
  unfold whV at *
  have HSF := Lib.hid (info_whC n f)
  obtain ⟨cs, hcs⟩ : ∃ cs, (whC n f).toArray = cs := ⟨_, rfl⟩
  rw [hcs] at HF1 HZ1 HS1 HSF ⊢
  have HCS := Lib.hid hcs
  obtain ⟨B, hB⟩ : ∃ B, w.heap.size = B := ⟨_, rfl⟩
  rw [hB] at HF1 HZ1 HS1
  obtain ⟨WX, hWX⟩ : ∃ WX, (w.alloc (.cells cs 65)).alloc (.cells zeroC 65) = WX := ⟨_, rfl⟩
  rw [hWX] at HF1 HZ1 HS1
  unfold zeroC at hWX
  have HWX := Lib.hid hWX
  clear hWX
  clear hcs
  go_enter Try.func70, Try.ntmps70
  have HT1 := Lib.hid (show Own1 w B n (mixW 0 (ivF n f) f) (B + 1) _ from ⟨by rw [mixW_zero]; exact HF1.out, HZ1.out⟩)
  obtain ⟨k0, k1, k2⟩ := HF1.out.head
  clear HF1 HZ1
  go_upto_region 1 with fail
  rw [HWX.out]
  go_wp2_with fail
  clear k0 k1 k2
  go_loopw [7] (fun i wr => ∃ k : Nat, k ≤ n ∧ i = .int .i64 (k : Int) ∧ Own1 w B n (mixW k (ivF n f) f) (B + 1) wr) (fun i _ => n - (intOf i).toNat)
  case atStart => exact ⟨0, by omega, rfl, HT1.out⟩
  case round =>
    obtain ⟨k, hk, rfl, hT⟩ := hrel
    have HT := Lib.hid hT
    clear hT
    by_cases hlt : k < n
    · have hk16 : k < 16 := by omega
      have HPk := Lib.hid (HP.out k hlt)
      have HU := Lib.hid (mixW_succ k (ivF n f) f)
      have HNx := Lib.hid (fun W (hT : Own1 w B n (mixW k (ivF n f) f) (B + 1) W) => by have := hT.set (by omega) (by omega) hk16 (ivF n f k); rw [HU.out] at this; exact this)
      have HMa := Lib.hid (mixW_at k (ivF n f) f)
      obtain ⟨m0, m1, m2⟩ := HT.out.1.head
      have m3 := HT.out.1.at hk16
      rw [HMa.out] at m3
      generalize ivF n f k = r at *
      generalize f k = y at *
      go_upto_region 4 with fail
      refine region_calm_tail 9 hmx (by kernel_rfl) ?_
      simp only [List.take_succ_cons, List.take_zero, List.drop_succ_cons, List.drop_zero]
      intro S hSn fw hS1 hS2
      have l0 := fun z => cell_later (hS1 z) m0
      have l1 := fun z => cell_later (hS1 z) m1
      have l2 := fun z => cell_later (hS1 z) m2
      have l3 := fun z => cell_later (hS1 z) m3
      have hC0 := Lib.hid (calm_call hS1 hS2 (fun z => HPk.out (fw z)))
      repeat (go_big_quiet_step (exact hC0.out _))
      refine wpQuiet_nil ?_
      rintro _ ⟨z, rfl⟩
      have hT4 := HT.out.later (hS1 z)
      generalize fw z = w4 at hT4
      have HT5 := Lib.hid (HNx.out _ hT4)
      have e1 := hT4.1.at hk16
      have e2 := hT4.1.row.frozen (3 + k)
      clear l0 l1 l2 l3 hC0 hS1 hS2 hT4 m0 m1 m2 m3
      try dsimp only [Exit.then]
      go_wp2
      go_roundw
      case rel => exact ⟨k + 1, by omega, by go_num, HT5.out⟩
      case measure => simp only [intOf]; omega
    · obtain rfl : k = n := by omega
      rw [HAll.out] at HT
      go_upto_region 6 with fail
      go_step
      refine wpList_give k (ivF k f) 1 2 21 rfl rfl rfl rfl rfl rfl (B) (B + 1) rfl (fun _ => rfl) (fun _ => rfl) HT.out.1.row zeroC HT.out.2 rfl ?_
      intro W4 hr4 hb4
      have HB4 := Lib.hid (HT.out.1.hb.trans (hb4.mono (by omega)))
      go_frame
      go_wp2
      refine bodyPost_ret (results_cell_row rfl _ _ (B + 1) 65 (whC k (ivF k f)).toArray (0, 0) _ rfl hr4 Try.underlying65 rfl (info_whC _ _)) rfl ?_
      exact ⟨rfl, HB4.out⟩
end Go.Proofs.Ytlmfmfbnbbooaaa

/-
  The wheel with a spectrum; the power; the wheel of a chord; where a wheel has nothing.
-/
import Derived.Test.YtlmfmfbnbbooaaaWhOps2
namespace Go.Proofs.Ytlmfmfbnbbooaaa
open Go.ChangeShapes Go.WideShapes Go.ChangeAt Go.RowKit
set_option maxRecDepth 100000

/-- A wheel that a call gave is kept in a variable. -/
theorem wpList_keepW {ops : Array Oper} {o2 o3 : Oper} {rest : List Oper} {a : Act} {w : World} {Q : Exit → Act → World → Prop} (n : Nat) (f : Nat → Nat) (d1 d2 : Tmp)
    (h2 : o2.op = .alloc 65) (g2 : o2.guard = none) (e2 : o2.dst = some d2)
    (h3 : o3.op = .store 65 (.tmp d2) (.tmp d1)) (g3 : o3.guard = none) (e3 : o3.dst = none)
    (hd1 : ∀ u, (a.put (some d2) u).eval (.tmp d1) = .agg (whC n f).toArray) (hd2 : ∀ u, (a.put (some d2) u).eval (.tmp d2) = u)
    (g : Nat) (hg : w.heap.size = g)
    (h : ∀ W2, W2.heap.size = g + 1 → Row W2 g 65 (whC n f) → Below g w W2 → wpList Try.prog ops Q rest (a.put (some d2) (.pointer (some ⟨g, 0, none⟩))) W2) :
    wpList Try.prog ops Q (o2 :: o3 :: rest) a w := by
  subst hg
  refine Great.wpList_runTo g2 _ e2 (.pointer (some ⟨w.heap.size, 0, none⟩)) (w.alloc (.cells zeroC 65)) ?_ ?_
  · simp only [execOp, h2, Sem.run_bind, run_alloc_wheel, Result.andThen_ok]
    rfl
  obtain ⟨m1, m2, m3⟩ := made w zeroC (whC n f).toArray 65
  exact wpList_store_rowTo g3 65 (.tmp d2) (.tmp d1) h3 e3 w.heap.size (whC n f).toArray (hd2 _) (hd1 _) 65 zeroC (World.alloc_heap_new w _) (info_whC n f) (by rw [whC_size]; rfl) (whC_one n f) (h _ m1 m2 m3)

set_option maxHeartbeats 1000000 in
theorem back_any (n : Nat) (h : Circ n) (f : Nat → Nat) (hf : IsWh n f) (w : World) :
    Calls Try.prog 71 #[whV n f] w fun e w' => e = .returned (whV n (baF n f)) ∧ Below w.heap.size w w' := by
  have HSp := Lib.hid (fun W => spectrum_any n h f hf W)
  have HTu := Lib.hid (fun W => turn_any n h (spF n f) W)
  have HIv := Lib.hid (fun W => inverse_any n h n (by have := h.n_lt; omega) W)
  have HAll := Lib.hid (mixW_all (k := 16) (f := baF n f) (g := tuF n (spF n f)) (fun x hx => by rw [(ba_wh h f).out x (by have := h.2; omega), (tu_wh h (sp_wh h f)).out x (by have := h.2; omega)]))
  have HP := Lib.hid (fun k W => product_any n (qN n) (wN n) (tuF n (spF n f) k) (ivN n n) h.q_pos (by have := (tu_wh h (sp_wh h f)).lt k; have := h.q_le; omega) (by have := Nat.mod_lt (n ^ (qN n - 2)) h.q_pos; have := h.q_le; unfold ivN; omega) W)
  have HBa := Lib.hid (fun k => show tuF n (spF n f) k * ivN n n % qN n = baF n f k from rfl)
  generalize baF n f = bf at *
  generalize tuF n (spF n f) = tf at *
  generalize spF n f = sf at *
  have hmx : Try.prog.follows .mixedOrders = true := by kernel_rfl
  have hn := h.2
  have hn0 := h.pos
  have hq := h.q_le
  have hq0 := h.q_pos
  have HE := Lib.hid (headC_eq n)
  obtain ⟨W0, hW0⟩ : ∃ W0, w.alloc (.cells (whC n f).toArray 65) = W0 := ⟨_, rfl⟩
  have hs0 : W0.heap.size = w.heap.size + 1 := by rw [← hW0]; exact World.size_alloc _ _
  have hF0 : WAt w w.heap.size n f W0 := hW0 ▸ WAt.new n f w
  have hF1 := hF0.later ((Below.refl _ W0).alloc (Nat.le_refl _) (.cells zeroC 65))
  have hz1 := zero_new W0
  have hs1 : (W0.alloc (.cells zeroC 65)).heap.size = w.heap.size + 1 + 1 := by rw [World.size_alloc, hs0]
  rw [hs0, ← hW0] at hz1
  rw [← hW0] at hF1 hs1
  have HF1 := Lib.hid hF1
  have HZ1 := Lib.hid hz1
  have HS1 := Lib.hid hs1
  clear hF0 hF1 hz1 hs1 hs0 hW0
  unfold whV at *
  have HSF := Lib.hid (info_whC n f)
  obtain ⟨cs, hcs⟩ : ∃ cs, (whC n f).toArray = cs := ⟨_, rfl⟩
  rw [hcs] at HF1 HZ1 HS1 HSF ⊢
  have HCS := Lib.hid hcs
  obtain ⟨B, hB⟩ : ∃ B, w.heap.size = B := ⟨_, rfl⟩
  rw [hB] at HF1 HZ1 HS1
  obtain ⟨WX, hWX⟩ : ∃ WX, (w.alloc (.cells cs 65)).alloc (.cells zeroC 65) = WX := ⟨_, rfl⟩
  rw [hWX] at HF1 HZ1 HS1
  unfold zeroC at hWX
  have HWX := Lib.hid hWX
  clear hWX
  rw [hcs] at HSp
  clear hcs
  go_enter Try.func71, Try.ntmps71
  go_upto_region 1 with fail
  rw [HWX.out]
  go_step
  refine wpList_load_row rfl 65 (.tmp 1) rfl B rfl 65 cs (0, 0) _ (by have := HF1.out.row; unfold Row at this; rw [HCS.out] at this; exact this) Try.underlying65 rfl HSF.out ?_
  go_frame
  go_wp2_with fail
  refine (HSp.out _).mono ?_
  rintro e w1 ⟨rfl, b1⟩
  have HF2 := Lib.hid (HF1.out.later b1)
  have HZ2 := Lib.hid (heap_later HZ1.out b1)
  have hsz := b1.size
  rw [HS1.out] at hsz
  clear b1
  go_wp2_with fail
  refine (HTu.out _).mono ?_
  rintro e w2 ⟨rfl, b2⟩
  have HF3 := Lib.hid (HF2.out.later b2)
  have HZ3 := Lib.hid (heap_later HZ2.out b2)
  have hsz2 := b2.size
  clear b2
  dsimp only
  rename_i hK
  refine hK _ _ ?_
  clear hK
  obtain ⟨G, hG⟩ : ∃ G, w2.heap.size = G := ⟨_, rfl⟩
  rw [hG] at hsz2
  refine wpList_keepW n tf 9 3 rfl rfl rfl rfl rfl rfl (fun _ => rfl) (fun _ => rfl) G hG ?_
  intro W2 hs2 hr2 hb2
  go_frame
  have HF4 := Lib.hid (⟨HF3.out.hb.trans (hb2.mono (by omega)), (hb2.block _ (by omega)).trans HF3.out.row⟩ : WAt w B n f W2)
  have HT2 := Lib.hid (show Two w B n f G (mixW 0 bf tf) (B + 1) W2 from ⟨HF4.out, ⟨HF4.out.hb, by rw [mixW_zero]; exact hr2⟩, (hb2.block (B + 1) (by omega)).trans HZ3.out⟩)
  clear hs2 hr2 hb2 hG
  obtain ⟨k0, k1, k2⟩ := HF4.out.head
  generalize Value.agg (whC n sf).toArray = v1
  generalize Value.agg (whC n tf).toArray = v2
  go_wp2_with fail
  refine (HIv.out _).mono ?_
  rintro e w3 ⟨rfl, b3⟩
  have HT3 := Lib.hid (HT2.out.later b3)
  clear b3 k0 k1 k2
  generalize ivN n n = iv at *
  go_upto_region 3 with fail
  go_step
  refine wpList_inarr n tf 3 16 17 rfl rfl rfl rfl rfl rfl G rfl (fun _ => rfl) (by have := HT3.out.2.1.row; rw [mixW_zero] at this; exact this) ?_
  go_frame
  have HX := Lib.hid (fun x (hx : x < 16) => run_index_16 (arC tf) x hx _ (arC_at hx tf))
  generalize arC tf = ag at *
  go_wp2_with fail
  go_loopw [18] (fun i wr => ∃ k : Nat, k ≤ 16 ∧ i = .int .i64 (k : Int) ∧ Two w B n f G (mixW k bf tf) (B + 1) wr) (fun i _ => 16 - (intOf i).toNat)
  case atStart => exact ⟨0, by omega, rfl, HT3.out⟩
  case round =>
    obtain ⟨k, hk, rfl, hT⟩ := hrel
    have HT := Lib.hid hT
    clear hT
    by_cases hk16 : k < 16
    · have hx := HX.out k hk16
      have HPk := Lib.hid (HP.out k)
      rw [HBa.out k] at HPk
      have HU := Lib.hid (mixW_succ k bf tf)
      have HNx := Lib.hid (fun W (hT : Two w B n f G (mixW k bf tf) (B + 1) W) => by have := hT.set (by omega) (by omega) (by omega) hk16 (bf k); rw [HU.out] at this; exact this)
      obtain ⟨m0, m1, m2⟩ := HT.out.1.head
      generalize bf k = r at *
      generalize tf k = y at *
      go_wp2_with fail
      refine (HPk.out _).mono ?_
      rintro e w4 ⟨rfl, b4⟩
      have hT4 := HT.out.later b4
      have HT5 := Lib.hid (HNx.out _ hT4)
      have e1 := hT4.2.1.at hk16
      have e2 := hT4.2.1.row.frozen (3 + k)
      clear b4 hT4 m0 m1 m2
      go_wp2
      go_roundw
      case rel => exact ⟨k + 1, by omega, by go_num, HT5.out⟩
      case measure => simp only [intOf]; omega
    · obtain rfl : k = 16 := by omega
      rw [HAll.out] at HT
      have h16 : ((16 : Nat) : Int) = 16 := rfl
      rw [h16]
      go_upto_region 8 with fail
      go_step
      refine wpList_give n (bf) 3 2 31 rfl rfl rfl rfl rfl rfl (G) (B + 1) rfl (fun _ => rfl) (fun _ => rfl) HT.out.2.1.row zeroC HT.out.2.2 rfl ?_
      intro W4 hr4 hb4
      have HB4 := Lib.hid (HT.out.2.1.hb.trans (hb4.mono (by omega)))
      go_frame
      go_wp2
      refine bodyPost_ret (results_cell_row rfl _ _ (B + 1) 65 (whC n (bf)).toArray (0, 0) _ rfl hr4 Try.underlying65 rfl (info_whC _ _)) rfl ?_
      exact ⟨rfl, HB4.out⟩

/-- In a drawn region an operation reads one value in every world of the class. -/
theorem wpQuiet_read {ops : Array Oper} {S : Type} {fw : S → World} {Q : Act → Prop} {a : Act} {o : Oper} {rest : List Oper} (v : Value) (d : Option Tmp) (hd : o.dst = d) (hw : Region.wanted o (yielded ops a.tmps) = true)
    (ho : ∀ s, (execOp a.eval o).run Try.prog (fw s) = .ok (.value v) (fw s)) (h : wpQuiet Try.prog ops (fun w' => ∃ s, w' = fw s) Q rest (a.put d v)) : wpQuiet Try.prog ops (fun w' => ∃ s, w' = fw s) Q (o :: rest) a := by
  subst hd
  refine BigFrame.wpQuiet_want hw (fun K hK => ⟨v, fun w hw => ?_, hK _ h⟩)
  obtain ⟨s, rfl⟩ := hw
  unfold Oper.quietAt
  rw [ho s]
  exact ⟨rfl, rfl⟩
theorem run_load_wheel {W : World} {b n : Nat} {f : Nat → Nat} (h : Row W b 65 (whC n f)) (o : Oper) (x : Tmp) (ho : o.op = .load 65 (.tmp x)) (a : Act) (hx : a.eval (.tmp x) = .pointer (some ⟨b, 0, none⟩)) :
    (execOp a.eval o).run Try.prog W = .ok (.value (whV n f)) W := by
  simp only [execOp, ho, hx, Instr.loadAt, Instr.sureAddr, Sem.run_bind, Sem.run_pure, Result.andThen_ok, run_loadVar_row W b _ 65 (whC n f).toArray (0, 0) _ h Try.underlying65 rfl (info_whC n f)]
  rfl

set_option maxHeartbeats 1000000 in
theorem power_any (n : Nat) (h : Circ n) (f : Nat → Nat) (hf : IsWh n f) (w : World) :
    Calls Try.prog 81 #[whV n f] w fun e w' => e = .returned (whV n (poF n f)) ∧ Below w.heap.size w w' := by
  have HSp := Lib.hid (fun W => spectrum_any n h f hf W)
  have HTu := Lib.hid (fun W => turn_any n h (spF n f) W)
  have HPi := Lib.hid (fun W => by have := pointwise_any n h (spF n f) (tuF n (spF n f)) (sp_wh h f) (tu_wh h (sp_wh h f)) W; rwa [show piF n (spF n f) (tuF n (spF n f)) = poF n f from rfl] at this)
  generalize poF n f = pf at *
  generalize tuF n (spF n f) = tf at *
  generalize spF n f = sf at *
  have hmx : Try.prog.follows .mixedOrders = true := by kernel_rfl
  have hn := h.2
  have hn0 := h.pos
  have hq := h.q_le
  have hq0 := h.q_pos
  have HE := Lib.hid (headC_eq n)
  obtain ⟨W0, hW0⟩ : ∃ W0, w.alloc (.cells (whC n f).toArray 65) = W0 := ⟨_, rfl⟩
  have hs0 : W0.heap.size = w.heap.size + 1 := by rw [← hW0]; exact World.size_alloc _ _
  have hF0 : WAt w w.heap.size n f W0 := hW0 ▸ WAt.new n f w
  have hF1 := hF0.later ((Below.refl _ W0).alloc (Nat.le_refl _) (.cells zeroC 65))
  have hz1 := zero_new W0
  have hs1 : (W0.alloc (.cells zeroC 65)).heap.size = w.heap.size + 1 + 1 := by rw [World.size_alloc, hs0]
  rw [hs0, ← hW0] at hz1
  rw [← hW0] at hF1 hs1
  have HF1 := Lib.hid hF1
  have HZ1 := Lib.hid hz1
  have HS1 := Lib.hid hs1
  clear hF0 hF1 hz1 hs1 hs0 hW0
  unfold whV at *
  have HSF := Lib.hid (info_whC n f)
  obtain ⟨cs, hcs⟩ : ∃ cs, (whC n f).toArray = cs := ⟨_, rfl⟩
  rw [hcs] at HF1 HZ1 HS1 HSF ⊢
  have HCS := Lib.hid hcs
  obtain ⟨B, hB⟩ : ∃ B, w.heap.size = B := ⟨_, rfl⟩
  rw [hB] at HF1 HZ1 HS1
  obtain ⟨WX, hWX⟩ : ∃ WX, (w.alloc (.cells cs 65)).alloc (.cells zeroC 65) = WX := ⟨_, rfl⟩
  rw [hWX] at HF1 HZ1 HS1
  unfold zeroC at hWX
  have HWX := Lib.hid hWX
  clear hWX
  rw [hcs] at HSp
  clear hcs
  go_enter Try.func81, Try.ntmps81
  go_upto_region 1 with fail
  rw [HWX.out]
  go_step
  refine wpList_load_row rfl 65 (.tmp 1) rfl B rfl 65 cs (0, 0) _ (by have := HF1.out.row; unfold Row at this; rw [HCS.out] at this; exact this) Try.underlying65 rfl HSF.out ?_
  go_frame
  go_wp2_with fail
  refine (HSp.out _).mono ?_
  rintro e w1 ⟨rfl, b1⟩
  have HF2 := Lib.hid (HF1.out.later b1)
  have HZ2 := Lib.hid (heap_later HZ1.out b1)
  have hsz := b1.size
  rw [HS1.out] at hsz
  clear b1
  dsimp only
  rename_i hK
  refine hK _ _ ?_
  clear hK
  obtain ⟨G, hG⟩ : ∃ G, w1.heap.size = G := ⟨_, rfl⟩
  rw [hG] at hsz
  refine wpList_keepW n sf 5 3 rfl rfl rfl rfl rfl rfl (fun _ => rfl) (fun _ => rfl) G hG ?_
  intro W2 hs2 hr2 hb2
  go_frame
  have HB2 := Lib.hid (HF2.out.hb.trans (hb2.mono (by omega)))
  have HZ3 := Lib.hid ((hb2.block (B + 1) (by omega)).trans HZ2.out)
  have HR2 := Lib.hid hr2
  clear hs2 hr2 hb2 hG
  go_upto_region 2 with fail
  refine region_calm_tail 4 hmx (by kernel_rfl) ?_
  simp only [List.take_succ_cons, List.take_zero, List.drop_succ_cons, List.drop_zero]
  intro S hSn fw hS1 hS2
  have lr := fun z => HR2.out.later (hS1 z)
  have hC0 := Lib.hid (calm_call hS1 hS2 (fun z => HTu.out (fw z)))
  have hC1 := Lib.hid (calm_call hS1 hS2 (fun z => HPi.out (fw z)))
  refine wpQuiet_read (whV n sf) (some 6) rfl (by rfl) (fun z => run_load_wheel (lr z) _ 3 rfl _ rfl) ?_
  refine wpQuiet_read (whV n sf) (some 7) rfl (by rfl) (fun z => run_load_wheel (lr z) _ 3 rfl _ rfl) ?_
  go_frame
  go_big_quiet_step (exact hC0.out _)
  go_big_quiet_step (exact hC1.out _)
  refine wpQuiet_nil ?_
  rintro _ ⟨z, rfl⟩
  have hb4 := hS1 z
  have hz4 := heap_later HZ3.out hb4
  generalize fw z = w4 at hb4 hz4
  clear lr hC0 hC1 hS1 hS2
  unfold whV
  refine wpList_store_rowTo rfl 65 (.tmp 2) (.tmp 9) rfl rfl (B + 1) (whC n pf).toArray rfl rfl 65 zeroC hz4 (info_whC n pf) (by rw [whC_size]; rfl) (whC_one n pf) ?_
  have hr5 := setRow_heap w4 (B + 1) zeroC (whC n pf).toArray 65 (0, 0) hz4
  have HB5 := Lib.hid (below_setRow (HB2.out.trans (hb4.mono (by have := HB2.out.size; omega))) (show w.heap.size ≤ B + 1 by omega) (whC n pf).toArray)
  go_wp2
  refine bodyPost_ret (results_cell_row rfl _ _ (B + 1) 65 (whC n pf).toArray (0, 0) _ rfl hr5 Try.underlying65 rfl (info_whC _ _)) rfl ?_
  exact ⟨rfl, HB5.out⟩
end Go.Proofs.Ytlmfmfbnbbooaaa

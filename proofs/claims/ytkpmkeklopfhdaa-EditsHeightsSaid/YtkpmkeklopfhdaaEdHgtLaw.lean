/-
  The statement on heights: the walk.
-/
import Derived.Test.YtkpmkeklopfhdaaEdProveM
import Derived.Test.YtkpmkeklopfhdaaEdRHts
import Derived.Test.YtkpmkeklopfhdaaEdRefC
import Derived.Test.YtkpmkeklopfhdaaCalmM
import Derived.Test.YtkpmkeklopfhdaaCalmR
namespace Go.Proofs.Ytkpmkeklopfhdaa
open Go.ChangeShapes Go.WideShapes Go.ChangeAt Go.RowKit
set_option linter.unusedVariables false
set_option maxRecDepth 100000

theorem toA {l : List Oper} {i : Nat} {o : Oper} (h : l[i]? = some o) : l.toArray[i]? = some o := by simpa using h
theorem RHeights_any (a b : ByteArray) (pi po ps : Nat) (ha : a.size ≤ 12) (hb : b.size ≤ 12) (hpi : pi ≤ 9) (hpo : po ≤ 9) (hps : ps ≤ 9) (t : List (List Int)) (hl : t.length ≤ maxLen) (hr : ∀ r ∈ t, r.length ≤ maxLen) (v : Value) (w : World) (hV : TabV w v t) :
    Calls Try.prog 34 #[.string a, .string b, pv pi po ps, v] w fun e w' => e = .returned (.bool (heightsB (bsN a) (bsN b) pi po ps t)) ∧ Below w.heap.size w w' := by
  by_cases h : t.length = a.size + 1
  · exact RHts_main a b pi po ps ha hb hpi hpo hps t h hr v w hV
  · exact RHts_len a b pi po ps ha t hl h v w hV
/-- What lists cuts off changes nothing. -/
theorem cut_same {A B : List Nat} (hA : A.length ≤ 12) (hB : B.length ≤ 12) (pi po ps : Nat) (t : List (List Int)) : heightsB A B pi po ps ((t.take 16).map (List.take 16)) = heightsB A B pi po ps t ∧ (heightsB A B pi po ps t = true → ht ((t.take 16).map (List.take 16)) A.length B.length = ht t A.length B.length) := by
  by_cases h1 : t.length = A.length + 1
  · have ht1 : t.take 16 = t := List.take_of_length_le (by omega)
    rw [ht1]
    by_cases h2 : ∀ r ∈ t, r.length = B.length + 1
    · have e : t.map (List.take 16) = t := by
        conv => rhs; rw [← List.map_id t]
        exact List.map_congr_left fun r hr => List.take_of_length_le (by rw [h2 r hr]; omega)
      rw [e]; exact ⟨rfl, fun _ => rfl⟩
    · have hx : ∃ r, r ∈ t ∧ r.length ≠ B.length + 1 := by
        rcases Classical.em (∃ r, r ∈ t ∧ r.length ≠ B.length + 1) with h | h
        · exact h
        · exact absurd (fun r hr => by rcases Nat.decEq r.length (B.length + 1) with h3 | h3
                                       · exact absurd ⟨r, hr, h3⟩ h
                                       · exact h3) h2
      obtain ⟨r, hr, hne⟩ := hx
      have f1 : heightsB A B pi po ps t = false := by
        obtain ⟨k, hk, rfl⟩ := List.getElem_of_mem hr
        exact hb_row hk (by unfold hrowB; rw [decide_eq_false hne]; rfl)
      have f2 : heightsB A B pi po ps (t.map (List.take 16)) = false := by
        obtain ⟨k, hk, rfl⟩ := List.getElem_of_mem hr
        refine hb_row (k := k) (by rw [List.length_map]; exact hk) ?_
        rw [List.getElem_map]
        unfold hrowB
        rw [decide_eq_false (by rw [List.length_take]; omega)]; rfl
      rw [f1, f2]
      exact ⟨rfl, fun h => by cases h⟩
  · have f1 : heightsB A B pi po ps t = false := hb_len h1
    have f2 : heightsB A B pi po ps ((t.take 16).map (List.take 16)) = false := hb_len (by rw [List.length_map, List.length_take]; omega)
    rw [f1, f2]
    exact ⟨rfl, fun h => by cases h⟩
/-- The last number of a table that is heights, where it lies. -/
theorem last_at {A B : List Nat} {pi po ps : Nat} {t : List (List Int)} {W : World} {ao : Option Addr} {n cap la lb : Nat} (hla : A.length = la) (hlb : B.length = lb) (h : heightsB A B pi po ps t = true) (hn : n = t.length) (hV : TabV W (.slice ao n cap) t) :
    n = la + 1 ∧ ∃ b off rb ro rc, ao = some ⟨b, off, none⟩ ∧ W.cell? ⟨b, off + la, none⟩ = some (.slice (some ⟨rb, ro, none⟩) (lb + 1) rc) ∧ W.cell? ⟨rb, ro + lb, none⟩ = some (.int .i64 (ht t la lb)) := by
  subst hla hlb
  unfold heightsB at h
  rw [Bool.and_eq_true, Bool.and_eq_true] at h
  obtain ⟨h1, h2, _⟩ := h
  have h1 := of_decide_eq_true h1
  have hr : ∀ r ∈ t, r.length = B.length + 1 := fun r hm => by
    have := List.all_eq_true.1 h2 r hm
    unfold hrowB at this
    rw [Bool.and_eq_true] at this
    exact of_decide_eq_true this.1
  obtain ⟨b, off, rfl, hc⟩ := tab_at hn hV hr (by omega)
  obtain ⟨rb, ro, rc, k1, _, k2⟩ := hc A.length (by omega)
  exact ⟨by omega, b, off, rb, ro, rc, rfl, k1, k2 B.length (by omega)⟩

set_option maxHeartbeats 16000000 in
theorem EditsHeights_walk (a b : ByteArray) (pi po ps : Int) (t : List (List Int)) (u : Value) (ha : a.size ≤ maxLen) (hb : b.size ≤ maxLen) (_ : (Lit.int .i64 pi).wf = true) (_ : (Lit.int .i64 po).wf = true) (_ : (Lit.int .i64 ps).wf = true) (hlt : t.length ≤ maxLen ∧ ∀ r ∈ t, r.length ≤ maxLen) (w : World) (hu : TabV w u t) :
    Calls Try.prog 5 #[.string a, .string b, pv pi po ps, u] w fun e w' => e = .returned (.bool true) ∧ Below w.heap.size w w' := by
  have HAw := Lib.hid (fun W => awake_any W)
  have hmx : Try.prog.follows .mixedOrders = true := by kernel_rfl
  have hgt := good_text a b pi po ps
  have HF := Lib.hid (fun W => fine_any a b pi po ps W)
  rw [fine_good] at HF
  have HLs := Lib.hid (fun W hV => lists_any t hlt.1 hlt.2 u W hV)
  have HVt := Lib.hid hu
  obtain ⟨ao, cap, rfl, hlc, hd⟩ := hu
  clear hd
  obtain ⟨W0, hW0⟩ : ∃ W0, w.alloc (.cells #[.int .i64 pi, .int .i64 po, .int .i64 ps] 23) = W0 := ⟨_, rfl⟩
  have hB0 : Below w.heap.size w W0 := by rw [← hW0]; exact bl_al (Below.refl _ w) _
  have p0 : W0.cell? ⟨w.heap.size, 0, none⟩ = some (.int .i64 pi) := by rw [← hW0]; simp
  have p1 : W0.cell? ⟨w.heap.size, 1, none⟩ = some (.int .i64 po) := by rw [← hW0]; simp
  have p2 : W0.cell? ⟨w.heap.size, 2, none⟩ = some (.int .i64 ps) := by rw [← hW0]; simp
  have HB0 := Lib.hid hB0
  clear hB0
  cases hg : goodB a b pi po ps
  · rw [hg] at hgt HF
    have HO := Lib.hid (fun W => Of_any pi po ps W)
    have HH := Lib.hid (fun W => Heights_bad _ _ pi po ps hgt W)
    have HCh := Lib.hid (fun v W => CheckHeights_bad _ _ pi po ps v hgt W)
    have HT1 := Lib.hid (fun W => text_any a W)
    have HT2 := Lib.hid (fun W => text_any b W)
    clear hgt hg
    go_enter Try.func5, Try.ntmps5
    go_wp2_with fail
    try rw [hW0]
    refine region_calm hmx (by kernel_rfl) ?_
    intro S hSn f hS1 hS2
    have l0 := fun s => cell_later (hS1 s) p0
    have l1 := fun s => cell_later (hS1 s) p1
    have l2 := fun s => cell_later (hS1 s) p2
    have hT1 := Lib.hid (calm_call0 (fun s => text_any a (f s)))
    have hT2 := Lib.hid (calm_call0 (fun s => text_any b (f s)))
    have hO := Lib.hid (calm_call hS1 hS2 (fun s => HO.out (f s)))
    have hC := Lib.hid (calm_call hS1 hS2 (fun s => HH.out (f s)))
    repeat (go_big_quiet_step (first | exact hT1.out _ | exact hT2.out _ | exact hO.out _ | exact hC.out _))
    refine wpQuiet_nil ?_
    rintro _ ⟨s, rfl⟩
    have b1 := hS1 s
    clear l0 l1 l2 hT1 hT2 hO hC
    generalize f s = u1 at b1 ⊢
    clear hS1 hS2
    replace p0 := cell_later b1 p0
    replace p1 := cell_later b1 p1
    replace p2 := cell_later b1 p2
    have B1 := Lib.hid (below_nx HB0.out b1)
    clear b1
    try dsimp only [Exit.then]
    obtain ⟨a9, ha9⟩ : ∃ q, a.extract 0 16 = q := ⟨_, rfl⟩
    obtain ⟨b9, hb9⟩ : ∃ q, b.extract 0 16 = q := ⟨_, rfl⟩
    rw [ha9] at HT1 HCh
    rw [hb9] at HT2 HCh
    clear ha9 hb9
    go_wp2_with fail
    try rw [hW0]
    try go_frame
    refine region_M hmx (fun hS => ?_)
    refine take_M (i := 0) (v := .string a) (toA rfl) (by kernel_rfl) (by kernel_rfl) (by kernel_rfl) (fun _ _ _ h => h) hS (.inl ⟨by rfl, fun W hW => by rfl⟩) ?_
    try go_frame
    refine take_M (i := 2) (v := .string b) (toA rfl) (by kernel_rfl) (by kernel_rfl) (by kernel_rfl) (fun _ _ _ h => h) hS (.inl ⟨by rfl, fun W hW => by rfl⟩) ?_
    try go_frame
    refine take_M (i := 4) (v := pv pi po ps) (toA rfl) (by kernel_rfl) (by kernel_rfl) (by kernel_rfl) (fun _ _ _ h => h) hS (.inl ⟨by rfl, fun W hW => by have k0 := cell_later hW p0; have k1 := cell_later hW p1; have k2 := cell_later hW p2; go_simp⟩) ?_
    try go_frame
    refine take_M (i := 6) (v := .slice ao t.length cap) (toA rfl) (by kernel_rfl) (by kernel_rfl) (by kernel_rfl) (fun _ _ _ h => h) hS (.inl ⟨by rfl, fun W hW => by rfl⟩) ?_
    try go_frame
    refine take_M (i := 1) (v := .string a9) (toA rfl) (by kernel_rfl) (by kernel_rfl) (by kernel_rfl) (fun _ _ _ h => h) hS (.inr (.inl ⟨by rfl, 19, #[.string a], fun W hW => ⟨by go_simp, (HT1.out W).mono (fun e w' h => ⟨h.1, h.2 ▸ Below.refl _ _⟩)⟩⟩)) ?_
    try go_frame
    refine take_M (i := 3) (v := .string b9) (toA rfl) (by kernel_rfl) (by kernel_rfl) (by kernel_rfl) (fun _ _ _ h => h) hS (.inr (.inl ⟨by rfl, 19, #[.string b], fun W hW => ⟨by go_simp, (HT2.out W).mono (fun e w' h => ⟨h.1, h.2 ▸ Below.refl _ _⟩)⟩⟩)) ?_
    try go_frame
    refine take_M (i := 5) (v := pv pi po ps) (toA rfl) (by kernel_rfl) (by kernel_rfl) (by kernel_rfl) (fun _ _ _ h => h) hS (.inr (.inl ⟨by rfl, 20, #[pv pi po ps], fun W hW => ⟨by go_simp, HO.out W⟩⟩)) ?_
    try go_frame
    refine step_M (i := 7) (toA rfl) (by kernel_rfl) (by rfl) (fun W1_7 hW1_7 K' hK => ?_)
    have hX := below_nx hS hW1_7
    have hXB := below_nx B1.out hX
    go_simp
    refine (HLs.out _ (HVt.out.later hXB)).mono ?_
    rintro e z1_7 ⟨v1, rfl, s1, d⟩
    have D1_7 := Lib.hid (below_nx hX d)
    refine hK.out _ _ D1_7.out ?_
    clear hK K' d hX hXB
    try go_frame
    have S1 := Lib.hid s1
    obtain ⟨ao1, cap1, rfl, _, _⟩ := s1
    refine step_M (i := 8) (toA rfl) (by kernel_rfl) (by rfl) (fun W1_8 hW1_8 K' hK => ?_)
    have hX := below_nx D1_7.out hW1_8
    have hXB := below_nx B1.out hX
    go_simp
    refine (HCh.out _ _).mono ?_
    rintro e z1_8 ⟨rfl, d⟩
    have D1_8 := Lib.hid (below_nx hX d)
    refine hK.out _ _ D1_8.out ?_
    clear hK K' d hX hXB
    try go_frame
    refine take_M (i := 9) (v := .tuple #[.int .i64 0, .bool false, .int .i64 2]) (toA rfl) (by kernel_rfl) (by kernel_rfl) (by kernel_rfl) (fun _ _ _ h => h) D1_8.out (.inl ⟨by rfl, fun W hW => by rfl⟩) ?_
    try go_frame
    refine take_M (i := 10) (v := .int .i64 0) (toA rfl) (by kernel_rfl) (by kernel_rfl) (by kernel_rfl) (fun _ _ _ h => h) D1_8.out (.inl ⟨by rfl, fun W hW => by rfl⟩) ?_
    try go_frame
    refine take_M (i := 11) (v := .bool false) (toA rfl) (by kernel_rfl) (by kernel_rfl) (by kernel_rfl) (fun _ _ _ h => h) D1_8.out (.inl ⟨by rfl, fun W hW => by rfl⟩) ?_
    try go_frame
    refine take_M (i := 12) (v := .int .i64 2) (toA rfl) (by kernel_rfl) (by kernel_rfl) (by kernel_rfl) (fun _ _ _ h => h) D1_8.out (.inl ⟨by rfl, fun W hW => by rfl⟩) ?_
    try go_frame
    refine take_M (i := 13) (v := .int .i64 0) (toA rfl) (by kernel_rfl) (by kernel_rfl) (by kernel_rfl) (fun _ _ _ h => h) D1_8.out (.inl ⟨by rfl, fun W hW => by rfl⟩) ?_
    try go_frame
    refine take_M (i := 14) (v := .bool false) (toA rfl) (by kernel_rfl) (by kernel_rfl) (by kernel_rfl) (fun _ _ _ h => h) D1_8.out (.inl ⟨by rfl, fun W hW => by rfl⟩) ?_
    try go_frame
    refine take_M (i := 15) (v := .int .i64 2) (toA rfl) (by kernel_rfl) (by kernel_rfl) (by kernel_rfl) (fun _ _ _ h => h) D1_8.out (.inl ⟨by rfl, fun W hW => by rfl⟩) ?_
    try go_frame
    refine done_M (by kernel_rfl) (fun u2 hu2 => ?_) _
    dsimp only [OnlyN, Exit.then]
    have hv2 := hu2
    have b2 := below_nx D1_8.out hu2
    replace p0 := cell_later b2 p0
    replace p1 := cell_later b2 p1
    replace p2 := cell_later b2 p2
    have B2 := Lib.hid (below_nx B1.out b2)
    clear b2 hS hu2 
    go_wp2_with fail
    refine (HF.out _).mono ?_
    rintro e u3 ⟨rfl, b3⟩
    replace p0 := cell_later b3 p0
    replace p1 := cell_later b3 p1
    replace p2 := cell_later b3 p2
    have B3 := Lib.hid (below_nx B2.out b3)
    clear b3
    go_wp2_with fail
    refine (HAw.out _).mono ?_
    rintro e uz ⟨rfl, bz⟩
    go_wp2
    go_ret
    exact ⟨rfl, below_nx B3.out bz⟩
  · rw [hg] at hgt HF
    obtain ⟨g1, g2, g3⟩ := good_iff.1 hg
    obtain ⟨x, y, z, rfl, rfl, rfl, hp, _, _, _⟩ := priced_nat g1
    have HO := Lib.hid (fun W => Of_any x y z W)
    have HH := Lib.hid (fun W => Heights_ok a b x y z hg W)
    have ha12 : a.size ≤ 12 := of_decide_eq_true g2
    have hb12 : b.size ≤ 12 := of_decide_eq_true g3
    obtain ⟨hto, hth⟩ := tabI_ok a b hp ha12 hb12
    have htl := tabI_len a b x y z
    have htr := tabI_row a b x y z
    have hm1 : (tabI a b x y z).length ≤ maxLen := by rw [htl]; unfold maxLen; omega
    have hm2 : ∀ r ∈ tabI a b x y z, r.length ≤ maxLen := fun r hr => by rw [htr r hr]; unfold maxLen; omega
    obtain ⟨hcs, hcl⟩ := cut_same (A := bsN a) (B := bsN b) (by rw [bsN_length]; exact ha12) (by rw [bsN_length]; exact hb12) x y z t
    rw [bsN_length, bsN_length] at hcl
    have HCh := Lib.hid (fun v1 W hV => CheckHeights_any a b x y z hg ((t.take 16).map (List.take 16)) (by rw [List.length_map, List.length_take]; have := hlt.1; omega) (fun r hr => by obtain ⟨q, hq, rfl⟩ := List.mem_map.1 hr; rw [List.length_take]; have := hlt.2 q (List.mem_of_mem_take hq); omega) v1 W hV)
    rw [hcs] at HCh
    have HRt := Lib.hid (fun v W hV => RHeights_any a b x y z ha12 hb12 hp.i hp.o hp.s t hlt.1 hlt.2 v W hV)
    have HRI := Lib.hid (fun v W hV => RHeights_any a b x y z ha12 hb12 hp.i hp.o hp.s (tabI a b x y z) hm1 hm2 v W hV)
    rw [hto] at HRI
    have HRC := Lib.hid (fun W => RCost_any a b x y z ha12 hb12 hp.i hp.o hp.s W)
    have HLI := Lib.hid (fun (W : World) (ao : Option Addr) (n cap : Nat) (hn : n = (tabI a b x y z).length) hV => last_at (W := W) (ao := ao) (cap := cap) (bsN_length a) (bsN_length b) hto hn hV)
    rw [hth] at HLI
    have HLt := Lib.hid (fun (hh : heightsB (bsN a) (bsN b) x y z t = true) (W : World) (cap : Nat) hV => last_at (W := W) (ao := ao) (n := t.length) (cap := cap) (bsN_length a) (bsN_length b) hh rfl hV)
    have HT1 := Lib.hid (fun W => text_any a W)
    have HT2 := Lib.hid (fun W => text_any b W)
    rw [text_id g2] at HT1
    rw [text_id g3] at HT2
    have HN := Lib.hid hcl
    unfold tabI at HRI HLI
    generalize (tabL (a.size + 1) (b.size + 1) fun i j => (pl (bsN a) (bsN b) x y z i j).c) = tb at HH HRI HLI
    obtain ⟨t2, ht2⟩ : ∃ q, (t.take 16).map (List.take 16) = q := ⟨_, rfl⟩
    rw [ht2] at HLs HCh HN
    obtain ⟨X, hX9⟩ : ∃ q, ht t2 a.size b.size = q := ⟨_, rfl⟩
    rw [hX9] at HCh HN
    clear hX9 ht2
    obtain ⟨is, his⟩ : ∃ q, heightsB (bsN a) (bsN b) x y z t = q := ⟨_, rfl⟩
    rw [his] at HCh HRt HLt HN
    obtain ⟨Y, hY⟩ : ∃ q, (if is = true then X else 0) = q := ⟨_, rfl⟩
    rw [hY] at HCh
    have HY0 := Lib.hid (fun (h : is = false) => show Y = 0 by rw [← hY, h]; rfl)
    have HY1 := Lib.hid (fun (h : is = true) => show Y = ht t a.size b.size by rw [← hY, if_pos h, HN.out h])
    clear hY HN
    generalize cst a b x y z = C0 at HRC HLI
    clear hgt hg g1 g2 g3 hp hto hth htl htr hm1 hm2 hcs hcl his
    go_enter Try.func5, Try.ntmps5
    go_wp2_with fail
    try rw [hW0]
    try go_frame
    refine region_M hmx (fun hS => ?_)
    refine take_M (i := 0) (v := .string a) (toA rfl) (by kernel_rfl) (by kernel_rfl) (by kernel_rfl) (fun _ _ _ h => h) hS (.inl ⟨by rfl, fun W hW => by rfl⟩) ?_
    try go_frame
    refine take_M (i := 2) (v := .string b) (toA rfl) (by kernel_rfl) (by kernel_rfl) (by kernel_rfl) (fun _ _ _ h => h) hS (.inl ⟨by rfl, fun W hW => by rfl⟩) ?_
    try go_frame
    refine take_M (i := 4) (v := pv x y z) (toA rfl) (by kernel_rfl) (by kernel_rfl) (by kernel_rfl) (fun _ _ _ h => h) hS (.inl ⟨by rfl, fun W hW => by have k0 := cell_later hW p0; have k1 := cell_later hW p1; have k2 := cell_later hW p2; go_simp⟩) ?_
    try go_frame
    refine take_M (i := 1) (v := .string a) (toA rfl) (by kernel_rfl) (by kernel_rfl) (by kernel_rfl) (fun _ _ _ h => h) hS (.inr (.inl ⟨by rfl, 19, #[.string a], fun W hW => ⟨by go_simp, (HT1.out W).mono (fun e w' h => ⟨h.1, h.2 ▸ Below.refl _ _⟩)⟩⟩)) ?_
    try go_frame
    refine take_M (i := 3) (v := .string b) (toA rfl) (by kernel_rfl) (by kernel_rfl) (by kernel_rfl) (fun _ _ _ h => h) hS (.inr (.inl ⟨by rfl, 19, #[.string b], fun W hW => ⟨by go_simp, (HT2.out W).mono (fun e w' h => ⟨h.1, h.2 ▸ Below.refl _ _⟩)⟩⟩)) ?_
    try go_frame
    refine take_M (i := 5) (v := pv x y z) (toA rfl) (by kernel_rfl) (by kernel_rfl) (by kernel_rfl) (fun _ _ _ h => h) hS (.inr (.inl ⟨by rfl, 20, #[pv x y z], fun W hW => ⟨by go_simp, HO.out W⟩⟩)) ?_
    try go_frame
    refine step_M (i := 6) (toA rfl) (by kernel_rfl) (by rfl) (fun W1_6 hW1_6 K' hK => ?_)
    have hX := below_nx hS hW1_6
    have hXB := below_nx HB0.out hX
    go_simp
    refine (HH.out _).mono ?_
    rintro e z1_6 ⟨v0, rfl, s0, d⟩
    have D1_6 := Lib.hid (below_nx hX d)
    refine hK.out _ _ D1_6.out ?_
    clear hK K' d hX hXB
    try go_frame
    have S0 := Lib.hid s0
    obtain ⟨ao0, cap0, rfl, _, _⟩ := s0
    refine take_M (i := 7) (v := .tuple #[.slice ao0 tb.length cap0, .int .i64 0]) (toA rfl) (by kernel_rfl) (by kernel_rfl) (by kernel_rfl) (fun _ _ _ h => h) D1_6.out (.inl ⟨by rfl, fun W hW => by rfl⟩) ?_
    try go_frame
    refine take_M (i := 8) (v := .slice ao0 tb.length cap0) (toA rfl) (by kernel_rfl) (by kernel_rfl) (by kernel_rfl) (fun _ _ _ h => h) D1_6.out (.inl ⟨by rfl, fun W hW => by rfl⟩) ?_
    try go_frame
    refine take_M (i := 9) (v := .int .i64 0) (toA rfl) (by kernel_rfl) (by kernel_rfl) (by kernel_rfl) (fun _ _ _ h => h) D1_6.out (.inl ⟨by rfl, fun W hW => by rfl⟩) ?_
    try go_frame
    refine take_M (i := 10) (v := .slice ao0 tb.length cap0) (toA rfl) (by kernel_rfl) (by kernel_rfl) (by kernel_rfl) (fun _ _ _ h => h) D1_6.out (.inl ⟨by rfl, fun W hW => by rfl⟩) ?_
    try go_frame
    refine take_M (i := 11) (v := .int .i64 0) (toA rfl) (by kernel_rfl) (by kernel_rfl) (by kernel_rfl) (fun _ _ _ h => h) D1_6.out (.inl ⟨by rfl, fun W hW => by rfl⟩) ?_
    try go_frame
    refine done_M (by kernel_rfl) (fun u1 hu1 => ?_) _
    dsimp only [OnlyN, Exit.then]
    have hv1 := hu1
    have b1 := below_nx D1_6.out hu1
    replace p0 := cell_later b1 p0
    replace p1 := cell_later b1 p1
    replace p2 := cell_later b1 p2
    have B1 := Lib.hid (below_nx HB0.out b1)
    clear b1 hS hu1 
    have S1 := Lib.hid (S0.out.later hv1)
    clear S0
    go_wp2_with fail
    try rw [hW0]
    try go_frame
    refine region_M hmx (fun hS => ?_)
    refine take_M (i := 0) (v := .string a) (toA rfl) (by kernel_rfl) (by kernel_rfl) (by kernel_rfl) (fun _ _ _ h => h) hS (.inl ⟨by rfl, fun W hW => by rfl⟩) ?_
    try go_frame
    refine take_M (i := 2) (v := .string b) (toA rfl) (by kernel_rfl) (by kernel_rfl) (by kernel_rfl) (fun _ _ _ h => h) hS (.inl ⟨by rfl, fun W hW => by rfl⟩) ?_
    try go_frame
    refine take_M (i := 4) (v := pv x y z) (toA rfl) (by kernel_rfl) (by kernel_rfl) (by kernel_rfl) (fun _ _ _ h => h) hS (.inl ⟨by rfl, fun W hW => by have k0 := cell_later hW p0; have k1 := cell_later hW p1; have k2 := cell_later hW p2; go_simp⟩) ?_
    try go_frame
    refine take_M (i := 6) (v := .slice ao t.length cap) (toA rfl) (by kernel_rfl) (by kernel_rfl) (by kernel_rfl) (fun _ _ _ h => h) hS (.inl ⟨by rfl, fun W hW => by rfl⟩) ?_
    try go_frame
    refine take_M (i := 1) (v := .string a) (toA rfl) (by kernel_rfl) (by kernel_rfl) (by kernel_rfl) (fun _ _ _ h => h) hS (.inr (.inl ⟨by rfl, 19, #[.string a], fun W hW => ⟨by go_simp, (HT1.out W).mono (fun e w' h => ⟨h.1, h.2 ▸ Below.refl _ _⟩)⟩⟩)) ?_
    try go_frame
    refine take_M (i := 3) (v := .string b) (toA rfl) (by kernel_rfl) (by kernel_rfl) (by kernel_rfl) (fun _ _ _ h => h) hS (.inr (.inl ⟨by rfl, 19, #[.string b], fun W hW => ⟨by go_simp, (HT2.out W).mono (fun e w' h => ⟨h.1, h.2 ▸ Below.refl _ _⟩)⟩⟩)) ?_
    try go_frame
    refine take_M (i := 5) (v := pv x y z) (toA rfl) (by kernel_rfl) (by kernel_rfl) (by kernel_rfl) (fun _ _ _ h => h) hS (.inr (.inl ⟨by rfl, 20, #[pv x y z], fun W hW => ⟨by go_simp, HO.out W⟩⟩)) ?_
    try go_frame
    refine step_M (i := 7) (toA rfl) (by kernel_rfl) (by rfl) (fun W2_7 hW2_7 K' hK => ?_)
    have hX := below_nx hS hW2_7
    have hXB := below_nx B1.out hX
    go_simp
    refine (HLs.out _ (HVt.out.later hXB)).mono ?_
    rintro e z2_7 ⟨v1, rfl, s1, d⟩
    have D2_7 := Lib.hid (below_nx hX d)
    refine hK.out _ _ D2_7.out ?_
    clear hK K' d hX hXB
    try go_frame
    have S3 := Lib.hid s1
    obtain ⟨ao1, cap1, rfl, _, _⟩ := s1
    refine step_M (i := 8) (toA rfl) (by kernel_rfl) (by rfl) (fun W2_8 hW2_8 K' hK => ?_)
    have hX := below_nx D2_7.out hW2_8
    have hXB := below_nx B1.out hX
    go_simp
    refine (HCh.out _ _ (S3.out.later hW2_8)).mono ?_
    rintro e z2_8 ⟨rfl, d⟩
    have D2_8 := Lib.hid (below_nx hX d)
    refine hK.out _ _ D2_8.out ?_
    clear hK K' d hX hXB
    try go_frame
    refine take_M (i := 9) (v := .tuple #[.int .i64 Y, .bool is, .int .i64 0]) (toA rfl) (by kernel_rfl) (by kernel_rfl) (by kernel_rfl) (fun _ _ _ h => h) D2_8.out (.inl ⟨by rfl, fun W hW => by rfl⟩) ?_
    try go_frame
    refine take_M (i := 10) (v := .int .i64 Y) (toA rfl) (by kernel_rfl) (by kernel_rfl) (by kernel_rfl) (fun _ _ _ h => h) D2_8.out (.inl ⟨by rfl, fun W hW => by rfl⟩) ?_
    try go_frame
    refine take_M (i := 11) (v := .bool is) (toA rfl) (by kernel_rfl) (by kernel_rfl) (by kernel_rfl) (fun _ _ _ h => h) D2_8.out (.inl ⟨by rfl, fun W hW => by rfl⟩) ?_
    try go_frame
    refine take_M (i := 12) (v := .int .i64 0) (toA rfl) (by kernel_rfl) (by kernel_rfl) (by kernel_rfl) (fun _ _ _ h => h) D2_8.out (.inl ⟨by rfl, fun W hW => by rfl⟩) ?_
    try go_frame
    refine take_M (i := 13) (v := .int .i64 Y) (toA rfl) (by kernel_rfl) (by kernel_rfl) (by kernel_rfl) (fun _ _ _ h => h) D2_8.out (.inl ⟨by rfl, fun W hW => by rfl⟩) ?_
    try go_frame
    refine take_M (i := 14) (v := .bool is) (toA rfl) (by kernel_rfl) (by kernel_rfl) (by kernel_rfl) (fun _ _ _ h => h) D2_8.out (.inl ⟨by rfl, fun W hW => by rfl⟩) ?_
    try go_frame
    refine take_M (i := 15) (v := .int .i64 0) (toA rfl) (by kernel_rfl) (by kernel_rfl) (by kernel_rfl) (fun _ _ _ h => h) D2_8.out (.inl ⟨by rfl, fun W hW => by rfl⟩) ?_
    try go_frame
    refine done_M (by kernel_rfl) (fun u2 hu2 => ?_) _
    dsimp only [OnlyN, Exit.then]
    have hv2 := hu2
    have b2 := below_nx D2_8.out hu2
    replace S1 := Lib.hid (S1.out.later b2)
    replace p0 := cell_later b2 p0
    replace p1 := cell_later b2 p1
    replace p2 := cell_later b2 p2
    have B2 := Lib.hid (below_nx B1.out b2)
    clear b2 hS hu2 
    go_wp2_with fail
    refine (HF.out _).mono ?_
    rintro e u3 ⟨rfl, b3⟩
    replace S1 := Lib.hid (S1.out.later b3)
    replace p0 := cell_later b3 p0
    replace p1 := cell_later b3 p1
    replace p2 := cell_later b3 p2
    have B3 := Lib.hid (below_nx B2.out b3)
    clear b3
    obtain ⟨hn0, b0, off0, rb, ro, rc, rfl, h1, h2⟩ := HLI.out _ ao0 tb.length cap0 rfl S1.out
    have hix : (a.size : Int) < (tb.length : Int) := by omega
    have hiy : (b.size : Int) < (b.size : Int) + 1 := by omega
    go_wp2_with fail
    try rw [hW0]
    try go_frame
    refine region_M hmx (fun hS => ?_)
    refine take_M (i := 0) (v := .int .i64 0) (toA rfl) (by kernel_rfl) (by kernel_rfl) (by kernel_rfl) (fun _ _ _ h => h) hS (.inl ⟨by rfl, fun W hW => by first | rfl | go_simp⟩) ?_
    try go_frame
    refine take_M (i := 1) (v := .bool false) (toA rfl) (by kernel_rfl) (by kernel_rfl) (by kernel_rfl) (fun _ _ _ h => h) hS (.inl ⟨by rfl, fun W hW => by first | rfl | go_simp⟩) ?_
    try go_frame
    refine take_M (i := 2) (v := .bool false) (toA rfl) (by kernel_rfl) (by kernel_rfl) (by kernel_rfl) (fun _ _ _ h => h) hS (.inl ⟨by rfl, fun W hW => by first | rfl | go_simp⟩) ?_
    try go_frame
    refine take_M (i := 3) (v := .string a) (toA rfl) (by kernel_rfl) (by kernel_rfl) (by kernel_rfl) (fun _ _ _ h => h) hS (.inl ⟨by rfl, fun W hW => by first | rfl | go_simp⟩) ?_
    try go_frame
    refine take_M (i := 4) (v := .string b) (toA rfl) (by kernel_rfl) (by kernel_rfl) (by kernel_rfl) (fun _ _ _ h => h) hS (.inl ⟨by rfl, fun W hW => by first | rfl | go_simp⟩) ?_
    try go_frame
    refine take_M (i := 5) (v := pv x y z) (toA rfl) (by kernel_rfl) (by kernel_rfl) (by kernel_rfl) (fun _ _ _ h => h) hS (.inl ⟨by rfl, fun W hW => by have k0 := cell_later hW p0; have k1 := cell_later hW p1; have k2 := cell_later hW p2; have k3 := cell_later hW h1; have k4 := cell_later hW h2; go_simp⟩) ?_
    try go_frame
    refine take_M (i := 6) (v := .slice (some ⟨b0, off0, none⟩) tb.length cap0) (toA rfl) (by kernel_rfl) (by kernel_rfl) (by kernel_rfl) (fun _ _ _ h => h) hS (.inl ⟨by rfl, fun W hW => by first | rfl | go_simp⟩) ?_
    try go_frame
    refine take_M (i := 7) (v := .bool true) (toA rfl) (by kernel_rfl) (by kernel_rfl) (by kernel_rfl) (fun _ _ _ h => h) hS (.inr (.inl ⟨by rfl, 34, #[.string a, .string b, pv x y z, .slice (some ⟨b0, off0, none⟩) tb.length cap0], fun W hW => ⟨by go_simp, HRI.out _ W (S1.out.later hW)⟩⟩)) ?_
    try go_frame
    refine take_M (i := 8) (v := .bool false) (toA rfl) (by kernel_rfl) (by kernel_rfl) (by kernel_rfl) (fun _ _ _ h => h) hS (.inl ⟨by rfl, fun W hW => by first | rfl | go_simp⟩) ?_
    try go_frame
    refine take_M (i := 9) (v := .bool false) (toA rfl) (by kernel_rfl) (by kernel_rfl) (by kernel_rfl) (fun _ _ _ h => h) hS (.inl ⟨by rfl, fun W hW => by first | rfl | go_simp⟩) ?_
    try go_frame
    refine take_M (i := 10) (v := .bool false) (toA rfl) (by kernel_rfl) (by kernel_rfl) (by kernel_rfl) (fun _ _ _ h => h) hS (.inl ⟨by rfl, fun W hW => by first | rfl | go_simp⟩) ?_
    try go_frame
    refine take_M (i := 11) (v := .slice (some ⟨b0, off0, none⟩) tb.length cap0) (toA rfl) (by kernel_rfl) (by kernel_rfl) (by kernel_rfl) (fun _ _ _ h => h) hS (.inl ⟨by rfl, fun W hW => by first | rfl | go_simp⟩) ?_
    try go_frame
    refine take_M (i := 12) (v := .string a) (toA rfl) (by kernel_rfl) (by kernel_rfl) (by kernel_rfl) (fun _ _ _ h => h) hS (.inl ⟨by rfl, fun W hW => by first | rfl | go_simp⟩) ?_
    try go_frame
    refine take_M (i := 13) (v := .int .i64 (a.size : Int)) (toA rfl) (by kernel_rfl) (by kernel_rfl) (by kernel_rfl) (fun _ _ _ h => h) hS (.inl ⟨by rfl, fun W hW => by first | rfl | go_simp⟩) ?_
    try go_frame
    refine take_M (i := 14) (v := .pointer (some ⟨b0, off0 + a.size, none⟩)) (toA rfl) (by kernel_rfl) (by kernel_rfl) (by kernel_rfl) (fun _ _ _ h => h) hS (.inl ⟨by rfl, fun W hW => by go_simp; try (intro hh; exfalso; omega)⟩) ?_
    try go_frame
    refine take_M (i := 15) (v := .slice (some ⟨rb, ro, none⟩) (b.size + 1) rc) (toA rfl) (by kernel_rfl) (by kernel_rfl) (by kernel_rfl) (fun _ _ _ h => h) hS (.inl ⟨by rfl, fun W hW => by have k0 := cell_later hW p0; have k1 := cell_later hW p1; have k2 := cell_later hW p2; have k3 := cell_later hW h1; have k4 := cell_later hW h2; go_simp⟩) ?_
    try go_frame
    refine take_M (i := 16) (v := .string b) (toA rfl) (by kernel_rfl) (by kernel_rfl) (by kernel_rfl) (fun _ _ _ h => h) hS (.inl ⟨by rfl, fun W hW => by first | rfl | go_simp⟩) ?_
    try go_frame
    refine take_M (i := 17) (v := .int .i64 (b.size : Int)) (toA rfl) (by kernel_rfl) (by kernel_rfl) (by kernel_rfl) (fun _ _ _ h => h) hS (.inl ⟨by rfl, fun W hW => by first | rfl | go_simp⟩) ?_
    try go_frame
    refine take_M (i := 18) (v := .pointer (some ⟨rb, ro + b.size, none⟩)) (toA rfl) (by kernel_rfl) (by kernel_rfl) (by kernel_rfl) (fun _ _ _ h => h) hS (.inl ⟨by rfl, fun W hW => by go_simp; try (intro hh; exfalso; omega)⟩) ?_
    try go_frame
    refine take_M (i := 19) (v := .int .i64 C0) (toA rfl) (by kernel_rfl) (by kernel_rfl) (by kernel_rfl) (fun _ _ _ h => h) hS (.inl ⟨by rfl, fun W hW => by have k0 := cell_later hW p0; have k1 := cell_later hW p1; have k2 := cell_later hW p2; have k3 := cell_later hW h1; have k4 := cell_later hW h2; go_simp⟩) ?_
    try go_frame
    refine take_M (i := 20) (v := .string a) (toA rfl) (by kernel_rfl) (by kernel_rfl) (by kernel_rfl) (fun _ _ _ h => h) hS (.inl ⟨by rfl, fun W hW => by first | rfl | go_simp⟩) ?_
    try go_frame
    refine take_M (i := 21) (v := .string b) (toA rfl) (by kernel_rfl) (by kernel_rfl) (by kernel_rfl) (fun _ _ _ h => h) hS (.inl ⟨by rfl, fun W hW => by first | rfl | go_simp⟩) ?_
    try go_frame
    refine take_M (i := 22) (v := pv x y z) (toA rfl) (by kernel_rfl) (by kernel_rfl) (by kernel_rfl) (fun _ _ _ h => h) hS (.inl ⟨by rfl, fun W hW => by have k0 := cell_later hW p0; have k1 := cell_later hW p1; have k2 := cell_later hW p2; have k3 := cell_later hW h1; have k4 := cell_later hW h2; go_simp⟩) ?_
    try go_frame
    refine take_M (i := 23) (v := .int .i64 C0) (toA rfl) (by kernel_rfl) (by kernel_rfl) (by kernel_rfl) (fun _ _ _ h => h) hS (.inr (.inl ⟨by rfl, 26, #[.string a, .string b, pv x y z], fun W hW => ⟨by go_simp, HRC.out W⟩⟩)) ?_
    try go_frame
    refine take_M (i := 24) (v := .bool false) (toA rfl) (by kernel_rfl) (by kernel_rfl) (by kernel_rfl) (fun _ _ _ h => h) hS (.inl ⟨by rfl, fun W hW => by first | rfl | go_simp⟩) ?_
    try go_frame
    refine take_M (i := 25) (v := .bool false) (toA rfl) (by kernel_rfl) (by kernel_rfl) (by kernel_rfl) (fun _ _ _ h => h) hS (.inl ⟨by rfl, fun W hW => by first | rfl | go_simp⟩) ?_
    try go_frame
    refine take_M (i := 26) (v := .bool false) (toA rfl) (by kernel_rfl) (by kernel_rfl) (by kernel_rfl) (fun _ _ _ h => h) hS (.inl ⟨by rfl, fun W hW => by first | rfl | go_simp⟩) ?_
    try go_frame
    refine take_M (i := 27) (v := .int .i64 0) (toA rfl) (by kernel_rfl) (by kernel_rfl) (by kernel_rfl) (fun _ _ _ h => h) hS (.inl ⟨by rfl, fun W hW => by first | rfl | go_simp⟩) ?_
    try go_frame
    refine take_M (i := 28) (v := .bool false) (toA rfl) (by kernel_rfl) (by kernel_rfl) (by kernel_rfl) (fun _ _ _ h => h) hS (.inl ⟨by rfl, fun W hW => by first | rfl | go_simp⟩) ?_
    try go_frame
    refine take_M (i := 29) (v := .bool false) (toA rfl) (by kernel_rfl) (by kernel_rfl) (by kernel_rfl) (fun _ _ _ h => h) hS (.inl ⟨by rfl, fun W hW => by first | rfl | go_simp⟩) ?_
    try go_frame
    refine take_M (i := 30) (v := .bool false) (toA rfl) (by kernel_rfl) (by kernel_rfl) (by kernel_rfl) (fun _ _ _ h => h) hS (.inl ⟨by rfl, fun W hW => by first | rfl | go_simp⟩) ?_
    try go_frame
    refine take_M (i := 31) (v := .bool true) (toA rfl) (by kernel_rfl) (by kernel_rfl) (by kernel_rfl) (fun _ _ _ h => h) hS (.inr (.inl ⟨by rfl, 23, #[], fun W hW => ⟨by go_simp, HAw.out W⟩⟩)) ?_
    try go_frame
    refine take_M (i := 32) (v := .bool false) (toA rfl) (by kernel_rfl) (by kernel_rfl) (by kernel_rfl) (fun _ _ _ h => h) hS (.inl ⟨by rfl, fun W hW => by first | rfl | go_simp⟩) ?_
    try go_frame
    refine take_M (i := 33) (v := .bool false) (toA rfl) (by kernel_rfl) (by kernel_rfl) (by kernel_rfl) (fun _ _ _ h => h) hS (.inl ⟨by rfl, fun W hW => by first | rfl | go_simp⟩) ?_
    try go_frame
    refine done_M (by kernel_rfl) (fun u4 hu4 => ?_) _
    dsimp only [OnlyN, Exit.then]
    have hv4 := hu4
    have b4 := below_nx hS hu4
    replace S1 := Lib.hid (S1.out.later b4)
    replace p0 := cell_later b4 p0
    replace p1 := cell_later b4 p1
    replace p2 := cell_later b4 p2
    replace h1 := cell_later b4 h1
    replace h2 := cell_later b4 h2
    have B4 := Lib.hid (below_nx B3.out b4)
    clear b4 hS hu4 
    clear S1 h1 h2 hix hn0
    have HV4 := Lib.hid (HVt.out.later B4.out)
    go_wp2_with fail
    refine (HRt.out _ _ HV4.out).mono ?_
    rintro e u5 ⟨rfl, b5⟩
    replace HV4 := Lib.hid (HV4.out.later b5)
    replace p0 := cell_later b5 p0
    replace p1 := cell_later b5 p1
    replace p2 := cell_later b5 p2
    have B5 := Lib.hid (below_nx B4.out b5)
    clear b5
    cases is
    · have hy := HY0.out rfl
      subst hy
      go_wp2
      go_ret
      exact ⟨rfl, B5.out⟩
    · have hy := HY1.out rfl
      subst hy
      obtain ⟨hn0, b0, off0, rb, ro, rc, e, h1, h2⟩ := HLt.out rfl _ _ HV4.out
      subst e
      have hix : (a.size : Int) < (t.length : Int) := by omega
      go_wp2
      go_ret
      exact ⟨rfl, B5.out⟩
end Go.Proofs.Ytkpmkeklopfhdaa

/-
  The statement on checks: the walk.
-/
import Derived.Test.YtkpmkeklopfhdaaEdRDoneW
import Derived.Test.YtkpmkeklopfhdaaEdBndMath
import Derived.Test.YtkpmkeklopfhdaaCalmM
namespace Go.Proofs.Ytkpmkeklopfhdaa
open Go.ChangeShapes Go.WideShapes Go.ChangeAt Go.RowKit
set_option linter.unusedVariables false
set_option maxRecDepth 100000

/-- What Apply gives of a line's beginning. -/
def appV (a : ByteArray) (es : List (Int × Int)) : ByteArray × Int := if lineB a = false ∨ 24 < es.length then (noS, 2) else if (runR es a).2 = true then ((runR es a).1, 0) else (noS, 4)
theorem Apply_any (a : ByteArray) (es : List (Int × Int)) (hl : es.length ≤ 4096) (v : Value) (w : World) (hv : EdsV w v es) :
    Calls Try.prog 29 #[.string (a.extract 0 16), v] w fun e w' => e = .returned (.tuple #[.string (appV a es).1, .int .i64 (appV a es).2]) ∧ Below w.heap.size w w' := by
  unfold appV
  cases h1 : lineB a
  · rw [if_pos (Or.inl rfl)]
    exact Apply_line _ es hl (by rw [text_line]; exact h1) v w hv
  · rw [text_id h1]
    by_cases h2 : 24 < es.length
    · rw [if_pos (Or.inr h2)]; exact Apply_long a es hl h1 h2 v w hv
    · rw [if_neg (by simp [h2])]
      cases h4 : (runR es a).2
      · rw [if_neg (by simp)]; exact Apply_none a es hl h1 (by omega) h4 v w hv
      · rw [if_pos rfl]; exact Apply_ok a es hl h1 (by omega) h4 v w hv
/-- What Check gives of both lines' beginnings. -/
def chkV (a b : ByteArray) (pi po ps : Int) (es : List (Int × Int)) : Int × Bool × Int := if goodB a b pi po ps = true then (chkC a b pi.toNat po.toNat ps.toNat es, chkB a b es, 0) else (0, false, 2)
theorem Check_any (a b : ByteArray) (pi po ps : Int) (es : List (Int × Int)) (hl : es.length ≤ 4096) (v : Value) (w : World) (hv : EdsV w v es) :
    Calls Try.prog 27 #[.string (a.extract 0 16), .string (b.extract 0 16), pv pi po ps, v] w fun e w' => e = .returned (.tuple #[.int .i64 (chkV a b pi po ps es).1, .bool (chkV a b pi po ps es).2.1, .int .i64 (chkV a b pi po ps es).2.2]) ∧ Below w.heap.size w w' := by
  unfold chkV
  cases h : goodB a b pi po ps
  · rw [if_neg (by simp)]
    exact Check_bad _ _ pi po ps v (by rw [good_text]; exact h) w
  · rw [if_pos rfl]
    obtain ⟨g1, g2, g3⟩ := good_iff.1 h
    obtain ⟨x, y, z, rfl, rfl, rfl, hp, _, _, _⟩ := priced_nat g1
    rw [text_id g2, text_id g3]
    exact Check_ok a b x y z h es hl v w hv

theorem chk_cases {a b : ByteArray} {pi po ps : Int} {es : List (Int × Int)} {c0 e0 C : Int} {ok is : Bool} {O : ByteArray} (hg : goodB a b pi po ps = true) (hr : runR es a = (O, is)) (hcv : chkV a b pi po ps es = (c0, ok, e0)) (hC : is = true → CP pi po ps es es.length C) :
    e0 = 0 ∧ ok = (is && (O.toList == b.toList)) ∧ (ok = true → c0 = C) ∧ (ok = false → c0 = 0) := by
  unfold chkV at hcv
  rw [if_pos hg] at hcv
  obtain ⟨g1, g2, g3⟩ := good_iff.1 hg
  obtain ⟨x, y, z, rfl, rfl, rfl, hp, _, _, _⟩ := priced_nat g1
  simp only [Prod.mk.injEq, Int.toNat_natCast] at hcv
  obtain ⟨h1, h2, h3⟩ := hcv
  have hb : chkB a b es = (is && (O.toList == b.toList)) := by unfold chkB; rw [hr]
  unfold chkC at h1
  refine ⟨h3.symm, by rw [← h2, hb], fun h => ?_, fun h => ?_⟩
  · rw [h2, if_pos h] at h1
    have his : is = true := by rw [← h2, hb, Bool.and_eq_true] at h; exact h.1
    have := hC his x y z hp.i hp.o hp.s rfl rfl rfl
    rw [List.take_length] at this
    rw [← h1, this]
  · rw [h2, if_neg (by rw [h]; simp)] at h1; exact h1.symm
theorem app_cases {a : ByteArray} {es : List (Int × Int)} {t O : ByteArray} {f : Int} {is : Bool} (hr : runR es a = (O, is)) (hav : appV a es = (t, f)) :
    ((lineB a = false ∨ 24 < es.length) → t = noS ∧ f = 2) ∧ (¬ (lineB a = false ∨ 24 < es.length) → (is = true → t = O ∧ f = 0) ∧ (is = false → t = noS ∧ f = 4)) := by
  unfold appV at hav
  rw [hr] at hav
  refine ⟨fun h => ?_, fun h => ⟨fun h2 => ?_, fun h2 => ?_⟩⟩
  · rw [if_pos h] at hav; cases hav; exact ⟨rfl, rfl⟩
  · rw [if_neg h, if_pos h2] at hav; cases hav; exact ⟨rfl, rfl⟩
  · rw [if_neg h, if_neg (by rw [h2]; simp)] at hav; cases hav; exact ⟨rfl, rfl⟩

set_option maxHeartbeats 1000000 in
theorem EditsChecks_walk (a b : ByteArray) (pi po ps : Int) (es : List (Int × Int)) (v : Value) (ha : a.size ≤ maxLen) (hb : b.size ≤ maxLen) (_ : (Lit.int .i64 pi).wf = true) (_ : (Lit.int .i64 po).wf = true) (_ : (Lit.int .i64 ps).wf = true) (hle : es.length ≤ maxLen) (w : World) (hv : EdsV w v es) :
    Calls Try.prog 4 #[.string a, .string b, pv pi po ps, v] w fun e w' => e = .returned (.bool true) ∧ Below w.heap.size w w' := by
  have HAw := Lib.hid (fun W => awake_any W)
  have hmx : Try.prog.follows .mixedOrders = true := by kernel_rfl
  have HVe := Lib.hid hv
  have hle9 := hle
  unfold maxLen at hle9
  have HSc := Lib.hid (fun W hV => script_any es hle v W hV)
  have HDn := Lib.hid (fun hl4 W hV => Done_any a pi po ps es ha hl4 v W hV)
  obtain ⟨ao, cap, rfl, hlc, hd⟩ := hv
  clear hd
  obtain ⟨W0, hW0⟩ : ∃ W0, w.alloc (.cells #[.int .i64 pi, .int .i64 po, .int .i64 ps] 23) = W0 := ⟨_, rfl⟩
  have hB0 : Below w.heap.size w W0 := by rw [← hW0]; exact bl_al (Below.refl _ w) _
  have p0 : W0.cell? ⟨w.heap.size, 0, none⟩ = some (.int .i64 pi) := by rw [← hW0]; simp
  have p1 : W0.cell? ⟨w.heap.size, 1, none⟩ = some (.int .i64 po) := by rw [← hW0]; simp
  have p2 : W0.cell? ⟨w.heap.size, 2, none⟩ = some (.int .i64 ps) := by rw [← hW0]; simp
  have HB0 := Lib.hid hB0
  clear hB0
  by_cases h40 : 40 < es.length
  · clear HSc HDn
    go_enter Try.func4, Try.ntmps4
    go_wp2_with fail
    refine (HAw.out _).mono ?_
    rintro e uz ⟨rfl, bz⟩
    go_wp2
    go_ret
    exact ⟨rfl, below_nx HB0.out bz⟩
  · have HE := Lib.hid (List.take_of_length_le (show es.length ≤ 40 by omega))
    rw [HE.out] at HSc
    have hl4 : es.length ≤ 4096 := by omega
    have HF := Lib.hid (fun W => fine_any a b pi po ps W)
    rw [fine_good] at HF
    have HO := Lib.hid (fun W => Of_any pi po ps W)
    have HCk := Lib.hid (fun v1 W hV => Check_any a b pi po ps es hl4 v1 W hV)
    have HAp := Lib.hid (fun v1 W hV => Apply_any a es hl4 v1 W hV)
    have HDn2 := Lib.hid (fun W hV => HDn.out hl4 W hV)
    have HT1 := Lib.hid (fun W => text_any a W)
    have HT2 := Lib.hid (fun W => text_any b W)
    have HRL := Lib.hid (fun W => RLine_any a W)
    clear HDn
    obtain ⟨a', ha'⟩ : ∃ q, a.extract 0 16 = q := ⟨_, rfl⟩
    obtain ⟨b', hb'⟩ : ∃ q, b.extract 0 16 = q := ⟨_, rfl⟩
    rw [ha'] at HCk HAp HT1
    rw [hb'] at HCk HT2
    clear ha' hb'
    obtain ⟨⟨c0, ok, e0⟩, hcv⟩ : ∃ q, chkV a b pi po ps es = q := ⟨_, rfl⟩
    obtain ⟨⟨t, f⟩, hav⟩ : ∃ q, appV a es = q := ⟨_, rfl⟩
    rw [hcv] at HCk
    rw [hav] at HAp
    simp only [] at HCk HAp
    have HCV := Lib.hid hcv
    have HAV := Lib.hid hav
    clear hcv hav
    go_enter Try.func4, Try.ntmps4
    go_wp2_with fail
    try rw [hW0]
    refine region_M hmx (fun hS => ?_)
    refine take_M (i := 0) (v := .string a) rfl (by kernel_rfl) (by kernel_rfl) (by kernel_rfl) (fun _ _ _ h => h) hS (.inl ⟨by rfl, fun W hW => by rfl⟩) ?_
    try dsimp only [Act.put, Array.setIfInBounds]
    refine take_M (i := 2) (v := .string b) rfl (by kernel_rfl) (by kernel_rfl) (by kernel_rfl) (fun _ _ _ h => h) hS (.inl ⟨by rfl, fun W hW => by rfl⟩) ?_
    try dsimp only [Act.put, Array.setIfInBounds]
    refine take_M (i := 6) (v := .slice ao es.length cap) rfl (by kernel_rfl) (by kernel_rfl) (by kernel_rfl) (fun _ _ _ h => h) hS (.inl ⟨by rfl, fun W hW => by rfl⟩) ?_
    try dsimp only [Act.put, Array.setIfInBounds]
    refine take_M (i := 4) (v := pv pi po ps) rfl (by kernel_rfl) (by kernel_rfl) (by kernel_rfl) (fun _ _ _ h => h) hS (.inl ⟨by rfl, fun W hW => by have k0 := cell_later hW p0; have k1 := cell_later hW p1; have k2 := cell_later hW p2; go_simp⟩) ?_
    try dsimp only [Act.put, Array.setIfInBounds]
    refine take_M (i := 1) (v := .string a') rfl (by kernel_rfl) (by kernel_rfl) (by kernel_rfl) (fun _ _ _ h => h) hS (.inr (.inl ⟨by rfl, 19, #[.string a], fun W hW => ⟨by go_simp, (HT1.out W).mono (fun e w' h => ⟨h.1, h.2 ▸ Below.refl _ _⟩)⟩⟩)) ?_
    try dsimp only [Act.put, Array.setIfInBounds]
    refine take_M (i := 3) (v := .string b') rfl (by kernel_rfl) (by kernel_rfl) (by kernel_rfl) (fun _ _ _ h => h) hS (.inr (.inl ⟨by rfl, 19, #[.string b], fun W hW => ⟨by go_simp, (HT2.out W).mono (fun e w' h => ⟨h.1, h.2 ▸ Below.refl _ _⟩)⟩⟩)) ?_
    try dsimp only [Act.put, Array.setIfInBounds]
    refine take_M (i := 5) (v := pv pi po ps) rfl (by kernel_rfl) (by kernel_rfl) (by kernel_rfl) (fun _ _ _ h => h) hS (.inr (.inl ⟨by rfl, 20, #[pv pi po ps], fun W hW => ⟨by go_simp, HO.out W⟩⟩)) ?_
    try dsimp only [Act.put, Array.setIfInBounds]
    refine step_M (i := 7) rfl (by kernel_rfl) (by rfl) (fun W7 hW7 K' hK => ?_)
    go_simp
    refine (HSc.out _ (HVe.out.later (below_nx HB0.out (below_nx hS hW7)))).mono ?_
    rintro e z7 ⟨v1, rfl, s1, d1⟩
    refine hK.out _ _ (below_nx (below_nx hS hW7) d1) ?_
    have D1 := Lib.hid (below_nx (below_nx hS hW7) d1)
    clear hK K' d1
    try dsimp only [Act.put, Array.setIfInBounds]
    have S1 := Lib.hid s1
    obtain ⟨ao1, cap1, rfl, _, _⟩ := s1
    refine step_M (i := 8) rfl (by kernel_rfl) (by rfl) (fun W8 hW8 K' hK => ?_)
    go_simp
    refine (HCk.out _ _ (S1.out.later hW8)).mono ?_
    rintro e z8 ⟨rfl, d2⟩
    refine hK.out _ _ (below_nx (below_nx D1.out hW8) d2) ?_
    have D2 := Lib.hid (below_nx (below_nx D1.out hW8) d2)
    clear hK K' d2
    try dsimp only [Act.put, Array.setIfInBounds]
    refine take_M (i := 9) (v := .tuple #[.int .i64 c0, .bool ok, .int .i64 e0]) rfl (by kernel_rfl) (by kernel_rfl) (by kernel_rfl) (fun _ _ _ h => h) D2.out (.inl ⟨by rfl, fun W hW => by rfl⟩) ?_
    try dsimp only [Act.put, Array.setIfInBounds]
    refine take_M (i := 10) (v := .int .i64 c0) rfl (by kernel_rfl) (by kernel_rfl) (by kernel_rfl) (fun _ _ _ h => h) D2.out (.inl ⟨by rfl, fun W hW => by rfl⟩) ?_
    try dsimp only [Act.put, Array.setIfInBounds]
    refine take_M (i := 11) (v := .bool ok) rfl (by kernel_rfl) (by kernel_rfl) (by kernel_rfl) (fun _ _ _ h => h) D2.out (.inl ⟨by rfl, fun W hW => by rfl⟩) ?_
    try dsimp only [Act.put, Array.setIfInBounds]
    refine take_M (i := 12) (v := .int .i64 e0) rfl (by kernel_rfl) (by kernel_rfl) (by kernel_rfl) (fun _ _ _ h => h) D2.out (.inl ⟨by rfl, fun W hW => by rfl⟩) ?_
    try dsimp only [Act.put, Array.setIfInBounds]
    refine take_M (i := 13) (v := .int .i64 c0) rfl (by kernel_rfl) (by kernel_rfl) (by kernel_rfl) (fun _ _ _ h => h) D2.out (.inl ⟨by rfl, fun W hW => by rfl⟩) ?_
    try dsimp only [Act.put, Array.setIfInBounds]
    refine take_M (i := 14) (v := .bool ok) rfl (by kernel_rfl) (by kernel_rfl) (by kernel_rfl) (fun _ _ _ h => h) D2.out (.inl ⟨by rfl, fun W hW => by rfl⟩) ?_
    try dsimp only [Act.put, Array.setIfInBounds]
    refine take_M (i := 15) (v := .int .i64 e0) rfl (by kernel_rfl) (by kernel_rfl) (by kernel_rfl) (fun _ _ _ h => h) D2.out (.inl ⟨by rfl, fun W hW => by rfl⟩) ?_
    try dsimp only [Act.put, Array.setIfInBounds]
    refine done_M (by kernel_rfl) (fun u1 hu1 => ?_) _
    dsimp only [OnlyN, Exit.then]
    have b1 := below_nx D2.out hu1
    replace p0 := cell_later b1 p0
    replace p1 := cell_later b1 p1
    replace p2 := cell_later b1 p2
    have B1 := Lib.hid (below_nx HB0.out b1)
    clear b1 hu1 hS D1 D2 S1 HCk HT2 HO hW7 hW8
    go_wp2_with fail
    refine (HT1.out _).mono ?_
    rintro e u2 ⟨rfl, rfl⟩
    go_wp2_with fail
    refine (HSc.out _ (HVe.out.later B1.out)).mono ?_
    rintro e u3 ⟨v2, rfl, s2, b3⟩
    replace p0 := cell_later b3 p0
    replace p1 := cell_later b3 p1
    replace p2 := cell_later b3 p2
    have B3 := Lib.hid (below_nx B1.out b3)
    clear b3
    have S2 := Lib.hid s2
    obtain ⟨ao2, cap2, rfl, _, _⟩ := s2
    go_wp2_with fail
    refine (HAp.out _ _ S2.out).mono ?_
    rintro e u4 ⟨rfl, b4⟩
    replace p0 := cell_later b4 p0
    replace p1 := cell_later b4 p1
    replace p2 := cell_later b4 p2
    have B4 := Lib.hid (below_nx B3.out b4)
    clear b4
    go_wp2_with fail
    refine (HDn2.out _ (HVe.out.later B4.out)).mono ?_
    rintro e u5 ⟨C, rfl, hC, b5⟩
    replace p0 := cell_later b5 p0
    replace p1 := cell_later b5 p1
    replace p2 := cell_later b5 p2
    have B5 := Lib.hid (below_nx B4.out b5)
    clear b5
    have HC := Lib.hid hC
    clear hC
    go_wp2_with fail
    refine (HF.out _).mono ?_
    rintro e u6 ⟨rfl, b6⟩
    replace p0 := cell_later b6 p0
    replace p1 := cell_later b6 p1
    replace p2 := cell_later b6 p2
    have B6 := Lib.hid (below_nx B5.out b6)
    clear b6
    clear HSc HAp HDn2 HF HVe S2 p0 p1 p2
    obtain ⟨⟨O, is⟩, hr⟩ : ∃ q, runR es a = q := ⟨_, rfl⟩
    rw [hr] at HC
    try rw [hr]
    simp only [] at HC ⊢
    obtain ⟨ka, kb⟩ := app_cases hr HAV.out
    have hgl : goodB a b pi po ps = true → lineB a = true := fun h => (good_iff.1 h).2.1
    have hck := fun hg => chk_cases hg hr HCV.out HC.out
    have hbad : goodB a b pi po ps = false → c0 = 0 ∧ ok = false ∧ e0 = 2 := fun h => by
      have := HCV.out
      unfold chkV at this
      rw [h, if_neg (by simp)] at this
      cases this
      exact ⟨rfl, rfl, rfl⟩
    clear hr HC HCV HAV
    obtain ⟨q, hq⟩ : ∃ q, (O.toList == b.toList) = q := ⟨_, rfl⟩
    rw [hq] at hck
    obtain ⟨la, hla⟩ : ∃ q, lineB a = q := ⟨_, rfl⟩
    rw [hla] at ka kb hgl HRL
    clear hla
    generalize goodB a b pi po ps = g at *
    cases g
    · obtain ⟨rfl, rfl, rfl⟩ := hbad rfl
      clear hck hgl hbad
      cases la
      · obtain ⟨rfl, rfl⟩ := ka (Or.inl rfl)
        clear ka kb
        go_wp2_with fail
        refine (HRL.out _).mono ?_
        rintro e u21 ⟨rfl, rfl⟩
        go_wp2_with fail
        refine (HAw.out _).mono ?_
        rintro e uz ⟨rfl, bz⟩
        go_wp2
        go_ret
        exact ⟨rfl, below_nx B6.out bz⟩
      · by_cases h24 : 24 < es.length
        · have hz : (24 : Int) < es.length := by omega
          obtain ⟨rfl, rfl⟩ := ka (Or.inr h24)
          clear ka kb
          go_wp2_with fail
          refine (HRL.out _).mono ?_
          rintro e u21 ⟨rfl, rfl⟩
          go_wp2_with fail
          refine (HAw.out _).mono ?_
          rintro e uz ⟨rfl, bz⟩
          go_wp2
          go_ret
          exact ⟨rfl, below_nx B6.out bz⟩
        · have hz : ¬ (24 : Int) < es.length := by omega
          cases is
          · obtain ⟨rfl, rfl⟩ := (kb (by simp [h24])).2 rfl
            clear ka kb
            go_wp2_with fail
            refine (HRL.out _).mono ?_
            rintro e u21 ⟨rfl, rfl⟩
            go_wp2_with fail
            refine (HAw.out _).mono ?_
            rintro e uz ⟨rfl, bz⟩
            go_wp2
            go_ret
            exact ⟨rfl, below_nx B6.out bz⟩
          · obtain ⟨rfl, rfl⟩ := (kb (by simp [h24])).1 rfl
            clear ka kb
            go_wp2_with fail
            refine (HRL.out _).mono ?_
            rintro e u21 ⟨rfl, rfl⟩
            go_wp2_with fail
            refine (HAw.out _).mono ?_
            rintro e uz ⟨rfl, bz⟩
            go_wp2
            go_ret
            exact ⟨rfl, below_nx B6.out bz⟩
    · obtain rfl := hgl rfl
      obtain ⟨rfl, hok, hc1, hc2⟩ := hck rfl
      clear hck hgl hbad
      cases is
      · obtain rfl : ok = false := by rw [hok]; rfl
        obtain rfl := hc2 rfl
        clear hok hc1 hc2
        by_cases h24 : 24 < es.length
        · have hz : (24 : Int) < es.length := by omega
          obtain ⟨rfl, rfl⟩ := ka (Or.inr h24)
          clear ka kb
          go_wp2_with fail
          refine (HRL.out _).mono ?_
          rintro e u21 ⟨rfl, rfl⟩
          go_wp2_with fail
          refine (HAw.out _).mono ?_
          rintro e uz ⟨rfl, bz⟩
          go_wp2
          go_ret
          exact ⟨rfl, below_nx B6.out bz⟩
        · have hz : ¬ (24 : Int) < es.length := by omega
          obtain ⟨rfl, rfl⟩ := (kb (by simp [h24])).2 rfl
          clear ka kb
          go_wp2_with fail
          refine (HRL.out _).mono ?_
          rintro e u21 ⟨rfl, rfl⟩
          go_wp2_with fail
          refine (HAw.out _).mono ?_
          rintro e uz ⟨rfl, bz⟩
          go_wp2
          go_ret
          exact ⟨rfl, below_nx B6.out bz⟩
      · cases q
        · obtain rfl : ok = false := by rw [hok]; rfl
          obtain rfl := hc2 rfl
          clear hok hc1 hc2
          by_cases h24 : 24 < es.length
          · have hz : (24 : Int) < es.length := by omega
            obtain ⟨rfl, rfl⟩ := ka (Or.inr h24)
            clear ka kb
            go_wp2_with fail
            refine (HRL.out _).mono ?_
            rintro e u21 ⟨rfl, rfl⟩
            go_wp2_with fail
            refine (HAw.out _).mono ?_
            rintro e uz ⟨rfl, bz⟩
            go_wp2
            go_ret
            exact ⟨rfl, below_nx B6.out bz⟩
          · have hz : ¬ (24 : Int) < es.length := by omega
            obtain ⟨rfl, rfl⟩ := (kb (by simp [h24])).1 rfl
            clear ka kb
            go_wp2_with fail
            refine (HRL.out _).mono ?_
            rintro e u21 ⟨rfl, rfl⟩
            go_wp2_with fail
            refine (HAw.out _).mono ?_
            rintro e uz ⟨rfl, bz⟩
            go_wp2
            go_ret
            exact ⟨rfl, below_nx B6.out bz⟩
        · obtain rfl : ok = true := by rw [hok]; rfl
          obtain rfl := hc1 rfl
          clear hok hc1 hc2
          by_cases h24 : 24 < es.length
          · have hz : (24 : Int) < es.length := by omega
            obtain ⟨rfl, rfl⟩ := ka (Or.inr h24)
            clear ka kb
            go_wp2_with fail
            refine (HRL.out _).mono ?_
            rintro e u21 ⟨rfl, rfl⟩
            go_wp2_with fail
            refine (HAw.out _).mono ?_
            rintro e uz ⟨rfl, bz⟩
            go_wp2
            go_ret
            exact ⟨rfl, below_nx B6.out bz⟩
          · have hz : ¬ (24 : Int) < es.length := by omega
            obtain ⟨rfl, rfl⟩ := (kb (by simp [h24])).1 rfl
            clear ka kb
            go_wp2_with fail
            refine (HRL.out _).mono ?_
            rintro e u21 ⟨rfl, rfl⟩
            go_wp2_with fail
            refine (HAw.out _).mono ?_
            rintro e uz ⟨rfl, bz⟩
            go_wp2
            go_ret
            exact ⟨rfl, below_nx B6.out bz⟩
end Go.Proofs.Ytkpmkeklopfhdaa

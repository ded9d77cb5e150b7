/-
  The reference's Done: the walk.
-/
import Derived.Test.YtkpmkeklopfhdaaEdRDone
import Derived.Test.YtkpmkeklopfhdaaEdScriptL
namespace Go.Proofs.Ytkpmkeklopfhdaa
open Go.ChangeShapes Go.WideShapes Go.ChangeAt Go.RowKit
set_option linter.unusedVariables false
set_option maxRecDepth 100000

theorem cell_one_at {W : World} {g : Nat} (hg : W.heap.size = g) (v : Value) (t : TypeId) : ∀ (j : Nat) (x : Value), [v][j]? = some x → (W.alloc (.cells #[v] t)).cell? ((⟨g, 0, none⟩ : Addr).add j) = some x := by
  subst hg
  intro j x h
  match j, h with
  | 0, h => simp at h; subst h; simp [Addr.add]
theorem own_more {W : World} {L : Nat} {v : Value} {c r : List UInt8} {x : Value} (h : W.ownsRow L 5 1 v (c.length + 1) (Lib.byteCells c ++ [x])) (hr : Lib.byteCells r = [x]) : W.ownsRow L 5 1 v (c ++ r).length (Lib.byteCells (c ++ r)) := by
  have hl : r.length = 1 := by have := congrArg List.length hr; simpa [Lib.byteCells] using this
  rw [List.length_append, hl]
  have e : Lib.byteCells (c ++ r) = Lib.byteCells c ++ [x] := by rw [← hr]; simp [Lib.byteCells]
  rw [e]; exact h
theorem grown_cell {W W' : World} {p : Addr} {u v : Value} {n : Nat} (hg : W.grownBy W' v.ownBlock) (h : W.cell? p = some u) (hne : ∀ g, v.ownBlock = some g → g < n) (ha : n ≤ p.block) : W'.cell? p = some u :=
  hg.cell h (fun e => by have := hne _ e.symm; omega)

theorem bl_N {B : Nat} {W0 W : World} (h : Below B W0 W) (n : Nat) : Below B W0 (W.drewN n) := ⟨h.os, h.tape, h.output, h.size, h.block⟩
theorem own_N {W : World} {B : Nat} {e : TypeId} {size : Nat} {v : Value} {n : Nat} {xs : List Value} (h : W.ownsRow B e size v n xs) (m : Nat) : (W.drewN m).ownsRow B e size v n xs := h

set_option maxHeartbeats 4000000 in
theorem Done_any (a : ByteArray) (pi po ps : Int) (es : List (Int × Int)) (ha : a.size ≤ maxLen) (hl : es.length ≤ 4096) (v : Value) (w : World) (hv : EdsV w v es) :
    Calls Try.prog 24 #[.string a, pv pi po ps, v] w fun e w' => ∃ C, e = .returned (.tuple #[.string (runR es a).1, .int .i64 C, .bool (runR es a).2]) ∧ ((runR es a).2 = true → CP pi po ps es es.length C) ∧ Below w.heap.size w w' := by
  obtain ⟨i0, hi, hz0, hz1, hz2⟩ := info_parts infoU8
  have hmx : Try.prog.follows .mixedOrders = true := by kernel_rfl
  have ha9 := ha
  unfold maxLen at ha9
  obtain ⟨ao, cap, rfl, hlc, hd⟩ := hv
  have HD := Lib.hid hd
  obtain ⟨W0, hW0⟩ : ∃ W0, w.alloc (.cells #[.int .i64 pi, .int .i64 po, .int .i64 ps] 23) = W0 := ⟨_, rfl⟩
  have hB0 : Below w.heap.size w W0 := by rw [← hW0]; exact bl_al (Below.refl _ w) _
  have p0 : W0.cell? ⟨w.heap.size, 0, none⟩ = some (.int .i64 pi) := by rw [← hW0]; simp
  have p1 : W0.cell? ⟨w.heap.size, 1, none⟩ = some (.int .i64 po) := by rw [← hW0]; simp
  have p2 : W0.cell? ⟨w.heap.size, 2, none⟩ = some (.int .i64 ps) := by rw [← hW0]; simp
  have HB0 := Lib.hid hB0
  have HP0 := Lib.hid p0
  have HP1 := Lib.hid p1
  have HP2 := Lib.hid p2
  clear p0 p1 p2
  obtain ⟨L, hL⟩ : ∃ L, W0.heap.size = L := ⟨_, rfl⟩
  have HL := Lib.hid hL
  have hown0 : (W0.alloc (.cells #[] 5)).ownsRow L 5 1 (.slice (some ⟨L, 0, none⟩) 0 0) ([] : List UInt8).length (Lib.byteCells []) := by
    rw [← hL]; exact World.ownsRow_made W0 #[] 0 (Nat.le_refl _) (Nat.zero_le _) rfl
  have HO0 := Lib.hid hown0
  have HBL := Lib.hid (show Below L W0 (W0.alloc (.cells #[] 5)) from (Below.refl _ _).alloc (by omega) _)
  clear hd hB0 hown0
  go_enter Try.func24, Try.ntmps24
  go_wp2_with fail
  try rw [hW0]
  try rw [hL]
  clear hW0 hL
  go_loopw [9, 10, 11, 13, 17] (fun nv cv iv _ kv wr => ∃ (k i : Nat) (c : List UInt8) (C : Int), k ≤ es.length ∧ kv = .int .i64 k ∧ iv = .int .i64 i ∧ cv = .int .i64 C ∧ DI a es k i c ∧ CP pi po ps es k C ∧ wr.ownsRow L 5 1 nv c.length (Lib.byteCells c) ∧ Below L W0 wr) (fun _ _ _ _ kv _ => es.length - (intOf kv).toNat)
  case atStart => exact ⟨0, 0, [], 0, Nat.zero_le _, rfl, rfl, rfl, DI.start a es, CP.start pi po ps es, HO0.out, HBL.out⟩
  case round =>
    obtain ⟨k, i, c, C, hk, rfl, rfl, rfl, hdi, hcp, hown, hB⟩ := hrel
    have HOw := Lib.hid hown
    have HBr := Lib.hid hB
    have HDI := Lib.hid hdi
    have HCP := Lib.hid hcp
    have hsz : L ≤ wr.heap.size := by have := hB.size; have := HL.out; omega
    have hia : i ≤ a.size := hdi.le
    have hcl : c.length ≤ k := hdi.len
    have hbW : Below W0.heap.size W0 wr := by rw [HL.out]; exact hB
    have HBW := Lib.hid (HB0.out.trans (hbW.mono HB0.out.size) : Below w.heap.size w wr)
    clear hown hB hdi hcp hbW
    by_cases hlk : k < es.length
    · obtain ⟨b0, off, rfl, hdd⟩ := HD.out (by omega)
      have ck := (hdd k hlk).1
      have ck2 := (hdd k hlk).2
      have hge : es[k]?.getD (0, 0) = es[k] := by rw [List.getElem?_eq_getElem hlk]; rfl
      rw [hge] at ck ck2
      replace ck := cell_later HBW.out ck
      replace ck2 := cell_later HBW.out ck2
      obtain ⟨⟨x1, x2⟩, hx⟩ : ∃ x, es[k] = x := ⟨_, rfl⟩
      rw [hx] at ck ck2
      simp only [] at ck ck2
      have HX := Lib.hid hx
      have HF := Lib.hid (HDI.out.fail hlk)
      rw [hx] at HF
      clear hge hdd hx
      have HA := Lib.hid (HBr.out.alloc hsz (.cells #[.int .i64 x1, .int .i64 x2] 100))
      have HAw := Lib.hid (HBW.out.alloc (HBW.out.size) (.cells #[.int .i64 x1, .int .i64 x2] 100))
      have HO2 := Lib.hid (HOw.out.alloc (.cells #[.int .i64 x1, .int .i64 x2] 100))
      have HQ := Lib.hid (fun (W : World) (h : Below L W0 W) => (show Below W0.heap.size W0 W by rw [HL.out]; exact h))
      have e0 : (wr.alloc (.cells #[.int .i64 x1, .int .i64 x2] 100)).cell? ⟨wr.heap.size, 0, none⟩ = some (.int .i64 x1) := by simp
      have hlt := fun g h => (HOw.out.lt g h).2
      have HLt := Lib.hid hlt
      clear hlt
      by_cases hE : editP (x1, x2) = true
      · rcases edit_good hE with ⟨rfl, rfl⟩ | ⟨rfl, rfl⟩ | ⟨b, hb, rfl, hk2 | hk2⟩
        · by_cases hi9 : i < a.size
          · obtain ⟨r, hd1, hr⟩ := HDI.out.keep hlk HX.out hE hi9
            have HD1 := Lib.hid hd1
            have HC1 := Lib.hid (HCP.out.same hlk hl (by rw [HX.out]))
            have HR := Lib.hid hr
            have ib := fun W => ix_byteD a i hi9 W
            clear hd1 hr HF hE
            go_wp2_with (at_builtin; refine wpList_append_own _ rfl _ _ 99 rfl L 5 i0 (.int .u8 0) 1 1 Try.underlying99 hi hz0 hz1 hz2 rfl (by decide) _ _ _ rfl (HO2.out.alloc _) ⟨wr.heap.size + 1, 0, none⟩ 1 1 [.int .u8 (atB (bsN a) i : Nat)] rfl rfl ?c1 ?c2 ?c3 ?c4 ?c5 ?_)
            case c1 => exact cell_one_at (by simp) _ _
            case c2 => simp [Value.oneCell']
            case c3 => unfold maxLen; omega
            case c4 => omega
            case c5 => simp; omega
            intro v' w1 hown1 hgrow1 hnil1
            have HO3 := Lib.hid (own_more hown1 HR.out)
            have hz9 : L ≤ (wr.alloc (.cells #[.int .i64 0, .int .i64 0] 100)).heap.size := by first | (simp; omega) | (show L ≤ (World.alloc _ _).heap.size; rw [World.size_alloc]; omega)
            have HB2 := Lib.hid ((HA.out.alloc hz9 (.cells #[.int .u8 (atB (bsN a) i : Nat)] 5)).grown hgrow1 (by rw [World.size_alloc]; exact Nat.le_succ_of_le hz9) (fun q e => (HOw.out.lt q e).1))
            have k0 := grown_cell hgrow1 (show ((wr.alloc (.cells #[.int .i64 0, .int .i64 0] 100)).alloc (.cells #[.int .u8 (atB (bsN a) i : Nat)] 5)).cell? ⟨wr.heap.size, 0, none⟩ = some (.int .i64 0) by simp) HLt.out (Nat.le_refl _)
            clear hown1 hgrow1 hnil1
            go_wp2
            go_roundw
            case rel => exact ⟨k + 1, i + 1, c ++ r, _, hlk, by go_num, by go_num, rfl, HD1.out , HC1.out, HO3.out, HB2.out⟩
            case measure => exact meas_e hlk
          · have hi8 : i = a.size := by omega
            subst hi8
            have HRR := Lib.hid (HF.out (Or.inr (at_end (Or.inl rfl))))
            clear HF
            go_wp2
            go_ret3
            exact ⟨0, by rw [HRR.out]; rfl, fun h => (by rw [HRR.out] at h; cases h), HAw.out⟩
        · by_cases hi9 : i < a.size
          · have HD1 := Lib.hid (HDI.out.out hlk HX.out hE hi9)
            have HC1 := Lib.hid (HCP.out.step (p := po) hlk hl (fun x y z _ h2 _ => by rw [HX.out]; exact h2))
            have q0 := cell_later (HQ.out _ HA.out) HP1.out
            clear HF hE
            go_wp2
            go_roundw
            case rel => exact ⟨k + 1, i + 1, c, _, hlk, by go_num, by go_num, rfl, HD1.out, HC1.out, HO2.out, HA.out⟩
            case measure => exact meas_e hlk
          · have hi8 : i = a.size := by omega
            subst hi8
            have HRR := Lib.hid (HF.out (Or.inr (at_end (Or.inr (Or.inr rfl)))))
            clear HF
            go_wp2
            go_ret3
            exact ⟨0, by rw [HRR.out]; rfl, fun h => (by rw [HRR.out] at h; cases h), HAw.out⟩
        · subst hk2
          have hw8 := u8_wrap hb
          by_cases hi9 : i < a.size
          · have ib := fun W => ix_byteD a i hi9 W
            have hat : atB (bsN a) i < 256 := bsN_lt a i
            by_cases hab : atB (bsN a) i = b
            · have hd1 : ((atB (bsN a) i : Int) == (b : Int)) = true := by rw [beq_iff_eq, hab]
              have HRR := Lib.hid (HF.out (Or.inr (by rw [at_swap hi9 hb, decide_eq_true hab]; rfl)))
              clear HF
              go_wp2_with fail; go_quiet (fail); try dsimp only [Exit.then]; go_wp2
              go_ret3
              exact ⟨0, by rw [HRR.out]; rfl, fun h => (by rw [HRR.out] at h; cases h), bl_N HAw.out _⟩
            · have hd1 : ((atB (bsN a) i : Int) == (b : Int)) = false := by rw [beq_eq_false_iff_ne]; exact fun h => hab (by exact_mod_cast h)
              obtain ⟨r, hdd1, hr⟩ := HDI.out.swap hlk HX.out hE hi9 hb hab
              have HD1 := Lib.hid hdd1
              have HC1 := Lib.hid (HCP.out.step (p := ps) hlk hl (fun x y z _ _ h3 => by rw [HX.out]; exact h3))
              have HR := Lib.hid hr
              clear hdd1 hr HF hE hab
              go_wp2_with fail
              go_quiet (fail)
              try dsimp only [Exit.then]
              have HO2q := Lib.hid (own_N HO2.out nq)
              have HAq := Lib.hid (bl_N HA.out nq)
              go_wp2_with (at_builtin; refine wpList_append_own _ rfl _ _ 99 rfl L 5 i0 (.int .u8 0) 1 1 Try.underlying99 hi hz0 hz1 hz2 rfl (by decide) _ _ _ rfl (HO2q.out.alloc _) ⟨wr.heap.size + 1, 0, none⟩ 1 1 [.int .u8 (b : Int)] rfl rfl ?c1 ?c2 ?c3 ?c4 ?c5 ?_)
              case c1 => exact cell_one_at (by simp) _ _
              case c2 => simp [Value.oneCell']
              case c3 => unfold maxLen; omega
              case c4 => omega
              case c5 => simp; omega
              intro v' w1 hown1 hgrow1 hnil1
              have HO3 := Lib.hid (own_more hown1 HR.out)
              have hz9 : L ≤ ((wr.alloc (.cells #[.int .i64 1, .int .i64 (b : Int)] 100)).drewN nq).heap.size := by first | (simp; omega) | (show L ≤ (World.alloc _ _).heap.size; rw [World.size_alloc]; omega)
              have HB2 := Lib.hid ((HAq.out.alloc hz9 (.cells #[.int .u8 (b : Int)] 5)).grown hgrow1 (by rw [World.size_alloc]; exact Nat.le_succ_of_le hz9) (fun q e => (HOw.out.lt q e).1))
              have k0 := grown_cell hgrow1 (show (((wr.alloc (.cells #[.int .i64 1, .int .i64 (b : Int)] 100)).drewN nq).alloc (.cells #[.int .u8 (b : Int)] 5)).cell? ⟨wr.heap.size, 0, none⟩ = some (.int .i64 1) from cell_later ((Below.refl _ _).alloc (Nat.le_refl _) _) (show (wr.alloc (.cells #[.int .i64 1, .int .i64 (b : Int)] 100)).cell? ⟨wr.heap.size, 0, none⟩ = _ by simp)) HLt.out (Nat.le_refl _)
              have q0 := cell_later (HQ.out _ HB2.out) HP2.out
              clear hown1 hgrow1 hnil1
              go_wp2
              go_roundw
              case rel => exact ⟨k + 1, i + 1, c ++ r, _, hlk, by go_num, by go_num, rfl, HD1.out , HC1.out, HO3.out, HB2.out⟩
              case measure => exact meas_e hlk
          · have hi8 : i = a.size := by omega
            subst hi8
            have HRR := Lib.hid (HF.out (Or.inr (at_end (Or.inr (Or.inl rfl)))))
            clear HF
            go_wp2
            go_ret3
            exact ⟨0, by rw [HRR.out]; rfl, fun h => (by rw [HRR.out] at h; cases h), HAw.out⟩
        · subst hk2
          have hw8 := u8_wrap hb
          obtain ⟨r, hdd1, hr⟩ := HDI.out.inn hlk HX.out hE hb
          have HD1 := Lib.hid hdd1
          have HC1 := Lib.hid (HCP.out.step (p := pi) hlk hl (fun x y z h1 _ _ => by rw [HX.out]; exact h1))
          have HR := Lib.hid hr
          clear hdd1 hr HF hE
          go_wp2_with (at_builtin; refine wpList_append_own _ rfl _ _ 99 rfl L 5 i0 (.int .u8 0) 1 1 Try.underlying99 hi hz0 hz1 hz2 rfl (by decide) _ _ _ rfl (HO2.out.alloc _) ⟨wr.heap.size + 1, 0, none⟩ 1 1 [.int .u8 (b : Int)] rfl rfl ?c1 ?c2 ?c3 ?c4 ?c5 ?_)
          case c1 => exact cell_one_at (by simp) _ _
          case c2 => simp [Value.oneCell']
          case c3 => unfold maxLen; omega
          case c4 => omega
          case c5 => simp; omega
          intro v' w1 hown1 hgrow1 hnil1
          have HO3 := Lib.hid (own_more hown1 HR.out)
          have hz9 : L ≤ (wr.alloc (.cells #[.int .i64 3, .int .i64 (b : Int)] 100)).heap.size := by first | (simp; omega) | (show L ≤ (World.alloc _ _).heap.size; rw [World.size_alloc]; omega)
          have HB2 := Lib.hid ((HA.out.alloc hz9 (.cells #[.int .u8 (b : Int)] 5)).grown hgrow1 (by rw [World.size_alloc]; exact Nat.le_succ_of_le hz9) (fun q e => (HOw.out.lt q e).1))
          have k0 := grown_cell hgrow1 (show ((wr.alloc (.cells #[.int .i64 3, .int .i64 (b : Int)] 100)).alloc (.cells #[.int .u8 (b : Int)] 5)).cell? ⟨wr.heap.size, 0, none⟩ = some (.int .i64 3) by simp) HLt.out (Nat.le_refl _)
          have q0 := cell_later (HQ.out _ HB2.out) HP0.out
          clear hown1 hgrow1 hnil1
          go_wp2
          go_roundw
          case rel => exact ⟨k + 1, i, c ++ r, _, hlk, by go_num, rfl, rfl, HD1.out , HC1.out, HO3.out, HB2.out⟩
          case measure => exact meas_e hlk
      · have hE2 : editP (x1, x2) = false := by cases h : editP (x1, x2) with | false => rfl | true => exact absurd h hE
        clear hE
        have HE := Lib.hid hE2
        rcases edit_bad hE2 with h | h | ⟨hk3, h⟩
        · clear hE2
          have HRR := Lib.hid (HF.out (Or.inl HE.out))
          clear HF
          go_wp2
          go_ret3
          exact ⟨0, by rw [HRR.out]; rfl, fun h => (by rw [HRR.out] at h; cases h), HAw.out⟩
        · clear hE2
          have HRR := Lib.hid (HF.out (Or.inl HE.out))
          clear HF
          go_wp2
          go_ret3
          exact ⟨0, by rw [HRR.out]; rfl, fun h => (by rw [HRR.out] at h; cases h), HAw.out⟩
        · clear hE2
          rcases hk3 with rfl | rfl | rfl | rfl <;> rcases h with h | h | ⟨hz, h, hz1, hz2⟩
          · skip
            have HRR := Lib.hid (HF.out (Or.inl HE.out))
            clear HF
            go_wp2
            go_ret3
            exact ⟨0, by rw [HRR.out]; rfl, fun h => (by rw [HRR.out] at h; cases h), HAw.out⟩
          · skip
            have HRR := Lib.hid (HF.out (Or.inl HE.out))
            clear HF
            go_wp2
            go_ret3
            exact ⟨0, by rw [HRR.out]; rfl, fun h => (by rw [HRR.out] at h; cases h), HAw.out⟩
          · skip
            clear hz
            have HRR := Lib.hid (HF.out (Or.inl HE.out))
            clear HF
            go_wp2
            go_ret3
            exact ⟨0, by rw [HRR.out]; rfl, fun h => (by rw [HRR.out] at h; cases h), HAw.out⟩
          · skip
            have HRR := Lib.hid (HF.out (Or.inl HE.out))
            clear HF
            go_wp2
            go_ret3
            exact ⟨0, by rw [HRR.out]; rfl, fun h => (by rw [HRR.out] at h; cases h), HAw.out⟩
          · skip
            have HRR := Lib.hid (HF.out (Or.inl HE.out))
            clear HF
            go_wp2
            go_ret3
            exact ⟨0, by rw [HRR.out]; rfl, fun h => (by rw [HRR.out] at h; cases h), HAw.out⟩
          · omega
          · skip
            have HRR := Lib.hid (HF.out (Or.inl HE.out))
            clear HF
            go_wp2
            go_ret3
            exact ⟨0, by rw [HRR.out]; rfl, fun h => (by rw [HRR.out] at h; cases h), HAw.out⟩
          · skip
            have HRR := Lib.hid (HF.out (Or.inl HE.out))
            clear HF
            go_wp2
            go_ret3
            exact ⟨0, by rw [HRR.out]; rfl, fun h => (by rw [HRR.out] at h; cases h), HAw.out⟩
          · skip
            clear hz
            have HRR := Lib.hid (HF.out (Or.inl HE.out))
            clear HF
            go_wp2
            go_ret3
            exact ⟨0, by rw [HRR.out]; rfl, fun h => (by rw [HRR.out] at h; cases h), HAw.out⟩
          · skip
            have HRR := Lib.hid (HF.out (Or.inl HE.out))
            clear HF
            go_wp2
            go_ret3
            exact ⟨0, by rw [HRR.out]; rfl, fun h => (by rw [HRR.out] at h; cases h), HAw.out⟩
          · skip
            have HRR := Lib.hid (HF.out (Or.inl HE.out))
            clear HF
            go_wp2
            go_ret3
            exact ⟨0, by rw [HRR.out]; rfl, fun h => (by rw [HRR.out] at h; cases h), HAw.out⟩
          · omega
    · obtain rfl : k = es.length := by omega
      have HLs := Lib.hid HDI.out.last
      have hcv := conv_row HOw.out
      skip
      go_wp2
      go_ret3
      exact ⟨C, by rw [HLs.out]; rfl, fun _ => HCP.out, HBW.out⟩
end Go.Proofs.Ytkpmkeklopfhdaa

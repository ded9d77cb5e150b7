/-
  The law's own: a slice of the program's edits as one of the reference's.
-/
import Derived.Test.YtkpmkeklopfhdaaEdScriptL
namespace Go.Proofs.Ytkpmkeklopfhdaa
open Go.ChangeShapes Go.WideShapes Go.ChangeAt Go.RowKit
set_option linter.unusedVariables false
set_option maxRecDepth 100000

theorem info_edR : (Try.prog.info? 100).map (fun i => (i.zero, i.size, i.bytes)) = some (some (.agg #[.int .i64 0, .int .i64 0]), 2, 16) := by kernel_rfl
theorem edsV_ownR {W : World} {lo : Nat} {v : Value} {es : List (Int × Int)} (h : W.ownsRow lo 100 2 v es.length (cellsE es)) : EdsV W v es := by
  have h' := h
  obtain ⟨h0, h1 | ⟨g, cap, cur, hv, hg, hh, h2⟩⟩ := h
  · exact ⟨none, 0, by rw [h1.1, h1.2], by omega, fun h => by omega⟩
  · refine ⟨_, cap, hv, h2.1, fun _ => ⟨g, 0, rfl, fun i hi => ?_⟩⟩
    subst hv
    obtain ⟨a1, a2⟩ := cellsE_at es i hi
    exact ⟨by rw [Nat.zero_add, h'.cellAt _ (by omega), a1], by rw [Nat.zero_add, h'.cellAt _ (by omega), a2]⟩

set_option maxHeartbeats 4000000 in
theorem own_any (es : List (Int × Int)) (hl : es.length ≤ 4096) (v : Value) (w : World) (hv : EdsV w v es) :
    Calls Try.prog 25 #[v] w fun e w' => ∃ v', e = .returned v' ∧ EdsV w' v' es ∧ Below w.heap.size w w' := by
  obtain ⟨i0, hi, hz0, hz1, hz2⟩ := info_parts info_edR
  obtain ⟨ao, cap, rfl, hlc, hd⟩ := hv
  have HD := Lib.hid hd
  have hl9 := hl
  obtain ⟨L, hL⟩ : ∃ L, w.heap.size = L := ⟨_, rfl⟩
  have HL := Lib.hid hL
  have hown0 : w.ownsRow L 100 2 (.slice none 0 0) (es.take 0).length (cellsE (es.take 0)) := ⟨rfl, Or.inl ⟨rfl, rfl⟩⟩
  rw [hL]
  clear hd hL
  go_enter Try.func25, Try.ntmps25
  go_wp2_with fail
  go_loopw [3, 5, 8] (fun nv _ i wr => ∃ k : Nat, k ≤ es.length ∧ i = .int .i64 k ∧ wr.ownsRow L 100 2 nv (es.take k).length (cellsE (es.take k)) ∧ Below L w wr) (fun _ _ i _ => es.length - (intOf i).toNat)
  case atStart => exact ⟨0, Nat.zero_le _, rfl, hown0, Below.refl _ _⟩
  case round =>
    obtain ⟨k, hk, rfl, hown, hB⟩ := hrel
    have HOw := Lib.hid hown
    have HBr := Lib.hid hB
    have hsz : L ≤ wr.heap.size := by have := hB.size; have := HL.out; omega
    clear hown
    by_cases hlk : k < es.length
    · obtain ⟨b0, off, rfl, hdd⟩ := HD.out (by omega)
      have ck := (hdd k hlk).1
      have ck2 := (hdd k hlk).2
      have hge : es[k]?.getD (0, 0) = es[k] := by rw [List.getElem?_eq_getElem hlk]; rfl
      rw [hge] at ck ck2
      replace ck := cell_later (show Below w.heap.size w wr by rw [HL.out]; exact hB) ck
      replace ck2 := cell_later (show Below w.heap.size w wr by rw [HL.out]; exact hB) ck2
      have hmr : es.take (k + 1) = es.take k ++ [es[k]] := List.take_succ_eq_append_getElem hlk
      have hln : (es.take k).length = k := by rw [List.length_take]; omega
      generalize es[k] = x at ck ck2 hmr
      obtain ⟨x1, x2⟩ := x
      simp only [] at ck ck2
      clear hge hdd hB
      have HA := Lib.hid (HBr.out.alloc hsz (.cells #[.int .i64 x1, .int .i64 x2] 77))
      have HO2 := Lib.hid (HOw.out.alloc (.cells #[.int .i64 x1, .int .i64 x2] 77))
      have HM := Lib.hid hmr
      clear hmr
      go_wp2_with (at_builtin; refine wpList_append_own _ rfl _ _ 37 rfl L 100 i0 (.agg #[.int .i64 0, .int .i64 0]) 2 16 Try.underlying37 hi hz0 hz1 hz2 rfl (by decide) _ _ _ rfl (HO2.out.alloc _) ⟨wr.heap.size + 1, 0, none⟩ 1 1 [.int .i64 x1, .int .i64 x2] rfl rfl ?c1 ?c2 ?c3 ?c4 ?c5 ?_)
      case c1 =>
        have h := cell_two_newE (wr.alloc (.cells #[.int .i64 x1, .int .i64 x2] 77)) (.int .i64 x1) (.int .i64 x2) 100
        rw [World.size_alloc] at h
        exact h
      case c2 => simp [Value.oneCell']
      case c3 => rw [hln]; unfold maxLen; omega
      case c4 => rw [hln]; omega
      case c5 => simp; omega
      intro v' w1 hown1 hgrow1 hnil1
      have HB2 := Lib.hid ((HA.out.alloc (by simp; omega) (.cells #[.int .i64 x1, .int .i64 x2] 100)).grown hgrow1 (by simp; omega) (fun q e => (HOw.out.lt q e).1))
      have hle : (es.take k).length + [((x1 : Int), x2)].length = k + 1 := by rw [hln, List.length_singleton]
      have HO3 := Lib.hid (show w1.ownsRow L 100 2 v' ((es.take k).length + [((x1 : Int), x2)].length) (cellsE (es.take k) ++ cellsE [((x1 : Int), x2)]) by rw [hle]; exact hown1)
      clear hown1 hgrow1 hnil1
      go_wp2
      go_roundw
      case rel => exact ⟨k + 1, hlk, by go_num, by rw [HM.out, List.length_append, cellsE_append]; exact HO3.out, HB2.out⟩
      case measure => exact meas_e hlk
    · obtain rfl : k = es.length := by omega
      have HE := Lib.hid (edsV_ownR HOw.out)
      rw [List.take_length] at HE
      clear hB
      go_wp2
      go_ret
      exact ⟨_, rfl, HE.out, HBr.out⟩
end Go.Proofs.Ytkpmkeklopfhdaa

/-
  The law's script: the first forty edits of a slice, as the package's own.
-/
import Derived.Test.YtkpmkeklopfhdaaEdCheck
namespace Go.Proofs.Ytkpmkeklopfhdaa
open Go.ChangeShapes Go.WideShapes Go.ChangeAt Go.RowKit
attribute [local go_sem] Oper.semAt_some
set_option linter.unusedVariables false
set_option maxRecDepth 100000

theorem info_edE : (Try.prog.info? 77).map (fun i => (i.zero, i.size, i.bytes)) = some (some (.agg #[.int .i64 0, .int .i64 0]), 2, 16) := by kernel_rfl
theorem cell_two_newE (W : World) (v u : Value) (t : TypeId) : ∀ (j : Nat) (x : Value), [v, u][j]? = some x → (W.alloc (.cells #[v, u] t)).cell? ((⟨W.heap.size, 0, none⟩ : Addr).add j) = some x := by
  intro j x h
  match j, h with
  | 0, h => simp at h; subst h; simp [Addr.add]
  | 1, h => simp at h; subst h; simp [Addr.add]
/-- Edits as cells. -/
def cellsE (es : List (Int × Int)) : List Value := es.flatMap fun e => [.int .i64 e.1, .int .i64 e.2]
theorem cellsE_append (l m : List (Int × Int)) : cellsE (l ++ m) = cellsE l ++ cellsE m := by simp [cellsE]
theorem cellsE_length : ∀ l : List (Int × Int), (cellsE l).length = l.length * 2
  | [] => rfl
  | e :: l => by
    have := cellsE_length l
    unfold cellsE at this ⊢
    simp only [List.flatMap_cons, List.length_append, List.length_cons, List.length_nil]
    omega
theorem cellsE_at : ∀ (l : List (Int × Int)) (i : Nat) (h : i < l.length), (cellsE l)[i * 2]? = some (.int .i64 (l[i]?.getD (0, 0)).1) ∧ (cellsE l)[i * 2 + 1]? = some (.int .i64 (l[i]?.getD (0, 0)).2)
  | e :: l, 0, _ => ⟨rfl, rfl⟩
  | e :: l, i + 1, h => by
    have := cellsE_at l i (by simpa using h)
    have e1 : cellsE (e :: l) = [.int .i64 e.1, .int .i64 e.2] ++ cellsE l := rfl
    rw [e1]
    refine ⟨?_, ?_⟩
    · rw [List.getElem?_append_right (by simp; omega)]
      simp only [List.length_cons, List.length_nil]
      rw [show (i + 1) * 2 - (0 + 1 + 1) = i * 2 by omega, this.1]; rfl
    · rw [List.getElem?_append_right (by simp; omega)]
      simp only [List.length_cons, List.length_nil]
      rw [show (i + 1) * 2 + 1 - (0 + 1 + 1) = i * 2 + 1 by omega, this.2]; rfl
theorem edsV_own {W : World} {lo : Nat} {v : Value} {es : List (Int × Int)} (h : W.ownsRow lo 77 2 v es.length (cellsE es)) : EdsV W v es := by
  have h' := h
  obtain ⟨h0, h1 | ⟨g, cap, cur, hv, hg, hh, h2⟩⟩ := h
  · exact ⟨none, 0, by rw [h1.1, h1.2], by omega, fun h => by omega⟩
  · refine ⟨_, cap, hv, h2.1, fun _ => ⟨g, 0, rfl, fun i hi => ?_⟩⟩
    subst hv
    obtain ⟨a1, a2⟩ := cellsE_at es i hi
    exact ⟨by rw [Nat.zero_add, h'.cellAt _ (by omega), a1], by rw [Nat.zero_add, h'.cellAt _ (by omega), a2]⟩

theorem owns_later2 {W W' : World} {lo k n : Nat} {e : TypeId} {v : Value} {xs : List Value} (h : W.ownsRow lo e n v k xs) (hb : Below W.heap.size W W') : W'.ownsRow lo e n v k xs :=
  h.kept (row := none) ⟨hb.os, hb.tape, hb.output, hb.size, fun i hi _ => hb.block i hi⟩ (by cases v.ownBlock <;> simp)
theorem take40_more {es : List (Int × Int)} {k : Nat} (h : k < es.length) (h2 : k < 40) : es.take (min (k + 1) 40) = es.take (min k 40) ++ [es[k]] := by
  rw [Nat.min_eq_left (by omega), Nat.min_eq_left (by omega), List.take_succ_eq_append_getElem h]
theorem take40_same {es : List (Int × Int)} {k : Nat} (h2 : ¬ k < 40) : es.take (min (k + 1) 40) = es.take (min k 40) := by
  rw [Nat.min_eq_right (by omega), Nat.min_eq_right (by omega)]
theorem take40_end (es : List (Int × Int)) : es.take (min es.length 40) = es.take 40 := by
  rcases Nat.le_total es.length 40 with h | h
  · rw [Nat.min_eq_left h, List.take_length, List.take_of_length_le h]
  · rw [Nat.min_eq_right h]

set_option maxHeartbeats 4000000 in
theorem script_any (es : List (Int × Int)) (hl : es.length ≤ maxLen) (v : Value) (w : World) (hv : EdsV w v es) :
    Calls Try.prog 28 #[v] w fun e w' => ∃ v', e = .returned v' ∧ EdsV w' v' (es.take 40) ∧ Below w.heap.size w w' := by
  obtain ⟨i0, hi, hz0, hz1, hz2⟩ := info_parts info_edE
  obtain ⟨ao, cap, rfl, hlc, hd⟩ := hv
  have HD := Lib.hid hd
  have hl9 := hl
  unfold maxLen at hl9
  obtain ⟨L, hL⟩ : ∃ L, w.heap.size = L := ⟨_, rfl⟩
  have HL := Lib.hid hL
  have hown0 : w.ownsRow L 77 2 (.slice none 0 0) (es.take (min 0 40)).length (cellsE (es.take (min 0 40))) := ⟨rfl, Or.inl ⟨rfl, rfl⟩⟩
  rw [hL]
  clear hd hL
  go_enter Try.func28, Try.ntmps28
  go_wp2_with fail
  go_loopw [3, 4, 5, 8] (fun nv _ _ i wr => ∃ k : Nat, k ≤ es.length ∧ i = .int .i64 k ∧ wr.ownsRow L 77 2 nv (es.take (min k 40)).length (cellsE (es.take (min k 40))) ∧ Below L w wr) (fun _ _ _ i _ => es.length - (intOf i).toNat)
  case atStart => exact ⟨0, Nat.zero_le _, rfl, hown0, Below.refl _ _⟩
  case round =>
    obtain ⟨k, hk, rfl, hown, hB⟩ := hrel
    have HOw := Lib.hid hown
    have HBr := Lib.hid hB
    have hsz : L ≤ wr.heap.size := by have := hB.size; have := HL.out; omega
    clear hown
    by_cases hlk : k < es.length
    · obtain ⟨b0, off, rfl, hdd⟩ := HD.out (by omega)
      have ck := (hdd k hlk).1
      have ck2 := (hdd k hlk).2
      have hge : es[k]?.getD (0, 0) = es[k] := by rw [List.getElem?_eq_getElem hlk]; rfl
      rw [hge] at ck ck2
      replace ck := cell_later (show Below w.heap.size w wr by rw [HL.out]; exact hB) ck
      replace ck2 := cell_later (show Below w.heap.size w wr by rw [HL.out]; exact hB) ck2
      have hmr := take40_more hlk
      have hsm := take40_same (es := es) (k := k)
      have hln : (es.take (min k 40)).length ≤ 40 := by rw [List.length_take]; omega
      generalize es[k] = x at ck ck2 hmr
      obtain ⟨x1, x2⟩ := x
      simp only [] at ck ck2
      clear hge hdd hB
      have HA := Lib.hid (HBr.out.alloc hsz (.cells #[.int .i64 x1, .int .i64 x2] 100))
      have HO2 := Lib.hid (HOw.out.alloc (.cells #[.int .i64 x1, .int .i64 x2] 100))
      by_cases h40 : k < 40
      · have HM := Lib.hid (hmr h40)
        have hd1 : decide ((k : Int) < 40) = true := decide_eq_true (by omega)
        clear hmr hsm
        go_wp2_with (at_builtin; refine wpList_append_own _ rfl _ _ 30 rfl L 77 i0 (.agg #[.int .i64 0, .int .i64 0]) 2 16 Try.underlying30 hi hz0 hz1 hz2 rfl (by decide) _ _ _ rfl (HO2.out.alloc _) ⟨wr.heap.size + 1, 0, none⟩ 1 1 [.int .i64 x1, .int .i64 x2] rfl rfl ?c1 ?c2 ?c3 ?c4 ?c5 ?_)
        case c1 =>
          have h := cell_two_newE (wr.alloc (.cells #[.int .i64 x1, .int .i64 x2] 100)) (.int .i64 x1) (.int .i64 x2) 77
          rw [World.size_alloc] at h
          exact h
        case c2 => simp [Value.oneCell']
        case c3 => unfold maxLen; omega
        case c4 => omega
        case c5 => simp; omega
        intro v' w1 hown1 hgrow1 hnil1
        have HB2 := Lib.hid ((HA.out.alloc (by simp; omega) (.cells #[.int .i64 x1, .int .i64 x2] 77)).grown hgrow1 (by simp; omega) (fun q e => (HOw.out.lt q e).1))
        have hle : (es.take (min k 40)).length + [((x1 : Int), x2)].length = min k (min 40 es.length) + 1 := by rw [List.length_take, List.length_singleton]; omega
        have HO3 := Lib.hid (show w1.ownsRow L 77 2 v' ((es.take (min k 40)).length + [((x1 : Int), x2)].length) (cellsE (es.take (min k 40)) ++ cellsE [((x1 : Int), x2)]) by rw [hle]; exact hown1)
        clear hown1 hgrow1 hnil1
        go_wp2
        go_roundw
        case rel => exact ⟨k + 1, hlk, by go_num, by rw [HM.out, List.length_append, cellsE_append]; exact HO3.out, HB2.out⟩
        case measure => exact meas_e hlk
      · have HM := Lib.hid (hsm h40)
        have hd1 : decide ((k : Int) < 40) = false := decide_eq_false (by omega)
        clear hmr hsm
        go_wp2
        go_roundw
        case rel => exact ⟨k + 1, hlk, by go_num, by rw [HM.out]; exact HO2.out, HA.out⟩
        case measure => exact meas_e hlk
    · obtain rfl : k = es.length := by omega
      have HE := Lib.hid (edsV_own HOw.out)
      rw [take40_end] at HE
      clear hB
      go_wp2
      go_ret
      exact ⟨_, rfl, HE.out, HBr.out⟩
end Go.Proofs.Ytkpmkeklopfhdaa

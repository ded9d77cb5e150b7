/-
  Tables of integers: a slice of slices, read; whether its rows are rows of heights.
-/
import Derived.Test.YtkpmkeklopfhdaaEdTriLaw
namespace Go.Proofs.Ytkpmkeklopfhdaa
open Go.ChangeShapes Go.WideShapes Go.ChangeAt Go.RowKit
set_option linter.unusedVariables false
set_option maxRecDepth 100000

/-- A slice of slices of integers that can be read. -/
def TabV (W : World) (v : Value) (t : List (List Int)) : Prop :=
  ∃ (ao : Option Addr) (cap : Nat), v = .slice ao t.length cap ∧ t.length ≤ cap ∧ (0 < t.length → ∃ b off, ao = some ⟨b, off, none⟩ ∧ ∀ i, i < t.length → ∃ rv, W.cell? ⟨b, off + i, none⟩ = some rv ∧ IntsV W rv (t[i]?.getD []))
theorem TabV.later {W W' : World} {v : Value} {t : List (List Int)} (h : TabV W v t) (hb : Below W.heap.size W W') : TabV W' v t := by
  obtain ⟨ao, cap, rfl, hlc, hc⟩ := h
  refine ⟨ao, cap, rfl, hlc, fun h0 => ?_⟩
  obtain ⟨b, off, e, hd⟩ := hc h0
  refine ⟨b, off, e, fun i hi => ?_⟩
  obtain ⟨rv, h1, h2⟩ := hd i hi
  exact ⟨rv, cell_later hb h1, h2.later hb⟩

def hrowB (n : Nat) (r : List Int) : Bool := decide (r.length = n + 1) && r.all numB

set_option maxHeartbeats 1000000 in
theorem isRow_any (b : ByteArray) (hb : b.size ≤ 12) (B : Nat) (xs : List Int) (v : Value) (w : World) (hc : w.cell? ⟨B, 0, none⟩ = some (.string b)) (hl : xs.length ≤ maxLen) (hv : IntsV w v xs) :
    Calls Try.prog 97 #[v, .pointer (some ⟨B, 0, none⟩)] w fun e w' => e = .returned (.bool (hrowB b.size xs)) ∧ w = w' := by
  have HA := Lib.hid (all_num xs hl v w hv)
  obtain ⟨ao, cap, rfl, hlc, hd⟩ := hv
  clear hd
  unfold maxLen at hl
  by_cases h : xs.length = b.size + 1
  · have HD := Lib.hid (show hrowB b.size xs = xs.all numB by unfold hrowB; rw [decide_eq_true h]; rfl)
    have hq : ((xs.length : Int) == (b.size : Int) + 1) = true := by rw [beq_iff_eq]; omega
    clear h
    go_enter Try.func97, Try.ntmps97
    go_wp2_with fail
    refine HA.out.mono ?_
    rintro e w1 ⟨rfl, rfl⟩
    go_wp2
    go_ret
    exact ⟨ret_bool HD.out.symm, rfl⟩
  · have HD := Lib.hid (show hrowB b.size xs = false by unfold hrowB; rw [decide_eq_false h]; rfl)
    have hq : ((xs.length : Int) == (b.size : Int) + 1) = false := by rw [beq_eq_false_iff_ne]; omega
    go_enter Try.func97, Try.ntmps97
    go_wp2
    go_ret
    exact ⟨ret_bool HD.out.symm, rfl⟩

set_option maxHeartbeats 1000000 in
theorem all_rows (b : ByteArray) (hb : b.size ≤ 12) (B : Nat) (t : List (List Int)) (hl : t.length ≤ maxLen) (hr : ∀ r ∈ t, r.length ≤ maxLen) (v : Value) (w : World) (hc : w.cell? ⟨B, 0, none⟩ = some (.string b)) (hv : TabV w v t) :
    Calls Try.prog 76 #[.func (.func 97) #[] #[.pointer (some ⟨B, 0, none⟩)], v] w fun e w' => e = .returned (.bool (t.all (hrowB b.size))) ∧ w = w' := by
  obtain ⟨ao, cap, rfl, hlc, hd⟩ := hv
  have HF := Lib.hid (fun xs v hx hV => isRow_any b hb B xs v w hc hx hV)
  have HD := Lib.hid hd
  have HR := Lib.hid hr
  clear hd hr
  unfold maxLen at hl
  go_enter Try.func76, Try.ntmps76
  go_wp2
  go_loopw [6, 9] (fun _ i wr => ∃ k : Nat, k ≤ t.length ∧ i = .int .i64 k ∧ (t.take k).all (hrowB b.size) = true ∧ w = wr) (fun _ i _ => t.length - (intOf i).toNat)
  case atStart => exact ⟨0, Nat.zero_le _, rfl, by simp, rfl⟩
  case round =>
    obtain ⟨k, hk, rfl, ha, rfl⟩ := hrel
    by_cases hlk : k < t.length
    · obtain ⟨b2, off, rfl, hdd⟩ := HD.out (by omega)
      obtain ⟨rv, ck, hrv⟩ := hdd k hlk
      have hge : t[k]?.getD [] = t[k] := by rw [List.getElem?_eq_getElem hlk]; rfl
      rw [hge] at hrv
      have HFk := Lib.hid (HF.out _ _ (HR.out _ (List.getElem_mem hlk)) hrv)
      have HT := Lib.hid (fun hp => all_take_true (p := hrowB b.size) hlk hp ha)
      have HN := Lib.hid (fun hp => all_take_false (p := hrowB b.size) hlk hp)
      obtain ⟨xs, hxs⟩ : ∃ xs, t[k] = xs := ⟨_, rfl⟩
      rw [hxs] at HFk HT HN hrv
      obtain ⟨ao3, cap3, rfl, _, _⟩ := hrv
      clear hge hdd ha hxs
      go_wp2_with fail
      refine HFk.out.mono ?_
      rintro e w1 ⟨rfl, rfl⟩
      cases hp : hrowB b.size xs
      · have HP := Lib.hid (HN.out hp)
        clear HN HT hp
        go_wp2
        go_ret
        exact ⟨ret_bool HP.out.symm, rfl⟩
      · have HP := Lib.hid (HT.out hp)
        clear HN HT hp
        go_wp2
        go_roundw
        case rel => exact ⟨k + 1, by omega, by go_num, HP.out, trivial⟩
        case measure => simp only [intOf]; omega
    · have HE := Lib.hid (show t.all (hrowB b.size) = true by rwa [List.take_of_length_le (by omega)] at ha)
      go_wp2
      go_ret
      exact ⟨ret_bool HE.out.symm, rfl⟩
end Go.Proofs.Ytkpmkeklopfhdaa

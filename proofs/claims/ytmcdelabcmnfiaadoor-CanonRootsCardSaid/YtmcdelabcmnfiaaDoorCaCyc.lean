/-
  The reference's cyclotomic polynomials.
-/
import Derived.Test.YtmcdelabcmnfiaaDoorCaCycMath
namespace Go.Proofs.YtmcdelabcmnfiaaDoor
open Go.RowKit Go.Shelf
attribute [local go_sem] Oper.semAt_some
set_option maxRecDepth 100000

theorem int_all {s d : Nat} (h1 : s ≤ 24) (h2 : 1 ≤ d) (h3 : d ≤ s) : 2 ≤ (intL s d).length ∧ (intL s d).length ≤ 25 ∧ (∀ j, -64 ≤ intF s d j ∧ intF s d j ≤ 64) ∧
    (d < s → s % d = 0 → (intL s d).length - ((cycT d).length - 1) = (intL s (d + 1)).length ∧ (cycT d).length - 1 < (intL s d).length ∧ ∀ j, j < (intL s d).length → intF s d j = prodN (intF s (d + 1)) (cycF d) (intL s (d + 1)).length j) ∧
    (d < s → s % d ≠ 0 → intL s (d + 1) = intL s d) := by
  have := List.all_eq_true.1 int_chk s (List.mem_range.2 (by omega))
  have := List.all_eq_true.1 this d (List.mem_range.2 (by omega))
  obtain ⟨a, b, c, e, f⟩ := of_decide_eq_true this h2 h3
  refine ⟨a, b, fun j => getD_bd (by decide) c j, fun x y => ?_, f⟩
  obtain ⟨e1, e2, e3⟩ := e x y
  exact ⟨e1, e2, fun j hj => by simpa using List.all_eq_true.1 e3 j (List.mem_range.2 hj)⟩
theorem int_end {s : Nat} (h1 : 1 ≤ s) (h2 : s ≤ 24) : intL s s = cycT s ∧ (intL s 1).length = s + 1 ∧ ∀ j, j < s + 1 → intF s 1 j = if j = 0 then -1 else if j = s then 1 else 0 := by
  have := List.all_eq_true.1 int_ends s (List.mem_range.2 (by omega))
  obtain ⟨a, b, c⟩ := of_decide_eq_true this h1
  exact ⟨a, b, fun j hj => by simpa using List.all_eq_true.1 c j (List.mem_range.2 hj)⟩
theorem cyc_all {s : Nat} (h1 : 1 ≤ s) (h2 : s ≤ 24) : 2 ≤ (cycT s).length ∧ (cycT s).length ≤ 25 ∧ cycF s ((cycT s).length - 1) = 1 ∧ (∀ j, -1 ≤ cycF s j ∧ cycF s j ≤ 1) ∧ ∀ j, (cycT s).length - 1 < j → cycF s j = 0 := by
  have := List.all_eq_true.1 cyc_chk s (List.mem_range.2 (by omega))
  obtain ⟨a, b, c, d⟩ := of_decide_eq_true this h1
  exact ⟨a, b, c, fun j => getD_bd (by decide) d j, fun j hj => getD_beyond (by omega)⟩

/-- What cyclotomic promises. -/
def CycOk (s : Nat) : Prop := ∀ w : World, Calls Tryd.prog 81 #[.int .i64 s] w fun e w' => ∃ g cap : Nat, e = .returned (.slice (some ⟨g, 0, none⟩) (cycT s).length cap) ∧ w.heap.size ≤ g ∧ (∀ j, j < (cycT s).length → w'.cell? ⟨g, j, none⟩ = some (.int .i64 (cycF s j))) ∧ Below w.heap.size w w'

set_option maxHeartbeats 2000000 in
theorem cyc_step (s : Nat) (h1 : 1 ≤ s) (h2 : s ≤ 24) (ih : ∀ d, 1 ≤ d → d < s → CycOk d) : CycOk s := by
  intro w
  obtain ⟨H, hH⟩ : ∃ H, w.heap.size = H := ⟨_, rfl⟩
  have hHle : H ≤ w.heap.size := by omega
  obtain ⟨W1, hW1⟩ : ∃ W1, w.alloc (.cells (zrow (fun _ => 0) (s + 1)).toArray 3) = W1 := ⟨_, rfl⟩
  have hB1 : Below H w W1 := by rw [← hW1, ← hH]; exact (Below.refl _ w).alloc (Nat.le_refl _) _
  have hr1 : Row W1 H 3 (zrow (fun _ => 0) (s + 1)) := by rw [← hW1, ← hH]; exact Row.new w _ _
  have hmk := run_make_zeros (s + 1) (by omega) w
  rw [hW1, hH] at hmk
  have hc0 : W1.cell? ⟨H, 0, none⟩ = some (.int .i64 0) := (hr1.cell 0).trans (zrow_at (by omega))
  have hf0 : W1.frozen? ⟨H, 0, none⟩ = false := hr1.frozen 0
  have hcs : (W1.setCell ⟨H, 0, none⟩ (.int .i64 (-1))).cell? ⟨H, s, none⟩ = some (.int .i64 0) := by
    have := (hr1.set 0 (.int .i64 (-1))).cell s
    rw [this, List.getElem?_set_ne (by omega), zrow_at (by omega)]
  have hfs : (W1.setCell ⟨H, 0, none⟩ (.int .i64 (-1))).frozen? ⟨H, s, none⟩ = false := (hr1.set 0 _).frozen s
  obtain ⟨W2, hW2⟩ : ∃ W2, (W1.setCell ⟨H, 0, none⟩ (.int .i64 (-1))).setCell ⟨H, s, none⟩ (.int .i64 1) = W2 := ⟨_, rfl⟩
  obtain ⟨hi1, hi2, hi3⟩ := int_end h1 h2
  have hc2 : ∀ j, j < s + 1 → W2.cell? ⟨H, j, none⟩ = some (.int .i64 (intF s 1 j)) := by
    intro j hj
    rw [hi3 j hj, ← hW2]
    have := ((hr1.set 0 (.int .i64 (-1))).set s (.int .i64 1)).cell j
    rw [this]
    by_cases e : s = j
    · subst e
      rw [List.getElem?_set_self (by simp [zrow]), if_neg (by omega), if_pos rfl]
    · rw [List.getElem?_set_ne e]
      by_cases e0 : 0 = j
      · subst e0
        rw [List.getElem?_set_self (by simp [zrow]), if_pos rfl]
      · rw [List.getElem?_set_ne e0, zrow_at hj, if_neg (fun x => e0 x.symm), if_neg (fun x => e x.symm)]
  have hB2 : Below H w W2 := by rw [← hW2]; exact (hB1.setCell (p := ⟨H, 0, none⟩) (Nat.le_refl H) _).setCell (p := ⟨H, s, none⟩) (Nat.le_refl H) _
  have HMk := Lib.hid hmk
  have HW2 := Lib.hid hW2
  have HC2 := Lib.hid hc2
  have HB2 := Lib.hid hB2
  have HI1 := Lib.hid hi1
  have HI2 := Lib.hid hi2
  have HIh := Lib.hid ih
  have HIa := Lib.hid (fun d (a : 1 ≤ d) (b : d ≤ s) => int_all h2 a b)
  have HCa := Lib.hid (fun d (a : 1 ≤ d) (b : d ≤ s) => cyc_all a (by omega : d ≤ 24))
  rw [hH]
  clear hW1 hmk hW2 hc2 hB2 hB1 hr1 hi1 hi2 hi3 ih
  go_enter Tryd.func81, Tryd.ntmps81
  go_wp2
  rw [show ((s : Int) + 1) = ((s + 1 : Nat) : Int) by omega, HMk.out]
  clear hH
  go_wp2
  rw [HW2.out]
  clear hc0 hf0 hcs hfs
  go_loopw [3, 4] (fun v i wr => ∃ d g cap : Nat, 1 ≤ d ∧ d ≤ s ∧ i = .int .i64 d ∧ v = .slice (some ⟨g, 0, none⟩) (intL s d).length cap ∧ H ≤ g ∧ (∀ j, j < (intL s d).length → wr.cell? ⟨g, j, none⟩ = some (.int .i64 (intF s d j))) ∧ Below H w wr) (fun _ i _ => s - (intOf i).toNat)
  case atStart => exact ⟨1, H, s + 1, Nat.le_refl _, h1, rfl, by rw [HI2.out], Nat.le_refl _, by rw [HI2.out]; exact HC2.out, HB2.out⟩
  case round =>
    obtain ⟨d, g, cap, hd1, hd2, rfl, rfl, hg, hc, hB⟩ := hrel
    have hsz : H ≤ wr.heap.size := Nat.le_trans hHle hB.size
    by_cases hdl : d < s
    · have hdz : ((d : Int) == 0) = false := by rw [beq_eq_false_iff_ne]; omega
      obtain ⟨a1, a2, a3, a4, a5⟩ := HIa.out d hd1 hd2
      by_cases h0 : s % d = 0
      · have q0 : ((s : Int) % (d : Int) == 0) = true := by rw [beq_iff_eq]; omega
        obtain ⟨b1, b2, b3⟩ := a4 hdl h0
        obtain ⟨c1, c2, c3, c4, c5⟩ := HCa.out d hd1 hd2
        have HIc := Lib.hid (HIh.out d hd1 hdl wr)
        have HC := Lib.hid hc
        have HB := Lib.hid hB
        obtain ⟨e1, e2⟩ := div_zero (F := intF s d) (G := cycF d) (q := intF s (d + 1)) (m := (intL s d).length) (top := (cycT d).length - 1) b2 c3 c5 (by rw [b1]; exact b3)
        have HDv : Hid (∀ gC capC (V : World), (∀ j, j < (intL s d).length → V.cell? ⟨g, j, none⟩ = some (.int .i64 (intF s d j))) → (∀ j, j < (cycT d).length → V.cell? ⟨gC, j, none⟩ = some (.int .i64 (cycF d j))) →
            Calls Tryd.prog 80 #[.slice (some ⟨g, 0, none⟩) (intL s d).length cap, .slice (some ⟨gC, 0, none⟩) (cycT d).length capC] V fun e w' =>
              ∃ g' cap', e = .returned (.tuple #[.slice (some ⟨g', 0, none⟩) (intL s (d + 1)).length cap', .bool true]) ∧ V.heap.size ≤ g' ∧ (∀ i, i < (intL s (d + 1)).length → w'.cell? ⟨g', i, none⟩ = some (.int .i64 (intF s (d + 1) i))) ∧ Below V.heap.size V w') := Lib.hid (fun gC capC V hf hgc => by
          have := divide_any (intF s d) (cycF d) (intL s d).length ((cycT d).length - 1) g gC cap capC (by omega) (by omega) b2 a3 c4 V hf (fun j hj => hgc j (by omega))
          rw [show (cycT d).length - 1 + 1 = (cycT d).length by omega] at this
          refine this.mono ?_
          rintro e w' ⟨⟨_, g', cap', rfl, hg', hq⟩ | ⟨hn, _⟩, hb⟩
          · rw [b1] at hq ⊢
            exact ⟨g', cap', rfl, hg', fun i hi => by rw [hq i hi, e2 i (by omega)], hb⟩
          · exact absurd e1 hn)
        clear hc hB a3 a4 a5 b1 b3 c3 c4 c5 e1 e2 h0
        go_wp2_with fail
        refine HIc.out.mono ?_
        rintro e w1 ⟨gC, capC, rfl, hgC, hcc, b1⟩
        have HD1 := Lib.hid (HDv.out gC capC w1 (fun j hj => cell_later b1 (HC.out j hj)) hcc)
        have HB1 := Lib.hid (HB.out.trans (b1.mono hsz))
        have hsz1 : H ≤ w1.heap.size := Nat.le_trans hsz b1.size
        clear b1 hcc
        go_wp2_with fail
        refine HD1.out.mono ?_
        rintro e w3 ⟨g', cap', rfl, hg', hcc, b3⟩
        have HC3 := Lib.hid hcc
        have HB3 := Lib.hid (HB1.out.trans (b3.mono hsz1))
        clear hcc b3
        go_wp2
        go_roundw
        case rel => exact ⟨d + 1, g', cap', by omega, by omega, by go_num, rfl, by omega, HC3.out, HB3.out⟩
        case measure => simp only [intOf]; omega
      · have q0 : ((s : Int) % (d : Int) == 0) = false := by rw [beq_eq_false_iff_ne]; omega
        have HL := Lib.hid (a5 hdl h0)
        have HC4 : Hid (∀ j, j < (intL s (d + 1)).length → wr.cell? ⟨g, j, none⟩ = some (.int .i64 (intF s (d + 1) j))) := Lib.hid (by
          unfold intF
          rw [HL.out]; exact hc)
        have HB := Lib.hid hB
        clear hc hB a3 a4 a5 h0
        go_wp2
        go_roundw
        case rel => exact ⟨d + 1, g, cap, by omega, by omega, by go_num, by rw [HL.out], hg, HC4.out, HB.out⟩
        case measure => simp only [intOf]; omega
    · obtain rfl : d = s := by omega
      have HC5 : Hid (∀ j, j < (cycT d).length → wr.cell? ⟨g, j, none⟩ = some (.int .i64 (cycF d j))) := Lib.hid (by
        unfold intF at hc
        rw [HI1.out] at hc; exact hc)
      have HB := Lib.hid hB
      have hlen : (intL d d).length = (cycT d).length := by rw [HI1.out]
      rw [hlen]
      clear hc hB hlen
      go_wp2
      go_ret
      exact ⟨g, cap, rfl, hg, HC5.out, HB.out⟩

theorem cyclotomic_any : ∀ s, 1 ≤ s → s ≤ 24 → CycOk s := by
  intro s
  induction s using Nat.strongRecOn with
  | _ s ih => exact fun h1 h2 => cyc_step s h1 h2 (fun d a b => ih d b a (by omega))
end Go.Proofs.YtmcdelabcmnfiaaDoor

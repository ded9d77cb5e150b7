/-
  Vector of package chords, beside package even.
-/
import Derived.Test.YtmemnkmmjejlgaaDoorEvSumsLaw
import Derived.WalkLawsBesides
namespace Go.Proofs.YtmemnkmmjejlgaaDoor
open Go.RowKit Go.Shelf
attribute [local go_sem] Oper.semAt_some
set_option maxRecDepth 100000

/-- What a valid chord is. -/
def chC (n c : Int) : Bool := decide (0 ≤ c ∧ c < 2 ^ n.toNat)

theorem chvalid_any (n : Int) (cs : List Int) (b cap : Nat) (w : World) (hl : cs.length < 2 ^ 40) (hc : ∀ i, i < cs.length → w.cell? ⟨b, i, none⟩ = some (.int .i64 (cs[i]?.getD 0))) :
    Calls Tryd.prog 69 #[.int .i64 n, .slice (some ⟨b, 0, none⟩) cs.length cap] w fun e w' => e = .returned (.bool (vldN n && cs.all (chC n))) ∧ w = w' := by
  by_cases h1 : 2 ≤ n
  · by_cases h2 : n ≤ 16
    · have hp := pow_bd n (by omega) h2
      have H : vldN n = true := by unfold vldN; exact decide_eq_true ⟨h1, h2⟩
      have H' := Lib.hid H; clear H
      go_enter Tryd.func69, Tryd.ntmps69
      go_wp2
      go_loop [6, 15] (fun _ i => ∃ k : Nat, k ≤ cs.length ∧ i = .int .i64 k ∧ (cs.take k).all (chC n) = true) (fun _ i => cs.length - (intOf i).toNat)
      case atStart => exact ⟨0, Nat.zero_le _, rfl, by simp⟩
      case round =>
        obtain ⟨k, hk, rfl, hall⟩ := hrel
        have HA := Lib.hid hall; clear hall
        by_cases hlt : k < cs.length
        · have hck := hc k hlt
          clear hc
          have HS : Hid (cs.take (k + 1) = cs.take k ++ [cs[k]?.getD 0]) := by
            rw [List.take_succ_eq_append_getElem hlt, List.getElem?_eq_getElem hlt]; rfl
          have HM : Hid (cs[k]?.getD 0 ∈ cs) := by
            rw [List.getElem?_eq_getElem hlt]; exact List.getElem_mem hlt
          generalize cs[k]?.getD 0 = c at hck HS HM
          by_cases h3 : 0 ≤ c
          · by_cases h4 : c < 2 ^ n.toNat
            · have HV := Lib.hid (show chC n c = true by unfold chC; exact decide_eq_true ⟨h3, h4⟩)
              go_wp2
              go_round
              case rel => exact ⟨k + 1, by omega, by go_num, by rw [HS.out, List.all_append, HA.out]; simp [HV.out]⟩
              case measure => simp [intOf]; omega
            · have HV := Lib.hid (show chC n c = false by unfold chC; exact decide_eq_false (fun h => h4 h.2))
              go_wp2
              go_ret
              refine ⟨ret_bool ?_, rfl⟩
              rw [H'.out, Bool.true_and, eq_comm, List.all_eq_false]
              exact ⟨c, HM.out, by rw [HV.out]; simp⟩
          · have HV := Lib.hid (show chC n c = false by unfold chC; exact decide_eq_false (fun h => h3 h.1))
            go_wp2
            go_ret
            refine ⟨ret_bool ?_, rfl⟩
            rw [H'.out, Bool.true_and, eq_comm, List.all_eq_false]
            exact ⟨c, HM.out, by rw [HV.out]; simp⟩
        · go_wp2
          go_ret
          refine ⟨ret_bool ?_, rfl⟩
          have := HA.out
          rw [List.take_of_length_le (by omega)] at this
          rw [H'.out, this]; rfl
    · have H : vldN n = false := by unfold vldN; exact decide_eq_false (fun h => h2 h.2)
      have H' := Lib.hid H; clear H
      go_enter Tryd.func69, Tryd.ntmps69
      go_wp2
      go_ret
      exact ⟨ret_bool (by rw [H'.out]; rfl), rfl⟩
  · have H : vldN n = false := by unfold vldN; exact decide_eq_false (fun h => h1 h.1)
    have H' := Lib.hid H; clear H
    go_enter Tryd.func69, Tryd.ntmps69
    go_wp2
    go_ret
    exact ⟨ret_bool (by rw [H'.out]; rfl), rfl⟩


theorem chvalid_one (n c : Nat) (h1 : 2 ≤ n) (h2 : n ≤ 16) (h3 : c < 2 ^ n) (b cap : Nat) (w : World) (hc : w.cell? ⟨b, 0, none⟩ = some (.int .i64 c)) :
    Calls Tryd.prog 69 #[.int .i64 n, .slice (some ⟨b, 0, none⟩) 1 cap] w fun e w' => e = .returned (.bool true) ∧ w = w' := by
  refine (chvalid_any n [(c : Int)] b cap w (by simp) (fun i hi => ?_)).mono ?_
  · obtain rfl : i = 0 := by simpa using hi
    exact hc
  · rintro e w' ⟨rfl, rfl⟩
    refine ⟨ret_bool ?_, rfl⟩
    have e : (2 : Int) ^ n = ((2 ^ n : Nat) : Int) := by simp
    have a1 : vldN (n : Int) = true := by unfold vldN; exact decide_eq_true ⟨by omega, by omega⟩
    have a2 : chC (n : Int) (c : Int) = true := by unfold chC; exact decide_eq_true ⟨by omega, by rw [Int.toNat_natCast, e]; omega⟩
    rw [a1, List.all_cons, a2]; rfl

theorem cell_new_l (w : World) (v : Value) (t : TypeId) : (w.alloc (.cells #[v] t)).cell? ⟨w.heap.size, 0, none⟩ = some v ∧ (w.alloc (.cells #[v] t)).frozen? ⟨w.heap.size, 0, none⟩ = false := by
  constructor
  · simp
  · simp

theorem frozen_at {w : World} {k : Nat} {v : Value} {t : TypeId} (h : k = w.heap.size) : (w.alloc (.cells #[v] t)).frozen? ⟨k, 0, none⟩ = false := by
  subst h; simp

theorem cell_up {w : World} {a : Addr} {v : Value} {o : Obj} (h : w.cell? a = some v) : (w.alloc o).cell? a = some v :=
  cell_kept h (World.grownBy_alloc w o none) (fun r e => by cases e)

theorem frozen_up {w : World} {a : Addr} {v : Value} {o : Obj} (h : w.cell? a = some v) (hf : w.frozen? a = false) : (w.alloc o).frozen? a = false :=
  (frozen_kept h (World.grownBy_alloc w o none) (fun r e => by cases e)).trans hf

theorem tones_any (c : Int) (w : World) :
    Calls Tryd.prog 91 #[.int .i64 c] w fun e w' => e = .returned (.func (.func 102) #[] #[.pointer (some ⟨w.heap.size, 0, none⟩)]) ∧ w.alloc (.cells #[.int .i64 c] 3) = w' := by
  go_enter Tryd.func91, Tryd.ntmps91
  go_wp2
  go_ret
  exact ⟨rfl, rfl⟩

theorem run_make_ints (k : Nat) (hk : k ≤ 65536) (W : World) : (Instr.makeSlice 25 (.int .i64 (k : Int)) (.int .i64 (k : Int))).run Tryd.prog W = .ok (.slice (some ⟨W.heap.size, 0, none⟩) k k) (W.alloc (.cells (ints (List.replicate k 0)).toArray 3)) := by
  rw [← madeCells_ints]
  exact run_make_row' 25 3 (.int .i64 0) 8 Tryd.underlying25 (by kernel_rfl) rfl .i64 .i64 k (by omega) (by omega) W

theorem vector_any (n c : Nat) (hn : 2 ≤ n) (hn2 : n ≤ 16) (hc : c < 2 ^ n) (w : World) (hT : Tab w) :
    Calls Tryd.prog 70 #[.int .i64 n, .int .i64 c] w fun e w' => ∃ b, e = .returned (.slice (some ⟨b, 0, none⟩) (n / 2) (n / 2)) ∧ w.heap.size ≤ b ∧ Row w' b 3 (ints (vecN n c)) ∧ Below w.heap.size w w' := by
  have hTs := hT.size
  have hmk : ∀ W : World, (Instr.makeSlice 25 (.int .i64 ((n : Int) / 2)) (.int .i64 ((n : Int) / 2))).run Tryd.prog W = .ok (.slice (some ⟨W.heap.size, 0, none⟩) (n / 2) (n / 2)) (W.alloc (.cells (ints (List.replicate (n / 2) 0)).toArray 3)) := run_make_ints (n / 2) (by omega)
  refine (callsIn_wide (n := 9)).1 ?_
  refine callsIn_of_wp_marks Tryd.func70 rfl trivial ?_ rfl
  simp only [Tryd.ntmps70, List.size_toArray, List.length_cons, List.length_nil, Nat.reduceAdd, Nat.reduceSub, Array.replicate_succ, Array.replicate_zero, List.push_toArray, List.append_toArray, List.nil_append, List.cons_append]
  gi_wp2_with (refine ⟨trivial, ?_⟩; gi_at_call 91; refine (callsIn_wide.2 (tones_any _ _)).mono ?_; rintro e w' ⟨rfl, rfl⟩)
  obtain ⟨H, hH⟩ : ∃ H, w.heap.size = H := ⟨_, rfl⟩
  have hH' := Lib.hid hH
  have hHle : H ≤ w.heap.size := by omega
  have hHl1 : 1 < H := by omega
  obtain ⟨W0, hW0⟩ : ∃ W0, (((((w.alloc (Obj.cells #[Value.int IntKind.i64 ↑n] 3)).alloc (Obj.cells #[Value.int IntKind.i64 ↑c] 3)).alloc (.cells (ints (List.replicate (n / 2) 0)).toArray 3)).alloc (Obj.cells #[.slice (some ⟨w.heap.size + 1 + 1, 0, none⟩) (n / 2) (n / 2)] 25)).alloc (Obj.cells #[Value.int IntKind.i64 ↑c] 3)) = W0 := ⟨_, rfl⟩
  have b0 : Boxed W0 H 3 (.int .i64 n) := by rw [← hW0, ← hH]; exact ((((Boxed.new w _ _).alloc _).alloc _).alloc _).alloc _
  have b1 : Boxed W0 (H + 1) 3 (.int .i64 c) := by
    rw [← hW0, ← hH]; have := Boxed.new (w.alloc (Obj.cells #[Value.int IntKind.i64 ↑n] 3)) 3 (.int .i64 c); rw [World.size_alloc] at this; exact ((this.alloc _).alloc _).alloc _
  have r2 : Row W0 (H + 1 + 1) 3 (ints (List.replicate (n / 2) 0)) := by
    rw [← hW0, ← hH]; have := Row.new ((w.alloc (Obj.cells #[Value.int IntKind.i64 ↑n] 3)).alloc (Obj.cells #[Value.int IntKind.i64 ↑c] 3)) 3 (ints (List.replicate (n / 2) 0)); simp only [World.size_alloc] at this; exact (this.alloc _).alloc _
  have b3 : Boxed W0 (H + 1 + 1 + 1) 25 (.slice (some ⟨H + 1 + 1, 0, none⟩) (n / 2) (n / 2)) := by
    rw [← hW0, ← hH]; have := Boxed.new (((w.alloc (Obj.cells #[Value.int IntKind.i64 ↑n] 3)).alloc (Obj.cells #[Value.int IntKind.i64 ↑c] 3)).alloc (.cells (ints (List.replicate (n / 2) 0)).toArray 3)) 25 (.slice (some ⟨w.heap.size + 1 + 1, 0, none⟩) (n / 2) (n / 2)); simp only [World.size_alloc] at this; exact this.alloc _
  have b4 : Boxed W0 (H + 1 + 1 + 1 + 1) 3 (.int .i64 c) := by
    rw [← hW0, ← hH]; have := Boxed.new ((((w.alloc (Obj.cells #[Value.int IntKind.i64 ↑n] 3)).alloc (Obj.cells #[Value.int IntKind.i64 ↑c] 3)).alloc (.cells (ints (List.replicate (n / 2) 0)).toArray 3)).alloc (Obj.cells #[.slice (some ⟨w.heap.size + 1 + 1, 0, none⟩) (n / 2) (n / 2)] 25)) 3 (.int .i64 c); simp only [World.size_alloc] at this; exact this
  have hB0 : Below H w W0 := by rw [← hW0, ← hH]; exact (((((Below.refl _ w).alloc (Nat.le_refl _) _).alloc (by simp) _).alloc (by simp; omega) _).alloc (by simp; omega) _).alloc (by simp; omega) _
  have hS0 : H + 5 ≤ W0.heap.size ∧ W0.heap.size ≤ H + 5 := by rw [← hW0, ← hH]; simp
  have hT0 : Tab W0 := hT.below hB0 (by omega)
  rw [hW0, hH]
  clear hW0 hH hmk
  have HL := Lib.hid (tonesL_length c)
  refine wpIn_rangeFunc_ownH rfl (by omega) (gf := 102) (lb := #[.pointer (some ⟨H + 1 + 1 + 1 + 1, 0, none⟩)]) rfl trivial (enters_of Tryd.func102 (by kernel_rfl) rfl)
    (tones1_stops (· < H) (9 - 1) n c (H + 1 + 1 + 1 + 1) (by omega) (by omega) hc W0 hT0 (show 1 < H by omega) b4.cell) keptOn_t (keptOn_b (fun k (hk : k < H) => by omega)) (Below.refl _ _) (fun _ => rfl)
    (fun pre W => (((Row W (H + 1 + 1) 3 (ints (outerV n (tonesL c) (pre.map Fin.val) (List.replicate (n / 2) 0))) ∧ Boxed W H 3 (.int .i64 n)) ∧ Boxed W (H + 1) 3 (.int .i64 c)) ∧ Boxed W (H + 1 + 1 + 1) 25 (.slice (some ⟨H + 1 + 1, 0, none⟩) (n / 2) (n / 2))) ∧ Below H w W)
    (fun _ _ _ => False)
    (OwnFrom.and (OwnFrom.and (OwnFrom.and (OwnFrom.and (Own.from (row_own _ _ _) _) (Own.from (boxed_own _ _ _) _)) (Own.from (boxed_own _ _ _) _)) (Own.from (boxed_own _ _ _) _)) (ownFrom_below hHle (by omega)))
    (fun _ _ _ _ _ hs _ _ => hs)
    ⟨⟨⟨⟨r2, b0⟩, b1⟩, b3⟩, hB0⟩
    (fun x a' W => ∃ Bx, H + 1 + 1 + 1 < Bx ∧ Boxed W Bx 3 (.int .i64 x.val) ∧ a' = { tmps := #[.int .i64 n, .int .i64 c, .pointer (some ⟨H, 0, none⟩), .pointer (some ⟨H + 1, 0, none⟩), .slice none 0 0, .pointer (some ⟨H + 1 + 1 + 1, 0, none⟩), .pointer (some ⟨Bx, 0, none⟩), undef, .int .i64 n, .int .i64 ((n : Int) / 2), .slice (some ⟨H + 1 + 1, 0, none⟩) (n / 2) (n / 2), .int .i64 c, .func (.func 102) #[] #[.pointer (some ⟨H + 1 + 1 + 1 + 1, 0, none⟩)], .int .i64 x.val, undef, undef, undef, undef, undef, undef, undef, undef, undef, undef, undef, undef, undef, undef, undef, undef, undef, undef, undef, undef, undef, undef], defers := [] })
    (fun x a' _ X Y row hs hg hr => by obtain ⟨Bx, h1, h2, h3⟩ := hs; exact ⟨Bx, h1, boxed_own Bx 3 (fun (_ : Unit) => Value.int .i64 x.val) () X Y row h2 hg (fun r e => (hr r e).2), h3⟩)
    ?assign ?body ?done ?stop
  case assign =>
    rintro l pre x W K ⟨⟨⟨⟨r, b0⟩, b1⟩, b3⟩, hB⟩ hK
    gi_wp2
    exact hK _ _ ((KeepsOthers.alloc _ _).from _) ((KeptOn.refl _ W).below ((Below.refl _ W).alloc (Nat.le_refl _) _) (fun k (hk : k < H) => by have := hB.size; omega)) ⟨⟨⟨⟨r.alloc _, b0.alloc _⟩, b1.alloc _⟩, b3.alloc _⟩, hB.alloc (by have := hB.size; omega) _⟩ ⟨W.heap.size, b3.lt, Boxed.new W _ _, rfl⟩
  case body =>
    rintro l pre x a' W hl ⟨r, hr⟩ ⟨⟨⟨⟨r2, b0⟩, b1⟩, b3⟩, hB⟩ ⟨Bx, hBx, bX, rfl⟩ hlt
    have c1 := b1.cell
    have h1' : 1 ≤ 9 - 1 - 1 := by omega
    gi_wp2_with (refine ⟨trivial, ?_⟩; gi_at_call 91; refine (CallsIn.inRound l (callsIn_wide.2 (tones_any _ _))).mono ?_; rintro e w' ⟨rfl, rfl⟩)
    have hsW := hB.size
    have bN := Boxed.new W 3 (.int .i64 c)
    have hTW : Tab W := hT.below hB (by omega)
    have hr' : (W.alloc (.cells #[.int .i64 c] 3)).heap[l]? = some (.loop r) := (Below.heap_alloc W _ l (Array.getElem?_eq_some_iff.1 hr).1).trans hr
    refine wpIn_rangeFunc_ownN (l₀ := l) (r₀ := r) rfl hr' h1' (gf := 102) (lb := #[.pointer (some ⟨W.heap.size, 0, none⟩)]) rfl trivial (enters_of Tryd.func102 (by kernel_rfl) rfl)
      ((tones1_stops (· < H) (9 - 1 - 1 - 1) n c W.heap.size (by omega) (by omega) hc (W.alloc (.cells #[.int .i64 c] 3)) (hTW.same ((Below.refl _ W).alloc (Nat.le_refl _) _)) (show 1 < H by omega) bN.cell).inRound l) keptOn_t (keptOn_b (fun k (hk : k < H) => by simp; omega)) (Below.refl _ _) (fun _ => rfl)
      (fun pre' W' => ((((Row W' (H + 1 + 1) 3 (ints (innerV n x.val (pre'.map Fin.val) (outerV n (tonesL c) (pre.map Fin.val) (List.replicate (n / 2) 0)))) ∧ Boxed W' Bx 3 (.int .i64 x.val)) ∧ Boxed W' H 3 (.int .i64 n)) ∧ Boxed W' (H + 1) 3 (.int .i64 c)) ∧ Boxed W' (H + 1 + 1 + 1) 25 (.slice (some ⟨H + 1 + 1, 0, none⟩) (n / 2) (n / 2))) ∧ (Below H W W' ∧ KeepsFrom W0.heap.size W W'))
      (fun _ _ _ => False)
      (OwnFrom.and (OwnFrom.and (OwnFrom.and (OwnFrom.and (OwnFrom.and (Own.from (row_own _ _ _) _) (Own.from (boxed_own _ _ _) _)) (Own.from (boxed_own _ _ _) _)) (Own.from (boxed_own _ _ _) _)) (Own.from (boxed_own _ _ _) _)) (OwnFrom.and (ownFrom_below (by omega) (by simp; omega)) (ownFrom_keepsFrom (by simp))))
      (fun _ _ _ _ _ hs _ _ => hs)
      ⟨⟨⟨⟨⟨r2.alloc _, bX.alloc _⟩, b0.alloc _⟩, b1.alloc _⟩, b3.alloc _⟩, (Below.refl _ W).alloc (by omega) _, (KeepsOthers.alloc _ _).from _⟩
      (fun y a'' _ => a'' = { tmps := #[.int .i64 n, .int .i64 c, .pointer (some ⟨H, 0, none⟩), .pointer (some ⟨H + 1, 0, none⟩), .slice none 0 0, .pointer (some ⟨H + 1 + 1 + 1, 0, none⟩), .pointer (some ⟨Bx, 0, none⟩), .int .i64 y.val, .int .i64 n, .int .i64 ((n : Int) / 2), .slice (some ⟨H + 1 + 1, 0, none⟩) (n / 2) (n / 2), .int .i64 c, .func (.func 102) #[] #[.pointer (some ⟨H + 1 + 1 + 1 + 1, 0, none⟩)], .int .i64 x.val, .int .i64 c, .func (.func 102) #[] #[.pointer (some ⟨W.heap.size, 0, none⟩)], .int .i64 y.val, undef, undef, undef, undef, undef, undef, undef, undef, undef, undef, undef, undef, undef, undef, undef, undef, undef, undef, undef], defers := [] })
      (fun _ _ _ _ _ _ hs _ _ => hs)
      ?assign2 ?body2 ?done2 ?stop2
    case assign2 =>
      rintro l2 pre' y W' K hi hK
      gi_wp2
      exact hK _ _ (KeepsFrom.refl _ _) (KeptOn.refl _ _) hi rfl
    case body2 =>
      rintro l2 pre' y a'' W' _ _ ⟨⟨⟨⟨⟨r2', bX'⟩, b0'⟩, b1'⟩, b3'⟩, hBW, hKF⟩ rfl hlt2
      clear r2 bX b0 b1 b3 c1 bN hr' hr
      have cX := bX'.cell
      have c0 := b0'.cell
      have c3 := b3'.cell
      by_cases hxy : x.val < y.val
      · have hyl := y.isLt
        have hidx := dI_lt hxy hyl
        have hlen : (innerV n x.val (pre'.map Fin.val) (outerV n (tonesL c) (pre.map Fin.val) (List.replicate (n / 2) 0))).length = n / 2 := by rw [innerV_length, outerV_length]; simp
        have hbd : (innerV n x.val (pre'.map Fin.val) (outerV n (tonesL c) (pre.map Fin.val) (List.replicate (n / 2) 0)))[dI n x.val y.val]?.getD 0 ≤ 4160 := by
          have h8 := innerV_le (n := n) (l := x.val) (pre'.map Fin.val) (outerV_le (n := n) (tonesL c) (pre.map Fin.val) (replicate_le (n / 2))) (dI n x.val y.val)
          have h9 : pre.length * (tonesL c).length ≤ 64 * 64 := Nat.mul_le_mul (by omega) HL.out
          simp only [List.length_map] at h8
          omega
        have hstep := Lib.hid (show stepV n (innerV n x.val (pre'.map Fin.val) (outerV n (tonesL c) (pre.map Fin.val) (List.replicate (n / 2) 0))) x.val y.val = _ from if_pos hxy)
        have hall := Lib.hid (innerV_snoc n x.val (pre'.map Fin.val) (outerV n (tonesL c) (pre.map Fin.val) (List.replicate (n / 2) 0)) y.val)
        generalize innerV n x.val (pre'.map Fin.val) (outerV n (tonesL c) (pre.map Fin.val) (List.replicate (n / 2) 0)) = cs at r2' hlen hbd hstep hall
        have hcl := ints_at (xs := cs) (i := dI n x.val y.val) (by omega)
        obtain ⟨v, hv⟩ : ∃ v, cs[dI n x.val y.val]?.getD 0 = v := ⟨_, rfl⟩
        rw [hv] at hcl hbd hstep
        have hset := Lib.hid (ints_set cs (dI n x.val y.val) (v + 1))
        have hcl' := Lib.hid ((r2'.cell (dI n x.val y.val)).trans hcl)
        have hfr' := Lib.hid (r2'.frozen (dI n x.val y.val))
        have HR := Lib.hid r2'
        clear hcl hv r2'
        by_cases hm : (n : Int) - ((y.val : Int) - (x.val : Int)) < (y.val : Int) - (x.val : Int)
        · have e : n - (y.val - x.val) - 1 = dI n x.val y.val := by unfold dI; omega
          have hc1 : W'.cell? ⟨H + 1 + 1, n - (y.val - x.val) - 1, none⟩ = some (.int .i64 v) := by rw [e]; exact hcl'.out
          have hf1 : W'.frozen? ⟨H + 1 + 1, n - (y.val - x.val) - 1, none⟩ = false := by rw [e]; exact hfr'.out
          have E := Lib.hid e
          clear e
          gi_wp2
          refine ⟨(KeepsOthers.setCell _ _ _).from _, (KeptOn.refl _ W').setCell (p := ⟨H + 1 + 1, _, none⟩) (show ¬ H + 1 + 1 < H by omega) _,
            ⟨⟨⟨⟨?_, bX'.other2 (by omega) _ _⟩, b0'.other2 (by omega) _ _⟩, b1'.other2 (by omega) _ _⟩, b3'.other2 (by omega) _ _⟩, hBW.setCell (p := ⟨H + 1 + 1, _, none⟩) (show H ≤ H + 1 + 1 by omega) _, hKF.trans ((KeepsOthers.setCell _ _ _).from _)⟩
          rw [E.out, List.map_append, List.map_singleton, hall.out, hstep.out, ← hset.out]
          exact HR.out.set _ _
        · have e : y.val - x.val - 1 = dI n x.val y.val := by unfold dI; omega
          have hc1 : W'.cell? ⟨H + 1 + 1, y.val - x.val - 1, none⟩ = some (.int .i64 v) := by rw [e]; exact hcl'.out
          have hf1 : W'.frozen? ⟨H + 1 + 1, y.val - x.val - 1, none⟩ = false := by rw [e]; exact hfr'.out
          have E := Lib.hid e
          clear e
          gi_wp2
          refine ⟨(KeepsOthers.setCell _ _ _).from _, (KeptOn.refl _ W').setCell (p := ⟨H + 1 + 1, _, none⟩) (show ¬ H + 1 + 1 < H by omega) _,
            ⟨⟨⟨⟨?_, bX'.other2 (by omega) _ _⟩, b0'.other2 (by omega) _ _⟩, b1'.other2 (by omega) _ _⟩, b3'.other2 (by omega) _ _⟩, hBW.setCell (p := ⟨H + 1 + 1, _, none⟩) (show H ≤ H + 1 + 1 by omega) _, hKF.trans ((KeepsOthers.setCell _ _ _).from _)⟩
          rw [E.out, List.map_append, List.map_singleton, hall.out, hstep.out, ← hset.out]
          exact HR.out.set _ _
      · have hstep := Lib.hid (show stepV n (innerV n x.val (pre'.map Fin.val) (outerV n (tonesL c) (pre.map Fin.val) (List.replicate (n / 2) 0))) x.val y.val = _ from if_neg hxy)
        gi_wp2
        refine ⟨KeepsFrom.refl _ _, KeptOn.refl _ _, ⟨⟨⟨⟨?_, bX'⟩, b0'⟩, b1'⟩, b3'⟩, hBW, hKF⟩
        rw [List.map_append, List.map_singleton, innerV_snoc, hstep.out]
        exact r2'
    case done2 =>
      rintro ys' W' hys ⟨⟨⟨⟨⟨r2', bX'⟩, b0'⟩, b1'⟩, b3'⟩, hBW, hKF⟩
      have hys' := Lib.hid hys
      clear hys
      gi_wp2
      exact ⟨hKF, (KeptOn.refl _ W).below hBW (fun k hk => hk), ⟨⟨⟨by rw [List.map_append, List.map_singleton, outerV_snoc]; rw [hys'.out] at r2'; exact r2', b0'⟩, b1'⟩, b3'⟩, hB.trans hBW⟩
    case stop2 =>
      rintro c pre' W' _ h
      exact h.elim
  case done =>
    rintro D ys W hD hys ⟨⟨⟨⟨r2, b0⟩, b1⟩, b3⟩, hB⟩ hK
    have hys' := Lib.hid hys
    clear hys
    have c3 := b3.cell
    gi_wp2
    refine ⟨by simp, .inl ⟨_, _, rfl, run_takeDeferred hK, ?_⟩⟩
    refine ⟨_, results_tmp rfl _ _ _, H + 1 + 1, rfl, by rw [hH'.out]; omega, ?_, by rw [hH'.out]; exact hB.trans (belowK_b (w := W0) (by omega) W D _ _ (by omega) hK rfl rfl)⟩
    unfold vecN
    rw [hys'.out] at r2
    exact r2.kept (grownBy_putObj' W D _) (fun q e => by cases e; exact ⟨_, hK, rfl⟩)
  case stop =>
    rintro D c pre W _ _ h _
    exact h.elim
/-- A slice of integers that the call has made. -/
def NewInts (w w' : World) (e : Ending) (k : Nat) (xs : List Nat) (ret : Value → Value) : Prop :=
  ∃ b, e = .returned (ret (.slice (some ⟨b, 0, none⟩) k k)) ∧ w.heap.size ≤ b ∧ Row w' b 3 (ints xs) ∧ Below w.heap.size w w'

theorem Vector_ok (n c : Nat) (h1 : 2 ≤ n) (h2 : n ≤ 16) (h3 : c < 2 ^ n) (w : World) (hT : Tab w) :
    Calls Tryd.prog 45 #[.int .i64 n, .int .i64 c] w fun e w' => NewInts w w' e (n / 2) (vecN n c) (fun v => .tuple #[v, .int .i64 0]) := by
  have HV := Lib.hid (chvalid_one n c h1 h2 h3)
  have hB : Below w.heap.size w (w.alloc (.cells #[.int .i64 c] 3)) := (Below.refl _ w).alloc (Nat.le_refl _) _
  have HM := Lib.hid (vector_any n c h1 h2 h3 (w.alloc (.cells #[.int .i64 c] 3)) (hT.same hB))
  clear hT
  go_enter Tryd.func45, Tryd.ntmps45
  go_wp2_with (go_at_call 69; refine (HV.out _ _ _ (cell_at rfl)).mono ?_; rintro e w' ⟨rfl, rfl⟩)
  refine HM.out.mono ?_
  rintro e w2 ⟨b, rfl, hb, hr, hB2⟩
  go_wp2
  go_ret2
  exact ⟨b, rfl, by simp at hb; omega, hr, hB.trans (hB2.mono (by simp))⟩


end Go.Proofs.YtmemnkmmjejlgaaDoor

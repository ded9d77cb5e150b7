/-
  tonesIn, Common: their contracts, and the reference's Common.
-/
import Derived.Test.YtehjdhegnpmfaaaDoorPop
import Derived.Test.YtehjdhegnpmfaaaDoorStillFns
import Derived.Test.YtehjdhegnpmfaaaDoorEqInts
namespace Go.Proofs.YtehjdhegnpmfaaaDoor
open Go.RowKit Go.Shelf
attribute [local go_sem] Oper.semAt_some
set_option maxRecDepth 100000

theorem shr_nat (x k : Nat) : ((x : Nat) : Int) / ((2 ^ k : Nat) : Int) = ((Nat.shiftRight x k : Nat) : Int) := by
  rw [show Nat.shiftRight x k = x / 2 ^ k from Nat.shiftRight_eq_div_pow x k]; rfl
theorem popG1 (x : Nat) (h : x < 2 ^ 64) : IntKind.u64.wrap (bits .and .u64 ((x : Int) / 2) 6148914691236517205 + bits .and .u64 (x : Int) 6148914691236517205) = ((popS1 x : Nat) : Int) := by
  have e := shr_nat x 1
  have l1 : Nat.land (Nat.shiftRight x 1) 6148914691236517205 ≤ 6148914691236517205 := Nat.and_le_right
  have l2 : Nat.land x 6148914691236517205 ≤ 6148914691236517205 := Nat.and_le_right
  have hx : Nat.shiftRight x 1 < 2 ^ 64 := by rw [show Nat.shiftRight x 1 = x / 2 ^ 1 from Nat.shiftRight_eq_div_pow x 1]; omega
  have a1 := andu_nat (Nat.shiftRight x 1) 6148914691236517205 hx (by decide)
  have a2 := andu_nat x 6148914691236517205 h (by decide)
  rw [show ((x : Int) / 2) = ((Nat.shiftRight x 1 : Nat) : Int) from e]
  rw [show bits .and .u64 ((Nat.shiftRight x 1 : Nat) : Int) 6148914691236517205 = _ from a1, show bits .and .u64 ((x : Nat) : Int) 6148914691236517205 = _ from a2]
  exact wrap_natu (popS1 x) (by show Nat.land (Nat.shiftRight x 1) 6148914691236517205 + Nat.land x 6148914691236517205 < _; omega)
theorem popG2 (x : Nat) (h : x < 2 ^ 64) : IntKind.u64.wrap (bits .and .u64 ((x : Int) / 4) 3689348814741910323 + bits .and .u64 (x : Int) 3689348814741910323) = ((popS2 x : Nat) : Int) := by
  have e := shr_nat x 2
  have l1 : Nat.land (Nat.shiftRight x 2) 3689348814741910323 ≤ 3689348814741910323 := Nat.and_le_right
  have l2 : Nat.land x 3689348814741910323 ≤ 3689348814741910323 := Nat.and_le_right
  have hx : Nat.shiftRight x 2 < 2 ^ 64 := by rw [show Nat.shiftRight x 2 = x / 2 ^ 2 from Nat.shiftRight_eq_div_pow x 2]; omega
  have a1 := andu_nat (Nat.shiftRight x 2) 3689348814741910323 hx (by decide)
  have a2 := andu_nat x 3689348814741910323 h (by decide)
  rw [show ((x : Int) / 4) = ((Nat.shiftRight x 2 : Nat) : Int) from e]
  rw [show bits .and .u64 ((Nat.shiftRight x 2 : Nat) : Int) 3689348814741910323 = _ from a1, show bits .and .u64 ((x : Nat) : Int) 3689348814741910323 = _ from a2]
  exact wrap_natu (popS2 x) (by show Nat.land (Nat.shiftRight x 2) 3689348814741910323 + Nat.land x 3689348814741910323 < _; omega)
theorem popG3 (x : Nat) (h : x < 2 ^ 63) : bits .and .u64 (IntKind.u64.wrap ((x : Int) / 16 + (x : Int))) 1085102592571150095 = ((popS3 x : Nat) : Int) := by
  have e := shr_nat x 4
  have hx : Nat.shiftRight x 4 + x < 2 ^ 64 := by rw [show Nat.shiftRight x 4 = x / 2 ^ 4 from Nat.shiftRight_eq_div_pow x 4]; omega
  rw [show ((x : Int) / 16) = ((Nat.shiftRight x 4 : Nat) : Int) from e]
  rw [show (((Nat.shiftRight x 4 : Nat) : Int) + (x : Int)) = ((Nat.shiftRight x 4 + x : Nat) : Int) from rfl, wrap_natu _ hx]
  exact andu_nat _ 1085102592571150095 hx (by decide)
theorem popG4 (k : Nat) (x : Nat) (h : x < 2 ^ 63) (hk : 1 ≤ k) : IntKind.u64.wrap ((x : Int) + (x : Int) / ((2 ^ k : Nat) : Int)) = ((Nat.add x (Nat.shiftRight x k) : Nat) : Int) := by
  have e := shr_nat x k
  rw [e]
  exact wrap_natu _ (by
    rw [show Nat.shiftRight x k = x / 2 ^ k from Nat.shiftRight_eq_div_pow x k]
    have : x / 2 ^ k ≤ x / 2 ^ 1 := Nat.div_le_div_left (Nat.pow_le_pow_right (by omega) hk) (by decide)
    show x + x / 2 ^ k < _
    omega)
theorem popB1 (x : Nat) : popS1 x < 2 ^ 64 := by
  unfold popS1
  have l1 : Nat.land (Nat.shiftRight x 1) 6148914691236517205 ≤ 6148914691236517205 := Nat.and_le_right
  have l2 : Nat.land x 6148914691236517205 ≤ 6148914691236517205 := Nat.and_le_right
  simp only [Nat.add_eq]
  omega
theorem popB2 (x : Nat) : popS2 x < 2 ^ 63 := by
  unfold popS2
  have l1 : Nat.land (Nat.shiftRight x 2) 3689348814741910323 ≤ 3689348814741910323 := Nat.and_le_right
  have l2 : Nat.land x 3689348814741910323 ≤ 3689348814741910323 := Nat.and_le_right
  simp only [Nat.add_eq]
  omega
theorem popB3 (x : Nat) : popS3 x ≤ 1085102592571150095 := Nat.and_le_right
theorem popB4 (k B : Nat) (x : Nat) (h : x ≤ B) : Nat.add x (Nat.shiftRight x k) ≤ 2 * B := by
  have : Nat.shiftRight x k ≤ x := by rw [show Nat.shiftRight x k = x / 2 ^ k from Nat.shiftRight_eq_div_pow x k]; exact Nat.div_le_self _ _
  show x + Nat.shiftRight x k ≤ _
  omega
theorem popG7 (x : Nat) (h : x < 2 ^ 63) : bits .and .i64 (x : Int) 127 = ((Nat.land x 127 : Nat) : Int) := and_nat x 127 h (by decide)

theorem ones64_any (c : Nat) (hc : c < 65536) (w : World) :
    Calls Tryd.prog 86 #[.int .u64 c] w fun e w' => e = .returned (.int .i64 ((tonesL c).length : Nat)) ∧ w = w' := by
  have e1 := popG1 c (by omega)
  have e2 := popG2 (popS1 c) (popB1 _)
  have e3 := popG3 (popS2 (popS1 c)) (popB2 _)
  have b3 := popB3 (popS2 (popS1 c))
  have hp := popGo_tones hc
  unfold popGo at hp
  generalize popS1 c = x1 at e1 e2 e3 b3 hp
  generalize popS2 x1 = x2 at e2 e3 b3 hp
  generalize popS3 x2 = x3 at e3 b3 hp
  have e4 : IntKind.u64.wrap ((x3 : Int) + (x3 : Int) / 256) = ((popS4 x3 : Nat) : Int) := popG4 8 x3 (by omega) (by omega)
  have b4 : popS4 x3 ≤ 2 * 1085102592571150095 := popB4 8 _ x3 b3
  generalize popS4 x3 = x4 at e4 b4 hp
  have e5 : IntKind.u64.wrap ((x4 : Int) + (x4 : Int) / 65536) = ((popS5 x4 : Nat) : Int) := popG4 16 x4 (by omega) (by omega)
  have b5 : popS5 x4 ≤ 2 * (2 * 1085102592571150095) := popB4 16 _ x4 b4
  generalize popS5 x4 = x5 at e5 b5 hp
  have e6 : IntKind.u64.wrap ((x5 : Int) + (x5 : Int) / 4294967296) = ((popS6 x5 : Nat) : Int) := popG4 32 x5 (by omega) (by omega)
  have b6 : popS6 x5 ≤ 2 * (2 * (2 * 1085102592571150095)) := popB4 32 _ x5 b5
  generalize popS6 x5 = x6 at e6 b6 hp
  have e7 := popG7 x6 (by omega)
  have e8 : wrap64 (x6 : Int) = x6 := IntWalk.wrap64_in _ (by omega)
  rw [hp] at e7
  generalize (tonesL c).length = k at e7 hp
  have E := Lib.hid (And.intro e1 (And.intro e2 (And.intro e3 (And.intro e4 (And.intro e5 (And.intro e6 (And.intro e7 e8)))))))
  clear e1 e2 e3 e4 e5 e6 e7 e8 b3 b4 b5 b6 hp
  go_enter Tryd.func86, Tryd.ntmps86
  go_wp2
  obtain ⟨e1, e2, e3, e4, e5, e6, e7, e8⟩ := E.out
  simp only [e1, e2, e3, e4, e5, e6, e8, e7]
  go_ret
  exact ⟨rfl, rfl⟩

theorem tonesIn_any (c : Nat) (hc : c < 65536) (w : World) :
    Calls Tryd.prog 61 #[.int .i64 c] w fun e w' => e = .returned (.int .i64 ((tonesL c).length : Nat)) ∧ w = w' := by
  have H := Lib.hid (ones64_any c hc)
  have hcw : IntKind.u64.wrap (c : Int) = c := wrap_natu c (by omega)
  have H2 : ∀ V : World, Calls Tryd.prog 75 #[.int .u64 c] V fun e w' => e = .returned (.int .i64 ((tonesL c).length : Nat)) ∧ V = w' := fun V => by
    clear hcw
    generalize (tonesL c).length = k at H
    go_enter Tryd.func75, Tryd.ntmps75
    go_wp2_with (go_at_call 86; refine (H.out _).mono ?_; rintro e w' ⟨rfl, rfl⟩)
    go_ret
    exact ⟨rfl, rfl⟩
  have H2' := Lib.hid H2
  clear H2 H
  generalize (tonesL c).length = k at H2'
  go_enter Tryd.func61, Tryd.ntmps61
  go_wp2_with (go_at_call 75; refine (H2'.out _).mono ?_; rintro e w' ⟨rfl, rfl⟩)
  go_ret
  exact ⟨rfl, rfl⟩

/-- How many tones a chord has in common with another one, after each move. -/
def comAt (a n b k : Nat) : Nat := (tonesL (a &&& mvN n b k)).length
def comTo (a n b k : Nat) : List Nat := (List.range n).map (fun i => if i < k then comAt a n b i else 0)
def comN (a n b : Nat) : List Nat := (List.range n).map (comAt a n b)

theorem comTo_full (a n b : Nat) : comTo a n b n = comN a n b := by
  unfold comTo comN
  apply List.map_congr_left
  intro i hi
  rw [if_pos (List.mem_range.1 hi)]
theorem comTo_zero (a n b : Nat) : comTo a n b 0 = List.replicate n 0 := by
  unfold comTo
  apply List.ext_getElem
  · simp
  · intro i h1 h2; simp
theorem comTo_set {a n b k : Nat} (hk : k < n) : (comTo a n b k).set k (comAt a n b k) = comTo a n b (k + 1) := by
  unfold comTo
  apply List.ext_getElem
  · simp
  · intro i h1 h2
    rw [List.getElem_set]
    simp only [List.getElem_map, List.getElem_range]
    by_cases h : k = i
    · subst h; rw [if_pos rfl, if_pos (by omega)]
    · rw [if_neg h]
      by_cases h' : i < k
      · rw [if_pos h', if_pos (by omega)]
      · rw [if_neg h', if_neg (by omega)]
theorem comTo_length (a n b k : Nat) : (comTo a n b k).length = n := by simp [comTo]
theorem comN_length (a n b : Nat) : (comN a n b).length = n := by simp [comN]
theorem and_lt {a b n : Nat} (ha : a < 2 ^ n) : a &&& b < 2 ^ n := Nat.lt_of_le_of_lt Nat.and_le_left ha

/-- Two chords are valid. -/
theorem valid2_of (n a b : Int) (v : Bool) (h : (vldB n a && vldB n b) = v) (g : Nat) (V : World) (hc : V.cell? ⟨g, 0, none⟩ = some (.int .i64 a)) (hd : V.cell? ⟨g, 1, none⟩ = some (.int .i64 b)) :
    Calls Tryd.prog 47 #[.int .i64 n, .slice (some ⟨g, 0, none⟩) 2 2] V fun e w' => e = .returned (.bool v) ∧ V = w' := by
  have := valid2 n a b g 2 V hc hd
  rwa [h] at this

theorem cell_two {w : World} {k : Nat} {v u : Value} {t : TypeId} (h : k = w.heap.size) : (w.alloc (.cells #[v, u] t)).cell? ⟨k, 0, none⟩ = some v ∧ (w.alloc (.cells #[v, u] t)).cell? ⟨k, 1, none⟩ = some u := by
  subst h; constructor <;> simp

theorem Common_bad (n a b : Int) (h : (vldB n a && vldB n b) = false) (w : World) :
    Calls Tryd.prog 34 #[.int .i64 n, .int .i64 a, .int .i64 b] w fun e w' => e = .returned (.tuple #[.slice none 0 0, .int .i64 2]) ∧ Below w.heap.size w w' := by
  have HV := Lib.hid (valid2_of n a b _ h)
  clear h
  go_enter Tryd.func34, Tryd.ntmps34
  go_wp2_with (go_at_call 47; refine (HV.out _ _ (cell_two rfl).1 (cell_two rfl).2).mono ?_; rintro e w' ⟨rfl, rfl⟩)
  go_ret2
  exact ⟨rfl, (Below.refl _ w).alloc (Nat.le_refl _) _⟩

theorem Common_ok (n a b : Nat) (h1 : 2 ≤ n) (h2 : n ≤ 16) (h3 : a < 2 ^ n) (h4 : b < 2 ^ n) (w : World) :
    Calls Tryd.prog 34 #[.int .i64 n, .int .i64 a, .int .i64 b] w fun e w' => NewInts w w' e n (comN a n b) (fun v => .tuple #[v, .int .i64 0]) := by
  have HV := Lib.hid (valid2_of n a b true (by rw [vldB_of_nat h1 h2 h3, vldB_of_nat h1 h2 h4]; rfl))
  have hmk : ∀ W : World, (Instr.makeSlice 31 (.int .i64 (n : Int)) (.int .i64 (n : Int))).run Tryd.prog W = .ok (.slice (some ⟨W.heap.size, 0, none⟩) n n) (W.alloc (.cells (ints (List.replicate n 0)).toArray 3)) := run_make_ints n (by omega)
  have hn2 : 2 ^ n ≤ 2 ^ 16 := Nat.pow_le_pow_right (by omega) h2
  have HM := Lib.hid (fun k hk => move_nat n b k h1 h2 h4 hk)
  have HA := Lib.hid (fun k => and_nat a (mvN n b k) (by omega) (Nat.lt_of_lt_of_le (mv_lt (n := n) (c := b) (u := k)) (by omega)))
  have HT := Lib.hid (fun k => tonesIn_any (a &&& mvN n b k) (Nat.lt_of_lt_of_le (and_lt h3) hn2))
  have HF := Lib.hid (comTo_full a n b)
  have H0 := Lib.hid (comTo_zero a n b)
  have HS := Lib.hid (fun k hk => comTo_set (a := a) (n := n) (b := b) (k := k) hk)
  have HL := Lib.hid (comTo_length a n b)
  clear h3 h4
  go_enter Tryd.func34, Tryd.ntmps34
  go_wp2_with (go_at_call 47; refine (HV.out _ _ (cell_two rfl).1 (cell_two rfl).2).mono ?_; rintro e w' ⟨rfl, rfl⟩)
  have r0 := Row.new (w.alloc (.cells #[.int .i64 a, .int .i64 b] 3)) 3 (ints (List.replicate n 0))
  have B0 : Below w.heap.size w ((w.alloc (.cells #[.int .i64 a, .int .i64 b] 3)).alloc (.cells (ints (List.replicate n 0)).toArray 3)) := ((Below.refl _ w).alloc (Nat.le_refl _) _).alloc (by simp) _
  rw [World.size_alloc] at r0
  obtain ⟨H, hH⟩ : ∃ H, w.heap.size = H := ⟨_, rfl⟩
  have hH' := Lib.hid hH
  rw [hH] at r0 B0 ⊢
  generalize (w.alloc (.cells #[.int .i64 a, .int .i64 b] 3)).alloc (.cells (ints (List.replicate n 0)).toArray 3) = W0 at r0 B0 ⊢
  rw [← H0.out] at r0
  clear hmk hH
  go_loopw [9, 20] (fun _ i wr => ∃ k : Nat, k ≤ n ∧ i = .int .i64 k ∧ Row wr (H + 1) 3 (ints (comTo a n b k)) ∧ Below H w wr) (fun _ i _ => n - (intOf i).toNat)
  case atStart => exact ⟨0, Nat.zero_le _, rfl, r0, B0⟩
  case round =>
    obtain ⟨k, hk, rfl, hr, hB⟩ := hrel
    by_cases hlt : k < n
    · have hm := Lib.hid (HM.out k hlt)
      have ha := HA.out k
      have ht := Lib.hid (HT.out k)
      have hs := HS.out k hlt
      have hset := ints_set (comTo a n b k) k (comAt a n b k)
      rw [hs] at hset
      unfold comAt at hset
      have hcl := (hr.cell k).trans (ints_at (by rw [HL.out k]; exact hlt))
      have hfr := hr.frozen k
      have Hset := Lib.hid hset
      have HR := Lib.hid hr
      generalize (tonesL (a &&& mvN n b k)).length = t at ht Hset
      generalize a &&& mvN n b k = am at ha ht
      generalize mvN n b k = mk at ha hm
      generalize (comTo a n b k)[k]?.getD 0 = old at hcl
      clear hs hset hr
      go_wp2_with (first | (go_at_call 48; refine (hm.out _).mono ?_; rintro e w' ⟨rfl, mm, rfl⟩) | (go_at_call 61; refine (ht.out _).mono ?_; rintro e w' ⟨rfl, rfl⟩))
      go_roundw
      case rel => exact ⟨k + 1, by omega, by go_num, by rw [← Hset.out]; exact HR.out.set _ _, ((below_drewN hB mm).setCell (p := ⟨H + 1, k, none⟩) (show H ≤ H + 1 by omega) _)⟩
      case measure => simp only [intOf]; omega
    · obtain rfl : k = n := by omega
      go_wp2
      go_ret2
      refine ⟨H + 1, rfl, by rw [hH'.out]; omega, ?_, by rw [hH'.out]; exact hB⟩
      rw [← HF.out]
      exact hr

end Go.Proofs.YtehjdhegnpmfaaaDoor

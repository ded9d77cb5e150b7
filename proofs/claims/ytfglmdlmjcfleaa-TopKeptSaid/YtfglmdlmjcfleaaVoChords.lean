/-
  Of chords: Move, Common, and the reference's number of tones, at this seat.
-/
import Derived.Test.YtfglmdlmjcfleaaChLeafA
import Derived.Test.YtfglmdlmjcfleaaVoImage
namespace Go.Proofs.Ytfglmdlmjcfleaa.Ch
open Go.RowKit Go.Shelf
attribute [local go_sem] Oper.semAt_some
set_option maxRecDepth 100000

theorem cell_at {w : World} {k : Nat} {v : Value} {t : TypeId} (h : k = w.heap.size) : (w.alloc (.cells #[v] t)).cell? ⟨k, 0, none⟩ = some v := by
  subst h; simp

theorem valid1 (n c : Int) (b cap : Nat) (w : World) (hc : w.cell? ⟨b, 0, none⟩ = some (.int .i64 c)) :
    Calls Try.prog 99 #[.int .i64 n, .slice (some ⟨b, 0, none⟩) 1 cap] w fun e w' => e = .returned (.bool (vldB n c)) ∧ w = w' := by
  refine (valid_any n [c] b cap w (by simp) (fun i hi => ?_)).mono ?_
  · obtain rfl : i = 0 := by simpa using hi
    exact hc
  · rintro e w' ⟨rfl, rfl⟩
    exact ⟨ret_bool (by rw [vldB_eq]; simp), rfl⟩

theorem valid2 (n c d : Int) (b cap : Nat) (w : World) (hc : w.cell? ⟨b, 0, none⟩ = some (.int .i64 c)) (hd : w.cell? ⟨b, 1, none⟩ = some (.int .i64 d)) :
    Calls Try.prog 99 #[.int .i64 n, .slice (some ⟨b, 0, none⟩) 2 cap] w fun e w' => e = .returned (.bool (vldB n c && vldB n d)) ∧ w = w' := by
  refine (valid_any n [c, d] b cap w (by simp) (fun i hi => ?_)).mono ?_
  · obtain rfl | rfl : i = 0 ∨ i = 1 := by simp at hi; omega
    · exact hc
    · exact hd
  · rintro e w' ⟨rfl, rfl⟩
    refine ⟨ret_bool ?_, rfl⟩
    rw [vldB_eq, vldB_eq]
    simp only [List.all_cons, List.all_nil]
    cases vldN n <;> cases vldC n c <;> cases vldC n d <;> rfl

/-- A valid circle and chord, as natural numbers. -/
theorem vldB_nat {n c : Int} (h : vldB n c = true) : ∃ n' c' : Nat, n = n' ∧ c = c' ∧ 2 ≤ n' ∧ n' ≤ 16 ∧ c' < 2 ^ n' := by
  unfold vldB at h
  obtain ⟨h1, h2, h3, h4⟩ := of_decide_eq_true h
  obtain ⟨n', rfl⟩ := Int.eq_ofNat_of_zero_le (show 0 ≤ n by omega)
  obtain ⟨c', rfl⟩ := Int.eq_ofNat_of_zero_le h3
  refine ⟨n', c', rfl, rfl, by omega, by omega, ?_⟩
  rw [Int.toNat_natCast] at h4
  have e : (2 : Int) ^ n' = ((2 ^ n' : Nat) : Int) := by simp
  rw [e] at h4
  omega

theorem vldB_of_nat {n c : Nat} (h1 : 2 ≤ n) (h2 : n ≤ 16) (h3 : c < 2 ^ n) : vldB n c = true := by
  unfold vldB
  refine decide_eq_true ⟨by omega, by omega, by omega, ?_⟩
  rw [Int.toNat_natCast]
  have e : (2 : Int) ^ n = ((2 ^ n : Nat) : Int) := by simp
  rw [e]; omega

theorem Move_bad (n c k : Int) (h : vldB n c = false) (w : World) :
    Calls Try.prog 68 #[.int .i64 n, .int .i64 c, .int .i64 k] w fun e w' => e = .returned (.tuple #[.int .i64 0, .int .i64 2]) ∧ Below w.heap.size w w' := by
  have HV : ∀ V : World, V.cell? ⟨w.heap.size, 0, none⟩ = some (.int .i64 c) → Calls Try.prog 99 #[.int .i64 n, .slice (some ⟨w.heap.size, 0, none⟩) 1 1] V fun e w' => e = .returned (.bool false) ∧ V = w' :=
    fun V hc => by have := valid1 n c w.heap.size 1 V hc; rwa [h] at this
  have HV' := Lib.hid HV
  clear HV h
  go_enter Try.func68, Try.ntmps68
  go_wp2_with (go_at_call 99; refine (HV'.out _ (cell_at rfl)).mono ?_; rintro e w' ⟨rfl, rfl⟩)
  go_ret2
  exact ⟨rfl, (Below.refl _ w).alloc (Nat.le_refl _) _⟩

theorem Move_ok (n c : Nat) (k : Int) (h1 : 2 ≤ n) (h2 : n ≤ 16) (h3 : c < 2 ^ n) (w : World) :
    Calls Try.prog 68 #[.int .i64 n, .int .i64 c, .int .i64 k] w fun e w' => e = .returned (.tuple #[.int .i64 (mvN n c (k % n).toNat : Nat), .int .i64 0]) ∧ Below w.heap.size w w' := by
  have HV : ∀ V : World, V.cell? ⟨w.heap.size, 0, none⟩ = some (.int .i64 c) → Calls Try.prog 99 #[.int .i64 n, .slice (some ⟨w.heap.size, 0, none⟩) 1 1] V fun e w' => e = .returned (.bool true) ∧ V = w' :=
    fun V hc => by have := valid1 n c w.heap.size 1 V hc; rwa [vldB_of_nat h1 h2 h3] at this
  have HV' := Lib.hid HV
  have HM := Lib.hid (fun V => move_any n c k h1 h2 h3 V)
  clear HV
  go_enter Try.func68, Try.ntmps68
  go_wp2_with (first | (go_at_call 99; refine (HV'.out _ (cell_at rfl)).mono ?_; rintro e w' ⟨rfl, rfl⟩) | (go_at_call 101; refine (HM.out _).mono ?_; rintro e w' ⟨rfl, mm, rfl⟩))
  go_ret2
  exact ⟨rfl, below_drewN ((Below.refl _ w).alloc (Nat.le_refl _) _) _⟩

theorem move_nat (n c k : Nat) (hn : 2 ≤ n) (hn2 : n ≤ 16) (hc : c < 2 ^ n) (hk : k < n) (w : World) :
    Calls Try.prog 101 #[.int .i64 n, .int .i64 c, .int .i64 k] w fun e w' => e = .returned (.int .i64 (mvN n c k : Nat)) ∧ ∃ m, w' = w.drewN m := by
  have := move_any n c k hn hn2 hc w
  have e : ((k : Int) % n).toNat = k := by rw [Int.emod_eq_of_lt (by omega) (by omega)]; rfl
  rwa [e] at this

def NewInts (w w' : World) (e : Ending) (k : Nat) (xs : List Nat) (ret : Value → Value) : Prop :=
  ∃ b, e = .returned (ret (.slice (some ⟨b, 0, none⟩) k k)) ∧ w.heap.size ≤ b ∧ Row w' b 3 (ints xs) ∧ Below w.heap.size w w'

theorem Size_any (c : Nat) (hc : c < 2 ^ 62) (w : World) :
    Calls Try.prog 63 #[.int .i64 c] w fun e w' => e = .returned (.int .i64 ((tonesL c).length : Nat)) ∧ w = w' := by
  go_enter Try.func63, Try.ntmps63
  go_wp2
  have HL := Lib.hid (tonesL_length c)
  go_loop [0, 3] (fun u v => ∃ r k : Nat, r < 2 ^ 62 ∧ u = .int .i64 r ∧ v = .int .i64 k ∧ (tonesL c).length = k + (tonesL r).length) (fun u _ => (intOf u).toNat)
  case atStart => exact ⟨c, 0, hc, rfl, rfl, by omega⟩
  case round =>
    obtain ⟨r, k, hr, rfl, rfl, hk⟩ := hrel
    by_cases h0 : r = 0
    · subst h0
      have h' : ((0 : Nat) : Int) = 0 := rfl
      rw [h']
      have hk' := Lib.hid hk
      clear hk
      go_wp2
      go_ret
      exact ⟨ret_int (by rw [hk'.out, tonesL_zero]; simp), rfl⟩
    · have hst := tonesL_step r h0 (by omega)
      have hlen : k ≤ 64 := by have := HL.out; omega
      have hand : Hid (bits .and .i64 (r : Int) ((r : Int) - 1) = ((r &&& (r - 1) : Nat) : Int)) := Lib.hid (by
        have e : (r : Int) - 1 = ((r - 1 : Nat) : Int) := by omega
        rw [e]; exact and_nat r (r - 1) (by omega) (by omega))
      have hdec : r &&& (r - 1) < r := Nat.lt_of_le_of_lt Nat.and_le_right (by omega)
      have hk' := Lib.hid (show (tonesL c).length = k + 1 + (tonesL (r &&& (r - 1))).length by rw [hk, hst]; simp; omega)
      clear hst hk
      go_wp2
      go_round
      case rel => exact ⟨r &&& (r - 1), k + 1, by omega, by rw [hand.out], by go_num, hk'.out⟩
      case measure => simp only [intOf]; rw [hand.out]; omega


theorem run_make_ints (k : Nat) (hk : k ≤ 65536) (W : World) : (Instr.makeSlice 22 (.int .i64 (k : Int)) (.int .i64 (k : Int))).run Try.prog W = .ok (.slice (some ⟨W.heap.size, 0, none⟩) k k) (W.alloc (.cells (ints (List.replicate k 0)).toArray 3)) := by
  rw [← madeCells_ints]
  exact run_make_row' 22 3 (.int .i64 0) 8 Try.underlying22 (by kernel_rfl) rfl .i64 .i64 k (by omega) (by omega) W

theorem tonesIn_any (c : Nat) (hc : c < 65536) (w : World) :
    Calls Try.prog 100 #[.int .i64 c] w fun e w' => e = .returned (.int .i64 ((tonesL c).length : Nat)) ∧ w = w' := by
  have hcw : IntKind.u64.wrap (c : Int) = c := wrap_natu c (by omega)
  have H2' := Lib.hid (fun V => ones_any c (by omega) V)
  unfold pcN at H2'
  generalize (tonesL c).length = k at *
  go_enter Try.func100, Try.ntmps100
  go_wp2_with (go_at_call 121; refine (H2'.out _).mono ?_; rintro e w' ⟨rfl, rfl⟩)
  go_ret
  exact ⟨rfl, rfl⟩

/-- How many tones a chord has in common with another one, after each move. -/
def comAt (a n b k : Nat) : Nat := (tonesL (a &&& mvN n b k)).length
def comTo (a n b k : Nat) : List Nat := (List.range n).map (fun i => if i < k then comAt a n b i else 0)
def comN (a n b : Nat) : List Nat := (List.range n).map (comAt a n b)

theorem comTo_full (a n b : Nat) : comTo a n b n = comN a n b := by
  unfold comTo comN
  apply List.map_congr_left
  intro i hi
  rw [if_pos (List.mem_range.1 hi)]
theorem comTo_zero (a n b : Nat) : comTo a n b 0 = List.replicate n 0 := by
  unfold comTo
  apply List.ext_getElem
  · simp
  · intro i h1 h2; simp
theorem comTo_set {a n b k : Nat} (hk : k < n) : (comTo a n b k).set k (comAt a n b k) = comTo a n b (k + 1) := by
  unfold comTo
  apply List.ext_getElem
  · simp
  · intro i h1 h2
    rw [List.getElem_set]
    simp only [List.getElem_map, List.getElem_range]
    by_cases h : k = i
    · subst h; rw [if_pos rfl, if_pos (by omega)]
    · rw [if_neg h]
      by_cases h' : i < k
      · rw [if_pos h', if_pos (by omega)]
      · rw [if_neg h', if_neg (by omega)]
theorem comTo_length (a n b k : Nat) : (comTo a n b k).length = n := by simp [comTo]
theorem comN_length (a n b : Nat) : (comN a n b).length = n := by simp [comN]
theorem and_lt {a b n : Nat} (ha : a < 2 ^ n) : a &&& b < 2 ^ n := Nat.lt_of_le_of_lt Nat.and_le_left ha

/-- Two chords are valid. -/
theorem valid2_of (n a b : Int) (v : Bool) (h : (vldB n a && vldB n b) = v) (g : Nat) (V : World) (hc : V.cell? ⟨g, 0, none⟩ = some (.int .i64 a)) (hd : V.cell? ⟨g, 1, none⟩ = some (.int .i64 b)) :
    Calls Try.prog 99 #[.int .i64 n, .slice (some ⟨g, 0, none⟩) 2 2] V fun e w' => e = .returned (.bool v) ∧ V = w' := by
  have := valid2 n a b g 2 V hc hd
  rwa [h] at this

theorem cell_two {w : World} {k : Nat} {v u : Value} {t : TypeId} (h : k = w.heap.size) : (w.alloc (.cells #[v, u] t)).cell? ⟨k, 0, none⟩ = some v ∧ (w.alloc (.cells #[v, u] t)).cell? ⟨k, 1, none⟩ = some u := by
  subst h; constructor <;> simp

theorem Common_bad (n a b : Int) (h : (vldB n a && vldB n b) = false) (w : World) :
    Calls Try.prog 66 #[.int .i64 n, .int .i64 a, .int .i64 b] w fun e w' => e = .returned (.tuple #[.slice none 0 0, .int .i64 2]) ∧ Below w.heap.size w w' := by
  have HV := Lib.hid (valid2_of n a b _ h)
  clear h
  go_enter Try.func66, Try.ntmps66
  go_wp2_with (go_at_call 99; refine (HV.out _ _ (cell_two rfl).1 (cell_two rfl).2).mono ?_; rintro e w' ⟨rfl, rfl⟩)
  go_ret2
  exact ⟨rfl, (Below.refl _ w).alloc (Nat.le_refl _) _⟩

theorem Common_ok (n a b : Nat) (h1 : 2 ≤ n) (h2 : n ≤ 16) (h3 : a < 2 ^ n) (h4 : b < 2 ^ n) (w : World) :
    Calls Try.prog 66 #[.int .i64 n, .int .i64 a, .int .i64 b] w fun e w' => NewInts w w' e n (comN a n b) (fun v => .tuple #[v, .int .i64 0]) := by
  have HV := Lib.hid (valid2_of n a b true (by rw [vldB_of_nat h1 h2 h3, vldB_of_nat h1 h2 h4]; rfl))
  have hmk : ∀ W : World, (Instr.makeSlice 22 (.int .i64 (n : Int)) (.int .i64 (n : Int))).run Try.prog W = .ok (.slice (some ⟨W.heap.size, 0, none⟩) n n) (W.alloc (.cells (ints (List.replicate n 0)).toArray 3)) := run_make_ints n (by omega)
  have hn2 : 2 ^ n ≤ 2 ^ 16 := Nat.pow_le_pow_right (by omega) h2
  have HM := Lib.hid (fun k hk => move_nat n b k h1 h2 h4 hk)
  have HA := Lib.hid (fun k => and_nat a (mvN n b k) (by omega) (Nat.lt_of_lt_of_le (mv_lt (n := n) (c := b) (u := k)) (by omega)))
  have HT := Lib.hid (fun k => tonesIn_any (a &&& mvN n b k) (Nat.lt_of_lt_of_le (and_lt h3) hn2))
  have HF := Lib.hid (comTo_full a n b)
  have H0 := Lib.hid (comTo_zero a n b)
  have HS := Lib.hid (fun k hk => comTo_set (a := a) (n := n) (b := b) (k := k) hk)
  have HL := Lib.hid (comTo_length a n b)
  clear h3 h4
  go_enter Try.func66, Try.ntmps66
  go_wp2_with (go_at_call 99; refine (HV.out _ _ (cell_two rfl).1 (cell_two rfl).2).mono ?_; rintro e w' ⟨rfl, rfl⟩)
  have r0 := Row.new (w.alloc (.cells #[.int .i64 a, .int .i64 b] 3)) 3 (ints (List.replicate n 0))
  have B0 : Below w.heap.size w ((w.alloc (.cells #[.int .i64 a, .int .i64 b] 3)).alloc (.cells (ints (List.replicate n 0)).toArray 3)) := ((Below.refl _ w).alloc (Nat.le_refl _) _).alloc (by simp) _
  rw [World.size_alloc] at r0
  obtain ⟨H, hH⟩ : ∃ H, w.heap.size = H := ⟨_, rfl⟩
  have hH' := Lib.hid hH
  rw [hH] at r0 B0 ⊢
  generalize (w.alloc (.cells #[.int .i64 a, .int .i64 b] 3)).alloc (.cells (ints (List.replicate n 0)).toArray 3) = W0 at r0 B0 ⊢
  rw [← H0.out] at r0
  clear hmk hH
  go_loopw [9, 20] (fun _ i wr => ∃ k : Nat, k ≤ n ∧ i = .int .i64 k ∧ Row wr (H + 1) 3 (ints (comTo a n b k)) ∧ Below H w wr) (fun _ i _ => n - (intOf i).toNat)
  case atStart => exact ⟨0, Nat.zero_le _, rfl, r0, B0⟩
  case round =>
    obtain ⟨k, hk, rfl, hr, hB⟩ := hrel
    by_cases hlt : k < n
    · have hm := Lib.hid (HM.out k hlt)
      have ha := HA.out k
      have ht := Lib.hid (HT.out k)
      have hs := HS.out k hlt
      have hset := ints_set (comTo a n b k) k (comAt a n b k)
      rw [hs] at hset
      unfold comAt at hset
      have hcl := (hr.cell k).trans (ints_at (by rw [HL.out k]; exact hlt))
      have hfr := hr.frozen k
      have Hset := Lib.hid hset
      have HR := Lib.hid hr
      generalize (tonesL (a &&& mvN n b k)).length = t at ht Hset
      generalize a &&& mvN n b k = am at ha ht
      generalize mvN n b k = mk at ha hm
      generalize (comTo a n b k)[k]?.getD 0 = old at hcl
      clear hs hset hr
      go_wp2_with (first | (go_at_call 101; refine (hm.out _).mono ?_; rintro e w' ⟨rfl, mm, rfl⟩) | (go_at_call 100; refine (ht.out _).mono ?_; rintro e w' ⟨rfl, rfl⟩))
      go_roundw
      case rel => exact ⟨k + 1, by omega, by go_num, by rw [← Hset.out]; exact HR.out.set _ _, ((below_drewN hB mm).setCell (p := ⟨H + 1, k, none⟩) (show H ≤ H + 1 by omega) _)⟩
      case measure => simp only [intOf]; omega
    · obtain rfl : k = n := by omega
      go_wp2
      go_ret2
      refine ⟨H + 1, rfl, by rw [hH'.out]; omega, ?_, by rw [hH'.out]; exact hB⟩
      rw [← HF.out]
      exact hr

end Go.Proofs.Ytfglmdlmjcfleaa.Ch

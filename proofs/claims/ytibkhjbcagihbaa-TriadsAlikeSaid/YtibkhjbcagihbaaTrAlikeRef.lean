/-
  The reference's Alike and Order; Alike and Order of the program where an argument is not right.
-/
import Derived.Test.YtibkhjbcagihbaaTrWaysRef
namespace Go.Proofs.Ytibkhjbcagihbaa
open Go.ChangeShapes Go.WideShapes Go.ChangeAt Go.RowKit Go.Shelf
set_option maxRecDepth 100000

theorem Alike_bad (n a b : Int) (s u : ByteArray) (h : kindB n a b = false) (w : World) :
    Calls Try.prog 30 #[kv n a b, .string s, .string u] w fun e w' => e = .returned (.tuple #[.bool false, .int .i64 2]) ∧ Below w.heap.size w w' := by
  have HV := Lib.hid (valid0 n a b (laid0 w n a b))
  rw [h] at HV
  have HA := Lib.hid (below_laid0 w n a b)
  clear h
  go_enter Try.func30, Try.ntmps30
  go_wp2_with fail
  refine HV.out.mono ?_
  rintro e w1 ⟨rfl, b1⟩
  go_wp2
  go_ret2
  exact ⟨rfl, below_nx HA.out b1⟩

theorem Alike_form (n a b : Nat) (hk : KOk n a b) (s u : ByteArray) (hs : s.size ≤ maxLen) (hu : u.size ≤ maxLen) (hf : walkB s = false ∨ walkB u = false) (w : World) :
    Calls Try.prog 30 #[kv n a b, .string s, .string u] w fun e w' => e = .returned (.tuple #[.bool false, .int .i64 3]) ∧ Below w.heap.size w w' := by
  have HV := Lib.hid (valid0 n a b (laid0 w n a b))
  rw [kindB_of_nat hk] at HV
  have HA := Lib.hid (below_laid0 w n a b)
  have HI := Lib.hid (isWalk_any s hs)
  have HI2 := Lib.hid (isWalk_any u hu)
  cases h1 : walkB s
  · rw [h1] at HI
    clear hf h1
    go_enter Try.func30, Try.ntmps30
    go_wp2_with fail
    refine HV.out.mono ?_
    rintro e w1 ⟨rfl, b1⟩
    have HA1 := Lib.hid (below_nx HA.out b1)
    go_wp2_with fail
    refine (HI.out _).mono ?_
    rintro e w2 ⟨rfl, b2⟩
    go_wp2
    go_ret2
    exact ⟨rfl, below_nx HA1.out b2⟩
  · have h2 : walkB u = false := by
      rcases hf with h | h
      · rw [h1] at h; cases h
      · exact h
    rw [h1] at HI
    rw [h2] at HI2
    clear hf h1 h2
    go_enter Try.func30, Try.ntmps30
    go_wp2_with fail
    refine HV.out.mono ?_
    rintro e w1 ⟨rfl, b1⟩
    have HA1 := Lib.hid (below_nx HA.out b1)
    go_wp2_with fail
    refine (HI.out _).mono ?_
    rintro e w2 ⟨rfl, b2⟩
    have HA2 := Lib.hid (below_nx HA1.out b2)
    go_wp2_with fail
    refine (HI2.out _).mono ?_
    rintro e w3 ⟨rfl, b3⟩
    go_wp2
    go_ret2
    exact ⟨rfl, below_nx HA2.out b3⟩

theorem Order_bad (n a b : Int) (s : ByteArray) (h : kindB n a b = false) (w : World) :
    Calls Try.prog 31 #[kv n a b, .string s] w fun e w' => e = .returned (.tuple #[.int .i64 0, .int .i64 2]) ∧ Below w.heap.size w w' := by
  have HV := Lib.hid (valid0 n a b (laid0 w n a b))
  rw [h] at HV
  have HA := Lib.hid (below_laid0 w n a b)
  clear h
  go_enter Try.func31, Try.ntmps31
  go_wp2_with fail
  refine HV.out.mono ?_
  rintro e w1 ⟨rfl, b1⟩
  go_wp2
  go_ret2
  exact ⟨rfl, below_nx HA.out b1⟩

theorem Order_form (n a b : Nat) (hk : KOk n a b) (s : ByteArray) (hs : s.size ≤ maxLen) (hf : walkB s = false) (w : World) :
    Calls Try.prog 31 #[kv n a b, .string s] w fun e w' => e = .returned (.tuple #[.int .i64 0, .int .i64 3]) ∧ Below w.heap.size w w' := by
  have HV := Lib.hid (valid0 n a b (laid0 w n a b))
  rw [kindB_of_nat hk] at HV
  have HA := Lib.hid (below_laid0 w n a b)
  have HI := Lib.hid (isWalk_any s hs)
  rw [hf] at HI
  clear hf
  go_enter Try.func31, Try.ntmps31
  go_wp2_with fail
  refine HV.out.mono ?_
  rintro e w1 ⟨rfl, b1⟩
  have HA1 := Lib.hid (below_nx HA.out b1)
  go_wp2_with fail
  refine (HI.out _).mono ?_
  rintro e w2 ⟨rfl, b2⟩
  go_wp2
  go_ret2
  exact ⟨rfl, below_nx HA1.out b2⟩

set_option maxHeartbeats 2000000 in
theorem RAlike_any (n a b : Nat) (hk : KOk n a b) (s u : ByteArray) (hs : s.size ≤ maxLen) (hu : u.size ≤ maxLen) (w : World) :
    Calls Try.prog 36 #[kv n a b, .string s, .string u] w fun e w' => e = .returned (.bool (sameW n a b (bsN s) (bsN u))) ∧ Below w.heap.size w w' := by
  have h1 := hk.h16
  have h0 := hk.h6
  obtain ⟨W0, hW0⟩ : ∃ W0, w.alloc (rcells n a b) = W0 := ⟨_, rfl⟩
  have b0 : Below w.heap.size w W0 := by rw [← hW0]; exact (Below.refl _ w).alloc (Nat.le_refl _) _
  have z0 : w.heap.size < W0.heap.size := by rw [← hW0]; simp
  have k0 : W0.cell? ⟨w.heap.size, 0, none⟩ = some (.int .i64 n) := by rw [← hW0]; simp
  have k1 : W0.cell? ⟨w.heap.size, 1, none⟩ = some (.int .i64 a) := by rw [← hW0]; simp
  have k2 : W0.cell? ⟨w.heap.size, 2, none⟩ = some (.int .i64 b) := by rw [← hW0]; simp
  have hW := Lib.hid hW0
  have HF := Lib.hid (fun t ht => RWalk_any n a b t hk ht s hs)
  have HF2 := Lib.hid (fun t ht => RWalk_any n a b t hk ht u hu)
  have HS := Lib.hid (fun t ht => sameW_at hk (bsN s) (bsN u) (t := t) ht)
  have hmx : Try.prog.follows .mixedOrders = true := by kernel_rfl
  obtain ⟨R, hR⟩ : ∃ R, sameW n a b (bsN s) (bsN u) = R := ⟨_, rfl⟩
  rw [hR] at HS ⊢
  clear hR hW0
  go_enter Try.func36, Try.ntmps36
  go_wp2_with fail
  rw [hW.out]
  go_wp2
  go_loopw [11] (fun i wr => ∃ k : Nat, k ≤ 2 * n ∧ i = .int .i64 k ∧ (0 < k → R = true) ∧ Below W0.heap.size W0 wr) (fun i _ => 2 * n - (intOf i).toNat)
  case atStart => exact ⟨0, Nat.zero_le _, rfl, fun h => absurd h (by omega), Below.refl _ _⟩
  case round =>
    obtain ⟨k, hk', rfl, hall, hB⟩ := hrel
    have HB := Lib.hid hB
    have HL := Lib.hid hall
    have c0 := (hB.cell (p := ⟨w.heap.size, 0, none⟩) z0).trans k0
    have c1 := (hB.cell (p := ⟨w.heap.size, 1, none⟩) z0).trans k1
    have c2 := (hB.cell (p := ⟨w.heap.size, 2, none⟩) z0).trans k2
    clear hB k0 k1 k2 hall
    by_cases hlt : k < 2 * n
    · have HFk := Lib.hid (HF.out k hlt)
      have HFk2 := Lib.hid (HF2.out k hlt)
      have HSk := Lib.hid (HS.out k hlt)
      clear HF HF2 HS
      generalize walkN n a b k (bsN s) = x at HFk HSk
      generalize walkN n a b k (bsN u) = y at HFk2 HSk
      go_wp2_with fail
      refine region_calm hmx (by kernel_rfl) ?_
      intro S hSn f hS1 hS2
      have l0 : ∀ z, (f z).cell? ⟨w.heap.size, 0, none⟩ = some (.int .i64 n) := fun z => cell_later (hS1 z) c0
      have l1 : ∀ z, (f z).cell? ⟨w.heap.size, 1, none⟩ = some (.int .i64 a) := fun z => cell_later (hS1 z) c1
      have l2 : ∀ z, (f z).cell? ⟨w.heap.size, 2, none⟩ = some (.int .i64 b) := fun z => cell_later (hS1 z) c2
      have hC1 := Lib.hid (calm_call hS1 hS2 (fun z => HFk.out (f z)))
      have hC2 := Lib.hid (calm_call hS1 hS2 (fun z => HFk2.out (f z)))
      iterate 4 (go_big_quiet_step (exact hC1.out _))
      repeat (go_big_quiet_step (exact hC2.out _))
      refine wpQuiet_nil ?_
      rintro _ ⟨z, rfl⟩
      have hbs := hS1 z
      generalize f z = w4 at hbs
      clear l0 l1 l2 hC1 hC2 hS1 hS2
      try dsimp only [Exit.then]
      by_cases e : x = y
      · have HR := Lib.hid (HSk.out.1 e)
        have q : ((x : Int) != y) = false := by rw [bne_eq_false_iff_eq]; omega
        clear e
        go_wp2
        go_roundw
        case rel => exact ⟨k + 1, by omega, by go_num, fun _ => HR.out, HB.out.trans (hbs.mono HB.out.size)⟩
        case measure => simp [intOf]; omega
      · have HR := Lib.hid (show R = false by cases R; rfl; exact absurd (HSk.out.2 rfl) e)
        have q : ((x : Int) != y) = true := by rw [bne_iff_ne]; omega
        clear e
        go_wp2
        go_ret
        exact ⟨ret_bool HR.out.symm, b0.trans ((HB.out.trans (hbs.mono HB.out.size)).mono b0.size)⟩
    · have HR := Lib.hid (HL.out (by omega))
      go_wp2
      go_ret
      exact ⟨ret_bool HR.out.symm, b0.trans (HB.out.mono b0.size)⟩

/-! ### tables -/
def tabL (n : Nat) (F : Nat → Nat) : List Nat := (List.range (2 * n)).map F
theorem tabL_length (n : Nat) (F : Nat → Nat) : (tabL n F).length = 2 * n := by simp [tabL]
theorem tabL_get {n t : Nat} (F : Nat → Nat) (h : t < 2 * n) : (ints (tabL n F))[t]? = some (.int .i64 (F t : Nat)) := by
  unfold tabL ints; rw [List.getElem?_map, List.getElem?_map, List.getElem?_range h]; rfl
theorem tabL_congr {n : Nat} {F G : Nat → Nat} (h : ∀ t, t < 2 * n → F t = G t) : tabL n F = tabL n G := List.map_congr_left (fun t ht => h t (List.mem_range.1 ht))
theorem tabL_set {n u v : Nat} (F : Nat → Nat) (G : Nat → Nat) (hu : u < 2 * n) (h1 : G u = v) (h2 : ∀ t, t ≠ u → F t = G t) : (ints (tabL n F)).set u (.int .i64 (v : Int)) = ints (tabL n G) := by
  refine List.ext_getElem? (fun i => ?_)
  rw [List.getElem?_set, ints_length, tabL_length]
  by_cases hi : i < 2 * n
  · rw [tabL_get _ hi, tabL_get _ hi]
    by_cases e : u = i
    · subst e; simp [hu, h1]
    · simp [e, h2 i (fun h => e h.symm)]
  · have h3 : ∀ M, (ints (tabL n M))[i]? = none := fun M => by rw [List.getElem?_eq_none_iff, ints_length, tabL_length]; omega
    have e : u ≠ i := by omega
    rw [h3, h3]; simp [e]

/-- So many times, from any triad. -/
def iterT (n a b : Nat) (l : List Nat) : Nat → Nat → Nat
  | 0, t => t
  | k + 1, t => walkN n a b (iterT n a b l k t) l
def repL (l : List Nat) : Nat → List Nat
  | 0 => []
  | k + 1 => repL l k ++ l
theorem iterT_rep (n a b : Nat) (l : List Nat) (t : Nat) : ∀ k, iterT n a b l k t = walkN n a b t (repL l k)
  | 0 => rfl
  | k + 1 => by
    show walkN n a b (iterT n a b l k t) l = walkN n a b t (repL l k ++ l)
    rw [walk_append, iterT_rep n a b l t k]
theorem iterT_zero (n a b : Nat) (l : List Nat) : ∀ k, iterT n a b l k 0 = iterW n a b l k
  | 0 => rfl
  | k + 1 => by
    show walkN n a b (iterT n a b l k 0) l = walkN n a b (iterW n a b l k) l
    rw [iterT_zero n a b l k]
theorem iterT_home {n a b : Nat} (hk : KOk n a b) (l : List Nat) (k : Nat) {t : Nat} (ht : t < 2 * n) : iterT n a b l k t = t ↔ iterW n a b l k = 0 := by
  have hn := hk.pos
  rw [← iterT_zero, iterT_rep, iterT_rep]
  constructor
  · intro h
    exact walk_same hk ht (m := []) h 0 (by omega)
  · intro h
    exact walk_same hk (t := 0) (by omega) (m := []) h t ht
theorem iterT_lt {n a b : Nat} (hk : KOk n a b) (l : List Nat) (k : Nat) {t : Nat} (ht : t < 2 * n) : iterT n a b l k t < 2 * n := by
  rw [iterT_rep]; exact walk_lt hk _ _ ht

/-- Part of the way: the first u triads are a time further. -/
def mixF (n a b : Nat) (l : List Nat) (k u t : Nat) : Nat := if t < u then iterT n a b l (k + 1) t else iterT n a b l k t
def homeB (n a b : Nat) (l : List Nat) (k u : Nat) : Bool := (List.range u).all (fun t => iterT n a b l k t == t)
theorem homeB_succ (n a b : Nat) (l : List Nat) (k u : Nat) : homeB n a b l k (u + 1) = (homeB n a b l k u && (iterT n a b l k u == u)) := by
  unfold homeB; rw [List.range_succ, List.all_append]; simp
theorem homeB_all {n a b : Nat} (hk : KOk n a b) (l : List Nat) (k : Nat) : homeB n a b l k (2 * n) = true ↔ iterW n a b l k = 0 := by
  have hn := hk.pos
  unfold homeB
  rw [List.all_eq_true]
  constructor
  · intro h
    have := h 0 (List.mem_range.2 (by omega))
    rw [beq_iff_eq] at this
    exact (iterT_home hk l k (t := 0) (by omega)).1 this
  · intro h t ht
    rw [beq_iff_eq]
    exact (iterT_home hk l k (List.mem_range.1 ht)).2 h
end Go.Proofs.Ytibkhjbcagihbaa

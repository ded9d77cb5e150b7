/-
  Alike and Order of package triads.
-/
import Derived.Test.YtibkhjbcagihbaaTrWalksLaw
namespace Go.Proofs.Ytibkhjbcagihbaa
open Go.ChangeShapes Go.WideShapes Go.ChangeAt Go.RowKit
set_option maxRecDepth 100000

/-- Whether two walks do the same. -/
def sameW (n a b : Nat) (l m : List Nat) : Bool := walkN n a b 0 l == walkN n a b 0 m

theorem sameW_at {n a b : Nat} (hk : KOk n a b) (l m : List Nat) {t : Nat} (ht : t < 2 * n) : (walkN n a b t l = walkN n a b t m) ↔ sameW n a b l m = true := by
  unfold sameW
  rw [beq_iff_eq]
  constructor
  · intro h; exact walk_same hk ht h 0 (by have := hk.pos; omega)
  · intro h; exact walk_same hk (t := 0) (by have := hk.pos; omega) h t ht

abbrev laid0 (w : World) (n a b : Int) : World := w.alloc (kcells n a b)
theorem below_laid0 (w : World) (n a b : Int) : Below w.heap.size w (laid0 w n a b) := (Below.refl w.heap.size w).alloc (Nat.le_refl _) _

set_option maxHeartbeats 2000000 in
theorem Alike_ok (n a b : Nat) (hk : KOk n a b) (s u : ByteArray) (hs : s.size ≤ maxLen) (hu : u.size ≤ maxLen) (hfs : walkB s = true) (hfu : walkB u = true) (w : World) :
    Calls Try.prog 30 #[kv n a b, .string s, .string u] w fun e w' => e = .returned (.tuple #[.bool (sameW n a b (bsN s) (bsN u)), .int .i64 0]) ∧ Below w.heap.size w w' := by
  have h1 := hk.h16
  have h0 := hk.h6
  have HV := Lib.hid (valid0 n a b (laid0 w n a b))
  rw [kindB_of_nat hk] at HV
  have HA := Lib.hid (below_laid0 w n a b)
  have HI := Lib.hid (isWalk_any s hs)
  rw [hfs] at HI
  have HI2 := Lib.hid (isWalk_any u hu)
  rw [hfu] at HI2
  have HF := Lib.hid (fun t ht => follow_any n a b t hk ht s hs (walkB_let hfs).1)
  have HF2 := Lib.hid (fun t ht => follow_any n a b t hk ht u hu (walkB_let hfu).1)
  have HS := Lib.hid (fun t ht => sameW_at hk (bsN s) (bsN u) (t := t) ht)
  have k0 : (laid0 w n a b).cell? ⟨w.heap.size, 0, none⟩ = some (.int .i64 n) := by simp
  have k1 : (laid0 w n a b).cell? ⟨w.heap.size, 1, none⟩ = some (.int .i64 a) := by simp
  have k2 : (laid0 w n a b).cell? ⟨w.heap.size, 2, none⟩ = some (.int .i64 b) := by simp
  have hmx : Try.prog.follows .mixedOrders = true := by kernel_rfl
  have z0 : w.heap.size < (laid0 w n a b).heap.size := by simp
  obtain ⟨R, hR⟩ : ∃ R, sameW n a b (bsN s) (bsN u) = R := ⟨_, rfl⟩
  rw [hR] at HS ⊢
  clear hfs hfu hR
  go_enter Try.func30, Try.ntmps30
  go_wp2_with fail
  refine HV.out.mono ?_
  rintro e w1 ⟨rfl, b1⟩
  have k0 := cell_later b1 k0
  have k1 := cell_later b1 k1
  have k2 := cell_later b1 k2
  have z1 : w.heap.size < w1.heap.size := Nat.lt_of_lt_of_le z0 b1.size
  have HA1 := Lib.hid (below_nx HA.out b1)
  go_wp2_with fail
  refine (HI.out _).mono ?_
  rintro e w2 ⟨rfl, b2⟩
  have k0 := cell_later b2 k0
  have k1 := cell_later b2 k1
  have k2 := cell_later b2 k2
  have z2 : w.heap.size < w2.heap.size := Nat.lt_of_lt_of_le z1 b2.size
  have HA2 := Lib.hid (below_nx HA1.out b2)
  go_wp2_with fail
  refine (HI2.out _).mono ?_
  rintro e w3 ⟨rfl, b3⟩
  have k0 := cell_later b3 k0
  have k1 := cell_later b3 k1
  have k2 := cell_later b3 k2
  have z3 : w.heap.size < w3.heap.size := Nat.lt_of_lt_of_le z2 b3.size
  have HA3 := Lib.hid (below_nx HA2.out b3)
  clear b1 b2 b3 z0 z1 z2 HA HA1 HA2
  go_wp2
  go_loopw [8, 23] (fun _ i wr => ∃ k : Nat, k ≤ 2 * n ∧ i = .int .i64 k ∧ (0 < k → R = true) ∧ Below w3.heap.size w3 wr) (fun _ i _ => 2 * n - (intOf i).toNat)
  case atStart => exact ⟨0, Nat.zero_le _, rfl, fun h => absurd h (by omega), Below.refl _ _⟩
  case round =>
    obtain ⟨k, hk', rfl, hall, hB⟩ := hrel
    have HB := Lib.hid hB
    have HL := Lib.hid hall
    have c0 := (hB.cell (p := ⟨w.heap.size, 0, none⟩) z3).trans k0
    have c1 := (hB.cell (p := ⟨w.heap.size, 1, none⟩) z3).trans k1
    have c2 := (hB.cell (p := ⟨w.heap.size, 2, none⟩) z3).trans k2
    clear hB k0 k1 k2 hall
    by_cases hlt : k < 2 * n
    · have HFk := Lib.hid (HF.out k hlt)
      have HFk2 := Lib.hid (HF2.out k hlt)
      have HSk := Lib.hid (HS.out k hlt)
      clear HF HF2 HS
      generalize walkN n a b k (bsN s) = x at HFk HSk
      generalize walkN n a b k (bsN u) = y at HFk2 HSk
      go_wp2_with fail
      refine region_calm hmx (by kernel_rfl) ?_
      intro S hSn f hS1 hS2
      have l0 : ∀ z, (f z).cell? ⟨w.heap.size, 0, none⟩ = some (.int .i64 n) := fun z => cell_later (hS1 z) c0
      have l1 : ∀ z, (f z).cell? ⟨w.heap.size, 1, none⟩ = some (.int .i64 a) := fun z => cell_later (hS1 z) c1
      have l2 : ∀ z, (f z).cell? ⟨w.heap.size, 2, none⟩ = some (.int .i64 b) := fun z => cell_later (hS1 z) c2
      have hC1 := Lib.hid (calm_call hS1 hS2 (fun z => HFk.out (f z)))
      have hC2 := Lib.hid (calm_call hS1 hS2 (fun z => HFk2.out (f z)))
      iterate 4 (go_big_quiet_step (exact hC1.out _))
      repeat (go_big_quiet_step (exact hC2.out _))
      refine wpQuiet_nil ?_
      rintro _ ⟨z, rfl⟩
      have hbs := hS1 z
      generalize f z = w4 at hbs
      clear l0 l1 l2 hC1 hC2 hS1 hS2
      try dsimp only [Exit.then]
      by_cases e : x = y
      · have HR := Lib.hid (HSk.out.1 e)
        have q : ((x : Int) != y) = false := by rw [bne_eq_false_iff_eq]; omega
        clear e
        go_wp2
        go_roundw
        case rel => exact ⟨k + 1, by omega, by go_num, fun _ => HR.out, HB.out.trans (hbs.mono HB.out.size)⟩
        case measure => simp [intOf]; omega
      · have HR := Lib.hid (show R = false by cases R; rfl; exact absurd (HSk.out.2 rfl) e)
        have q : ((x : Int) != y) = true := by rw [bne_iff_ne]; omega
        clear e
        go_wp2
        go_ret2
        exact ⟨by rw [HR.out]; rfl, HA3.out.trans ((HB.out.trans (hbs.mono HB.out.size)).mono HA3.out.size)⟩
    · have HR := Lib.hid (HL.out (by omega))
      go_wp2
      go_ret2
      exact ⟨by rw [HR.out]; rfl, HA3.out.trans (HB.out.mono HA3.out.size)⟩

/-- A walk, so many times. -/
def iterW (n a b : Nat) (l : List Nat) : Nat → Nat
  | 0 => 0
  | k + 1 => walkN n a b (iterW n a b l k) l

/-- After how many times it first leads back. -/
def OrdW (n a b : Nat) (l : List Nat) (K : Nat) : Prop := 1 ≤ K ∧ K ≤ n ∧ iterW n a b l K = 0 ∧ ∀ j, 1 ≤ j → j < K → iterW n a b l j ≠ 0

theorem iterW_lt {n a b : Nat} (hk : KOk n a b) (l : List Nat) : ∀ k, iterW n a b l k < 2 * n
  | 0 => by have := hk.pos; show 0 < _; omega
  | k + 1 => walk_lt hk _ _ (iterW_lt hk l k)

theorem iterW_even {n a b : Nat} (hk : KOk n a b) {l : List Nat} (h : oddL l = false) : ∀ k, iterW n a b l k = tri n false (k * disp a b l)
  | 0 => by show 0 = _; unfold tri; simp
  | k + 1 => by
    show walkN n a b (iterW n a b l k) l = _
    rw [iterW_even hk h k, tri_walk hk, h]
    simp only [Bool.false_eq_true, if_false, Bool.xor_false]
    congr 1
    have : ((k + 1 : Nat) : Int) = (k : Int) + 1 := by omega
    rw [this, Int.add_mul, Int.one_mul]

theorem least_of (P : Nat → Prop) [DecidablePred P] : ∀ m, P m → 1 ≤ m → ∃ K, 1 ≤ K ∧ K ≤ m ∧ P K ∧ ∀ j, 1 ≤ j → j < K → ¬ P j := by
  intro m hm h1
  induction m using Nat.strongRecOn with
  | _ m ih =>
    by_cases h : ∃ j, j < m ∧ 1 ≤ j ∧ P j
    · obtain ⟨j, hj, hj1, hp⟩ := h
      obtain ⟨K, a1, a2, a3, a4⟩ := ih j hj hp hj1
      exact ⟨K, a1, by omega, a3, a4⟩
    · exact ⟨m, h1, Nat.le_refl _, hm, fun j hj1 hj hp => h ⟨j, hj, hj1, hp⟩⟩

theorem walk_odd_ne {n a b : Nat} (hk : KOk n a b) {l : List Nat} (h : oddL l = true) {t : Nat} (ht : t < 2 * n) : walkN n a b t l ≠ t := by
  intro e
  have e' := e
  rw [tri_of ht, tri_walk hk, h, tri_inj hk.pos] at e'
  have := e'.1
  generalize decide (n ≤ t) = d at this
  cases d <;> simp at this

theorem walk_odd_twice {n a b : Nat} (hk : KOk n a b) {l : List Nat} (h : oddL l = true) {t : Nat} (ht : t < 2 * n) : walkN n a b (walkN n a b t l) l = t := by
  rw [tri_of ht, tri_walk hk, tri_walk hk, h]
  rw [tri_inj hk.pos]
  generalize decide (n ≤ t) = d
  cases d <;> simp

theorem ordW_exists {n a b : Nat} (hk : KOk n a b) (l : List Nat) : ∃ K, OrdW n a b l K ∧ (oddL l = true → K = 2) ∧ (K = 1 ↔ walkN n a b 0 l = 0) := by
  have hn := hk.h6
  have hp := hk.pos
  cases h : oddL l
  · have e : iterW n a b l n = 0 := by
      rw [iterW_even hk h]
      unfold tri
      simp
    obtain ⟨K, a1, a2, a3, a4⟩ := least_of (fun k => iterW n a b l k = 0) n e (by omega)
    refine ⟨K, ⟨a1, a2, a3, a4⟩, (fun h' => by cases h'), ?_⟩
    constructor
    · intro e; subst e; exact a3
    · intro e
      by_cases h1 : K = 1
      · exact h1
      · exact absurd e (a4 1 (Nat.le_refl _) (by omega))
  · refine ⟨2, ⟨by omega, by omega, walk_odd_twice hk h (t := 0) (by omega), ?_⟩, fun _ => rfl, ?_⟩
    · intro j hj1 hj
      obtain rfl : j = 1 := by omega
      exact walk_odd_ne hk h (t := 0) (by omega)
    · constructor
      · intro e; cases e
      · intro e; exact absurd e (walk_odd_ne hk h (t := 0) (by omega))

set_option maxHeartbeats 2000000 in
theorem Order_ok (n a b : Nat) (hk : KOk n a b) (s : ByteArray) (hs : s.size ≤ maxLen) (hfs : walkB s = true) (K : Nat) (hK : OrdW n a b (bsN s) K) (w : World) :
    Calls Try.prog 31 #[kv n a b, .string s] w fun e w' => e = .returned (.tuple #[.int .i64 K, .int .i64 0]) ∧ Below w.heap.size w w' := by
  have h1 := hk.h16
  have h0 := hk.h6
  have HV := Lib.hid (valid0 n a b (laid0 w n a b))
  rw [kindB_of_nat hk] at HV
  have HA := Lib.hid (below_laid0 w n a b)
  have HI := Lib.hid (isWalk_any s hs)
  rw [hfs] at HI
  have HF := Lib.hid (fun t ht => follow_any n a b t hk ht s hs (walkB_let hfs).1)
  have HT := Lib.hid (fun k => iterW_lt hk (bsN s) k)
  have k0 : (laid0 w n a b).cell? ⟨w.heap.size, 0, none⟩ = some (.int .i64 n) := by simp
  have k1 : (laid0 w n a b).cell? ⟨w.heap.size, 1, none⟩ = some (.int .i64 a) := by simp
  have k2 : (laid0 w n a b).cell? ⟨w.heap.size, 2, none⟩ = some (.int .i64 b) := by simp
  have z0 : w.heap.size < (laid0 w n a b).heap.size := by simp
  obtain ⟨K1, K2, K3, K4⟩ := hK
  have HK3 := Lib.hid K3
  have HK4 := Lib.hid K4
  have HF0 := Lib.hid (HF.out 0 (by omega))
  have HE : Hid (walkN n a b 0 (bsN s) = iterW n a b (bsN s) 1) := Lib.hid rfl
  rw [HE.out] at HF0
  clear hfs K3 K4 HE
  go_enter Try.func31, Try.ntmps31
  go_wp2_with fail
  refine HV.out.mono ?_
  rintro e w1 ⟨rfl, b1⟩
  have k0 := cell_later b1 k0
  have k1 := cell_later b1 k1
  have k2 := cell_later b1 k2
  have z1 : w.heap.size < w1.heap.size := Nat.lt_of_lt_of_le z0 b1.size
  have HA1 := Lib.hid (below_nx HA.out b1)
  go_wp2_with fail
  refine (HI.out _).mono ?_
  rintro e w2 ⟨rfl, b2⟩
  have k0 := cell_later b2 k0
  have k1 := cell_later b2 k1
  have k2 := cell_later b2 k2
  have z2 : w.heap.size < w2.heap.size := Nat.lt_of_lt_of_le z1 b2.size
  have HA2 := Lib.hid (below_nx HA1.out b2)
  go_wp2_with fail
  refine (HF0.out _).mono ?_
  rintro e w3 ⟨rfl, b3⟩
  have k0 := cell_later b3 k0
  have k1 := cell_later b3 k1
  have k2 := cell_later b3 k2
  have z3 : w.heap.size < w3.heap.size := Nat.lt_of_lt_of_le z2 b3.size
  have HA3 := Lib.hid (below_nx HA2.out b3)
  clear b1 b2 b3 z0 z1 z2 HA HA1 HA2
  go_wp2
  go_loopw [6, 7] (fun i u wr => ∃ k : Nat, 1 ≤ k ∧ k ≤ K ∧ i = .int .i64 k ∧ u = .int .i64 (iterW n a b (bsN s) k : Nat) ∧ Below w3.heap.size w3 wr) (fun i _ _ => K - (intOf i).toNat)
  case atStart => exact ⟨1, Nat.le_refl _, K1, rfl, rfl, Below.refl _ _⟩
  case round =>
    obtain ⟨k, hk1, hk', rfl, rfl, hB⟩ := hrel
    have HB := Lib.hid hB
    have c0 := (hB.cell (p := ⟨w.heap.size, 0, none⟩) z3).trans k0
    have c1 := (hB.cell (p := ⟨w.heap.size, 1, none⟩) z3).trans k1
    have c2 := (hB.cell (p := ⟨w.heap.size, 2, none⟩) z3).trans k2
    clear hB k0 k1 k2
    by_cases hlt : k < K
    · have hne := HK4.out k hk1 hlt
      have HFk := Lib.hid (HF.out _ (HT.out k))
      have HE : Hid (iterW n a b (bsN s) (k + 1) = walkN n a b (iterW n a b (bsN s) k) (bsN s)) := Lib.hid rfl
      generalize iterW n a b (bsN s) k = x at HFk HE hne
      have q : ((x : Int) != 0) = true := by rw [bne_iff_ne]; omega
      clear hne
      go_wp2_with fail
      refine (HFk.out _).mono ?_
      rintro e w4 ⟨rfl, b4⟩
      go_wp2
      go_roundw
      case rel => exact ⟨k + 1, by omega, by omega, by go_num, by rw [HE.out], HB.out.trans (b4.mono HB.out.size)⟩
      case measure => simp [intOf]; omega
    · have HkK : Hid (k = K) := Lib.hid (by omega)
      have hz : ((iterW n a b (bsN s) k : Nat) : Int) = 0 := by rw [HkK.out, HK3.out]; rfl
      rw [hz]
      clear hz
      go_wp2
      go_ret2
      exact ⟨by rw [← HkK.out]; rfl, HA3.out.trans (HB.out.mono HA3.out.size)⟩
end Go.Proofs.Ytibkhjbcagihbaa

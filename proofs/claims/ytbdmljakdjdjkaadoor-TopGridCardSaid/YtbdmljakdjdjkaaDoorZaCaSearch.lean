/-
  The closure that enters voice after voice: its contract, whatever the loop's body does.
-/
import Derived.Test.YtbdmljakdjdjkaaDoorZaLeafA
import Derived.Test.YtbdmljakdjdjkaaDoorCaPart
import Derived.Test.YtbdmljakdjdjkaaDoorSep
import Derived.Test.YtbdmljakdjdjkaaDoorZaCaTilesLaw
namespace Go.Proofs.YtbdmljakdjdjkaaDoor.Za
open Go.RowKit Go.Shelf
attribute [local go_sem] Oper.semAt_some
set_option maxRecDepth 100000

/-- The complement of what is filled. -/
theorem xor_max (x : Nat) (h : x < 2 ^ 64) : bits .xor .u64 IntKind.u64.max (x : Int) = ((2 ^ 64 - 1 - x : Nat) : Int) := by
  have hm : IntKind.u64.max = ((2 ^ 64 - 1 : Nat) : Int) := by decide
  have h1 : (2 ^ 64 - 1 : Nat) < 2 ^ IntKind.u64.bits := by decide
  have h2 : x < 2 ^ IntKind.u64.bits := by simpa [IntKind.bits] using h
  have e : (2 ^ 64 - 1) ^^^ x = 2 ^ 64 - 1 - x := by
    apply Nat.eq_of_testBit_eq
    intro i
    rw [Nat.testBit_xor, Nat.testBit_two_pow_sub_one, show 2 ^ 64 - 1 - x = 2 ^ 64 - (x + 1) from by omega, Nat.testBit_two_pow_sub_succ h]
    by_cases hi : i < 64
    · simp [hi]
    · rw [Nat.testBit_lt_two_pow (Nat.lt_of_lt_of_le h (Nat.pow_le_pow_right (by omega) (show 64 ≤ i by omega)))]; simp [hi]
  simp only [bits]
  rw [BitVec.toNat_xor, hm, ofInt_nat _ _ h1, ofInt_nat x _ h2, e]
  exact wrap_natu _ (by omega)

/-- What the closure's boxes hold. -/
structure Boxes (n a nB aB yB eB l : Nat) (W : World) : Prop where
  n : W.cell? ⟨nB, 0, none⟩ = some (.int .i64 n)
  a : W.cell? ⟨aB, 0, none⟩ = some (.int .i64 a)
  y : W.cell? ⟨yB, 0, none⟩ = some (.func (.yield l) #[] #[])
  e : W.cell? ⟨eB, 0, none⟩ = some (.func (.func 37) #[] #[.pointer (some ⟨nB, 0, none⟩), .pointer (some ⟨yB, 0, none⟩), .pointer (some ⟨aB, 0, none⟩), .pointer (some ⟨eB, 0, none⟩)])

theorem Boxes.kept {n a nB aB yB eB l : Nat} {S Z : Nat → Prop} {W W' : World} (h : Boxes n a nB aB yB eB l W) (hS : KeptOn S W W') (hZ : KeptOn Z W W') (h1 : S nB) (h2 : S aB) (h3 : Z yB) (h4 : Z eB) : Boxes n a nB aB yB eB l W' :=
  ⟨(hS.cell (p := ⟨nB, 0, none⟩) h1).trans h.n, (hS.cell (p := ⟨aB, 0, none⟩) h2).trans h.a, (hZ.cell (p := ⟨yB, 0, none⟩) h3).trans h.y, (hZ.cell (p := ⟨eB, 0, none⟩) h4).trans h.e⟩
theorem Boxes.later {n a nB aB yB eB l : Nat} {W W' : World} (h : Boxes n a nB aB yB eB l W) (hb : Below W.heap.size W W') : Boxes n a nB aB yB eB l W' :=
  ⟨cell_later hb h.n, cell_later hb h.a, cell_later hb h.y, cell_later hb h.e⟩

/-- How a call of the closure ends. -/
def Ends (J Jx : List Nat → (Nat → Prop) → World → Prop) (pre : List Nat) (Z : Nat → Prop) (W : World) (all : List Nat) (e : Ending) (W' : World) : Prop :=
  ∃ Z' : Nat → Prop, (∀ k, Z k → Z' k) ∧ (∀ k, Z' k → k < W'.heap.size) ∧ (∀ k, Z' k → Z k ∨ W.heap.size ≤ k) ∧
    ((e = .returned (.bool true) ∧ J (pre ++ all) Z' W') ∨ (e = .returned (.bool false) ∧ ∃ p q, all = p ++ q ∧ Jx (pre ++ p) Z' W'))

theorem pow_wraps {n : Nat} (hn2 : n ≤ 24) : IntKind.i64.wrap ((2 : Int) ^ n - 1) = 2 ^ n - 1 ∧ IntKind.i64.wrap ((2 : Int) ^ n) = 2 ^ n := by
  have hpw := pow_bd (n : Int) (by omega) (by omega)
  simp only [Int.toNat_natCast] at hpw
  exact ⟨IntWalk.i64_in _ (by omega), IntWalk.i64_in _ (by omega)⟩

/-- The three boxes that a call lays first. -/
structure Laid (b filled H : Nat) (W W3 : World) (Z Z3 : Nat → Prop) : Prop where
  hs : W.heap.size = H
  hs3 : W3.heap.size = H + 3
  below : Below W.heap.size W W3
  k0 : W3.cell? ⟨H, 0, none⟩ = some (.int .i64 b)
  k1 : W3.cell? ⟨H + 1, 0, none⟩ = some (.int .i64 filled)
  k2 : W3.cell? ⟨H + 1 + 1, 0, none⟩ = some (.bool false)
  f2 : W3.frozen? ⟨H + 1 + 1, 0, none⟩ = false
  z : Z3 = fun k => ((Z k ∨ k = H) ∨ k = H + 1) ∨ k = H + 1 + 1

theorem Laid.of (b filled : Nat) (W : World) (Z : Nat → Prop) : Laid b filled W.heap.size W (((W.alloc (.cells #[.int .i64 b] 3)).alloc (.cells #[.int .i64 filled] 3)).alloc (.cells #[.bool false] 4)) Z (fun k => ((Z k ∨ k = W.heap.size) ∨ k = W.heap.size + 1) ∨ k = W.heap.size + 1 + 1) :=
  { hs := rfl
    hs3 := by simp
    below := (((Below.refl _ W).alloc (Nat.le_refl _) _).alloc (by simp) _).alloc (by simp; omega) _
    k0 := cell_up (cell_up (cell_at rfl))
    k1 := cell_up (cell_at (by simp))
    k2 := cell_at (by simp)
    f2 := frozen_at (by simp)
    z := rfl }
theorem Laid.take {b filled H B0 : Nat} {W : World} {Z : Nat → Prop} {J : List Nat → (Nat → Prop) → World → Prop} {pre : List Nat} (hJ : Sep B0 J) (hH : W.heap.size = H) (hj : J pre Z W) :
    J pre (fun k => ((Z k ∨ k = H) ∨ k = H + 1) ∨ k = H + 1 + 1) (((W.alloc (.cells #[.int .i64 b] 3)).alloc (.cells #[.int .i64 filled] 3)).alloc (.cells #[.bool false] 4)) := by
  have j1 := hJ.take _ _ _ (.cells #[.int .i64 b] 3) hj
  have j2 := hJ.take _ _ _ (.cells #[.int .i64 filled] 3) j1
  have j3 := hJ.take _ _ _ (.cells #[.bool false] 4) j2
  simp only [World.size_alloc, hH] at j3
  exact j3
theorem Laid.sub {b filled H : Nat} {W W3 : World} {Z Z3 : Nat → Prop} (h : Laid b filled H W W3 Z Z3) : ∀ k, Z k → Z3 k := fun k hk => by rw [h.z]; exact Or.inl (Or.inl (Or.inl hk))
theorem Laid.lt {b filled H : Nat} {W W3 : World} {Z Z3 : Nat → Prop} (h : Laid b filled H W W3 Z Z3) (hZ : ∀ k, Z k → k < W.heap.size) : ∀ k, Z3 k → k < W3.heap.size := fun k hk => by
  have h1 := h.hs; have h2 := h.hs3
  rw [h.z] at hk
  rcases hk with ((hk | rfl) | rfl) | rfl
  · have := hZ k hk; omega
  · omega
  · omega
  · omega
theorem Laid.new {b filled H : Nat} {W W3 : World} {Z Z3 : Nat → Prop} (h : Laid b filled H W W3 Z Z3) : ∀ k, Z3 k → Z k ∨ W.heap.size ≤ k := fun k hk => by
  have h1 := h.hs
  rw [h.z] at hk
  rcases hk with ((hk | rfl) | rfl) | rfl
  · exact Or.inl hk
  · exact Or.inr (by omega)
  · exact Or.inr (by omega)
  · exact Or.inr (by omega)

section
variable (n a nB aB yB eB l B0 N : Nat) (S : Nat → Prop) (J Jx : List Nat → (Nat → Prop) → World → Prop)

set_option maxHeartbeats 2000000 in
theorem enter_full (hn : 2 ≤ n) (hn2 : n ≤ 24) (hSn : S nB) (hS0 : ∀ k, S k → k < B0) (hJ : Sep B0 J) (hJx : Sep B0 Jx)
    (hY : YieldSep Tryd.prog l (fun x : Nat => #[.int .i64 (x : Int)]) (KeptOn S) J Jx N) (b filled : Nat) (hfull : filled = 2 ^ n - 1) (pre : List Nat) (Z : Nat → Prop) (W : World) (hN : pre.length < N) (hB0 : B0 ≤ W.heap.size)
    (hbx : Boxes n a nB aB yB eB l W) (hZl : ∀ k, Z k → k < W.heap.size) (hj : J pre Z W) :
    Calls Tryd.prog 37 #[.int .i64 b, .int .i64 filled, .pointer (some ⟨nB, 0, none⟩), .pointer (some ⟨yB, 0, none⟩), .pointer (some ⟨aB, 0, none⟩), .pointer (some ⟨eB, 0, none⟩)] W fun e W' =>
      KeepsBut l W W' ∧ KeptOn Z W W' ∧ KeptOn S W W' ∧ Ends J Jx pre Z W [b] e W' := by
  obtain ⟨hpw1, hpw2⟩ := pow_wraps hn2
  obtain ⟨H, hH⟩ : ∃ H, W.heap.size = H := ⟨_, rfl⟩
  have hL0 := Laid.of b filled W Z
  have hj0 := Laid.take (b := b) (filled := filled) hJ hH hj
  rw [hH] at hL0
  obtain ⟨Z3, hZ3⟩ : ∃ Z3 : Nat → Prop, (fun k => ((Z k ∨ k = H) ∨ k = H + 1) ∨ k = H + 1 + 1) = Z3 := ⟨_, rfl⟩
  obtain ⟨W3, hW3⟩ : ∃ W3, (((W.alloc (.cells #[.int .i64 b] 3)).alloc (.cells #[.int .i64 filled] 3)).alloc (.cells #[.bool false] 4)) = W3 := ⟨_, rfl⟩
  rw [hZ3, hW3] at hL0 hj0
  have HL := Lib.hid hL0
  have hbx3 := hbx.later hL0.below
  have q1 := hbx3.n
  have q2 := hbx3.y
  have k0 := hL0.k0
  have k1 := hL0.k1
  have h2n := two_pow_sub n
  have q0 : ((filled : Int) == (2 : Int) ^ n - 1) = true := by rw [beq_iff_eq, h2n, hfull]
  have HH := Lib.hid hH
  refine (callsIn_wide (n := 9)).1 ?_
  refine callsIn_of_wp_marks Tryd.func37 rfl trivial ?_ rfl
  simp only [Tryd.ntmps37, List.size_toArray, List.length_cons, List.length_nil, Nat.reduceAdd, Nat.reduceSub, Array.replicate_succ, Array.replicate_zero, List.push_toArray, List.append_toArray, List.nil_append, List.cons_append]
  clear h2n hfull hbx hL0
  gi_wp2
  clear hW3 hH hZ3
  refine wpIn_wide.2 ?_
  go_quiet (fail)
  obtain ⟨fn, tmps, assign, body, hy, hR⟩ := hY pre b Z3 (W3.drewN nq) (hJ.drewN hj0 nq) hN 8
  dsimp only at hy
  have HR := Lib.hid hR
  have HJ0 := Lib.hid hj0
  clear hR hj0
  gi_wp2
  refine (roundIn_wide HR.out).mono ?_
  have hz2 : Z3 (H + 1 + 1) := by rw [HL.out.z]; exact Or.inr rfl
  have k2 : (W3.drewN nq).cell? ⟨H + 1 + 1, 0, none⟩ = some (.bool false) := HL.out.k2
  have f2 : (W3.drewN nq).frozen? ⟨H + 1 + 1, 0, none⟩ = false := HL.out.f2
  have hsz := HL.out.hs3
  have hzlt := HL.out.lt hZl
  have keepS : KeptOn S W W3 := (KeptOn.refl _ _).below HL.out.below (fun k hk => by have := hS0 k hk; omega)
  have keepZ : KeptOn Z W W3 := (KeptOn.refl _ _).below HL.out.below hZl
  have keepB : KeepsBut l W W3 := KeepsBut.below HL.out.below (Nat.le_refl _)
  rintro e W4 ⟨kb, kz, kp, (⟨rfl, hj4⟩ | ⟨rfl, hj4⟩)⟩
  · have c4 := (kz.cell (p := ⟨H + 1 + 1, 0, none⟩) hz2).trans k2
    have f4 := (kz.frozen (p := ⟨H + 1 + 1, 0, none⟩) hz2).trans f2
    have c5 := cell_set_same (u := .bool true) c4
    have HJ4 := Lib.hid hj4
    clear hj4 hy
    gi_wp2
    refine ⟨.bool true, by simp [results, Tryd.f37, go_sem, c5], ?_⟩
    have hnz : ¬ Z (H + 1 + 1) := fun h => by have := hZl _ h; have := HL.out.hs; omega
    have hns : ¬ S (H + 1 + 1) := fun h => by have := hS0 _ h; have := HL.out.hs; omega
    refine ⟨((keepB.trans (KeepsBut.drewN _ nq)).trans kb).trans (KeepsBut.setCell _ _ _), ((keepZ.drewN nq).trans ⟨kz.size, fun k hk => kz.block k (HL.out.sub k hk)⟩).setCell (p := ⟨H + 1 + 1, 0, none⟩) hnz _, ((keepS.drewN nq).trans kp).setCell (p := ⟨H + 1 + 1, 0, none⟩) hns _, Z3, HL.out.sub, fun k hk => ?_, HL.out.new, ?_⟩
    · have h1 := hzlt k hk; have h2 := kz.size
      have h3 : (W3.drewN nq).heap.size = W3.heap.size := rfl
      have h4 : (W4.setCell ⟨H + 1 + 1, 0, none⟩ (.bool true)).heap.size = W4.heap.size := by simp [World.setCell]
      omega
    · exact Or.inl ⟨rfl, hJ.priv _ _ _ _ _ _ HJ4.out hz2⟩
  · have c4 := (kz.cell (p := ⟨H + 1 + 1, 0, none⟩) hz2).trans k2
    have f4 := (kz.frozen (p := ⟨H + 1 + 1, 0, none⟩) hz2).trans f2
    have c5 := cell_set_same (u := .bool false) c4
    have HJ4 := Lib.hid hj4
    clear hj4 hy
    gi_wp2
    refine ⟨.bool false, by simp [results, Tryd.f37, go_sem, c5], ?_⟩
    have hnz : ¬ Z (H + 1 + 1) := fun h => by have := hZl _ h; have := HL.out.hs; omega
    have hns : ¬ S (H + 1 + 1) := fun h => by have := hS0 _ h; have := HL.out.hs; omega
    refine ⟨((keepB.trans (KeepsBut.drewN _ nq)).trans kb).trans (KeepsBut.setCell _ _ _), ((keepZ.drewN nq).trans ⟨kz.size, fun k hk => kz.block k (HL.out.sub k hk)⟩).setCell (p := ⟨H + 1 + 1, 0, none⟩) hnz _, ((keepS.drewN nq).trans kp).setCell (p := ⟨H + 1 + 1, 0, none⟩) hns _, Z3, HL.out.sub, fun k hk => ?_, HL.out.new, ?_⟩
    · have h1 := hzlt k hk; have h2 := kz.size
      have h3 : (W3.drewN nq).heap.size = W3.heap.size := rfl
      have h4 : (W4.setCell ⟨H + 1 + 1, 0, none⟩ (.bool false)).heap.size = W4.heap.size := by simp [World.setCell]
      omega
    · exact Or.inr ⟨rfl, [b], [], rfl, hJx.priv _ _ _ _ _ _ HJ4.out hz2⟩
end

end Go.Proofs.YtbdmljakdjdjkaaDoor.Za

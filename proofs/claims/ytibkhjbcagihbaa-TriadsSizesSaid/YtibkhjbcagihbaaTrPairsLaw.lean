/-
  The statement on rounds by two steps.
-/
import Derived.Test.YtibkhjbcagihbaaTrOrbit
import Derived.Test.YtibkhjbcagihbaaTrRound
namespace Go.Proofs.Ytibkhjbcagihbaa
open Go.ChangeShapes Go.WideShapes Go.ChangeAt Go.RowKit Go.Shelf
set_option maxRecDepth 100000

/-! ### the common divisor -/
theorem gcd_any (a b : Nat) (ha : a < 2 ^ 40) (hb : b < 2 ^ 40) (w : World) :
    Calls Try.prog 45 #[.int .i64 a, .int .i64 b] w fun e w' => e = .returned (.int .i64 (Nat.gcd a b : Nat)) ∧ Below w.heap.size w w' := by
  obtain ⟨G, hG⟩ : ∃ G, Nat.gcd a b = G := ⟨_, rfl⟩
  rw [hG]
  go_enter Try.func45, Try.ntmps45
  go_wp2
  go_loopw [0, 1] (fun u v wr => ∃ x y m : Nat, x < 2 ^ 40 ∧ y < 2 ^ 40 ∧ u = .int .i64 x ∧ v = .int .i64 y ∧ Nat.gcd x y = G ∧ wr = w.drewN m) (fun _ v _ => (intOf v).toNat)
  case atStart => exact ⟨a, b, 0, ha, hb, rfl, rfl, hG, rfl⟩
  case round =>
    obtain ⟨x, y, m, hx, hy, rfl, rfl, hg, rfl⟩ := hrel
    have HG := Lib.hid hg
    clear hg hG
    by_cases h0 : y = 0
    · have HE := Lib.hid (show x = G by rw [← HG.out, h0, Nat.gcd_zero_right])
      subst h0
      go_wp2
      go_ret
      exact ⟨ret_int (by rw [HE.out]), below_drewN (Below.refl _ _) _⟩
    · have q : ((y : Int) == 0) = false := by rw [beq_eq_false_iff_ne]; omega
      have q2 : ((y : Int) != 0) = true := by rw [bne_iff_ne]; omega
      have hlt := Lib.hid (show x % y < y from Nat.mod_lt _ (by omega))
      have HG2 := Lib.hid (show Nat.gcd y (x % y) = G by rw [← HG.out, Nat.gcd_comm x y]; exact (Nat.gcd_rec y x).symm ▸ (Nat.gcd_comm (x % y) y ▸ rfl))
      have hy2 := Lib.hid hy
      obtain ⟨W, hW⟩ : ∃ W, w.drewN m = W := ⟨_, rfl⟩
      rw [hW]
      have HW := Lib.hid hW
      clear hW
      go_wp2
      go_quiet (fail)
      go_wp2
      go_roundw
      case rel => exact ⟨y, x % y, m + nq, hy2.out, by have := hlt.out; have := hy2.out; omega, rfl, by simp, HG2.out, by rw [← HW.out, World.drewN_drewN]⟩
      case measure =>
        have h1 := hlt.out
        have h2 : (x : Int) % y = ((x % y : Nat) : Int) := by simp
        simp only [intOf]
        rw [h2]; omega

/-! ### IsSorted -/
theorem isNaN_any (x : Int) (w : World) : Calls Try.prog 81 #[.int .i64 x] w fun e w' => e = .returned (.bool false) ∧ w = w' :=
  (Try.cmp_isNaN_int x w).mono fun e w' h => ⟨h.1, h.2.symm⟩
theorem Less_any (x y : Int) (w : World) : Calls Try.prog 66 #[.int .i64 x, .int .i64 y] w fun e w' => e = .returned (.bool (decide (x < y))) ∧ w = w' := by
  have HN := Lib.hid (isNaN_any x)
  go_enter Try.func66, Try.ntmps66
  go_wp2_with fail
  refine (HN.out _).mono ?_
  rintro e w1 ⟨rfl, rfl⟩
  go_wp2
  go_ret
  exact ⟨rfl, rfl⟩

theorem IsSorted_any (g cap : Nat) (xs : List Nat) (hl : xs.length ≤ 4096) (h1 : 1 ≤ xs.length) (hs : ∀ i, i + 1 < xs.length → xs[i]?.getD 0 ≤ xs[i + 1]?.getD 0) (w : World) (hc : ∀ i, i < xs.length → w.cell? ⟨g, i, none⟩ = some (.int .i64 ((xs[i]?.getD 0 : Nat) : Int))) :
    Calls Try.prog 46 #[.slice (some ⟨g, 0, none⟩) xs.length cap] w fun e w' => e = .returned (.bool true) ∧ ∃ m, w' = w.drewN m := by
  have HL := Lib.hid (fun x y w => Less_any x y w)
  obtain ⟨K, hK⟩ : ∃ K, xs.length = K := ⟨_, rfl⟩
  rw [hK] at hl h1 hs hc ⊢
  have HS := Lib.hid hs
  have HC := Lib.hid hc
  clear hs hc hK
  go_enter Try.func46, Try.ntmps46
  go_wp2
  go_loopw [3] (fun v wr => ∃ i m : Nat, i < K ∧ v = .int .i64 i ∧ wr = w.drewN m) (fun v _ => (intOf v).toNat)
  case atStart => exact ⟨K - 1, 0, by omega, by go_num, rfl⟩
  case round =>
    obtain ⟨i, m, hi, rfl, rfl⟩ := hrel
    by_cases h0 : 0 < i
    · obtain ⟨j, hij⟩ : ∃ j, i = j + 1 := ⟨i - 1, by omega⟩
      have c1 := HC.out i hi
      have hj : j < K := by omega
      have c2 := HC.out j hj
      have hle := HS.out j (by omega)
      rw [← hij] at hle
      have hlt : (decide ((((xs[i]?.getD 0 : Nat) : Int)) < ((xs[j]?.getD 0 : Nat) : Int))) = false := decide_eq_false (by omega)
      generalize xs[i]?.getD 0 = a at c1 hle hlt
      generalize xs[j]?.getD 0 = b at c2 hle hlt
      have e1 : (i : Int) - 1 = (j : Int) := by omega
      obtain ⟨W, hW⟩ : ∃ W, w.drewN m = W := ⟨_, rfl⟩
      have c1' : W.cell? ⟨g, i, none⟩ = some (.int .i64 (a : Nat)) := by rw [← hW]; exact c1
      have c2' : W.cell? ⟨g, j, none⟩ = some (.int .i64 (b : Nat)) := by rw [← hW]; exact c2
      rw [hW]
      have HW := Lib.hid hW
      clear c1 c2 hW
      have hw : IntKind.i64.wrap (j : Int) = j := IntWalk.i64_in _ (by omega)
      have HIJ := Lib.hid hij
      clear hij h0
      have h0 : 0 < i := by have := HIJ.out; omega
      have HL2 := Lib.hid (HL.out a b)
      rw [hlt] at HL2
      clear hlt
      go_wp2
      go_quiet ((go_at_call 66; exact Calls.quiet_of_same ((HL2.out _).mono fun e w' h => ⟨h.1, h.2.symm⟩)))
      go_wp2
      go_roundw
      case rel => exact ⟨j, m + nq, hj, by go_num, by rw [← HW.out, World.drewN_drewN]⟩
      case measure => have := HIJ.out; simp only [intOf]; omega
    · obtain rfl : i = 0 := by omega
      go_wp2
      go_ret
      exact ⟨rfl, m, rfl⟩

/-! ### what Round returns -/
theorem rise_mem {n : Nat} {L : St} {t : Nat} (ht : t < 2 * n) : t ∈ riseL n L ↔ hasK L t = true := by
  unfold riseL
  rw [List.mem_filter, List.mem_range]
  exact ⟨fun h => h.2, fun h => ⟨ht, h⟩⟩
theorem rise_sorted {n : Nat} {L : St} : (riseL n L).Pairwise (· < ·) := by
  unfold riseL
  exact (range_pairwise _).filter _
theorem rise_length {n a b s : Nat} {cs : List Nat} {L : St} (h : BInv n a b s cs L) : (riseL n L).length = L.length := by
  have h1 : (riseL n L).length ≤ (L.map Prod.fst).length := nodup_subset ((rise_sorted (n := n) (L := L)).imp (fun h => Nat.ne_of_lt h)) (fun x hx => by
    unfold riseL at hx
    exact (hasK_iff _ _).1 (List.mem_filter.1 hx).2)
  have h2 : (L.map Prod.fst).length ≤ (riseL n L).length := nodup_subset h.nodup (fun x hx => by
    obtain ⟨p, hp, rfl⟩ := List.mem_map.1 hx
    exact (rise_mem (h.lt p hp)).2 ((hasK_iff _ _).2 hx))
  rw [List.length_map] at h1 h2
  omega
theorem sorted_at {xs : List Nat} (h : xs.Pairwise (· < ·)) : ∀ i, i + 1 < xs.length → xs[i]?.getD 0 ≤ xs[i + 1]?.getD 0 := by
  intro i hi
  rw [List.getElem?_eq_getElem (by omega), List.getElem?_eq_getElem hi]
  exact Nat.le_of_lt (List.pairwise_iff_getElem.1 h i (i + 1) (by omega) hi (by omega))

theorem contains_any (g cap t : Nat) (xs : List Nat) (hl : xs.length ≤ 4096) (ht : t ∈ xs) (w : World) (hc : ∀ i, i < xs.length → w.cell? ⟨g, i, none⟩ = some (.int .i64 ((xs[i]?.getD 0 : Nat) : Int))) :
    Calls Try.prog 47 #[.slice (some ⟨g, 0, none⟩) xs.length cap, .int .i64 t] w fun e w' => e = .returned (.bool true) ∧ w = w' := by
  have e1 : (xs.map (fun (x : Nat) => (x : Int))).length = xs.length := by simp
  have := Try.slices_Contains_int g 0 xs.length cap (xs.map (fun (x : Nat) => (x : Int))) (t : Int) w (by rw [e1]; exact Nat.le_refl _) (by omega) (fun j hj => by
    rw [e1] at hj
    rw [Nat.zero_add, hc j hj, List.getD_eq_getElem?_getD, List.getElem?_map]
    rw [List.getElem?_eq_getElem hj]; rfl)
  refine this.mono ?_
  rintro e w' ⟨rfl, rfl⟩
  refine ⟨ret_bool ?_, rfl⟩
  rw [List.take_of_length_le (by rw [e1]; exact Nat.le_refl _), List.contains_eq_mem, decide_eq_true_eq]
  exact List.mem_map.2 ⟨t, ht, rfl⟩

/-! ### the six pairs -/
def pairS (i : Nat) : ByteArray := if i = 0 then ⟨#[80, 76]⟩ else if i = 1 then ⟨#[80, 82]⟩ else if i = 2 then ⟨#[76, 82]⟩ else if i = 3 then ⟨#[76, 80]⟩ else if i = 4 then ⟨#[82, 80]⟩ else ⟨#[82, 76]⟩
def pairBy (a b i : Nat) : Nat := if i % 3 = 0 then a else if i % 3 = 1 then b - a else b
theorem pair_steps (i : Nat) (h : i < 6) : stepsB (pairS i) = true := by
  have hc : (List.range 6).all (fun i => stepsB (pairS i)) = true := by decide +kernel
  exact List.all_eq_true.1 hc i (List.mem_range.2 h)
theorem pair_size (i : Nat) : (pairS i).size ≤ maxLen := by
  have : (pairS i).size = 2 := by unfold pairS; repeat' split <;> try rfl
  rw [this]; unfold maxLen; omega
theorem pair_len {n a b t : Nat} (hk : KOk n a b) (ht : t < 2 * n) (i : Nat) (h : i < 6) : (riseL n (bfs n a b t (bsN (pairS i)))).length = 2 * n / Nat.gcd n (pairBy a b i) := by
  rw [rise_length (bfs_inv hk ht _).1, bfs_length hk ht]
  have hab := hk.hab
  have h6 : i = 0 ∨ i = 1 ∨ i = 2 ∨ i = 3 ∨ i = 4 ∨ i = 5 := by omega
  have b0 : byL a b 80 = b := rfl
  have b1 : byL a b 76 = a + b := rfl
  have b2 : byL a b 82 = a := rfl
  rcases h6 with rfl | rfl | rfl | rfl | rfl | rfl
  · exact pair_gcd (c := 80) (c' := 76) (d := a) hk (by rw [b0, b1]; omega)
  · exact pair_gcd (c := 80) (c' := 82) (d := b - a) hk (by rw [b0, b2]; omega)
  · exact pair_gcd (c := 76) (c' := 82) (d := b) hk (by rw [b1, b2]; omega)
  · exact pair_gcd (c := 76) (c' := 80) (d := a) hk (by rw [b0, b1]; omega)
  · exact pair_gcd (c := 82) (c' := 80) (d := b - a) hk (by rw [b0, b2]; omega)
  · exact pair_gcd (c := 82) (c' := 76) (d := b) hk (by rw [b1, b2]; omega)
theorem pair_has {n a b t : Nat} (hk : KOk n a b) (ht : t < 2 * n) (cs : List Nat) : t ∈ riseL n (bfs n a b t cs) :=
  (rise_mem ht).2 (bfs_reach hk ht cs [] (by simp))

theorem run_idx3 (x y z : Value) (w : World) : (Instr.index 63 (.agg #[x, y, z]) (.int .i64 0)).run Try.prog w = .ok x w ∧ (Instr.index 63 (.agg #[x, y, z]) (.int .i64 1)).run Try.prog w = .ok y w ∧ (Instr.index 63 (.agg #[x, y, z]) (.int .i64 2)).run Try.prog w = .ok z w := by
  refine ⟨?_, ?_, ?_⟩ <;> simp [Instr.index, run_underlying Try.underlying63, asIntOf, go_sem]

abbrev strs6 : Array Value := #[.string ⟨#[80, 76]⟩, .string ⟨#[80, 82]⟩, .string ⟨#[76, 82]⟩, .string ⟨#[76, 80]⟩, .string ⟨#[82, 80]⟩, .string ⟨#[82, 76]⟩]

set_option maxHeartbeats 1000000 in
theorem TriadsPairs_walk (n a b t : Int) (_ : (Lit.int .i64 n).wf = true) (_ : (Lit.int .i64 a).wf = true) (_ : (Lit.int .i64 b).wf = true) (_ : (Lit.int .i64 t).wf = true) (w : World) :
    Calls Try.prog 12 #[kv n a b, .int .i64 t] w fun e w' => e = .returned (.bool true) ∧ Below w.heap.size w w' := by
  have HO := Lib.hid (Of_any n a b)
  have HAw := Lib.hid awake_any
  obtain ⟨W0, hW0⟩ : ∃ W0, w.alloc (rcells n a b) = W0 := ⟨_, rfl⟩
  have b0 : Below w.heap.size w W0 := by rw [← hW0]; exact (Below.refl _ w).alloc (Nat.le_refl _) _
  have z0 : w.heap.size < W0.heap.size := by rw [← hW0]; simp
  have k0 : W0.cell? ⟨w.heap.size, 0, none⟩ = some (.int .i64 n) := by rw [← hW0]; simp
  have k1 : W0.cell? ⟨w.heap.size, 1, none⟩ = some (.int .i64 a) := by rw [← hW0]; simp
  have k2 : W0.cell? ⟨w.heap.size, 2, none⟩ = some (.int .i64 b) := by rw [← hW0]; simp
  have hW := Lib.hid hW0
  have hsz : (W0.alloc (.cells #[.int .i64 t] 3)).cell? ⟨w.heap.size + 1, 0, none⟩ = some (.int .i64 t) := by
    have : w.heap.size + 1 = W0.heap.size := by rw [← hW0]; simp
    rw [this]; simp
  clear hW0
  cases hb : kindB n a b && triB n t
  · have HR := Lib.hid (Round_bad n a b t ⟨#[80, 76]⟩ (by unfold maxLen; decide) (Or.inl hb))
    have HFc := Lib.hid (fine1 n a b t false hb (w.heap.size + 1) 1 (W0.alloc (.cells #[.int .i64 t] 3)) hsz)
    have c0 := b0.alloc b0.size (.cells #[.int .i64 t] 3)
    have b1 : Below W0.heap.size W0 (W0.alloc (.cells #[.int .i64 t] 3)) := (Below.refl _ W0).alloc (Nat.le_refl _) _
    have k0 := cell_later b1 k0
    have k1 := cell_later b1 k1
    have k2 := cell_later b1 k2
    clear hb b1 hsz
    go_enter Try.func12, Try.ntmps12
    go_wp2_with fail
    rw [hW.out]
    refine HFc.out.mono ?_
    rintro e w1 ⟨rfl, b1⟩
    have c1 := below_nx c0 b1
    have k0 := cell_later b1 k0
    have k1 := cell_later b1 k1
    have k2 := cell_later b1 k2
    go_wp2_with fail
    refine (HO.out _).mono ?_
    rintro e w2 ⟨rfl, b2⟩
    have c2 := below_nx c1 b2
    go_wp2_with fail
    refine (HR.out _).mono ?_
    rintro e w3 ⟨rfl, b3⟩
    have c3 := below_nx c2 b3
    go_wp2_with fail
    refine (HAw.out _).mono ?_
    rintro e w5 ⟨rfl, b5⟩
    go_wp2
    go_ret
    exact ⟨rfl, below_nx c3 b5⟩
  · have hb' := hb
    rw [Bool.and_eq_true] at hb'
    obtain ⟨n, a, b, rfl, rfl, rfl, hk⟩ := kindB_nat hb'.1
    have ht : 0 ≤ t ∧ t < 2 * n := by have := hb'.2; unfold triB at this; exact of_decide_eq_true this
    obtain ⟨t, rfl⟩ := Int.eq_ofNat_of_zero_le ht.1
    have ht : t < 2 * n := by omega
    have h6 := hk.h6
    have h16 := hk.h16
    have hab := hk.hab
    have hbn := hk.hbn
    have HFc := Lib.hid (fine1 n a b t true hb (w.heap.size + 1) 1 (W0.alloc (.cells #[.int .i64 t] 3)) hsz)
    have c0 := b0.alloc b0.size (.cells #[.int .i64 t] 3)
    have b1 : Below W0.heap.size W0 (W0.alloc (.cells #[.int .i64 t] 3)) := (Below.refl _ W0).alloc (Nat.le_refl _) _
    have k0 := cell_later b1 k0
    have k1 := cell_later b1 k1
    have k2 := cell_later b1 k2
    have z1 : w.heap.size < (W0.alloc (.cells #[.int .i64 t] 3)).heap.size := by simp; omega
    have HRd : Hid (∀ i, i < 6 → ∀ w, _) := Lib.hid (fun i hi => Round_ok n a b t hk ht (pairS i) (pair_size i) (pair_steps i hi))
    have HPl : Hid (∀ i, i < 6 → (riseL n (bfs n a b t (bsN (pairS i)))).length = 2 * n / Nat.gcd n (pairBy a b i)) := Lib.hid (fun i hi => pair_len hk ht i hi)
    have HPh := Lib.hid (fun i => pair_has hk ht (bsN (pairS i)))
    have HGc := Lib.hid (fun i => gcd_any n (pairBy a b i) (by omega) (by unfold pairBy; split; omega; split; omega; omega))
    have HPs := Lib.hid (fun i => sorted_at (rise_sorted (n := n) (L := bfs n a b t (bsN (pairS i)))))
    have HG1 : Hid (∀ i, 1 ≤ Nat.gcd n (pairBy a b i) ∧ 2 * n / Nat.gcd n (pairBy a b i) ≤ 32) := Lib.hid (fun i => ⟨Nat.gcd_pos_of_pos_left _ (by omega), Nat.le_trans (Nat.div_le_self _ _) (by omega)⟩)
    have hmx : Try.prog.follows .mixedOrders = true := by kernel_rfl
    clear hb hb' b1 b0 z0 hsz
    go_enter Try.func12, Try.ntmps12
    go_wp2_with fail
    rw [hW.out]
    refine HFc.out.mono ?_
    rintro e w1 ⟨rfl, b1⟩
    have c1 := below_nx c0 b1
    obtain ⟨W1, hW1⟩ : ∃ W1, w1.alloc (.cells strs6 9) = W1 := ⟨_, rfl⟩
    have b2 : Below w1.heap.size w1 W1 := by rw [← hW1]; exact (Below.refl _ w1).alloc (Nat.le_refl _) _
    have c2 := Lib.hid (below_nx c1 b2)
    have z2 : w.heap.size < W1.heap.size := Nat.lt_of_lt_of_le z1 (Nat.le_trans b1.size b2.size)
    have z3 : w1.heap.size < W1.heap.size := by rw [← hW1]; simp
    have k0 := cell_later b2 (cell_later b1 k0)
    have k1 := cell_later b2 (cell_later b1 k1)
    have k2 := cell_later b2 (cell_later b1 k2)
    have s0 : ∀ i, i < 6 → W1.cell? ⟨w1.heap.size, i, none⟩ = some (.string (pairS i)) := by
      intro i hi
      rw [← hW1]
      have h6 : i = 0 ∨ i = 1 ∨ i = 2 ∨ i = 3 ∨ i = 4 ∨ i = 5 := by omega
      rcases h6 with rfl | rfl | rfl | rfl | rfl | rfl <;> simp [pairS]
    have S0 := Lib.hid s0
    have HW1 := Lib.hid hW1
    clear s0 hW1 b1 b2 c0 c1 z1
    go_wp2_with fail
    rw [HW1.out]
    go_loopw [31] (fun i wr => ∃ k : Nat, k ≤ 6 ∧ i = .int .i64 k ∧ Below W1.heap.size W1 wr) (fun i _ => 6 - (intOf i).toNat)
    case atStart => exact ⟨0, Nat.zero_le _, rfl, Below.refl _ _⟩
    case round =>
      obtain ⟨k, hk6, rfl, hB⟩ := hrel
      have HB := Lib.hid hB
      have d0 := (hB.cell (p := ⟨w.heap.size, 0, none⟩) z2).trans k0
      have d1 := (hB.cell (p := ⟨w.heap.size, 1, none⟩) z2).trans k1
      have d2 := (hB.cell (p := ⟨w.heap.size, 2, none⟩) z2).trans k2
      by_cases hlt : k < 6
      · have e0 := (hB.cell (p := ⟨w1.heap.size, k, none⟩) z3).trans (S0.out k hlt)
        have HRk := Lib.hid (HRd.out k hlt)
        have HPk := Lib.hid (HPl.out k hlt)
        have HHk := Lib.hid (HPh.out k)
        have HGk := Lib.hid (HGc.out k)
        have HSk := Lib.hid (HPs.out k)
        have HG1k := Lib.hid (HG1.out k)
        have hbyk : pairBy a b k = if k % 3 = 0 then a else if k % 3 = 1 then b - a else b := rfl
        clear hB k0 k1 k2 HRd HPl HPh HGc HPs HG1
        generalize riseL n (bfs n a b t (bsN (pairS k))) = xs at HRk HPk HHk HSk
        generalize hst : pairS k = st at e0 HRk
        have HE : Hid ((k % 3 = 0 ∧ pairBy a b k = a) ∨ (k % 3 = 1 ∧ pairBy a b k = b - a) ∨ (k % 3 = 2 ∧ pairBy a b k = b)) := Lib.hid (by
          rw [hbyk]
          rcases (show k % 3 = 0 ∨ k % 3 = 1 ∨ k % 3 = 2 by omega) with h | h | h
          · left; exact ⟨h, by rw [if_pos h]⟩
          · right; left; exact ⟨h, by rw [if_neg (by omega), if_pos h]⟩
          · right; right; exact ⟨h, by rw [if_neg (by omega), if_neg (by omega)]⟩)
        clear hbyk hst
        generalize pairBy a b k = by' at HGk HPk HG1k HE
        generalize Nat.gcd n by' = G at HGk HPk HG1k
        obtain ⟨g1, g2⟩ := HG1k.out
        have HLen := HPk.out
        obtain ⟨K, hK⟩ : ∃ K, xs.length = K := ⟨_, rfl⟩
        rw [hK] at HLen HRk
        have hdiv : 2 * (n : Int) / (G : Int) = (K : Int) := by rw [HLen]; simp
        have hK32 : K ≤ 32 := by omega
        have HK := Lib.hid hK
        clear HPk HG1k HLen hK g2
        have hGnz : ((G : Int) == 0) = false := by rw [beq_eq_false_iff_ne]; omega
        go_wp2_with fail
        refine (HO.out _).mono ?_
        rintro e w2 ⟨rfl, b2⟩
        have d0 := cell_later b2 d0
        have d1 := cell_later b2 d1
        have d2 := cell_later b2 d2
        have f2 := HB.out.trans (b2.mono HB.out.size)
        go_wp2_with fail
        refine (HRk.out _).mono ?_
        rintro e w3 ⟨v, rfl, hown, b3⟩
        have d0 := cell_later b3 d0
        have d1 := cell_later b3 d1
        have d2 := cell_later b3 d2
        have f3 := Lib.hid (f2.trans (b3.mono f2.size))
        have hmem := List.length_pos_of_mem HHk.out
        rw [HK.out] at hmem
        have hia : IntsAt w3 v xs := IntsAt.of_own (by rw [HK.out]; exact hown)
        rcases hia with ⟨rfl, hnil⟩ | ⟨g, cap, rfl, hcells⟩
        · rw [hnil] at HK; have := HK.out; simp at this; omega
        · rw [HK.out] at hcells ⊢
          have HCl := Lib.hid hcells
          have HIs : Hid (∀ W : World, (∀ i, i < K → W.cell? ⟨g, i, none⟩ = some (.int .i64 ((xs[i]?.getD 0 : Nat) : Int))) → Calls Try.prog 46 #[.slice (some ⟨g, 0, none⟩) K cap] W fun e w' => e = .returned (.bool true) ∧ ∃ m, w' = W.drewN m) := Lib.hid (fun W h => by
            have := IsSorted_any g cap xs (by rw [HK.out]; omega) (by rw [HK.out]; omega) HSk.out W (by rw [HK.out]; exact h)
            rwa [HK.out] at this)
          have HCo : Hid (∀ W : World, (∀ i, i < K → W.cell? ⟨g, i, none⟩ = some (.int .i64 ((xs[i]?.getD 0 : Nat) : Int))) → Calls Try.prog 47 #[.slice (some ⟨g, 0, none⟩) K cap, .int .i64 t] W fun e w' => e = .returned (.bool true) ∧ W = w') := Lib.hid (fun W h => by
            have := contains_any g cap t xs (by rw [HK.out]; omega) HHk.out W (by rw [HK.out]; exact h)
            rwa [HK.out] at this)
          clear hown hcells b2 b3 f2
          have hq : ((K : Int) != (K : Int)) = false := by rw [bne_eq_false_iff_eq]
          have hi3 := fun x y z => run_idx3 x y z w3
          have hi0 := fun x y z => (run_idx3 x y z w3).1
          have hi1 := fun x y z => (run_idx3 x y z w3).2.1
          have hi2 := fun x y z => (run_idx3 x y z w3).2.2
          clear hi3
          rcases HE.out with ⟨hm, he⟩ | ⟨hm, he⟩ | ⟨hm, he⟩
          · have hm' : (k : Int) % 3 = 0 := by omega
            clear hm
            subst he
            go_wp2_with fail
            refine region_calm hmx (by kernel_rfl) ?_
            intro S hSn f hS1 hS2
            have l0 : ∀ z, (f z).cell? ⟨w.heap.size, 0, none⟩ = some (.int .i64 n) := fun z => cell_later (hS1 z) d0
            have hC1 := Lib.hid (calm_call hS1 hS2 (fun z => HGk.out (f z)))
            have hC2 := Lib.hid (calm_call hS1 hS2 (fun z => (HIs.out (f z) (fun i hi => cell_later (hS1 z) (HCl.out i hi))).mono (fun e w' h => ⟨h.1, by obtain ⟨m, hm⟩ := h.2; rw [hm]; exact below_drewN (Below.refl _ _) m⟩)))
            have hC3 := Lib.hid (calm_call0 (fun z => HCo.out (f z) (fun i hi => cell_later (hS1 z) (HCl.out i hi))))
            repeat (go_big_quiet_step (first | exact hC1.out _ | exact hC2.out _ | exact hC3.out _))
            refine wpQuiet_nil ?_
            rintro _ ⟨z, rfl⟩
            have hbs := hS1 z
            generalize f z = w4 at hbs
            clear l0 hC1 hC2 hC3 hS1 hS2
            try dsimp only [Exit.then]
            go_wp2
            go_roundw
            case rel => exact ⟨k + 1, by omega, by go_num, f3.out.trans (hbs.mono f3.out.size)⟩
            case measure => simp only [intOf]; omega
          · have hm' : (k : Int) % 3 = 1 := by omega
            have hba : (b : Int) - (a : Int) = ((b - a : Nat) : Int) := by omega
            clear hm
            subst he
            go_wp2_with fail
            refine region_calm hmx (by kernel_rfl) ?_
            intro S hSn f hS1 hS2
            have l0 : ∀ z, (f z).cell? ⟨w.heap.size, 0, none⟩ = some (.int .i64 n) := fun z => cell_later (hS1 z) d0
            have hC1 := Lib.hid (calm_call hS1 hS2 (fun z => HGk.out (f z)))
            have hC2 := Lib.hid (calm_call hS1 hS2 (fun z => (HIs.out (f z) (fun i hi => cell_later (hS1 z) (HCl.out i hi))).mono (fun e w' h => ⟨h.1, by obtain ⟨m, hm⟩ := h.2; rw [hm]; exact below_drewN (Below.refl _ _) m⟩)))
            have hC3 := Lib.hid (calm_call0 (fun z => HCo.out (f z) (fun i hi => cell_later (hS1 z) (HCl.out i hi))))
            repeat (go_big_quiet_step (first | exact hC1.out _ | exact hC2.out _ | exact hC3.out _))
            refine wpQuiet_nil ?_
            rintro _ ⟨z, rfl⟩
            have hbs := hS1 z
            generalize f z = w4 at hbs
            clear l0 hC1 hC2 hC3 hS1 hS2
            try dsimp only [Exit.then]
            go_wp2
            go_roundw
            case rel => exact ⟨k + 1, by omega, by go_num, f3.out.trans (hbs.mono f3.out.size)⟩
            case measure => simp only [intOf]; omega
          · have hm' : (k : Int) % 3 = 2 := by omega
            clear hm
            subst he
            go_wp2_with fail
            refine region_calm hmx (by kernel_rfl) ?_
            intro S hSn f hS1 hS2
            have l0 : ∀ z, (f z).cell? ⟨w.heap.size, 0, none⟩ = some (.int .i64 n) := fun z => cell_later (hS1 z) d0
            have hC1 := Lib.hid (calm_call hS1 hS2 (fun z => HGk.out (f z)))
            have hC2 := Lib.hid (calm_call hS1 hS2 (fun z => (HIs.out (f z) (fun i hi => cell_later (hS1 z) (HCl.out i hi))).mono (fun e w' h => ⟨h.1, by obtain ⟨m, hm⟩ := h.2; rw [hm]; exact below_drewN (Below.refl _ _) m⟩)))
            have hC3 := Lib.hid (calm_call0 (fun z => HCo.out (f z) (fun i hi => cell_later (hS1 z) (HCl.out i hi))))
            repeat (go_big_quiet_step (first | exact hC1.out _ | exact hC2.out _ | exact hC3.out _))
            refine wpQuiet_nil ?_
            rintro _ ⟨z, rfl⟩
            have hbs := hS1 z
            generalize f z = w4 at hbs
            clear l0 hC1 hC2 hC3 hS1 hS2
            try dsimp only [Exit.then]
            go_wp2
            go_roundw
            case rel => exact ⟨k + 1, by omega, by go_num, f3.out.trans (hbs.mono f3.out.size)⟩
            case measure => simp only [intOf]; omega
      · go_wp2_with fail
        refine (HAw.out _).mono ?_
        rintro e w5 ⟨rfl, b5⟩
        go_wp2
        go_ret
        exact ⟨rfl, c2.out.trans ((HB.out.trans (b5.mono HB.out.size)).mono c2.out.size)⟩
end Go.Proofs.Ytibkhjbcagihbaa

/-
  The iterator over the partners: its contract; Partners.
-/
import Derived.Test.YtbdmljakdjdjkaaDoorZaLeafA
import Derived.Test.YtbdmljakdjdjkaaDoorZaCaSearch2
import Derived.Laws.EntriesVeiled
namespace Go.Proofs.YtbdmljakdjdjkaaDoor.Za
open Go.RowKit Go.Shelf
attribute [local go_sem] Oper.semAt_some
set_option maxRecDepth 100000

theorem enter_any (n a nB aB yB eB l B0 N : Nat) (S : Nat → Prop) (J Jx : List Nat → (Nat → Prop) → World → Prop) (hn : 2 ≤ n) (hn2 : n ≤ 24) (ha : a < 2 ^ n) (hSg : S 1) (hSn : S nB) (hSa : S aB)
    (hS0 : ∀ k, S k → k < B0) (hl : l < B0) (hJ : Sep B0 J) (hJx : Sep B0 Jx) (hY : YieldSep Tryd.prog l (fun x : Nat => #[.int .i64 (x : Int)]) (KeptOn S) J Jx N) (f : Nat) : EnterAt n a nB aB yB eB l B0 N S J Jx f := by
  have full : ∀ (f : Nat) (b filled : Nat) (pre : List Nat) (Z : Nat → Prop) (W : World), filled = 2 ^ n - 1 → pre.length < N → B0 ≤ W.heap.size → Boxes n a nB aB yB eB l W → (∀ k, Z k → k < W.heap.size) → J pre Z W →
      Calls Tryd.prog 37 #[.int .i64 b, .int .i64 filled, .pointer (some ⟨nB, 0, none⟩), .pointer (some ⟨yB, 0, none⟩), .pointer (some ⟨aB, 0, none⟩), .pointer (some ⟨eB, 0, none⟩)] W fun e W' =>
        KeepsBut l W W' ∧ KeptOn Z W W' ∧ KeptOn S W W' ∧ Ends J Jx pre Z W (partL n a f b filled) e W' := fun f b filled pre Z W hf hN hB hbx hZ hj => by
    have := enter_full n a nB aB yB eB l B0 N S J Jx hn hn2 hSn hS0 hJ hJx hY b filled hf pre Z W hN hB hbx hZ hj
    rw [hf, partL_full]
    rw [hf] at this
    exact this
  induction f with
  | zero => exact fun b filled pre Z W hi hfu hN hB hT hbx _ _ hZ hj => full 0 b filled pre Z W (fuel_zero hi.2.1 hfu) (by omega) hB hbx hZ hj
  | succ f ih =>
    intro b filled pre Z W hi hfu hN hB hT hbx hZy hZe hZ hj
    by_cases hf : filled = 2 ^ n - 1
    · exact full (f + 1) b filled pre Z W hf (by omega) hB hbx hZ hj
    · exact enter_more n a nB aB yB eB l B0 N S J Jx hn hn2 ha hSg hSn hSa hS0 hl hJ hJx f ih b filled hf pre Z W hi hfu hN hB hT hbx hZy hZe hZ hj

theorem partners_any (n a : Int) (w : World) :
    Calls Tryd.prog 19 #[.int .i64 n, .int .i64 a] w fun e w' => e = .returned (.func (.func 36) #[] #[.pointer (some ⟨w.heap.size, 0, none⟩), .pointer (some ⟨w.heap.size + 1, 0, none⟩)]) ∧ (w.alloc (.cells #[.int .i64 n] 3)).alloc (.cells #[.int .i64 a] 3) = w' := by
  go_enter Tryd.func19, Tryd.ntmps19
  go_wp2
  go_ret
  exact ⟨rfl, rfl⟩

theorem start_bound {K n N : Nat} (hN : K * 25 ≤ N) (h : n ≤ 24) : ([] : List Nat).length + K * (n + 1) ≤ N := by
  have h1 : K * (n + 1) ≤ K * 25 := Nat.mul_le_mul_left K (by omega)
  rw [List.length_nil, Nat.zero_add]
  exact Nat.le_trans h1 hN

theorem cardN_one {n a : Nat} (hn : 1 ≤ n) (ha1 : a % 2 = 1) : 1 ≤ cardN n a := card_pos (show 0 < n by omega) (by rw [Nat.testBit_zero]; simp [ha1])

set_option maxHeartbeats 2000000 in
theorem partners1_seq (n a nB aB N : Nat) (S : Nat → Prop) (hn : 2 ≤ n) (hn2 : n ≤ 24) (ha : a < 2 ^ n) (ha1 : a % 2 = 1) (hN : 1073741824 * 25 ≤ N) (w : World) (hT : Tab w) (hSg : S 1) (hSn : S nB) (hSa : S aB) (hS : ∀ k, S k → k < w.heap.size)
    (hcn : w.cell? ⟨nB, 0, none⟩ = some (.int .i64 n)) (hca : w.cell? ⟨aB, 0, none⟩ = some (.int .i64 a)) :
    SeqSep Tryd.prog 36 #[.pointer (some ⟨nB, 0, none⟩), .pointer (some ⟨aB, 0, none⟩)] (fun x : Nat => #[.int .i64 (x : Int)]) (KeptOn S) (fun xs => xs = partners n a) (fun p => ∃ q, partners n a = p ++ q) N w :=
  fun l J Jx W hb hl hJ hJx hY hj => by
  obtain ⟨H, hH⟩ : ∃ H, W.heap.size = H := ⟨_, rfl⟩
  have hp24 : 2 ^ n ≤ 2 ^ 24 := Nat.pow_le_pow_right (by omega) hn2
  have hSW : ∀ k, S k → k < W.heap.size := fun k hk => Nat.lt_of_lt_of_le (hS k hk) hb.size
  have hTW : Tab W := hT.same hb
  have q1 := cell_later hb hcn
  have q2 := cell_later hb hca
  obtain ⟨F, hF⟩ : ∃ F : Value, F = .func (.func 37) #[] #[.pointer (some ⟨nB, 0, none⟩), .pointer (some ⟨H, 0, none⟩), .pointer (some ⟨aB, 0, none⟩), .pointer (some ⟨H + 1, 0, none⟩)] := ⟨_, rfl⟩
  have hka : cardN n a ≤ n := card_le n a
  have hk1 : 1 ≤ cardN n a := cardN_one (by omega) ha1
  have HA := Lib.hid (tonesIn_any a (by omega))
  rw [cardN_tonesL (n := n) (by omega) ha] at HA
  have hpd : partners n a = if n % cardN n a = 0 then partL n a n 1 a else [] := rfl
  have HPD := Lib.hid hpd
  have HJ := Lib.hid hj
  clear hcn hca hpd hj hT
  show Calls Tryd.prog 36 #[.func (.yield l) #[] #[], .pointer (some ⟨nB, 0, none⟩), .pointer (some ⟨aB, 0, none⟩)] W _
  go_enter Tryd.func36, Tryd.ntmps36
  go_wp2
  rw [← hF]
  have hj1 : J [] (fun k => ((fun _ => False) k ∨ k = H) ∨ k = H + 1) ((W.alloc (.cells #[.func (.yield l) #[] #[]] 58)).alloc (.cells #[F] 22)) := by
    have j1 := hJ.take _ _ _ (.cells #[.func (.yield l) #[] #[]] 58) HJ.out
    have j2 := hJ.take _ _ _ (.cells #[F] 22) j1
    simp only [World.size_alloc, hH] at j2
    exact j2
  obtain ⟨W1, hW1⟩ : ∃ W1, ((W.alloc (.cells #[.func (.yield l) #[] #[]] 58)).alloc (.cells #[F] 22)) = W1 := ⟨_, rfl⟩
  have hB1 : Below W.heap.size W W1 := by rw [← hW1]; exact ((Below.refl _ W).alloc (Nat.le_refl _) _).alloc (by simp) _
  have hs1 : W1.heap.size = H + 2 := by rw [← hW1]; simp; omega
  have u1 := cell_later hB1 q1
  have u2 := cell_later hB1 q2
  have u3 : W1.cell? ⟨H, 0, none⟩ = some (.func (.yield l) #[] #[]) := by rw [← hW1]; exact cell_up (cell_at (by omega))
  have u4 : W1.cell? ⟨H + 1, 0, none⟩ = some F := by rw [← hW1]; exact cell_at (by simp; omega)
  have hT1 : Tab W1 := hTW.same hB1
  rw [hW1] at hj1 ⊢
  have HJ1 := Lib.hid hj1
  have HF := Lib.hid hF
  have HH := Lib.hid hH
  have HS1 := Lib.hid hs1
  clear hW1 hj1 hF hH hs1 q1 q2 HJ
  generalize hkk : cardN n a = ka at hka hk1 HA HPD
  have HKK := Lib.hid hkk
  have htm : (n : Int).tmod (ka : Int) = ((n % ka : Nat) : Int) := by rw [Int.tmod_eq_emod_of_nonneg (by omega)]; simp
  have hkz : ((ka : Int) == 0) = false := by rw [beq_eq_false_iff_ne]; omega
  have hkz2 : ¬ (ka : Int) = 0 := by omega
  clear hkk
  by_cases hd : n % ka = 0
  · rw [hd] at htm
    have HD := Lib.hid hd
    clear hd
    go_quiet ((go_at_call 33; exact Calls.quiet_of_same ((HA.out _).mono fun e w' h => ⟨h.1, h.2.symm⟩)))
    have HPP := Lib.hid (show partners n a = partL n a n 1 a by rw [HPD.out, if_pos HD.out])
    obtain rfl := HF.out
    have hE := enter_any n a nB aB H (H + 1) l W.heap.size N S J Jx hn hn2 ha hSg hSn hSa hSW hl hJ hJx hY n 1 a [] _ (W1.drewN nq) (inv_start (by omega) ha) (by omega) (start_bound hN hn2) (by have := HS1.out; have := HH.out; show W.heap.size ≤ W1.heap.size; omega)
      (hT1.below (below_drewN (Below.refl _ _) nq) hT1.size) ⟨u1, u2, u3, u4⟩ (Or.inl (Or.inr rfl)) (Or.inr rfl) (fun k hk => by
        have h1 := HS1.out
        show k < W1.heap.size
        rcases hk with (hk | rfl) | rfl
        · exact hk.elim
        · omega
        · omega) (hJ.drewN HJ1.out nq)
    have HE := Lib.hid hE
    clear hE
    generalize partL n a n 1 a = all at HE HPP
    go_wp2_with fail
    refine HE.out.mono ?_
    rintro e W2 ⟨_, _, _, Z2, _, _, _, (⟨rfl, hj2⟩ | ⟨rfl, p, q, hpq, hj2⟩)⟩
    · have HJ2 := Lib.hid hj2
      clear hj2
      go_wp2
      go_end0
      rw [HPP.out]
      exact ⟨⟨_, rfl⟩, .inl ⟨all, Z2, rfl, by simpa using HJ2.out⟩⟩
    · have HJ2 := Lib.hid hj2
      have HPQ := Lib.hid hpq
      clear hj2 hpq
      go_wp2
      go_end0
      rw [HPP.out]
      exact ⟨⟨_, rfl⟩, .inr ⟨p, Z2, ⟨q, HPQ.out⟩, by simpa using HJ2.out⟩⟩
  · have hq : (((n % ka : Nat) : Int) == 0) = false := by rw [beq_eq_false_iff_ne]; omega
    have HD := Lib.hid hd
    clear hd
    go_quiet ((go_at_call 33; exact Calls.quiet_of_same ((HA.out _).mono fun e w' h => ⟨h.1, h.2.symm⟩)))
    have HPP := Lib.hid (show partners n a = [] by rw [HPD.out, if_neg HD.out])
    go_wp2
    go_end0
    rw [HPP.out]
    exact ⟨⟨_, rfl⟩, .inl ⟨_, hJ.drewN HJ1.out nq⟩⟩

end Go.Proofs.YtbdmljakdjdjkaaDoor.Za

/-
  without, primes of package canon.
-/
import Derived.Test.YthnenhfdojpobaaDoorZaLeafA
import Derived.Test.YthnenhfdojpobaaDoorCaRootMath
import Derived.Test.YthnenhfdojpobaaDoorZaCaTile
import Derived.Test.YthnenhfdojpobaaDoorMem
import Derived.OwnWalk
import Derived.Maps.AppendAt
import Derived.Lib.OwnBridge
namespace Go.Proofs.YthnenhfdojpobaaDoor.Za
open Go.RowKit Go.Shelf
attribute [local go_sem] Oper.semAt_some
set_option maxRecDepth 100000

theorem info_intR : (Tryd.prog.info? 3).map (fun i => (i.zero, i.size, i.bytes)) = some (some (.int .i64 0), 1, 8) := by kernel_rfl

/-- A slice of integers that can be read; nil just where there are none. -/
def IntsAt (W : World) (lo : Nat) (v : Value) (xs : List Nat) : Prop :=
  (v = .slice none 0 0 ∧ xs = []) ∨ ∃ g cap, v = .slice (some ⟨g, 0, none⟩) xs.length cap ∧ lo ≤ g ∧ ∀ i, i < xs.length → W.cell? ⟨g, i, none⟩ = some (.int .i64 ((xs[i]?.getD 0 : Nat) : Int))

theorem IntsAt.later {W W' : World} {lo : Nat} {v : Value} {xs : List Nat} (h : IntsAt W lo v xs) (hb : Below W.heap.size W W') : IntsAt W' lo v xs := by
  rcases h with h | ⟨g, cap, h1, h2, h3⟩
  · exact Or.inl h
  · exact Or.inr ⟨g, cap, h1, h2, fun i hi => cell_later hb (h3 i hi)⟩

theorem IntsAt.of_own {W : World} {lo : Nat} {v : Value} {xs : List Nat} (h : W.ownsRow lo 3 1 v xs.length (ints xs)) : IntsAt W lo v xs := by
  have h' := h
  obtain ⟨h0, h1 | ⟨g, cap, cur, hv, hg, hh, h2⟩⟩ := h
  · exact Or.inl ⟨h1.1, List.eq_nil_of_length_eq_zero h1.2⟩
  · refine Or.inr ⟨g, cap, hv, hg, fun i hi => ?_⟩
    subst hv
    have := h'.cellAt i (by omega)
    rw [this, ints_at hi]

/-- Such a slice, as a loop reads it: its length; each of its cells. -/
theorem IntsAt.as {W : World} {lo : Nat} {v : Value} {xs : List Nat} (h : IntsAt W lo v xs) : ∃ (p : Option Addr) (cap : Nat), v = .slice p xs.length cap ∧ ∀ i, i < xs.length → ∃ g, p = some ⟨g, 0, none⟩ ∧ lo ≤ g ∧ W.cell? ⟨g, i, none⟩ = some (.int .i64 ((xs[i]?.getD 0 : Nat) : Int)) := by
  rcases h with ⟨rfl, rfl⟩ | ⟨g, cap, rfl, h2, h3⟩
  · exact ⟨none, 0, rfl, fun i hi => by simp at hi⟩
  · exact ⟨some ⟨g, 0, none⟩, cap, rfl, fun i hi => ⟨g, rfl, h2, h3 i hi⟩⟩

theorem without_any (n p : Nat) (h1 : 1 ≤ n) (h2 : n ≤ 24) (h3 : 2 ≤ p) (h4 : p ≤ 25) (w : World) :
    Calls Tryd.prog 37 #[.int .i64 n, .int .i64 p] w fun e w' => e = .returned (.int .i64 (strip n p : Nat)) ∧ w = w' := by
  have hpz : ((p : Int) == 0) = false := by rw [beq_eq_false_iff_ne]; omega
  have HG := Lib.hid (fun m (a : 1 ≤ m) (b : m ≤ 24) => strip_go a b h3 h4)
  have HS := Lib.hid (fun m (a : 1 ≤ m) (b : m ≤ 24) => strip_stop a b h3 h4)
  go_enter Tryd.func37, Tryd.ntmps37
  go_wp2
  go_loopw [0] (fun i wr => ∃ m : Nat, 1 ≤ m ∧ m ≤ 24 ∧ i = .int .i64 m ∧ strip m p = strip n p ∧ w = wr) (fun i _ => (intOf i).toNat)
  case atStart => exact ⟨n, h1, h2, rfl, rfl, rfl⟩
  case round =>
    obtain ⟨m, hm1, hm2, rfl, hs, rfl⟩ := hrel
    have Hs := Lib.hid hs
    clear hs
    by_cases h0 : m % p = 0
    · obtain ⟨e1, e2, e3⟩ := HG.out m hm1 hm2 h0
      have q0 : ((m : Int) % (p : Int) == 0) = true := by rw [beq_iff_eq]; omega
      have E := Lib.hid (e1.symm.trans Hs.out)
      obtain ⟨q, hq⟩ : ∃ q, m / p = q := ⟨_, rfl⟩
      rw [hq] at e2 e3 E
      have hq2 : (m : Int) / (p : Int) = (q : Int) := by rw [← hq]; simp
      clear e1 h0 hq
      go_wp2
      go_roundw
      case rel => exact ⟨q, e2, by omega, by go_num, E.out, trivial⟩
      case measure => simp only [intOf]; omega
    · have e1 := HS.out m hm1 hm2 h0
      have q0 : ((m : Int) % (p : Int) == 0) = false := by rw [beq_eq_false_iff_ne]; omega
      have E := Lib.hid (e1.symm.trans Hs.out)
      clear e1 h0
      go_wp2
      go_ret
      exact ⟨ret_int (by rw [E.out]), rfl⟩

theorem primes_any (n : Nat) (h1 : 1 ≤ n) (h2 : n ≤ 24) (w : World) :
    Calls Tryd.prog 25 #[.int .i64 n] w fun e w' => ∃ v, e = .returned v ∧ IntsAt w' w.heap.size v (primesL n) ∧ Below w.heap.size w w' := by
  obtain ⟨i0, hi, hz0, hz1, hz2⟩ := info_parts info_intR
  have HW := Lib.hid (fun m p a b c d V => without_any m p a b c d V)
  have HP := Lib.hid (fun k hk => pr_all (k := k) h1 h2 hk)
  have HSt := Lib.hid (fun k h => pr_step (n := n) (k := k) h)
  obtain ⟨H, hH⟩ : ∃ H, w.heap.size = H := ⟨_, rfl⟩
  have hHle : H ≤ w.heap.size := by omega
  rw [hH]
  clear hH
  go_enter Tryd.func25, Tryd.ntmps25
  go_wp2
  go_loopw [0, 3, 4] (fun m v p wr => ∃ k : Nat, k < 24 ∧ m = .int .i64 ((prSt n k).1 : Nat) ∧ p = .int .i64 (k + 2 : Nat) ∧ wr.ownsRow H 3 1 v (prSt n k).2.length (ints (prSt n k).2) ∧ Below H w wr) (fun _ _ p _ => 26 - (intOf p).toNat)
  case atStart => exact ⟨0, by omega, rfl, rfl, World.ownsRow_nil _ _ _ _, Below.refl _ _⟩
  case round =>
    obtain ⟨k, hk, rfl, rfl, hown, hB⟩ := hrel
    obtain ⟨p1, p2, p3, p4, p5⟩ := HP.out k hk
    by_cases hm : (prSt n k).1 ≤ 1
    · have hL := Lib.hid (p4 hm)
      have ho := IntsAt.of_own hown
      have Ho := Lib.hid ho
      generalize (prSt n k).1 = m at *
      clear hown p4 p5 ho
      go_wp2
      go_ret
      exact ⟨_, rfl, by rw [← hL.out]; exact Ho.out, hB⟩
    · have hk2 := p5 hm
      have hst := HSt.out k hm
      obtain ⟨L, hL⟩ : ∃ L, (prSt n k).2 = L := ⟨_, rfl⟩
      obtain ⟨m, hmm⟩ : ∃ m, (prSt n k).1 = m := ⟨_, rfl⟩
      rw [hL, hmm] at hst
      rw [hL] at hown p3
      rw [hmm] at p1 p2 hm ⊢
      have hwo := Lib.hid (HW.out m (k + 2) p1 p2 (by omega) (by omega))
      have hpz : (((k + 2 : Nat) : Int) == 0) = false := by rw [beq_eq_false_iff_ne]; omega
      have hsz := hB.size
      clear hL hmm p4 p5
      obtain ⟨p, hp⟩ : ∃ p, k + 2 = p := ⟨_, rfl⟩
      rw [hp] at hst hwo hpz ⊢
      by_cases h0 : m % p = 0
      · have q0 : ((m : Int) % (p : Int) == 0) = true := by rw [beq_iff_eq]; omega
        have hs' := Lib.hid (show prSt n (k + 1) = (strip m p, L ++ [p]) by rw [hst, h0]; rfl)
        have ho' := Lib.hid hown
        clear hst h0 hown
        go_wp2_with (first | (at_builtin; refine wpList_append_own _ rfl _ _ 24 rfl H 3 i0 (.int .i64 0) 1 8 Tryd.underlying24 hi hz0 hz1 hz2 rfl (by decide) _ _ _ rfl (ho'.out.alloc _) ⟨wr.heap.size, 0, none⟩ 1 1 [.int .i64 p] rfl rfl (cell_one_new _ _ _) (by simp [Value.oneCell']) (by unfold maxLen; omega) (by omega) (by simp; omega) ?_; intro v' w1 hown1 hgrow1 hnil1))
        refine (hwo.out _).mono ?_
        rintro e w2 ⟨rfl, rfl⟩
        go_wp2
        go_roundw
        case rel => exact ⟨k + 1, by omega, by rw [hs'.out], by go_num, by rw [hs'.out]; simp only [List.length_append, List.length_singleton]; unfold ints at hown1 ⊢; rw [List.map_append]; exact hown1, ((hB).alloc (by omega) _).grown hgrow1 (by simp; omega) (fun q e => (ho'.out.lt q e).1)⟩
        case measure => simp only [intOf]; omega
      · have q0 : ((m : Int) % (p : Int) == 0) = false := by rw [beq_eq_false_iff_ne]; omega
        have hs' := Lib.hid (show prSt n (k + 1) = (strip m p, L) by rw [hst, if_neg (by simpa using h0)])
        clear hst h0
        have ho' := Lib.hid hown
        clear hown
        go_wp2_with fail
        refine (hwo.out _).mono ?_
        rintro e w2 ⟨rfl, rfl⟩
        go_wp2
        go_roundw
        case rel => exact ⟨k + 1, by omega, by rw [hs'.out], by go_num, by rw [hs'.out]; exact ho'.out, hB⟩
        case measure => simp only [intOf]; omega
end Go.Proofs.YthnenhfdojpobaaDoor.Za

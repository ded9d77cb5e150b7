/-
  The closure that extends a leading, where no voice is left: it hands a copy out.
-/
import Derived.Test.YtkpiakoijkflmaaVoLdsLoop
import Derived.Stop.RegionWithIn
import Derived.Test.YtkpiakoijkflmaaHeldR
import Derived.Test.YtkpiakoijkflmaaRoSort
namespace Go.Proofs.Ytkpiakoijkflmaa
open Go.RowKit Go.Shelf
attribute [local go_sem] Oper.semAt_some
set_option maxRecDepth 100000

def encL (x : List Nat × Value) : Array Value := #[x.2]
/-- What is handed out is a row of its own, none of the iterator's blocks. -/
def VL (x : List Nat × Value) (Z : Nat → Prop) (W : World) : Prop := W.ownsRow 0 3 1 x.2 x.1.length (ivals (natI x.1)) ∧ ∀ g, x.2.ownBlock = some g → ¬ Z g
/-- And what holds of all leadings. -/
def VLP (P : List Nat → Prop) (x : List Nat × Value) (Z : Nat → Prop) (W : World) : Prop := VL x Z W ∧ P x.1
theorem VL.of_own {W : World} {B : Nat} {v : Value} {cur : List Nat} {Z : Nat → Prop} (h : W.ownsRow B 3 1 v (natI cur).length (ivals (natI cur))) (hz : ∀ k, Z k → k < B) : VL (cur, v) Z W := by
  rw [natI_length] at h
  refine ⟨?_, fun g e k => by have := (h.lt g e).1; have := hz g k; omega⟩
  obtain ⟨h0, h1 | ⟨g, cap, c, he, hg, h2⟩⟩ := h
  · exact ⟨h0, .inl h1⟩
  · exact ⟨h0, .inr ⟨g, cap, c, he, Nat.zero_le _, h2⟩⟩

set_option maxHeartbeats 4000000 in
theorem extend_leaf (n : Nat) (us bs L : List Nat) (lB aB yB bB nB rB eB l b1 o1 c1 b2 o2 c2 B0 B1 N : Nat) (P : List Nat → Prop) (S K : Nat → Prop) (J Jx : List (List Nat × Value) → (Nat → Prop) → World → Prop)
    (l1 : 1 ≤ us.length) (l6 : us.length ≤ 6) (k1 : K yB) (hS : ∀ k, S k → k < B0) (hB : B0 ≤ lB) (hlB : lB < B1) (hJ : SepO B0 J)
    (hY : YieldSepO Try.prog l encL (VLP P) (KeptOn S) J Jx N)
    (T : Nat) (cur : List Nat) (pre : List (List Nat × Value)) (Z : Nat → Prop) (W : World) (hf : cur.length = us.length) (hN : pre.length < N) (hPc : P cur) (hBW : B1 ≤ W.heap.size)
    (hbx : LBox n us bs L lB aB yB bB nB rB eB l b1 o1 c1 b2 o2 c2 W) (hKZ : ∀ k, K k → Z k) (hZl : Z lB) (hZ : ∀ k, Z k → k < W.heap.size) (hld : LeadAt W Z lB B1 cur) (hj : J pre Z W) :
    Calls Try.prog 94 #[.int .i64 T, .pointer (some ⟨lB, 0, none⟩), .pointer (some ⟨aB, 0, none⟩), .pointer (some ⟨yB, 0, none⟩), .pointer (some ⟨bB, 0, none⟩), .pointer (some ⟨nB, 0, none⟩), .pointer (some ⟨rB, 0, none⟩), .pointer (some ⟨eB, 0, none⟩)] W fun e W' =>
      KeepsBut l W W' ∧ KeptOn K W W' ∧ KeptOn S W W' ∧ LEnds J Jx pre Z lB B1 cur W [cur] e W' := by
  have HLd := Lib.hid hld
  obtain ⟨v0, hb0, hr0, hz0⟩ := hld
  obtain ⟨ao0, ca0, rfl⟩ := own_form hr0
  have hIv := IntsV.of_vals hr0
  have q1 := hb0.cell
  have q2 := hbx.a
  have q3 := hbx.y
  have HIv := Lib.hid hIv
  have HCl := Lib.hid (fun W' (hb : Below W.heap.size W W') => Clone_own (natI cur) _ W' (by rw [natI_length]; omega) (by rw [natI_length]; omega) (hIv.later hb))
  have HYd := Lib.hid hY
  have HJ0 := Lib.hid hj
  have HZ0 := Lib.hid hZ
  have HF := Lib.hid hf
  have hmx : Try.prog.follows .mixedOrders = true := by kernel_rfl
  have him : ((cur.length : Int) == (us.length : Int)) = true := by rw [beq_iff_eq, hf]
  have hSW : ∀ k, S k → k < W.heap.size := fun k hk => by have := hS k hk; omega
  have HSW := Lib.hid hSW
  have HFin := Lib.hid (fun (W1 W' : World) (b : Bool) (v' : Value) (hb : Below W.heap.size W W1) (h1 : KeepsBut l W1 W') (h2 : KeptOn Z W1 W') (h3 : KeptOn S W1 W') (h4 : (b = true ∧ J (pre ++ [(cur, v')]) Z W') ∨ (b = false ∧ Jx (pre ++ [(cur, v')]) Z W')) =>
    show KeepsBut l W W' ∧ KeptOn K W W' ∧ KeptOn S W W' ∧ LEnds J Jx pre Z lB B1 cur W [cur] (.returned (.bool b)) W' from by
      have kz : KeptOn Z W W' := ((KeptOn.refl _ _).below hb hZ).trans h2
      refine ⟨(KeepsBut.below hb (Nat.le_refl _)).trans h1, ⟨kz.size, fun k hk => kz.block k (hKZ k hk)⟩, ((KeptOn.refl _ _).below hb hSW).trans h3, Z, [(cur, v')], ⟨fun _ h => h, fun k hk => Nat.lt_of_lt_of_le (hZ k hk) kz.size, fun _ h => Or.inl h⟩, ?_⟩
      rcases h4 with ⟨rfl, h4⟩ | ⟨rfl, h4⟩
      · exact .inl ⟨rfl, rfl, h4, HLd.out.grow kz hZl⟩
      · exact .inr ⟨rfl, ⟨[], rfl⟩, h4⟩)
  clear hb0 hr0 hz0 hIv hY hj hZ hf hbx hSW
  refine (callsIn_wide (n := 9)).1 ?_
  refine callsIn_of_wp_marks Try.func94 rfl trivial ?_ rfl
  simp only [Try.ntmps94, List.size_toArray, List.length_cons, List.length_nil, Nat.reduceAdd, Nat.reduceSub, Array.replicate_succ, Array.replicate_zero, List.push_toArray, List.append_toArray, List.nil_append, List.cons_append]
  gi_wp2
  refine wpIn_mono ?_ OnlyN.imp
  gi_region_with (first
    | (refine ⟨trivial, ?_⟩; gi_at_call 42; refine (callsIn_wide.2 (HCl.out _ (Below.refl _ _).drew)).mono ?_; rintro e w1 ⟨v', rfl, iv, bv⟩; have B1 := Lib.hid (below_nx (Below.refl _ W).drew bv); have cy := cell_later B1.out q3; obtain ⟨fn, tmps, assign, body, hy, hR⟩ := HYd.out pre (cur, v') Z w1 (hJ.toSep.below HJ0.out B1.out) ⟨VL.of_own iv (fun k hk => HZ0.out k hk), hPc⟩ hN 8; dsimp only [encL] at hy; have HR := Lib.hid hR; clear hR iv bv)
    | (refine (roundIn_wide HR.out).mono ?_; rintro e W4 ⟨kb, kz, kp, hpost⟩; obtain ⟨b, rfl, h4⟩ : ∃ b, e = .returned (.bool b) ∧ ((b = true ∧ J (pre ++ [(cur, v')]) Z W4) ∨ (b = false ∧ Jx (pre ++ [(cur, v')]) Z W4)) := (by rcases hpost with ⟨rfl, h⟩ | ⟨rfl, h⟩; exact ⟨true, rfl, .inl ⟨rfl, h⟩⟩; exact ⟨false, rfl, .inr ⟨rfl, h⟩⟩); have HE := Lib.hid (HFin.out w1 W4 b v' B1.out kb kz kp h4); clear kb kz kp hpost h4))
  all_goals
    dsimp only [OnlyN]
    gi_wp2
    exact ⟨.bool b, by simp [results, Try.f94, go_sem], HE.out⟩
end Go.Proofs.Ytkpiakoijkflmaa

/-
  The iterator over the leadings with the least cost: its contract.
-/
import Derived.Test.YtkpiakoijkflmaaVoLdsLeaf
import Derived.Test.YtkpiakoijkflmaaVoCost
import Derived.Laws.EntriesVeiled
namespace Go.Proofs.Ytkpiakoijkflmaa
open Go.RowKit Go.Shelf Go.ChangeShapes Go.WideShapes Go.ChangeAt
attribute [local go_sem] Oper.semAt_some
set_option maxRecDepth 100000

theorem extend_any (n : Nat) (us bs L : List Nat) (lB aB yB bB nB rB eB l b1 o1 c1 b2 o2 c2 B0 B1 N : Nat) (P : List Nat → Prop) (S K : Nat → Prop) (J Jx : List (List Nat × Value) → (Nat → Prop) → World → Prop)
    (hv : Vc n us bs) (hL : L.length = 64) (hG : Good n us.length us bs 0 L) (hc1 : us.length ≤ c1) (hc2 : us.length ≤ c2)
    (s1 : S nB) (s2 : S aB) (s3 : S bB) (s4 : S b1) (s5 : S b2) (k1 : K yB) (k2 : K eB) (k3 : K rB) (hS : ∀ k, S k → k < B0) (hK : ∀ k, K k → k < B1 ∧ k ≠ lB) (hB : B0 ≤ lB) (hlB : lB < B1) (hJ : SepO B0 J)
    (hY : YieldSepO Try.prog l encL (VLP P) (KeptOn S) J Jx N) (f : Nat) : LeadsAt n us bs L lB aB yB bB nB rB eB l b1 o1 c1 b2 o2 c2 B1 N P S K J Jx f := by
  induction f with
  | zero =>
    intro T cur pre Z W hT hp hf hN hBW hbx hKZ hZl hZ hld hj
    have e : us.drop cur.length = [] := List.drop_eq_nil_of_le (by omega)
    rw [e] at hN ⊢
    exact extend_leaf n us bs L lB aB yB bB nB rB eB l b1 o1 c1 b2 o2 c2 B0 B1 N P S K J Jx hv.l1 hv.l6 k1 hS hB hlB hJ hY T cur pre Z W (by omega) (by have h9 := hN.1; simp [lds] at h9; omega) (hN.2 cur (by simp [lds])) hBW hbx hKZ hZl hZ hld hj
  | succ f ih =>
    intro T cur pre Z W hT hp hf hN hBW hbx hKZ hZl hZ hld hj
    exact extend_more n us bs L lB aB yB bB nB rB eB l b1 o1 c1 b2 o2 c2 B0 B1 N P S K J Jx hv hL hG hc1 hc2 s1 s2 s3 s4 s5 k1 k2 k3 hS hK hB hlB hJ f ih T cur pre Z W hT hp hf hN hBW hbx hKZ hZl hZ hld hj

theorem cell_two_new (w : World) : ((w.alloc (.cells #[.slice none 0 0] 22)).alloc (.cells #[.nilFunc] 101)).cell? ⟨w.heap.size + 1, 0, none⟩ = some .nilFunc := by
  have := (Row.new (w.alloc (.cells #[.slice none 0 0] 22)) 101 [.nilFunc]).cell 0
  rw [World.size_alloc] at this
  exact this
theorem frozen_two_new (w : World) : ((w.alloc (.cells #[.slice none 0 0] 22)).alloc (.cells #[.nilFunc] 101)).frozen? ⟨w.heap.size + 1, 0, none⟩ = false := by
  have := (Row.new (w.alloc (.cells #[.slice none 0 0] 22)) 101 [.nilFunc]).frozen 0
  rw [World.size_alloc] at this
  exact this

/-- The table is stored as a whole, in a new block. -/
theorem least_stored {B0 : Nat} {J : List (List Nat × Value) → (Nat → Prop) → World → Prop} (hJ : SepO B0 J) {s : List (List Nat × Value)} {Z : Nat → Prop} (w2 : World) (old cs : Array Value) (t : TypeId) (hj : J s Z w2) :
    J s (fun k => (Z k ∨ k = w2.heap.size) ∨ (False ∧ k < ((w2.alloc (.cells old t)).setRow w2.heap.size cs).heap.size)) ((w2.alloc (.cells old t)).setRow w2.heap.size cs) ∧ Below w2.heap.size w2 ((w2.alloc (.cells old t)).setRow w2.heap.size cs) ∧
      ((w2.alloc (.cells old t)).setRow w2.heap.size cs).heap.size = w2.heap.size + 1 ∧ ((w2.alloc (.cells old t)).setRow w2.heap.size cs).heap[w2.heap.size]? = some (.cells cs t (0, 0)) := by
  have hg := World.alloc_heap_new w2 (.cells old t)
  have hss : ∀ (W : World) (g : Nat), (W.setRow g cs).heap.size = W.heap.size := fun W g => Array.size_modify ..
  have hs : ((w2.alloc (.cells old t)).setRow w2.heap.size cs).heap.size = w2.heap.size + 1 := (hss _ _).trans (World.size_alloc _ _)
  refine ⟨hJ.own _ _ _ _ (some w2.heap.size) (fun _ => False) (hJ.take _ _ _ _ hj) ⟨rfl, rfl, rfl, by rw [hs, World.size_alloc]; exact Nat.le_refl _, fun k _ hne => setRow_other _ _ _ _ (fun e => hne (by rw [e]))⟩ (fun r e => by cases e; exact Or.inr rfl) (fun _ h => h.elim),
    below_setRow ((Below.refl _ w2).alloc (Nat.le_refl _) _) (Nat.le_refl _) cs, hs, setRow_heap _ _ _ _ _ _ hg⟩

/-- All leadings with the least cost, in order. -/
def leads (n : Nat) (us bs : List Nat) : List (List Nat) := lds n bs us 0 []

set_option maxHeartbeats 400000 in
theorem leadings1_seq (n : Nat) (us bs : List Nat) (hv : Vc n us bs) (nB aB bB N : Nat) (S : Nat → Prop) (v u : Value) (w : World) (hN : (leads n us bs).length ≤ N) (h : IntsV w v (natI us)) (k : IntsV w u (natI bs))
    (hcn : w.cell? ⟨nB, 0, none⟩ = some (.int .i64 n)) (hca : w.cell? ⟨aB, 0, none⟩ = some v) (hcb : w.cell? ⟨bB, 0, none⟩ = some u)
    (s1 : S nB) (s2 : S aB) (s3 : S bB) (s4 : ∀ a m c, v = .slice (some a) m c → S a.block) (s5 : ∀ a m c, u = .slice (some a) m c → S a.block) (hS : ∀ k, S k → k < w.heap.size) :
    SeqSepO Try.prog 93 #[.pointer (some ⟨nB, 0, none⟩), .pointer (some ⟨aB, 0, none⟩), .pointer (some ⟨bB, 0, none⟩)] encL (VLP fun m => m ∈ leads n us bs) (KeptOn S) (fun xs => xs.map Prod.fst = leads n us bs) (fun p => ∃ q, leads n us bs = p.map Prod.fst ++ q) N w :=
  fun l J Jx W hb hl hJ hJx hY hj => by
  have l1 := hv.l1
  have l6 := hv.l6
  have hlen := hv.len
  obtain ⟨b1, o1, c1, rfl, hc1, ha⟩ := ints_nat h (by omega)
  obtain ⟨b2, o2, c2, rfl, hc2, hbs⟩ := ints_nat k (by omega)
  have t4 := s4 _ _ _ rfl
  have t5 := s5 _ _ _ rfl
  obtain ⟨H, hH⟩ : ∃ H, W.heap.size = H := ⟨_, rfl⟩
  have hSW : ∀ k, S k → k < H := fun k hk => by have := hS k hk; have := hb.size; omega
  have q1 := cell_later hb hcn
  have q2 := cell_later hb hca
  have q3 := cell_later hb hcb
  obtain ⟨W1, hW1⟩ : ∃ W1, W.alloc (.cells #[.func (.yield l) #[] #[]] 59) = W1 := ⟨_, rfl⟩
  have hB1 : Below W.heap.size W W1 := by rw [← hW1]; exact (Below.refl _ W).alloc (Nat.le_refl _) _
  have hj1 := hJ.take _ _ _ (.cells #[.func (.yield l) #[] #[]] 59) hj
  rw [hW1, hH] at hj1
  have hs1 : W1.heap.size = H + 1 := by rw [← hW1, World.size_alloc, hH]
  have u1 := cell_later hB1 q1
  have u2 := cell_later hB1 q2
  have u3 := cell_later hB1 q3
  have u4 : W1.cell? ⟨H, 0, none⟩ = some (.func (.yield l) #[] #[]) := by rw [← hW1, ← hH]; simp
  have hb1 := hb.trans (hB1.mono hb.size)
  have HLc := Lib.hid (leastCosts_any n us bs hv _ _ W1 (h.later hb1) (k.later hb1))
  have HJ1 := Lib.hid hj1
  have HH := Lib.hid hH
  have HV := Lib.hid hv
  have HB1 := Lib.hid hb1
  have HBW := Lib.hid hB1
  have HJ := Lib.hid hJ
  have HJx := Lib.hid hJx
  have HY := Lib.hid hY
  have HA := Lib.hid ha
  have HBs := Lib.hid hbs
  have HSW := Lib.hid hSW
  have HN := Lib.hid hN
  have HL := Lib.hid hl
  have HS1 := Lib.hid hs1

  have HLN := Lib.hid hlen
  clear hlen hj hj1 hv hb hJ hJx hY ha hbs hSW hN hl h k hcn hca hcb q1 q2 q3 hb1 hB1 hs1
  show Calls Try.prog 93 #[.func (.yield l) #[] #[], .pointer (some ⟨nB, 0, none⟩), .pointer (some ⟨aB, 0, none⟩), .pointer (some ⟨bB, 0, none⟩)] W _
  go_enter Try.func93, Try.ntmps93
  go_wp2_with fail
  refine HLc.out.mono ?_
  rintro e w2 ⟨L, rfl, hL, hG, bb⟩
  have HG := Lib.hid hG
  have HLL := Lib.hid hL
  have HL64 := Lib.hid hL
  have B2 := Lib.hid bb
  have x1 := cell_later bb u1
  have x2 := cell_later bb u2
  have x3 := cell_later bb u3
  have x4 := cell_later bb u4
  have HJ2 := Lib.hid (HJ.out.toSep.below HJ1.out bb)
  have hs2 := bb.size
  have hone := ints_one L
  have hsz : (ints L).toArray.size = 64 := by rw [ints_size, hL]
  have HSZ := Lib.hid hsz
  have HON := Lib.hid hone
  clear hL hG bb u1 u2 u3 u4 hsz hone
  obtain ⟨cs, hcs⟩ : ∃ cs, (ints L).toArray = cs := ⟨_, rfl⟩
  rw [hcs] at HSZ HON ⊢
  have HCS := Lib.hid hcs
  clear hcs
  have HST := Lib.hid (fun old => least_stored HJ.out w2 old cs 99 HJ2.out)
  go_wp2_with (refine wpList_store_row rfl 99 (.tmp 5) (.tmp 11) rfl w2.heap.size cs rfl rfl 99 (ints (List.replicate 64 0)).toArray (Row.new w2 _ _) (by rw [info_arr, HSZ.out]) (by rw [HSZ.out, ints_size]; rfl) HON.out ?_; have hst := HST.out (ints (List.replicate 64 0)).toArray; rw [zeros_lit] at hst; generalize World.setRow _ _ _ = w3 at hst ⊢; have HST3 := Lib.hid hst; have y4 := cell_later hst.2.1 x4; obtain ⟨lB, hlB⟩ : ∃ lB, w3.heap.size = lB := ⟨_, rfl⟩; clear hst HST)
  obtain ⟨j3, b3, hs3, hr3⟩ := HST3.out
  obtain ⟨F, hF⟩ : ∃ F : Value, F = .func (.func 94) #[] #[.pointer (some ⟨lB, 0, none⟩), .pointer (some ⟨aB, 0, none⟩), .pointer (some ⟨H, 0, none⟩), .pointer (some ⟨bB, 0, none⟩), .pointer (some ⟨nB, 0, none⟩), .pointer (some ⟨w2.heap.size, 0, none⟩), .pointer (some ⟨lB + 1, 0, none⟩)] := ⟨_, rfl⟩
  rw [← hF]
  have j4 := HJ.out.take _ _ _ (.cells #[.slice none 0 0] 22) j3
  have j5 := HJ.out.take _ _ _ (.cells #[F] 101) j4
  simp only [World.size_alloc, hlB] at j5
  have hx := Row.new w3 22 [.slice none 0 0]
  have hy := Row.new (w3.alloc (.cells #[.slice none 0 0] 22)) 101 [F]
  rw [World.size_alloc, hlB] at hy
  rw [hlB] at hx
  have hx' := hx.alloc (.cells #[F] 101)
  have b4 : Below w3.heap.size w3 ((w3.alloc (.cells #[.slice none 0 0] 22)).alloc (.cells #[F] 101)) := ((Below.refl _ w3).alloc (Nat.le_refl _) _).alloc (by simp) _
  have hs5 : ((w3.alloc (.cells #[.slice none 0 0] 22)).alloc (.cells #[F] 101)).heap.size = lB + 2 := by rw [World.size_alloc, World.size_alloc, hlB]
  obtain ⟨W5, hW5⟩ : ∃ W5, ((w3.alloc (.cells #[.slice none 0 0] 22)).alloc (.cells #[F] 101)) = W5 := ⟨_, rfl⟩
  have e5 : ((w3.alloc (.cells #[.slice none 0 0] 22)).alloc (.cells [F].toArray 101)) = W5 := hW5
  have e6 : ((w3.alloc (.cells [Value.slice none 0 0].toArray 22)).alloc (.cells #[F] 101)) = W5 := hW5
  rw [hW5] at j5 b4 hs5 ⊢
  rw [e5] at hy
  rw [e6] at hx'
  have bw5 : Below w.heap.size w W5 := ((HB1.out.trans (B2.out.mono HB1.out.size)).trans (b3.mono (Nat.le_trans HB1.out.size B2.out.size))).trans (b4.mono (Nat.le_trans (Nat.le_trans HB1.out.size B2.out.size) b3.size))
  have b24 : Below w2.heap.size w2 W5 := b3.trans (b4.mono b3.size)
  have hr5 : W5.heap[w2.heap.size]? = some (.cells cs 99 (0, 0)) := (b4.block _ (by omega)).trans hr3
  have hbx : LBox n us bs L lB aB H bB nB w2.heap.size (lB + 1) l b1 o1 c1 b2 o2 c2 W5 :=
    ⟨cell_later b24 x1, cell_later b24 x2, by rw [HLN.out]; exact cell_later b24 x3, cell_later b24 x4, by rw [← hF]; exact hy.cell 0, fun i hi => cell_later bw5 (HA.out i hi), fun i hi => cell_later bw5 (HBs.out i (by have := HLN.out; omega)),
      fun i hi => by
        have hrw : Row W5 w2.heap.size 99 (ints L) := by unfold Row; rw [hr5, HCS.out]
        rw [hrw.cell i, ints_at (by rw [HL64.out]; exact hi)]⟩
  have hld : LeadAt W5 (fun k => (((((fun _ => False) k ∨ k = H) ∨ k = w2.heap.size) ∨ (False ∧ k < lB)) ∨ k = lB) ∨ k = lB + 1) lB (lB + 2) [] := ⟨_, hx', World.ownsRow_nil _ _ _ _, fun g e => by cases e⟩
  have HE := Lib.hid (extend_any n us bs L lB aB H bB nB w2.heap.size (lB + 1) l b1 o1 c1 b2 o2 c2 W.heap.size (lB + 2) N (fun m => m ∈ leads n us bs) S (fun k => k = H ∨ k = w2.heap.size ∨ k = lB + 1) J Jx HV.out HL64.out HG.out hc1 (by rw [HLN.out]; exact hc2) s1 s2 s3 t4 t5 (.inl rfl) (.inr (.inr rfl)) (.inr (.inl rfl))
    (fun k hk => by rw [HH.out]; exact HSW.out k hk) (fun k hk => by have h1 := HS1.out; rcases hk with rfl | rfl | rfl <;> omega) (by have h1 := HS1.out; have h2 := HH.out; omega) (by omega) HJ.out HY.out us.length 0 [] [] _ W5 (Nat.two_pow_pos _) rfl (Nat.zero_add _) ⟨by rw [List.length_nil, Nat.zero_add]; exact HN.out, fun m hm => hm⟩ (by omega) hbx
    (fun k hk => by
      rcases hk with rfl | rfl | rfl
      · exact .inl (.inl (.inl (.inl (.inr rfl))))
      · exact .inl (.inl (.inl (.inr rfl)))
      · exact .inr rfl) (.inl (.inr rfl)) (fun k hk => by
      have h1 := HS1.out
      rcases hk with ((((hk | rfl) | rfl) | hk) | rfl) | rfl
      · exact hk.elim
      · omega
      · omega
      · exact hk.1.elim
      · omega
      · omega) hld j5)
  clear hld hbx hr5 b24 bw5 hx' hy hx b4 hs5 j3 j4 j5 b3 hs3 hr3
  refine HE.out.mono ?_
  rintro e W6 ⟨_, _, _, Z6, add, _, (⟨rfl, hm, hj6, _⟩ | ⟨rfl, ⟨q, hq⟩, hj6⟩)⟩
  · have HJ6 := Lib.hid hj6
    have HM := Lib.hid hm
    clear hj6 hm
    go_wp2
    go_end0
    exact ⟨⟨_, rfl⟩, .inl ⟨add, Z6, HM.out, HJ6.out⟩⟩
  · have HJ6 := Lib.hid hj6
    have HQ := Lib.hid hq
    clear hj6 hq
    go_wp2
    go_end0
    exact ⟨⟨_, rfl⟩, .inr ⟨add, Z6, ⟨q, HQ.out⟩, HJ6.out⟩⟩

theorem leadings_any (n : Int) (ao bo : Option Addr) (m k c d : Nat) (w : World) :
    Calls Try.prog 62 #[.int .i64 n, .slice ao m c, .slice bo k d] w fun e w' => e = .returned (.func (.func 93) #[] #[.pointer (some ⟨w.heap.size, 0, none⟩), .pointer (some ⟨w.heap.size + 1, 0, none⟩), .pointer (some ⟨w.heap.size + 1 + 1, 0, none⟩)]) ∧
      ((w.alloc (.cells #[.int .i64 n] 3)).alloc (.cells #[.slice ao m c] 22)).alloc (.cells #[.slice bo k d] 22) = w' := by
  go_enter Try.func62, Try.ntmps62
  go_wp2
  go_ret
  exact ⟨rfl, rfl⟩
end Go.Proofs.Ytkpiakoijkflmaa

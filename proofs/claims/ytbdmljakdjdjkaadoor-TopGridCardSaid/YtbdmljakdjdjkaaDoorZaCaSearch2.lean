/-
  The closure that enters voice after voice, where a beat is empty: a loop over the beats that calls it again.
-/
import Derived.Test.YtbdmljakdjdjkaaDoorZaLeafA
import Derived.Test.YtbdmljakdjdjkaaDoorZaCaSearch
import Derived.Test.YtbdmljakdjdjkaaDoorZaTonesT
namespace Go.Proofs.YtbdmljakdjdjkaaDoor.Za
open Go.RowKit Go.Shelf
attribute [local go_sem] Oper.semAt_some
set_option maxRecDepth 100000

theorem _root_.Go.Proofs.YtbdmljakdjdjkaaDoor.KeepsBut.own {α : Type} {l B : Nat} {W : World} (hB : W.heap.size ≤ B) : OwnFrom B (fun (_ : α) W' => KeepsBut l W W') :=
  fun _ A A' row h hg hr => ⟨Nat.le_trans h.size hg.size, fun k o hk ho hc => by
    have hlt := (Array.getElem?_eq_some_iff.1 ho).1
    have := h.same k o hk ho hc
    exact (hg.block k (Array.getElem?_eq_some_iff.1 this).1 (fun e => by have := (hr k e.symm).1; omega)).trans this⟩
theorem _root_.Go.Proofs.YtbdmljakdjdjkaaDoor.KeptOn.mono {S S' : Nat → Prop} {W W' : World} (h : KeptOn S W W') (hs : ∀ k, S' k → S k) : KeptOn S' W W' := ⟨h.size, fun k hk => h.block k (hs k hk)⟩
theorem _root_.Go.Proofs.YtbdmljakdjdjkaaDoor.KeptOn.own {α : Type} {B : Nat} {S : Nat → Prop} {W : World} (hS : ∀ k, S k → k < B) (hS2 : ∀ k, S k → k < W.heap.size) : OwnFrom B (fun (_ : α) W' => KeptOn S W W') :=
  fun _ A A' row h hg hr => ⟨Nat.le_trans h.size hg.size, fun k hk => by
    have h1 := h.size
    have h2 := hS2 k hk
    exact (hg.block k (by omega) (fun e => by have := (hr k e.symm).1; have := hS k hk; omega)).trans (h.block k hk)⟩

/-- The contract at so many steps still to go. -/
def EnterAt (n a nB aB yB eB l B0 N : Nat) (S : Nat → Prop) (J Jx : List Nat → (Nat → Prop) → World → Prop) (f : Nat) : Prop :=
  ∀ (b filled : Nat) (pre : List Nat) (Z : Nat → Prop) (W : World), Inv n a b filled → n ≤ f + cardN n filled → pre.length + 1073741824 * (f + 1) ≤ N → B0 ≤ W.heap.size → Tab W → Boxes n a nB aB yB eB l W →
    Z yB → Z eB → (∀ k, Z k → k < W.heap.size) → J pre Z W →
    Calls Tryd.prog 37 #[.int .i64 b, .int .i64 filled, .pointer (some ⟨nB, 0, none⟩), .pointer (some ⟨yB, 0, none⟩), .pointer (some ⟨aB, 0, none⟩), .pointer (some ⟨eB, 0, none⟩)] W fun e W' =>
      KeepsBut l W W' ∧ KeptOn Z W W' ∧ KeptOn S W W' ∧ Ends J Jx pre Z W (partL n a f b filled) e W'

theorem partX_length {n a f b filled : Nat} (ha : a < 2 ^ n) (hn : n ≤ 24) (hv : Inv n a b filled) (hne : filled ≠ 2 ^ n - 1) (x : ToneOf n a) : (partX n a f b filled x.val).length ≤ 16777216 := by
  have hn24 : 2 ^ n ≤ 2 ^ 24 := Nat.pow_le_pow_right (by omega) hn
  unfold partX
  obtain ⟨h1, _⟩ := empty_spec (by omega) hv.2.1 hne
  by_cases h : mvN n a (backN n (emptyN filled) x.val) &&& filled = 0
  · rw [if_pos h]
    have hi := inv_step ha (back_lt (by omega)) h1 (voice_bit ha h1 x.property.1 x.property.2) h hv
    have := nodup_length (part_nodup ha (by omega) f hi) (fun c hc => (part_sound ha (by omega) f hi hc).1)
    omega
  · rw [if_neg h]; simp
theorem flat_length {n a f b filled : Nat} (ha : a < 2 ^ n) (hn : n ≤ 24) (hv : Inv n a b filled) (hne : filled ≠ 2 ^ n - 1) (xs : List (ToneOf n a)) : ((xs.map Subtype.val).flatMap (partX n a f b filled)).length ≤ xs.length * 16777216 := by
  induction xs with
  | nil => simp
  | cons x xs ih =>
    rw [List.map_cons, List.flatMap_cons, List.length_append, List.length_cons]
    have := partX_length (f := f) ha hn hv hne x
    omega

theorem len_boundK {K p q s f N : Nat} (h8 : p + 64 * K * (f + 1 + 1) ≤ N) (h9 : q ≤ s * K) (hs : s < 64) : p + q + 64 * K * (f + 1) ≤ N := by
  have h1 : s * K ≤ 63 * K := Nat.mul_le_mul_right K (by omega)
  have h2 : 64 * K * (f + 1 + 1) = 64 * K * (f + 1) + 64 * K := Nat.mul_succ _ _
  rw [h2] at h8
  generalize 64 * K * (f + 1) = t at h8 ⊢
  generalize s * K = u at h9 h1
  omega
theorem len_bound {p q s f N : Nat} (h8 : p + 1073741824 * (f + 1 + 1) ≤ N) (h9 : q ≤ s * 16777216) (hs : s < 64) : p + q + 1073741824 * (f + 1) ≤ N := len_boundK (K := 16777216) h8 h9 hs

/-- What a round leaves. -/
def MidI (n a f b filled l : Nat) (S Z5 : Nat → Prop) (J : List Nat → (Nat → Prop) → World → Prop) (pre : List Nat) (W5 : World) (xs : List (ToneOf n a)) (V : World) : Prop :=
  (KeepsBut l W5 V ∧ KeptOn Z5 W5 V ∧ KeptOn S W5 V) ∧ ∃ Z' : Nat → Prop, ((∀ k, Z5 k → Z' k) ∧ (∀ k, Z' k → k < V.heap.size) ∧ (∀ k, Z' k → Z5 k ∨ W5.heap.size ≤ k)) ∧ J (pre ++ (xs.map Subtype.val).flatMap (partX n a f b filled)) Z' V
/-- What a round leaves that is the last one. -/
def MidX (n a f b filled l rB : Nat) (S Z Z5 : Nat → Prop) (Jx : List Nat → (Nat → Prop) → World → Prop) (pre : List Nat) (W5 : World) (c : Code) (xs : List (ToneOf n a)) (V : World) : Prop :=
  (c = .ret ∧ KeepsBut l W5 V ∧ KeptOn Z W5 V ∧ KeptOn S W5 V) ∧ (V.cell? ⟨rB, 0, none⟩ = some (.bool false)) ∧ ∃ Z' : Nat → Prop, ((∀ k, Z5 k → Z' k) ∧ (∀ k, Z' k → k < V.heap.size) ∧ (∀ k, Z' k → Z5 k ∨ W5.heap.size ≤ k)) ∧
    ∃ p q, (xs.map Subtype.val).flatMap (partX n a f b filled) = p ++ q ∧ Jx (pre ++ p) Z' V

theorem MidI.own {n a f b filled l B0 : Nat} {S Z5 : Nat → Prop} {J : List Nat → (Nat → Prop) → World → Prop} {pre : List Nat} {W5 : World} (hJ : Sep B0 J) (hB : B0 ≤ W5.heap.size) (hZ : ∀ k, Z5 k → k < W5.heap.size) (hS : ∀ k, S k → k < W5.heap.size) :
    OwnFrom W5.heap.size (MidI n a f b filled l S Z5 J pre W5) := fun s A A' row ⟨⟨h1, h2, h3⟩, Z', ⟨z1, z2, z3⟩, hj⟩ hg hr =>
  ⟨⟨KeepsBut.own (α := Unit) (Nat.le_refl _) () A A' row h1 hg hr, KeptOn.own (α := Unit) hZ hZ () A A' row h2 hg hr, KeptOn.own (α := Unit) hS hS () A A' row h3 hg hr⟩, Z', ⟨z1, fun k hk => Nat.lt_of_lt_of_le (z2 k hk) hg.size, z3⟩,
    hJ.grow _ _ _ _ row hj hg (fun r e => by obtain ⟨x1, x2⟩ := hr r e; exact ⟨by omega, x2⟩)⟩
theorem MidX.own {n a f b filled l rB B0 : Nat} {S Z Z5 : Nat → Prop} {Jx : List Nat → (Nat → Prop) → World → Prop} {pre : List Nat} {W5 : World} (hJ : Sep B0 Jx) (hB : B0 ≤ W5.heap.size) (hZ : ∀ k, Z k → k < W5.heap.size) (hS : ∀ k, S k → k < W5.heap.size) (c : Code) :
    OwnFrom W5.heap.size (MidX n a f b filled l rB S Z Z5 Jx pre W5 c) := fun s A A' row ⟨⟨hc, h1, h2, h3⟩, hcell, Z', ⟨z1, z2, z3⟩, p, q, hpq, hj⟩ hg hr =>
  ⟨⟨hc, KeepsBut.own (α := Unit) (Nat.le_refl _) () A A' row h1 hg hr, KeptOn.own (α := Unit) hZ hZ () A A' row h2 hg hr, KeptOn.own (α := Unit) hS hS () A A' row h3 hg hr⟩, cell_kept hcell hg (fun r e => (hr r e).2), Z', ⟨z1, fun k hk => Nat.lt_of_lt_of_le (z2 k hk) hg.size, z3⟩,
    p, q, hpq, hJ.grow _ _ _ _ row hj hg (fun r e => by obtain ⟨x1, x2⟩ := hr r e; exact ⟨by omega, x2⟩)⟩

section
variable (n a nB aB yB eB l B0 N : Nat) (S : Nat → Prop) (J Jx : List Nat → (Nat → Prop) → World → Prop)

set_option maxHeartbeats 4000000 in
theorem enter_more (hn : 2 ≤ n) (hn2 : n ≤ 24) (ha : a < 2 ^ n) (hSg : S 1) (hSn : S nB) (hSa : S aB) (hS0 : ∀ k, S k → k < B0) (hl : l < B0) (hJ : Sep B0 J) (hJx : Sep B0 Jx) (f : Nat)
    (ih : EnterAt n a nB aB yB eB l B0 N S J Jx f) (b filled : Nat) (hne : filled ≠ 2 ^ n - 1) (pre : List Nat) (Z : Nat → Prop) (W : World) (hinv : Inv n a b filled) (hfu : n ≤ f + 1 + cardN n filled)
    (hN : pre.length + 1073741824 * (f + 1 + 1) ≤ N) (hB0 : B0 ≤ W.heap.size) (hT : Tab W) (hbx : Boxes n a nB aB yB eB l W) (hZy : Z yB) (hZe : Z eB) (hZl : ∀ k, Z k → k < W.heap.size) (hj : J pre Z W) :
    Calls Tryd.prog 37 #[.int .i64 b, .int .i64 filled, .pointer (some ⟨nB, 0, none⟩), .pointer (some ⟨yB, 0, none⟩), .pointer (some ⟨aB, 0, none⟩), .pointer (some ⟨eB, 0, none⟩)] W fun e W' =>
      KeepsBut l W W' ∧ KeptOn Z W W' ∧ KeptOn S W W' ∧ Ends J Jx pre Z W (partL n a (f + 1) b filled) e W' := by
  obtain ⟨hpw1, hpw2⟩ := pow_wraps hn2
  have hn24 : 2 ^ n ≤ 2 ^ 24 := Nat.pow_le_pow_right (by omega) hn2
  obtain ⟨hb, hf, _⟩ := id hinv
  have HI := Lib.hid hinv
  obtain ⟨H, hH⟩ : ∃ H, W.heap.size = H := ⟨_, rfl⟩
  have hL0 := Laid.of b filled W Z
  have hj0 := Laid.take (b := b) (filled := filled) hJ hH hj
  rw [hH] at hL0
  obtain ⟨Z3, hZ3⟩ : ∃ Z3 : Nat → Prop, (fun k => ((Z k ∨ k = H) ∨ k = H + 1) ∨ k = H + 1 + 1) = Z3 := ⟨_, rfl⟩
  obtain ⟨W3, hW3⟩ : ∃ W3, (((W.alloc (.cells #[.int .i64 b] 3)).alloc (.cells #[.int .i64 filled] 3)).alloc (.cells #[.bool false] 4)) = W3 := ⟨_, rfl⟩
  rw [hZ3, hW3] at hL0 hj0
  have HL := Lib.hid hL0
  have hbx3 := hbx.later hL0.below
  have hT3 := hT.same hL0.below
  have q1 := hbx3.n
  have q2 := hbx3.a
  have k0 := hL0.k0
  have k1 := hL0.k1
  have h2n := two_pow_sub n
  have q0 : ((filled : Int) == (2 : Int) ^ n - 1) = false := by rw [beq_eq_false_iff_ne, h2n]; omega
  have HH := Lib.hid hH
  have HBX := Lib.hid hbx3
  obtain ⟨he1, he2⟩ := empty_spec (by omega) hf hne
  have hcw : IntKind.u64.wrap (filled : Int) = filled := wrap_natu filled (by omega)
  have htz := Lib.hid (fun V (hV : Tab V) => tz_any (2 ^ 64 - 1 - filled) (by omega) (by omega) V hV)
  have hnn := xor_max filled (by omega)
  have hem : Lib.ctz 64 (2 ^ 64 - 1 - filled) = emptyN filled := rfl
  rw [hem] at htz
  generalize 2 ^ 64 - 1 - filled = C at hnn htz
  generalize hee : emptyN filled = E at he1 he2 htz
  have HE := Lib.hid hee
  have hpl := partL_more (n := n) (a := a) (f := f) (b := b) hne
  have HPL := Lib.hid hpl
  have HN := Lib.hid hN
  have HJ0 := Lib.hid hj0
  have HNE := Lib.hid hne
  refine (callsIn_wide (n := 9)).1 ?_
  refine callsIn_of_wp_marks Tryd.func37 rfl trivial ?_ rfl
  simp only [Tryd.ntmps37, List.size_toArray, List.length_cons, List.length_nil, Nat.reduceAdd, Nat.reduceSub, Array.replicate_succ, Array.replicate_zero, List.push_toArray, List.append_toArray, List.nil_append, List.cons_append]
  clear h2n hne hbx hL0 hem hpl hN hj0 hbx3 hee
  gi_wp2
  clear hW3 hH hZ3
  refine wpIn_wide.2 ?_
  go_quiet (fail)
  obtain ⟨W4, hW4⟩ : ∃ W4, W3.drewN nq = W4 := ⟨_, rfl⟩
  have hT4 : Tab W4 := by rw [← hW4]; exact hT3.below (below_drewN (Below.refl _ _) nq) hT3.size
  have hs4 : W4.heap.size = H + 3 := by rw [← hW4]; exact HL.out.hs3
  have r1 : W4.cell? ⟨nB, 0, none⟩ = some (.int .i64 n) := by rw [← hW4]; exact q1
  have r2 : W4.cell? ⟨aB, 0, none⟩ = some (.int .i64 a) := by rw [← hW4]; exact q2
  have m0 : W4.cell? ⟨H, 0, none⟩ = some (.int .i64 b) := by rw [← hW4]; exact k0
  have m1 : W4.cell? ⟨H + 1, 0, none⟩ = some (.int .i64 filled) := by rw [← hW4]; exact k1
  have hB4 : Below W.heap.size W W4 := by rw [← hW4]; exact below_drewN HL.out.below nq
  have hbx4 : Boxes n a nB aB yB eB l W4 := by rw [← hW4]; exact ⟨HBX.out.n, HBX.out.a, HBX.out.y, HBX.out.e⟩
  have hj4 : J pre Z3 W4 := by rw [← hW4]; exact hJ.drewN HJ0.out nq
  have m2 : W4.cell? ⟨H + 1 + 1, 0, none⟩ = some (.bool false) := by rw [← hW4]; exact HL.out.k2
  have m3 : W4.frozen? ⟨H + 1 + 1, 0, none⟩ = false := by rw [← hW4]; exact HL.out.f2
  have hz3l : ∀ k, Z3 k → k < W4.heap.size := by rw [← hW4]; exact HL.out.lt hZl
  rw [hW4]
  have HS4 := Lib.hid hs4
  have r3 := cell_up (o := .cells #[.int .i64 (E : Int)] 3) r2
  clear hW4 q1 q2 k0 k1 hT3 hs4 HBX HJ0
  gi_wp2_with (first | (refine ⟨trivial, ?_⟩; gi_at_call 38; refine (callsIn_wide.2 (htz.out _ hT4)).mono ?_; rintro e w' ⟨rfl, rfl⟩) | (refine ⟨trivial, ?_⟩; gi_at_call 31; refine (callsIn_wide.2 (beats_any _ _)).mono ?_; rintro e w' ⟨rfl, rfl⟩))
  have hs4 := HS4.out
  obtain ⟨W5, hW5⟩ : ∃ W5, ((W4.alloc (.cells #[.int .i64 (E : Int)] 3)).alloc (.cells #[.int .i64 (a : Int)] 3)) = W5 := ⟨_, rfl⟩
  obtain ⟨Z5, hZ5⟩ : ∃ Z5 : Nat → Prop, (fun k => (Z3 k ∨ k = H + 3) ∨ k = H + 3 + 1) = Z5 := ⟨_, rfl⟩
  have hB5 : Below W4.heap.size W4 W5 := by rw [← hW5]; exact ((Below.refl _ W4).alloc (Nat.le_refl _) _).alloc (by simp) _
  have hs5 : W5.heap.size = H + 5 := by rw [← hW5]; simp; omega
  have hj5 : J pre Z5 W5 := by
    have j1 := hJ.take _ _ _ (.cells #[.int .i64 (E : Int)] 3) hj4
    have j2 := hJ.take _ _ _ (.cells #[.int .i64 (a : Int)] 3) j1
    simp only [World.size_alloc, hs4] at j2
    rw [hZ5, hW5] at j2
    exact j2
  have n0 := cell_later hB5 m0
  have n1 := cell_later hB5 m1
  have n2 := cell_later hB5 m2
  have n3 : W5.frozen? ⟨H + 1 + 1, 0, none⟩ = false := by rw [← hW5]; exact frozen_up (cell_up m2) (frozen_up m2 m3)
  have n4 : W5.cell? ⟨H + 3, 0, none⟩ = some (.int .i64 E) := by rw [← hW5]; exact cell_up (cell_at (by omega))
  have n5 : W5.cell? ⟨H + 3 + 1, 0, none⟩ = some (.int .i64 a) := by rw [← hW5]; exact cell_at (by simp; omega)
  have hbx5 := hbx4.later hB5
  have hT5 : Tab W5 := hT4.same hB5
  have z35 : ∀ k, Z3 k → Z5 k := fun k hk => by rw [← hZ5]; exact Or.inl (Or.inl hk)
  have z5l : ∀ k, Z5 k → k < W5.heap.size := fun k hk => by
    rw [← hZ5] at hk
    rcases hk with (hk | rfl) | rfl
    · have := hz3l k hk; omega
    · omega
    · omega
  have z5n : ∀ k, Z5 k → Z k ∨ H ≤ k := fun k hk => by
    rw [← hZ5] at hk
    rcases hk with (hk | rfl) | rfl
    · rcases HL.out.new k hk with h | h
      · exact Or.inl h
      · have := HH.out; exact Or.inr (by omega)
    · exact Or.inr (by omega)
    · exact Or.inr (by omega)
  have zH : Z5 H := z35 _ (by rw [HL.out.z]; exact Or.inl (Or.inl (Or.inr rfl)))
  have zH1 : Z5 (H + 1) := z35 _ (by rw [HL.out.z]; exact Or.inl (Or.inr rfl))
  have zH2 : Z5 (H + 1 + 1) := z35 _ (by rw [HL.out.z]; exact Or.inr rfl)
  have zH3 : Z5 (H + 3) := by rw [← hZ5]; exact Or.inl (Or.inr rfl)
  have zy : Z5 yB := z35 _ (HL.out.sub _ hZy)
  have ze : Z5 eB := z35 _ (HL.out.sub _ hZe)
  have hHW := HH.out
  have hs5l : ∀ k, S k → k < W5.heap.size := fun k hk => by have := hS0 k hk; omega
  have hBW5 : Below W.heap.size W W5 := hB4.trans (hB5.mono (by omega))
  rw [hW5, hs4]
  clear hW5 m0 m1 m2 m3 r1 r2 r3 hj4 hbx4 hT4 hB4 hB5 hz3l hcw hnn htz hpw1 hpw2 q0
  refine wpIn_rangeFunc_ownG rfl (by omega) (gf := 47) (lb := #[.pointer (some ⟨H + 3 + 1, 0, none⟩)]) rfl trivial (enters_of Tryd.func47 (by kernel_rfl) rfl)
    (tones1_stopsT (fun k => k = 1) (9 - 1) n a (H + 3 + 1) (by omega) (by omega) ha W5 hT5 rfl n5) keptOn_t (keptOn_b (fun k hk => hs5l k (by rw [hk]; exact hSg))) (Below.refl _ _) (fun _ => rfl)
    (MidI n a f b filled l S Z5 J pre W5) (MidX n a f b filled l (H + 1 + 1) S Z Z5 Jx pre W5)
    (MidI.own hJ (by omega) z5l hs5l) (MidX.own hJx (by omega) (fun k hk => by have := hZl k hk; omega) hs5l)
    ⟨⟨KeepsBut.refl _ _, KeptOn.refl _ _, KeptOn.refl _ _⟩, Z5, ⟨fun _ h => h, z5l, fun _ h => Or.inl h⟩, by simpa using hj5⟩
    (fun x => { tmps := #[.int .i64 b, .int .i64 filled, .pointer (some ⟨nB, 0, none⟩), .pointer (some ⟨yB, 0, none⟩), .pointer (some ⟨aB, 0, none⟩), .pointer (some ⟨eB, 0, none⟩), .pointer (some ⟨H, 0, none⟩), .pointer (some ⟨H + 1, 0, none⟩), .pointer (some ⟨H + 1 + 1, 0, none⟩), .pointer (some ⟨H + 3, 0, none⟩),
      .int .i64 x.val, undef, undef, .int .i64 filled, .int .i64 n, .int .i64 (2 ^ n), .int .i64 (2 ^ n - 1), .bool false, undef, undef, undef, .int .i64 filled, .int .u64 filled, .int .u64 C, .int .i64 E, .int .i64 a, .func (.func 47) #[] #[.pointer (some ⟨H + 3 + 1, 0, none⟩)], .int .i64 x.val,
      undef, undef, undef, undef, undef, undef, undef, undef, undef, undef, undef, undef, undef, undef, undef, undef, undef, undef, undef, undef, undef, undef, undef, undef, undef], defers := [] }) ?assign ?body ?done ?stop
  case assign =>
    intro l2 x V K hK
    gi_wp2
    exact hK
  case body =>
    rintro l2 pre2 x V ⟨⟨kb, kz, ks⟩, Z', ⟨z1, z2, z3⟩, hjV⟩ hlen
    have hxn := x.property.1
    have hxb := x.property.2
    have HMI : ∀ V', KeepsBut l V V' → KeptOn Z' V V' → KeptOn S V V' → KeepsBut l W5 V' ∧ KeptOn Z5 W5 V' ∧ KeptOn S W5 V' := fun V' a1 a2 a3 => ⟨kb.trans a1, kz.trans ⟨a2.size, fun k hk => a2.block k (z1 k hk)⟩, ks.trans a3⟩
    have c0 := (kz.cell (p := ⟨H, 0, none⟩) zH).trans n0
    have c1 := (kz.cell (p := ⟨H + 1, 0, none⟩) zH1).trans n1
    have c2 := (kz.cell (p := ⟨H + 1 + 1, 0, none⟩) zH2).trans n2
    have c2f := (kz.frozen (p := ⟨H + 1 + 1, 0, none⟩) zH2).trans n3
    have c3 := (kz.cell (p := ⟨H + 3, 0, none⟩) zH3).trans n4
    have hbxV := hbx5.kept ks kz hSn hSa zy ze
    have cn := hbxV.n
    have ca := hbxV.a
    have ce := hbxV.e
    have hTV : Tab V := hT5.kept ks hSg
    have hVs : W5.heap.size ≤ V.heap.size := kb.size
    have hw0 : IntKind.i64.wrap ((E : Int) - (x.val : Int)) = E - x.val := IntWalk.i64_in _ (by omega)
    have hu : ((E : Int) - (x.val : Int)) % n = ((backN n E x.val : Nat) : Int) := by
      rw [← Int.add_emod_right]
      have e : (E : Int) - x.val + n = ((E + n - x.val : Nat) : Int) := by omega
      rw [e]; unfold backN; simp
    have hmod : ∀ V' : World, Calls Tryd.prog 39 #[.int .i64 ((E : Int) - (x.val : Int)), .int .i64 n] V' fun e w' => e = .returned (.int .i64 ((backN n E x.val : Nat) : Int)) ∧ V' = w' := fun V' => by
      have h9 := modulo_any ((E : Int) - (x.val : Int)) n (by omega) (by omega) V'
      rwa [hu] at h9
    have hul : backN n E x.val < n := back_lt (by omega)
    have hvb : (mvN n a (backN n E x.val)).testBit E = true := voice_bit ha he1 hxn hxb
    have hpx : partX n a f b filled x.val = if mvN n a (backN n E x.val) &&& filled = 0 then partL n a f (b ||| 2 ^ backN n E x.val) (filled ||| mvN n a (backN n E x.val)) else [] := by unfold partX; rw [HE.out]
    have hfs : mvN n a (backN n E x.val) &&& filled = 0 → n ≤ f + cardN n (filled ||| mvN n a (backN n E x.val)) := fun hv => by
      have := fuel_step (f := f) ha hf (by omega) HNE.out (tone_mem.2 ⟨hxn, hxb⟩) (by rw [HE.out]; exact hv) hfu
      rwa [HE.out] at this
    have hfl := flat_length (f := f) ha hn2 HI.out HNE.out pre2
    have hmap : (pre2 ++ [x]).map Subtype.val = pre2.map Subtype.val ++ [x.val] := by simp
    have HMod := Lib.hid hmod
    have HM := Lib.hid (fun V' => move_any n a (backN n E x.val) hn hn2 ha (by omega) V')
    have hml : mvN n a (backN n E x.val) < 2 ^ n := mv_lt
    generalize backN n E x.val = y at HMod HM hul hvb hpx hfs hml hu
    generalize hvv : mvN n a y = v at HM hvb hpx hfs hml
    have HVV := Lib.hid hvv
    have hand := and_nat v filled (by omega) (by omega)
    have hmx : Tryd.prog.follows .mixedOrders = true := by kernel_rfl
    have HJV := Lib.hid hjV
    have HPX := Lib.hid hpx
    have HU := Lib.hid hu
    have HFL := Lib.hid hfl
    have HMAP := Lib.hid hmap
    clear hmod hjV hpx hvv hu hfl hmap n0 n1 n2 n3 n4 n5
    by_cases hv : v &&& filled = 0
    · have q0 : (bits .and .i64 (v : Int) (filled : Int) == 0) = true := by rw [hand, hv]; rfl
      have hp := pow_bd (y : Int) (by omega) (by omega)
      simp only [Int.toNat_natCast] at hp
      have hy24 : 2 ^ y ≤ 2 ^ 24 := Nat.pow_le_pow_right (by omega) (by omega)
      have e2 : (2 : Int) ^ y = ((2 ^ y : Nat) : Int) := by simp
      have hor1 := or_nat b (2 ^ y) (by omega) (by omega)
      rw [← e2] at hor1
      have hor2 := or_nat filled v (by omega) (by omega)
      have hyw : IntKind.i64.wrap ((2 : Int) ^ y) = 2 ^ y := IntWalk.i64_in _ (by omega)
      have hinv2 : Inv n a (b ||| 2 ^ y) (filled ||| v) := by
        have := inv_step (y := y) (e := E) ha hul he1 (by rw [HVV.out]; exact hvb) (by rw [HVV.out]; exact hv) HI.out
        rwa [HVV.out] at this
      have hih : ∀ k, Calls Tryd.prog 37 #[.int .i64 ((b ||| 2 ^ y : Nat) : Int), .int .i64 ((filled ||| v : Nat) : Int), .pointer (some ⟨nB, 0, none⟩), .pointer (some ⟨yB, 0, none⟩), .pointer (some ⟨aB, 0, none⟩), .pointer (some ⟨eB, 0, none⟩)] (V.drewN k) fun e W' =>
          KeepsBut l (V.drewN k) W' ∧ KeptOn Z' (V.drewN k) W' ∧ KeptOn S (V.drewN k) W' ∧ Ends J Jx (pre ++ (pre2.map Subtype.val).flatMap (partX n a f b filled)) Z' (V.drewN k) (partL n a f (b ||| 2 ^ y) (filled ||| v)) e W' := fun k =>
        ih (b ||| 2 ^ y) (filled ||| v) _ Z' (V.drewN k) hinv2 (hfs hv) (by rw [List.length_append]; exact len_bound HN.out HFL.out hlen) (show B0 ≤ V.heap.size by omega) (hTV.below (below_drewN (Below.refl _ _) k) hTV.size) ⟨hbxV.n, hbxV.a, hbxV.y, hbxV.e⟩ (z1 _ zy) (z1 _ ze) z2 (hJ.drewN HJV.out k)
      have HIH := Lib.hid hih
      have hpx2 := HPX.out
      rw [if_pos hv] at hpx2
      have HP2 := Lib.hid hpx2
      clear hand hv hfs hih hinv2 hpx2 e2 hy24
      generalize b ||| 2 ^ y = b' at hor1 HIH HP2
      generalize filled ||| v = f' at hor2 HIH HP2
      gi_wp2_with (first | (refine ⟨trivial, ?_⟩; gi_at_call 39; refine (CallsIn.inRound l2 (callsIn_wide.2 (HMod.out _))).mono ?_; rintro e w' ⟨rfl, rfl⟩) | (refine ⟨trivial, ?_⟩; gi_at_call 32; refine (CallsIn.inRound l2 (callsIn_wide.2 (HM.out _))).mono ?_; rintro e w' ⟨rfl, m1, rfl⟩))
      refine region_quiet_tail 13 hmx (by kernel_rfl) (by kernel_rfl) ?_
      simp only [List.take_succ_cons, List.take_zero, List.drop_succ_cons, List.drop_zero]
      repeat (go_big_quiet_step (fail))
      refine wpQuiet_nil ?_
      rintro _ ⟨nq2, rfl⟩
      rw [World.drewN_drewN]
      generalize m1 + nq2 = mm
      gi_wp2_with fail
      refine ⟨trivial, ?_⟩
      refine (CallsIn.inRound l2 (callsIn_wide.2 (HIH.out mm))).mono ?_
      rintro e V2 ⟨jb, jz, js, Z2, y1, y2, y3, (⟨rfl, hj2⟩ | ⟨rfl, p, q, hpq, hj2⟩)⟩
      · obtain ⟨g1, g2, g3⟩ := HMI V2 ((KeepsBut.drewN V mm).trans jb) (((KeptOn.refl _ V).drewN mm).trans jz) (((KeptOn.refl _ V).drewN mm).trans js)
        have HJ2 := Lib.hid hj2
        clear hj2
        gi_wp2
        refine ⟨((KeepsBut.drewN V mm).trans jb).from (by omega), (((KeptOn.refl _ V).drewN mm).trans js).mono (fun k hk => by rw [hk]; exact hSg), ⟨g1, g2, g3⟩, Z2, ⟨fun k hk => y1 k (z1 k hk), y2, fun k hk => ?_⟩, ?_⟩
        · rcases y3 k hk with h | h
          · exact z3 k h
          · exact Or.inr (Nat.le_trans hVs h)
        · rw [HMAP.out, List.flatMap_append, List.flatMap_singleton, HP2.out, ← List.append_assoc]
          exact HJ2.out
      · obtain ⟨g1, g2, g3⟩ := HMI V2 ((KeepsBut.drewN V mm).trans jb) (((KeptOn.refl _ V).drewN mm).trans jz) (((KeptOn.refl _ V).drewN mm).trans js)
        have d2 := (jz.cell (p := ⟨H + 1 + 1, 0, none⟩) (z1 _ zH2)).trans (show (V.drewN mm).cell? ⟨H + 1 + 1, 0, none⟩ = some (.bool false) from c2)
        have d2f := (jz.frozen (p := ⟨H + 1 + 1, 0, none⟩) (z1 _ zH2)).trans (show (V.drewN mm).frozen? ⟨H + 1 + 1, 0, none⟩ = false from c2f)
        have HJ2 := Lib.hid hj2
        have HPQ := Lib.hid hpq
        clear hj2 hpq
        gi_wp2
        have hnz : ¬ Z (H + 1 + 1) := fun h => by have := hZl _ h; omega
        have hns : ¬ S (H + 1 + 1) := fun h => by have := hS0 _ h; omega
        refine ⟨(((KeepsBut.drewN V mm).trans jb).trans (KeepsBut.setCell _ _ _)).from (by omega), ⟨rfl, g1.trans (KeepsBut.setCell _ _ _), (⟨g2.size, fun k hk => g2.block k (z35 k (HL.out.sub k hk))⟩ : KeptOn Z W5 V2).setCell (p := ⟨H + 1 + 1, 0, none⟩) hnz _, g3.setCell (p := ⟨H + 1 + 1, 0, none⟩) hns _⟩,
          cell_set_same d2, Z2, ⟨fun k hk => y1 k (z1 k hk), fun k hk => by have := y2 k hk; simpa [World.setCell] using this, fun k hk => ?_⟩, (pre2.map Subtype.val).flatMap (partX n a f b filled) ++ p, q, ?_, ?_⟩
        · rcases y3 k hk with h | h
          · exact z3 k h
          · exact Or.inr (Nat.le_trans hVs h)
        · rw [HMAP.out, List.flatMap_append, List.flatMap_singleton, HP2.out, HPQ.out, List.append_assoc]
        · rw [← List.append_assoc]
          exact hJx.priv _ _ _ _ 0 (.bool false) HJ2.out (y1 _ (z1 _ zH2))
    · have q0 : (bits .and .i64 (v : Int) (filled : Int) == 0) = false := by rw [hand, beq_eq_false_iff_ne]; omega
      have hpx2 := HPX.out
      rw [if_neg hv] at hpx2
      have HP2 := Lib.hid hpx2
      clear hand hv hfs hpx2
      gi_wp2_with (first | (refine ⟨trivial, ?_⟩; gi_at_call 39; refine (CallsIn.inRound l2 (callsIn_wide.2 (HMod.out _))).mono ?_; rintro e w' ⟨rfl, rfl⟩) | (refine ⟨trivial, ?_⟩; gi_at_call 32; refine (CallsIn.inRound l2 (callsIn_wide.2 (HM.out _))).mono ?_; rintro e w' ⟨rfl, m1, rfl⟩))
      refine region_quiet_tail 15 hmx (by kernel_rfl) (by kernel_rfl) ?_
      simp only [List.take_succ_cons, List.take_zero, List.drop_succ_cons, List.drop_zero]
      repeat (go_big_quiet_step (fail))
      refine wpQuiet_nil ?_
      rintro _ ⟨nq2, rfl⟩
      rw [World.drewN_drewN]
      generalize m1 + nq2 = mm
      obtain ⟨g1, g2, g3⟩ := HMI (V.drewN mm) (KeepsBut.drewN V mm) ((KeptOn.refl _ V).drewN mm) ((KeptOn.refl _ V).drewN mm)
      gi_wp2
      refine ⟨(KeepsBut.drewN (l := l) V mm).from (by omega), (KeptOn.refl _ V).drewN mm, ⟨g1, g2, g3⟩, Z', ⟨z1, z2, z3⟩, ?_⟩
      rw [HMAP.out, List.flatMap_append, List.flatMap_singleton, HP2.out, List.append_nil]
      exact hJ.drewN HJV.out mm
  case done =>
    rintro D ys V hD hys ⟨⟨kb, kz, ks⟩, Z', ⟨z1, z2, z3⟩, hjV⟩ hK
    have c2 := (kz.cell (p := ⟨H + 1 + 1, 0, none⟩) zH2).trans n2
    have c2f := (kz.frozen (p := ⟨H + 1 + 1, 0, none⟩) zH2).trans n3
    rw [hys, tonesL_eq a (by omega) ha, ← HPL.out] at hjV
    have HJV := Lib.hid hjV
    clear hjV hys
    gi_wp2
    have hK' := (KeepsOthers.setCell V ⟨H + 1 + 1, 0, none⟩ (.bool true)).same D _ hK rfl
    refine ⟨by simp, .inl ⟨_, _, rfl, run_takeDeferred hK', ?_⟩⟩
    have hc5 := cell_kept (cell_set_same (u := .bool true) c2) (grownBy_putObj' _ D (.deferred none)) (fun r e => by cases e; exact ⟨_, hK', rfl⟩)
    have hnz : ¬ Z (H + 1 + 1) := fun h => by have := hZl _ h; omega
    have hns : ¬ S (H + 1 + 1) := fun h => by have := hS0 _ h; omega
    have hgr := grownBy_putObj' (V.setCell ⟨H + 1 + 1, 0, none⟩ (.bool true)) D (.deferred none)
    have hrow : ∀ r, some D = some r → W5.heap.size ≤ r ∧ ∃ o : Obj, (V.setCell ⟨H + 1 + 1, 0, none⟩ (.bool true)).heap[r]? = some o ∧ o.isCells = false := fun r e => by cases e; exact ⟨hD, _, hK', rfl⟩
    refine ⟨.bool true, by simp [results, Tryd.f37, go_sem, hc5], ?_, ?_, ?_, Z', fun k hk => z1 k (z35 k (HL.out.sub k hk)), fun k hk => ?_, fun k hk => ?_, Or.inl ⟨rfl, ?_⟩⟩
    · exact KeepsBut.own (α := Unit) (by omega) () _ _ (some D) (((KeepsBut.below hBW5 (Nat.le_refl _)).trans kb).trans (KeepsBut.setCell _ _ _)) hgr hrow
    · exact KeptOn.own (α := Unit) (fun k hk => by have := hZl k hk; omega) hZl () _ _ (some D) ((((KeptOn.refl _ _).below hBW5 hZl).trans ⟨kz.size, fun k hk => kz.block k (z35 k (HL.out.sub k hk))⟩).setCell (p := ⟨H + 1 + 1, 0, none⟩) hnz _) hgr hrow
    · exact KeptOn.own (α := Unit) hs5l (fun k hk => by have := hS0 k hk; omega) () _ _ (some D) ((((KeptOn.refl _ _).below hBW5 (fun k hk => by have := hS0 k hk; omega)).trans ks).setCell (p := ⟨H + 1 + 1, 0, none⟩) hns _) hgr hrow
    · exact Nat.lt_of_lt_of_le (z2 k hk) (Nat.le_trans (by simp [World.setCell]) hgr.size)
    · rcases z3 k hk with h | h
      · rcases z5n k h with h | h
        · exact Or.inl h
        · exact Or.inr (by omega)
      · exact Or.inr (by omega)
    · exact hJ.grow _ _ _ _ (some D) (hJ.priv _ _ _ _ 0 (.bool true) HJV.out (z1 _ zH2)) hgr (fun r e => by obtain ⟨x1, x2⟩ := hrow r e; exact ⟨by omega, x2⟩)
  case stop =>
    rintro D c xs V hD ⟨r, hr⟩ ⟨⟨rfl, kb, kz, ks⟩, c2, Z', ⟨z1, z2, z3⟩, p, q, hpq, hjV⟩ hK
    have HR := Lib.hid hr
    have HPQ := Lib.hid hpq
    have HJV := Lib.hid hjV
    clear hjV hr hpq n2 n3
    gi_wp2
    refine ⟨by simp, .inl ⟨_, _, rfl, run_takeDeferred hK, ?_⟩⟩
    have hc5 := cell_kept c2 (grownBy_putObj' _ D (.deferred none)) (fun r e => by cases e; exact ⟨_, hK, rfl⟩)
    have hgr := grownBy_putObj' V D (.deferred none)
    have hrow : ∀ r, some D = some r → W5.heap.size ≤ r ∧ ∃ o : Obj, V.heap[r]? = some o ∧ o.isCells = false := fun r e => by cases e; exact ⟨hD, _, hK, rfl⟩
    refine ⟨.bool false, by simp [results, Tryd.f37, go_sem, hc5], ?_, ?_, ?_, Z', fun k hk => z1 k (z35 k (HL.out.sub k hk)), fun k hk => ?_, fun k hk => ?_, Or.inr ⟨rfl, p, q ++ r.flatMap (partX n a f b filled), ?_, ?_⟩⟩
    · exact KeepsBut.own (α := Unit) (by omega) () _ _ (some D) ((KeepsBut.below hBW5 (Nat.le_refl _)).trans kb) hgr hrow
    · exact KeptOn.own (α := Unit) (fun k hk => by have := hZl k hk; omega) hZl () _ _ (some D) (((KeptOn.refl _ _).below hBW5 hZl).trans kz) hgr hrow
    · exact KeptOn.own (α := Unit) hs5l (fun k hk => by have := hS0 k hk; omega) () _ _ (some D) (((KeptOn.refl _ _).below hBW5 (fun k hk => by have := hS0 k hk; omega)).trans ks) hgr hrow
    · exact Nat.lt_of_lt_of_le (z2 k hk) hgr.size
    · rcases z3 k hk with h | h
      · rcases z5n k h with h | h
        · exact Or.inl h
        · exact Or.inr (by omega)
      · exact Or.inr (by omega)
    · rw [HPL.out, ← tonesL_eq a (by omega) ha, HR.out, List.flatMap_append, HPQ.out, List.append_assoc]
    · exact hJx.grow _ _ _ _ (some D) HJV.out hgr (fun r e => by obtain ⟨x1, x2⟩ := hrow r e; exact ⟨by omega, x2⟩)
end

end Go.Proofs.YtbdmljakdjdjkaaDoor.Za

/-
  Made: whether a row is made of one part.
-/
import Derived.Test.YtdfagnjdconkcaaRoChunk
import Derived.Test.YtdfagnjdconkcaaCalmM
namespace Go.Proofs.Ytdfagnjdconkcaa
open Go.ChangeShapes Go.WideShapes Go.ChangeAt Go.RowKit Go.Shelf
attribute [local go_sem] Oper.semAt_some
set_option linter.unusedVariables false
set_option maxRecDepth 100000

theorem toA {l : List Oper} {i : Nat} {o : Oper} (h : l[i]? = some o) : l.toArray[i]? = some o := by simpa using h
theorem bl_two (W : World) (o p : Obj) : Below W.heap.size W ((W.alloc o).alloc p) := ((Below.refl _ W).alloc (Nat.le_refl _) o).alloc (by simp) p
theorem bl_one {W0 W : World} (h : Below W0.heap.size W0 W) (o : Obj) : Below W0.heap.size W0 (W.alloc o) := h.alloc h.size o
theorem sliced_zero (b off d cap : Nat) : sliced (some ⟨b, off, none⟩) 0 d cap 1 = .slice (some ⟨b, off, none⟩) d cap := by simp [sliced, Addr.add]
theorem chunk_enters : ∀ args w, (callFunc 24 args).run Try.prog w = .ok (.enter 24 args) w := fun args w => enters_of Try.func24 (by kernel_rfl) rfl args w

/-- The boxes of Made. -/
def MBox (H n d : Nat) (sv : Value) (W : World) : Prop := Row W H 22 [sv] ∧ Row W (H + 1) 3 [.int .i64 (d : Int)] ∧ Row W (H + 1 + 1 + 1 + 1) 3 [.int .i64 (n : Int)]
def MRes (H : Nat) (r : Bool) (W : World) : Prop := Row W (H + 1 + 1) 4 [.bool r] ∧ Row W (H + 1 + 1 + 1) 23 [.int .i64 0]
def MadeI (n d : Nat) (ys : List Nat) (sv : Value) (H : Nat) (w : World) (pre : List CX) (Z : Nat → Prop) (W : World) : Prop :=
  (∀ x ∈ pre, pcB n ys d (x.1 * d) = true) ∧ (MBox H n d sv W ∧ MRes H false W) ∧ (∀ k, Z k → H + 7 ≤ k) ∧ Below H w W ∧ H + 7 ≤ W.heap.size
def MadeX (n d : Nat) (ys : List Nat) (H : Nat) (w : World) (pre : List CX) (Z : Nat → Prop) (W : World) : Prop :=
  (∃ p x, pre = p ++ [x] ∧ pcB n ys d (x.1 * d) = false) ∧ MRes H false W ∧ (∀ k, Z k → H + 7 ≤ k) ∧ Below H w W ∧ H + 7 ≤ W.heap.size

theorem MBox.kept {H n d : Nat} {sv : Value} {W W' : World} {row : Option Nat} (h : MBox H n d sv W) (hg : W.grownBy W' row) (hr : ∀ r, row = some r → ∃ o : Obj, W.heap[r]? = some o ∧ o.isCells = false) : MBox H n d sv W' := ⟨h.1.kept hg hr, h.2.1.kept hg hr, h.2.2.kept hg hr⟩
theorem MRes.kept {H : Nat} {r : Bool} {W W' : World} {row : Option Nat} (h : MRes H r W) (hg : W.grownBy W' row) (hr : ∀ r, row = some r → ∃ o : Obj, W.heap[r]? = some o ∧ o.isCells = false) : MRes H r W' := ⟨h.1.kept hg hr, h.2.kept hg hr⟩
theorem MBox.later {H n d : Nat} {sv : Value} {W W' : World} (h : MBox H n d sv W) (hb : Below W.heap.size W W') : MBox H n d sv W' := ⟨h.1.later hb, h.2.1.later hb, h.2.2.later hb⟩
theorem MRes.later {H : Nat} {r : Bool} {W W' : World} (h : MRes H r W) (hb : Below W.heap.size W W') : MRes H r W' := ⟨h.1.later hb, h.2.later hb⟩
theorem MBox.other {H n d r i : Nat} {sv u : Value} {W : World} (h : MBox H n d sv W) (hr : H + 7 ≤ r) : MBox H n d sv (W.setCell ⟨r, i, none⟩ u) := ⟨h.1.other (by omega) u, h.2.1.other (by omega) u, h.2.2.other (by omega) u⟩
theorem MRes.other {H r i : Nat} {q : Bool} {u : Value} {W : World} (h : MRes H q W) (hr : H + 7 ≤ r) : MRes H q (W.setCell ⟨r, i, none⟩ u) := ⟨h.1.other (by omega) u, h.2.other (by omega) u⟩

theorem MadeI.sep {n d : Nat} {ys : List Nat} {sv : Value} {H B : Nat} {w : World} (hB : H + 7 ≤ B) : Sep B (MadeI n d ys sv H w) :=
  { grow := fun s Z W W' row ⟨h0, ⟨h1, h2⟩, h3, h4, h5⟩ hg hr => ⟨h0, ⟨h1.kept hg (fun r e => (hr r e).2), h2.kept hg (fun r e => (hr r e).2)⟩, h3, h4.grown hg (by omega) (fun k e => by have := (hr k e).1; omega), Nat.le_trans h5 hg.size⟩
    priv := fun s Z W r i u ⟨h0, ⟨h1, h2⟩, h3, h4, h5⟩ hz => by
      have h6 := h3 r hz
      exact ⟨h0, ⟨h1.other h6, h2.other h6⟩, h3, h4.setCell (p := ⟨r, i, none⟩) (show H ≤ r by omega) u, by simpa [World.setCell] using h5⟩
    take := fun s Z W o ⟨h0, ⟨h1, h2⟩, h3, h4, h5⟩ => ⟨h0, ⟨h1.later ((Below.refl _ _).alloc (Nat.le_refl _) o), h2.later ((Below.refl _ _).alloc (Nat.le_refl _) o)⟩, fun k hk => by
      rcases hk with hk | rfl
      · exact h3 k hk
      · exact h5, h4.alloc (by omega) o, by rw [World.size_alloc]; omega⟩
    draw := fun s Z W ⟨h0, ⟨h1, h2⟩, h3, h4, h5⟩ => ⟨h0, ⟨h1, h2⟩, h3, h4.drew, h5⟩ }
theorem MadeX.sep {n d : Nat} {ys : List Nat} {H B : Nat} {w : World} (hB : H + 7 ≤ B) : Sep B (MadeX n d ys H w) :=
  { grow := fun s Z W W' row ⟨h0, h2, h3, h4, h5⟩ hg hr => ⟨h0, h2.kept hg (fun r e => (hr r e).2), h3, h4.grown hg (by omega) (fun k e => by have := (hr k e).1; omega), Nat.le_trans h5 hg.size⟩
    priv := fun s Z W r i u ⟨h0, h2, h3, h4, h5⟩ hz => by
      have h6 := h3 r hz
      exact ⟨h0, h2.other h6, h3, h4.setCell (p := ⟨r, i, none⟩) (show H ≤ r by omega) u, by simpa [World.setCell] using h5⟩
    take := fun s Z W o ⟨h0, h2, h3, h4, h5⟩ => ⟨h0, h2.later ((Below.refl _ _).alloc (Nat.le_refl _) o), fun k hk => by
      rcases hk with hk | rfl
      · exact h3 k hk
      · exact h5, h4.alloc (by omega) o, by rw [World.size_alloc]; omega⟩
    draw := fun s Z W ⟨h0, h2, h3, h4, h5⟩ => ⟨h0, h2, h3, h4.drew, h5⟩ }

theorem made_all {n d q : Nat} {ys : List Nat} (hd : 0 < d) (hq : n = q * d) {xs : List CX} (hx : xs.map Prod.fst = List.range q) (h : ∀ x ∈ xs, pcB n ys d (x.1 * d) = true) : madeB n ys d = true := by
  unfold madeB
  rw [List.all_eq_true]
  intro j hj
  have hqd : n / d = q := by rw [hq]; exact Nat.mul_div_cancel _ hd
  rw [hqd, ← hx] at hj
  obtain ⟨x, hx2, rfl⟩ := List.mem_map.1 hj
  exact h x hx2
theorem made_not {n d q m : Nat} {ys : List Nat} (hd : 0 < d) (hq : n = q * d) {pre p : List CX} {x : CX} (hm : m < q) (hpre : pre.map Prod.fst = List.range (m + 1)) (e : pre = p ++ [x]) (h : pcB n ys d (x.1 * d) = false) : madeB n ys d = false := by
  unfold madeB
  rw [List.all_eq_false]
  have hqd : n / d = q := by rw [hq]; exact Nat.mul_div_cancel _ hd
  refine ⟨x.1, ?_, by rw [h]; simp⟩
  have : x.1 ∈ pre.map Prod.fst := List.mem_map.2 ⟨x, by rw [e]; simp, rfl⟩
  rw [hpre] at this
  rw [hqd]
  have := List.mem_range.1 this
  exact List.mem_range.2 (by omega)

theorem made_results (tmps : Array Value) (w : World) (g h : Nat) (hp : tmps.getD 4 undef = .pointer (some ⟨g, 0, none⟩)) (hq : tmps.getD 5 undef = .pointer (some ⟨h, 0, none⟩)) {a c : Value}
    (h1 : Row w g 4 [a]) (h2 : Row w h 23 [c]) : (results Try.f5 tmps).run Try.prog w = .ok (.tuple #[a, c]) w := by
  have c0 : w.cell? ⟨g, 0, none⟩ = some a := h1.cell 0
  have c2 : w.cell? ⟨h, 0, none⟩ = some c := h2.cell 0
  have hp' : tmps[4]?.getD undef = .pointer (some ⟨g, 0, none⟩) := by simpa using hp
  have hq' : tmps[5]?.getD undef = .pointer (some ⟨h, 0, none⟩) := by simpa using hq
  simp [results, Try.f5, go_sem, hp', hq', c0, c2]

set_option maxHeartbeats 4000000 in
theorem Made_ok (n d q : Nat) (ys : List Nat) (hr : IsRow n ys) (hrw : rowB (natI ys) = true) (hd : 2 ≤ d) (hd2 : d ≤ n / 2) (hq : n = q * d) (v : Value) (w : World) (h : IntsV w v (natI ys)) :
    Calls Try.prog 5 #[v, .int .i64 (d : Int)] w fun e w' => e = .returned (.tuple #[.bool (madeB n ys d), .int .i64 0]) ∧ Below w.heap.size w w' := by
  have hmx : Try.prog.follows .mixedOrders = true := by kernel_rfl
  have hlen := hr.len
  have hlo := hr.lo
  have hhi := hr.hi
  have hqp : 0 < q := by rcases Nat.eq_zero_or_pos q with rfl | h; omega; exact h
  have H1 := Lib.hid h
  obtain ⟨ao, cap, hv, hlc, hdd⟩ := h
  rw [natI_length, hlen] at hv hlc hdd
  subst hv
  obtain ⟨b0, off, rfl, _⟩ := hdd (by omega)
  clear hdd
  have HR := Lib.hid (fun W (hV : IntsV W (.slice (some ⟨b0, off, none⟩) n cap) (natI ys)) => isRow_any (natI ys) _ W (by rw [natI_length, hlen]; unfold maxLen; omega) hV)
  rw [hrw] at HR
  have HCh := Lib.hid (fun W => Chunk_any (some ⟨b0, off, none⟩) n cap d (by omega) W)
  have hdi : ¬ (d : Int) < 2 := by omega
  have htd : (n : Int).tdiv 2 = ((n / 2 : Nat) : Int) := by rw [Int.tdiv_eq_ediv_of_nonneg (by omega)]; omega
  have hdn : ¬ (d : Int) > ((n / 2 : Nat) : Int) := by omega
  have hdn2 : ¬ ((n / 2 : Nat) : Int) < (d : Int) := by omega
  have hd0 : ¬ (d : Int) = 0 := by omega
  have hrem : (n : Int).tmod (d : Int) = 0 := by rw [hq]; simp
  refine (callsIn_wide (n := 9)).1 ?_
  refine callsIn_of_wp_marks Try.func5 rfl trivial ?_ rfl
  simp only [Try.ntmps5, List.size_toArray, List.length_cons, List.length_nil, Nat.reduceAdd, Nat.reduceSub, Array.replicate_succ, Array.replicate_zero, List.push_toArray, List.append_toArray, List.nil_append, List.cons_append]
  obtain ⟨W0, hW0⟩ : ∃ W0, ((((w.alloc (.cells #[.slice (some ⟨b0, off, none⟩) n cap] 22)).alloc (.cells #[.int .i64 (d : Int)] 3)).alloc (.cells #[.bool false] 4)).alloc (.cells #[.int .i64 0] 23)).alloc (.cells #[.int .i64 (n : Int)] 3) = W0 := ⟨_, rfl⟩
  obtain ⟨H, hH⟩ : ∃ H, w.heap.size = H := ⟨_, rfl⟩
  have hs0 : W0.heap.size = H + 5 := by rw [← hW0, ← hH]; simp
  have hB0 : Below H w W0 := by rw [← hW0, ← hH]; exact (((((Below.refl _ w).alloc (Nat.le_refl _) _).alloc (by simp) _).alloc (by simp; omega) _).alloc (by simp; omega) _).alloc (by simp; omega) _
  have r0 : Row W0 H 22 [.slice (some ⟨b0, off, none⟩) n cap] := by rw [← hW0, ← hH]; exact ((((Row.new w _ _).alloc _).alloc _).alloc _).alloc _
  have r1 : Row W0 (H + 1) 3 [.int .i64 (d : Int)] := by
    rw [← hW0, ← hH]
    have := Row.new (w.alloc (.cells #[.slice (some ⟨b0, off, none⟩) n cap] 22)) 3 [.int .i64 (d : Int)]
    rw [World.size_alloc] at this
    exact ((this.alloc _).alloc _).alloc _
  have r2 : Row W0 (H + 1 + 1) 4 [.bool false] := by
    rw [← hW0, ← hH]
    have := Row.new ((w.alloc (.cells #[.slice (some ⟨b0, off, none⟩) n cap] 22)).alloc (.cells #[.int .i64 (d : Int)] 3)) 4 [.bool false]
    rw [World.size_alloc, World.size_alloc] at this
    exact (this.alloc _).alloc _
  have r3 : Row W0 (H + 1 + 1 + 1) 23 [.int .i64 0] := by
    rw [← hW0, ← hH]
    have := Row.new (((w.alloc (.cells #[.slice (some ⟨b0, off, none⟩) n cap] 22)).alloc (.cells #[.int .i64 (d : Int)] 3)).alloc (.cells #[.bool false] 4)) 23 [.int .i64 0]
    rw [World.size_alloc, World.size_alloc, World.size_alloc] at this
    exact this.alloc _
  have r4 : Row W0 (H + 1 + 1 + 1 + 1) 3 [.int .i64 (n : Int)] := by
    rw [← hW0, ← hH]
    have := Row.new ((((w.alloc (.cells #[.slice (some ⟨b0, off, none⟩) n cap] 22)).alloc (.cells #[.int .i64 (d : Int)] 3)).alloc (.cells #[.bool false] 4)).alloc (.cells #[.int .i64 0] 23)) 3 [.int .i64 (n : Int)]
    rw [World.size_alloc, World.size_alloc, World.size_alloc, World.size_alloc] at this
    exact this
  have HQ := Lib.hid hq
  have HR0 := Lib.hid (HR.out W0 (H1.out.later (by rw [hH]; exact hB0)))
  have HW0 := Lib.hid hW0
  have HH := Lib.hid hH
  clear hW0 hH hq
  gi_wp2_with fail
  rw [HW0.out]
  refine ⟨trivial, ?_⟩
  refine (callsIn_wide.2 HR0.out).mono ?_
  rintro e w' ⟨rfl, rfl⟩
  try rw [HH.out]
  have k0 := r0.cell 0
  have k1 := r1.cell 0
  have k4 := r4.cell 0
  simp only [List.getElem?_cons_zero] at k0 k1 k4
  have hb1 : decide ((d : Int) < 2) = false := decide_eq_false (by omega)
  have hb2 : decide ((n : Int) / 2 < (d : Int)) = false := decide_eq_false (by clear htd; omega)
  gi_wp2_with fail
  refine ⟨trivial, ?_⟩
  refine (callsIn_wide.2 (HCh.out _)).mono ?_
  rintro e w' ⟨rfl, rfl⟩
  obtain ⟨W1, hW1⟩ : ∃ W1, (W0.alloc (.cells #[.slice (some ⟨b0, off, none⟩) n cap] 22)).alloc (.cells #[.int .i64 (d : Int)] 3) = W1 := ⟨_, rfl⟩
  have hs1 : W1.heap.size = H + 7 := by rw [← hW1]; simp; omega
  have hb01 : Below W0.heap.size W0 W1 := by rw [← hW1]; exact bl_two W0 _ _
  have s5 : Row W1 (H + 5) 22 [.slice (some ⟨b0, off, none⟩) n cap] := by rw [← hW1, ← hs0]; exact (Row.new W0 _ _).alloc _
  have s6 : Row W1 (H + 6) 3 [.int .i64 (d : Int)] := by
    rw [← hW1, show H + 6 = (W0.alloc (.cells #[.slice (some ⟨b0, off, none⟩) n cap] 22)).heap.size by rw [World.size_alloc, hs0]]
    exact Row.new _ _ _
  have hB1 : Below H w W1 := hB0.trans (hb01.mono (by omega))
  have hI0 : MadeI n d ys (.slice (some ⟨b0, off, none⟩) n cap) H w [] (fun _ => False) W1 := ⟨by simp, ⟨⟨r0.later hb01, r1.later hb01, r4.later hb01⟩, r2.later hb01, r3.later hb01⟩, fun k h => h.elim, hB1, by omega⟩
  rw [hW1, hs0, show H + 5 + 1 = H + 6 from rfl]
  clear hW1 hb01 hb1 hb2 r0 r1 r2 r3 r4 k0 k1 k4 HR0 HR
  have hSS : ∀ k, k < H + 7 ∧ k ≠ H + 2 ∧ k ≠ H + 3 → k < W1.heap.size := fun k h => by omega
  have hkeep : ∀ W', KeptOn (fun k => k < H + 7 ∧ k ≠ H + 2 ∧ k ≠ H + 3) W1 W' → IntsV W' (.slice (some ⟨b0, off, none⟩) n cap) (natI ys) := fun W' hk =>
    IntsV.kept (S := fun k => k < H) H1.out ⟨Nat.le_trans (by have := HH.out; omega) hk.size, fun k hk2 => (hk.block k ⟨by omega, by omega, by omega⟩).trans (hB1.block k hk2)⟩ (fun k hk => by have := HH.out; omega)
  gi_wp2_with fail
  refine wpIn_rangeFunc_sepV (α := CX) (show 1 ≤ 9 by decide) (gf := 24) (lb := #[.pointer (some ⟨H + 5, 0, none⟩), .pointer (some ⟨H + 6, 0, none⟩)]) rfl chunk_enters
    (chunk1_seq n d q ys hhi hd HQ.out hlen (H + 5) (H + 6) b0 off cap hlc (fun k => k < H + 7 ∧ k ≠ H + 2 ∧ k ≠ H + 3) W1 hSS ⟨by omega, by omega, by omega⟩ ⟨by omega, by omega, by omega⟩ hkeep (s5.cell 0) (s6.cell 0)) okC_put keptOn_t (keptOn_b hSS) (Below.refl _ _) (fun _ => rfl)
    (MadeI n d ys (.slice (some ⟨b0, off, none⟩) n cap) H w) (fun c pre Z W => c = .ret ∧ MadeX n d ys H w pre Z W) (MadeI.sep (by omega)) ?sepx hI0
    (fun x => { tmps := #[.slice (some ⟨b0, off, none⟩) n cap, .int .i64 (d : Int), .pointer (some ⟨H, 0, none⟩), .pointer (some ⟨H + 1, 0, none⟩), .pointer (some ⟨H + 1 + 1, 0, none⟩), .pointer (some ⟨H + 1 + 1 + 1, 0, none⟩), .pointer (some ⟨H + 1 + 1 + 1 + 1, 0, none⟩), x.2, undef, undef, .slice (some ⟨b0, off, none⟩) n cap, .int .i64 (n : Int), .slice (some ⟨b0, off, none⟩) n cap, .bool true, .bool false, .bool false, .int .i64 (d : Int), .bool false, .bool false, .bool false, .int .i64 (d : Int), .int .i64 (n : Int), .int .i64 ((n : Int) / 2), .bool false, .bool false, .bool false, .int .i64 (n : Int), .int .i64 (d : Int), .int .i64 0, .bool false, .bool false, .slice (some ⟨b0, off, none⟩) n cap, .int .i64 (d : Int), .func (.func 24) #[] #[.pointer (some ⟨H + 5, 0, none⟩), .pointer (some ⟨H + 6, 0, none⟩)], x.2, undef, undef, undef, undef, undef, undef, undef, undef, undef, undef, undef], defers := [] }) ?assign ?body ?done ?stop
  case sepx =>
    intro c
    have hx := MadeX.sep (n := n) (d := d) (ys := ys) (w := w) (H := H) (B := W1.heap.size) (by omega)
    exact ⟨fun s Z W W' row h hg hr => ⟨h.1, hx.grow s Z W W' row h.2 hg hr⟩, fun s Z W r i u h hz => ⟨h.1, hx.priv s Z W r i u h.2 hz⟩, fun s Z W o h => ⟨h.1, hx.take s Z W o h.2⟩, fun s Z W h => ⟨h.1, hx.draw s Z W h.2⟩⟩
  case assign =>
    intro l x W K hK
    simp only [encC]
    gi_wp2
    exact hK
  case body =>
    rintro l pre x Z W ⟨h0, ⟨⟨m1, m2, m3⟩, m4, m5⟩, h3, h4, h5⟩ ⟨hxq, hV⟩ hZ hlen2
    have k0 := m1.cell 0
    have k1 := m2.cell 0
    have k4 := m3.cell 0
    simp only [List.getElem?_cons_zero] at k0 k1 k4
    obtain ⟨T, hT⟩ : ∃ T, wayT n (ys.take d) (pcL ys d (x.1 * d)) = T := ⟨_, rfl⟩
    have hTP : pcB n ys d (x.1 * d) = T.isSome := by unfold pcB; rw [hT]
    have hxd : x.1 * d + d ≤ n := by
      have h := Nat.mul_le_mul_right d (show x.1 + 1 ≤ q by omega)
      rw [Nat.add_mul, Nat.one_mul, ← HQ.out] at h
      exact h
    have hdn9 : d ≤ n := by omega
    have HWy := Lib.hid (fun W2 (hW : Below W.heap.size W W2) => by
      have h := way_any n (ys.take d) (pcL ys d (x.1 * d)) hlo hhi (fun y hy => hr.lt y (List.mem_of_mem_take hy)) (by rw [List.length_take]; omega) (by rw [List.length_take]; omega) (by rw [pcL_length hlen hxd]; omega) (.slice (some ⟨b0, off, none⟩) d cap) x.2 W2 (by
        have hI := H1.out.later (W' := W2) (by rw [HH.out]; exact h4.trans (hW.mono (by omega)))
        have := hI.upto d hdn9
        rwa [show (natI ys).take d = natI (ys.take d) from by unfold natI; rw [List.map_take], sliced_zero] at this) (hV.later hW)
      rw [hT] at h
      exact h)
    have HTP := Lib.hid hTP
    have HI := Lib.hid h0
    have HM := Lib.hid (⟨⟨m1, m2, m3⟩, m4, m5⟩ : MBox H n d (.slice (some ⟨b0, off, none⟩) n cap) W ∧ MRes H false W)
    have H3 := Lib.hid h3
    have H4 := Lib.hid h4
    have H5 := Lib.hid h5
    have hdc : (d : Int) ≤ (cap : Int) := by omega
    have hd00 : 0 ≤ (d : Int) := by omega
    clear h0 m1 m2 m3 m4 m5 h3 h4 h5 hT hTP
    gi_wp2_with fail
    refine region_MR hmx (by kernel_rfl) (fun hS => ?_)
    refine take_M (i := 0) (v := .int .i64 (n : Int)) (toA rfl) (by kernel_rfl) (by kernel_rfl) (by kernel_rfl) (fun _ _ _ h => h) hS (.inl ⟨by rfl, fun W2 hW => by have c0 := cell_later hW k0; have c1 := cell_later hW k1; have c4 := cell_later hW k4; go_simp⟩) ?_
    try go_frame
    refine take_M (i := 1) (v := .slice (some ⟨b0, off, none⟩) n cap) (toA rfl) (by kernel_rfl) (by kernel_rfl) (by kernel_rfl) (fun _ _ _ h => h) hS (.inl ⟨by rfl, fun W2 hW => by have c0 := cell_later hW k0; have c1 := cell_later hW k1; have c4 := cell_later hW k4; go_simp⟩) ?_
    try go_frame
    refine take_M (i := 2) (v := .int .i64 (d : Int)) (toA rfl) (by kernel_rfl) (by kernel_rfl) (by kernel_rfl) (fun _ _ _ h => h) hS (.inl ⟨by rfl, fun W2 hW => by have c0 := cell_later hW k0; have c1 := cell_later hW k1; have c4 := cell_later hW k4; go_simp⟩) ?_
    try go_frame
    refine take_M (i := 3) (v := .slice (some ⟨b0, off, none⟩) d cap) (toA rfl) (by kernel_rfl) (by kernel_rfl) (by kernel_rfl) (fun _ _ _ h => h) hS (.inl ⟨by rfl, fun W2 hW => by go_simp; try rfl⟩) ?_
    try go_frame
    refine take_M (i := 4) (v := x.2) (toA rfl) (by kernel_rfl) (by kernel_rfl) (by kernel_rfl) (fun _ _ _ h => h) hS (.inl ⟨by rfl, fun W2 hW => by rfl⟩) ?_
    try go_frame
    refine take_M (i := 5) (v := wayV n T) (toA rfl) (by kernel_rfl) (by kernel_rfl) (by kernel_rfl) (fun _ _ _ h => h) hS (.inr (.inl ⟨by rfl, 14, #[.int .i64 (n : Int), .slice (some ⟨b0, off, none⟩) d cap, x.2], fun W2 hW => ⟨by go_simp, HWy.out W2 hW⟩⟩)) ?_
    try go_frame
    refine take_M (i := 6) (v := wayV n T) (toA rfl) (by kernel_rfl) (by kernel_rfl) (by kernel_rfl) (fun _ _ _ h => h) hS (.inl ⟨by rfl, fun W2 hW => by rfl⟩) ?_
    try go_frame
    cases T with
    | some t =>
      refine take_M (i := 7) (v := .agg #[.int .i64 ((t / n : Nat) : Int), .int .i64 ((t % n : Nat) : Int)]) (toA rfl) (by kernel_rfl) (by kernel_rfl) (by kernel_rfl) (fun _ _ _ h => h) hS (.inl ⟨by rfl, fun W2 hW => by rfl⟩) ?_
      try go_frame
      refine take_M (i := 8) (v := .int .i64 0) (toA rfl) (by kernel_rfl) (by kernel_rfl) (by kernel_rfl) (fun _ _ _ h => h) hS (.inl ⟨by rfl, fun W2 hW => by rfl⟩) ?_
      try go_frame
      refine step_M (i := 9) (toA rfl) (by kernel_rfl) (by rfl) (fun W9 hW9 K' hK => ?_)
      go_simp
      have D9 := Lib.hid (bl_one (below_nx hS hW9) (.cells #[.int .i64 0, .int .i64 0] 38))
      refine hK.out _ _ D9.out ?_
      clear hK K'
      try go_frame
      refine step_M (i := 10) (toA rfl) (by kernel_rfl) (by rfl) (fun W10 hW10 K' hK => ?_)
      have rz : Row W10 W9.heap.size 38 [.int .i64 0, .int .i64 0] := (Row.new W9 38 [.int .i64 0, .int .i64 0]).later hW10
      have z0 := rz.cell 0
      have z1 := rz.cell 1
      have z2 := (rz.set 0 (.int .i64 ((t / n : Nat) : Int))).cell 1
      have y0 := rz.frozen 0
      have y1 := (rz.set 0 (.int .i64 ((t / n : Nat) : Int))).frozen 1
      have y2 := rz.frozen 1
      simp only [List.getElem?_cons_zero, List.getElem?_cons_succ, List.set_cons_zero] at z0 z1 z2
      have hz9 : W.heap.size ≤ W9.heap.size := (below_nx hS hW9).size
      go_simp
      have D10 := Lib.hid (((below_nx D9.out hW10).setCell (p := ⟨W9.heap.size, 0, none⟩) hz9 (.int .i64 ((t / n : Nat) : Int))).setCell (p := ⟨W9.heap.size, 1, none⟩) hz9 (.int .i64 ((t % n : Nat) : Int)))
      refine hK.out _ _ D10.out ?_
      clear hK K'
      try go_frame
      refine take_M (i := 11) (v := .int .i64 0) (toA rfl) (by kernel_rfl) (by kernel_rfl) (by kernel_rfl) (fun _ _ _ h => h) D10.out (.inl ⟨by rfl, fun W2 hW => by rfl⟩) ?_
      try go_frame
      refine done_M (by kernel_rfl) (fun u hu => ?_) _
      dsimp only [OnlyN, Exit.then]
      have hb := below_nx D10.out hu
      have HB := Lib.hid hb
      obtain ⟨M1, M2⟩ := (⟨HM.out.1.later hb, HM.out.2.later hb⟩ : MBox H n d (.slice (some ⟨b0, off, none⟩) n cap) u ∧ MRes H false u)
      have HM1 := Lib.hid M1
      have HM2 := Lib.hid M2
      have e2 := M2.1.cell 0
      have e3 := M2.2.cell 0
      have g2 := M2.1.frozen 0
      have g3 := M2.2.frozen 0
      simp only [List.getElem?_cons_zero] at e2 e3
      clear hb M1 M2 rz z0 z1 z2 y0 y1 y2 k0 k1 k4 hS
      gi_wp2_with fail
      refine ⟨keepsOthers_below HB.out, (KeptOn.refl Z W).below HB.out (fun k hk => (hZ k hk).2), (KeptOn.refl _ W).below HB.out (fun k hk => by have := H5.out; omega), fun y hy => ?_, ⟨HM1.out, HM2.out⟩, H3.out, H4.out.trans (HB.out.mono (by have := H5.out; omega)), Nat.le_trans H5.out HB.out.size⟩
      rcases List.mem_append.1 hy with hy | hy
      · exact HI.out y hy
      · rw [List.mem_singleton] at hy
        rw [hy, HTP.out]; rfl
    | none =>
      refine take_M (i := 7) (v := .agg #[.int .i64 0, .int .i64 0]) (toA rfl) (by kernel_rfl) (by kernel_rfl) (by kernel_rfl) (fun _ _ _ h => h) hS (.inl ⟨by rfl, fun W2 hW => by rfl⟩) ?_
      try go_frame
      refine take_M (i := 8) (v := .int .i64 4) (toA rfl) (by kernel_rfl) (by kernel_rfl) (by kernel_rfl) (fun _ _ _ h => h) hS (.inl ⟨by rfl, fun W2 hW => by rfl⟩) ?_
      try go_frame
      refine step_M (i := 9) (toA rfl) (by kernel_rfl) (by rfl) (fun W9 hW9 K' hK => ?_)
      go_simp
      have D9 := Lib.hid (bl_one (below_nx hS hW9) (.cells #[.int .i64 0, .int .i64 0] 38))
      refine hK.out _ _ D9.out ?_
      clear hK K'
      try go_frame
      refine step_M (i := 10) (toA rfl) (by kernel_rfl) (by rfl) (fun W10 hW10 K' hK => ?_)
      have rz : Row W10 W9.heap.size 38 [.int .i64 0, .int .i64 0] := (Row.new W9 38 [.int .i64 0, .int .i64 0]).later hW10
      have z0 := rz.cell 0
      have z1 := rz.cell 1
      have z2 := (rz.set 0 (.int .i64 0)).cell 1
      have y0 := rz.frozen 0
      have y1 := (rz.set 0 (.int .i64 0)).frozen 1
      have y2 := rz.frozen 1
      simp only [List.getElem?_cons_zero, List.getElem?_cons_succ, List.set_cons_zero] at z0 z1 z2
      have hz9 : W.heap.size ≤ W9.heap.size := (below_nx hS hW9).size
      go_simp
      have D10 := Lib.hid (((below_nx D9.out hW10).setCell (p := ⟨W9.heap.size, 0, none⟩) hz9 (.int .i64 0)).setCell (p := ⟨W9.heap.size, 1, none⟩) hz9 (.int .i64 0))
      refine hK.out _ _ D10.out ?_
      clear hK K'
      try go_frame
      refine take_M (i := 11) (v := .int .i64 4) (toA rfl) (by kernel_rfl) (by kernel_rfl) (by kernel_rfl) (fun _ _ _ h => h) D10.out (.inl ⟨by rfl, fun W2 hW => by rfl⟩) ?_
      try go_frame
      refine done_M (by kernel_rfl) (fun u hu => ?_) _
      dsimp only [OnlyN, Exit.then]
      have hb := below_nx D10.out hu
      have HB := Lib.hid hb
      obtain ⟨M1, M2⟩ := (⟨HM.out.1.later hb, HM.out.2.later hb⟩ : MBox H n d (.slice (some ⟨b0, off, none⟩) n cap) u ∧ MRes H false u)
      have HM1 := Lib.hid M1
      have HM2 := Lib.hid M2
      have e2 := M2.1.cell 0
      have e3 := M2.2.cell 0
      have g2 := M2.1.frozen 0
      have g3 := M2.2.frozen 0
      simp only [List.getElem?_cons_zero] at e2 e3
      clear hb M1 M2 rz z0 z1 z2 y0 y1 y2 k0 k1 k4 hS
      gi_wp2_with fail
      refine ⟨((keepsOthers_below HB.out).trans (KeepsOthers.setCell _ ⟨H + 1 + 1, 0, none⟩ _)).trans (KeepsOthers.setCell _ ⟨H + 1 + 1 + 1, 0, none⟩ _),
        (((KeptOn.refl Z W).below HB.out (fun k hk => (hZ k hk).2)).setCell (p := ⟨H + 1 + 1, 0, none⟩) (fun h => by have := H3.out _ h; dsimp only at this; omega) _).setCell (p := ⟨H + 1 + 1 + 1, 0, none⟩) (fun h => by have := H3.out _ h; dsimp only at this; omega) _,
        (((KeptOn.refl _ W).below HB.out (fun k hk => by have := H5.out; omega)).setCell (p := ⟨H + 1 + 1, 0, none⟩) (fun h => h.2.1 rfl) _).setCell (p := ⟨H + 1 + 1 + 1, 0, none⟩) (fun h => h.2.2 rfl) _,
        rfl, ⟨pre, x, rfl, by rw [HTP.out]; rfl⟩, ⟨(HM2.out.1.set 0 (.bool false)).other (by omega) (.int .i64 0), ((HM2.out.2.other (by omega) (i := 0) (.bool false)).set 0 (.int .i64 0))⟩, H3.out,
        ((H4.out.trans (HB.out.mono (by have := H5.out; omega))).setCell (p := ⟨H + 1 + 1, 0, none⟩) (show H ≤ H + 1 + 1 by omega) _).setCell (p := ⟨H + 1 + 1 + 1, 0, none⟩) (show H ≤ H + 1 + 1 + 1 by omega) _, ?_⟩
      have := Nat.le_trans H5.out HB.out.size
      simpa [World.setCell] using this
  case done =>
    rintro D xs Z W hD hS ⟨h0, ⟨m1, m2, m3⟩, h3, h4, h5⟩ hK
    have HMd := Lib.hid (made_all (n := n) (ys := ys) (by omega : 0 < d) HQ.out hS h0)
    have e2 := m2.cell 0
    have e3 := m3.cell 0
    have g2 := m2.frozen 0
    have g3 := m3.frozen 0
    simp only [List.getElem?_cons_zero] at e2 e3
    have R1 := (m2.set 0 (.bool true)).other (show H + 1 + 1 ≠ H + 1 + 1 + 1 by omega) (i := 0) (.int .i64 0)
    have R2 := (m3.other (show H + 1 + 1 + 1 ≠ H + 1 + 1 by omega) (i := 0) (.bool true)).set 0 (.int .i64 0)
    have HB := Lib.hid ((h4.setCell (p := ⟨H + 1 + 1, 0, none⟩) (show H ≤ H + 1 + 1 by omega) (.bool true)).setCell (p := ⟨H + 1 + 1 + 1, 0, none⟩) (show H ≤ H + 1 + 1 + 1 by omega) (.int .i64 0))
    have HR1 := Lib.hid R1
    have HR2 := Lib.hid R2
    have HKo := Lib.hid ((KeepsOthers.setCell W ⟨H + 1 + 1, 0, none⟩ (.bool true)).trans (KeepsOthers.setCell _ ⟨H + 1 + 1 + 1, 0, none⟩ (.int .i64 0)))
    clear h0 m1 m2 m3 h3 h4 h5 R1 R2 hS
    gi_wp2
    have hK' := HKo.out.same D _ hK rfl
    refine ⟨by simp, .inl ⟨_, _, rfl, run_takeDeferred hK', ?_⟩⟩
    have R1' := HR1.out.kept (grownBy_putObj' _ D (.deferred none)) (fun r e => by cases e; exact ⟨_, hK', rfl⟩)
    have R2' := HR2.out.kept (grownBy_putObj' _ D (.deferred none)) (fun r e => by cases e; exact ⟨_, hK', rfl⟩)
    refine ⟨.tuple #[.bool true, .int .i64 0], ?_, by rw [HMd.out], by first | (rw [HH.out]; exact HB.out.trans (belowK_b (w := W1) (by omega) _ D _ _ (by omega) hK' rfl rfl)) | exact HB.out.trans (belowK_b (w := W1) (by omega) _ D _ _ (by omega) hK' rfl rfl)⟩
    exact made_results _ _ _ _ rfl rfl R1' R2'
  case stop =>
    rintro D c pre Z W hD ⟨m, hm, hpre⟩ ⟨rfl, ⟨p, x, e1, e2⟩, ⟨m2, m3⟩, h3, h4, h5⟩ hK
    have HMd := Lib.hid (made_not (n := n) (ys := ys) (by omega : 0 < d) HQ.out hm hpre e1 e2)
    have HR1 := Lib.hid m2
    have HR2 := Lib.hid m3
    have HB := Lib.hid h4
    clear e1 e2 hpre hm m2 m3 h3 h4 h5
    gi_wp2
    refine ⟨by simp, .inl ⟨_, _, rfl, run_takeDeferred hK, ?_⟩⟩
    have R1' := HR1.out.kept (grownBy_putObj' W D (.deferred none)) (fun r e => by cases e; exact ⟨_, hK, rfl⟩)
    have R2' := HR2.out.kept (grownBy_putObj' W D (.deferred none)) (fun r e => by cases e; exact ⟨_, hK, rfl⟩)
    refine ⟨.tuple #[.bool false, .int .i64 0], ?_, by rw [HMd.out], by first | (rw [HH.out]; exact HB.out.trans (belowK_b (w := W1) (by omega) W D _ _ (by omega) hK rfl rfl)) | exact HB.out.trans (belowK_b (w := W1) (by omega) W D _ _ (by omega) hK rfl rfl)⟩
    exact made_results _ _ _ _ rfl rfl R1' R2'
end Go.Proofs.Ytdfagnjdconkcaa

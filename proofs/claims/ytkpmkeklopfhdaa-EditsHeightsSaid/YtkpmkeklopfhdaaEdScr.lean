/-
  scripts: its contract.
-/
import Derived.Test.YtkpmkeklopfhdaaEdNext
import Derived.Test.YtkpmkeklopfhdaaEdBoard
import Derived.Test.YtkpmkeklopfhdaaHeldR
import Derived.Test.YtkpmkeklopfhdaaEdNextC
import Derived.Test.YtkpmkeklopfhdaaCalmR
import Derived.Deep.MidRow
import Derived.Laws.CopyOwn
import Derived.Test.YtkpmkeklopfhdaaEdBoardMath
namespace Go.Proofs.Ytkpmkeklopfhdaa
open Go.ChangeShapes Go.WideShapes Go.ChangeAt Go.RowKit
attribute [local go_sem] Oper.semAt_some
set_option maxRecDepth 100000

theorem keepsOthers_below {W W' : World} (h : Below W.heap.size W W') : KeepsOthers W W' := ⟨h.size, fun k o hk _ => (h.block k (Array.getElem?_eq_some_iff.1 hk).1).trans hk⟩

/-- A place stored. -/
abbrev six (W : World) (B o : Nat) (p : Pl) : World := (((((W.setCell ⟨B, o, none⟩ (.int .i64 p.c)).setCell ⟨B, o + 1, none⟩ (.int .i64 p.w)).setCell ⟨B, o + 2, none⟩ (.int .i64 p.k)).setCell ⟨B, o + 3, none⟩ (.int .i64 p.b)).setCell ⟨B, o + 4, none⟩ (.int .i64 p.i)).setCell ⟨B, o + 5, none⟩ (.int .i64 p.j)
theorem six_row {W : World} {B o b : Nat} {t : TypeId} {vs : List Value} (h : Row W b t vs) (hne : b ≠ B) (p : Pl) : Row (six W B o p) b t vs := (((((h.other hne _).other hne _).other hne _).other hne _).other hne _).other hne _
theorem six_box {W : World} {B o b : Nat} {t : TypeId} {v : Value} (h : Boxed W b t v) (hne : b ≠ B) (p : Pl) : Boxed (six W B o p) b t v := Row.box (six_row (Row.ofBox h) hne p)
theorem six_kept {W : World} {B o : Nat} {S : Nat → Prop} (h : ¬ S B) (p : Pl) : KeptOn S W (six W B o p) :=
  ((((((KeptOn.refl S W).setCell (p := ⟨B, _, none⟩) h _).setCell (p := ⟨B, _, none⟩) h _).setCell (p := ⟨B, _, none⟩) h _).setCell (p := ⟨B, _, none⟩) h _).setCell (p := ⟨B, _, none⟩) h _).setCell (p := ⟨B, _, none⟩) h _
theorem six_keeps (W : World) (B o : Nat) (p : Pl) : KeepsOthers W (six W B o p) :=
  (((((KeepsOthers.setCell _ _ _).trans (KeepsOthers.setCell _ _ _)).trans (KeepsOthers.setCell _ _ _)).trans (KeepsOthers.setCell _ _ _)).trans (KeepsOthers.setCell _ _ _)).trans (KeepsOthers.setCell _ _ _)
theorem six_below {H B o : Nat} {w W : World} (h : Below H w W) (hB : H ≤ B) (p : Pl) : Below H w (six W B o p) :=
  (((((h.setCell (p := ⟨B, _, none⟩) hB _).setCell (p := ⟨B, _, none⟩) hB _).setCell (p := ⟨B, _, none⟩) hB _).setCell (p := ⟨B, _, none⟩) hB _).setCell (p := ⟨B, _, none⟩) hB _).setCell (p := ⟨B, _, none⟩) hB _
theorem six_board {W : World} {B i j : Nat} {t : TypeId} {K : Nat → Nat → Pl} (h : Row W B t (boardL K)) (hi : i < 13) (hj : j < 13) (p : Pl) : Row (six W B (i * 78 + j * 6) p) B t (boardL (updK K i j p)) := by
  rw [← boardL_set K hi hj p]
  exact (((((h.set _ _).set _ _).set _ _).set _ _).set _ _).set _ _

theorem set_next {l : List Value} {m n : Nat} {v : Value} (h : m ≠ n) : (l.set m v)[n]? = l[n]? := List.getElem?_set_ne h
/-- While a place is stored: what is next is there. -/
theorem six_cells {W : World} {B o : Nat} {t : TypeId} {vs : List Value} (h : Row W B t vs) (p : Pl) {x1 x2 x3 x4 x5 : Value} (h1 : vs[o + 1]? = some x1) (h2 : vs[o + 2]? = some x2) (h3 : vs[o + 3]? = some x3) (h4 : vs[o + 4]? = some x4) (h5 : vs[o + 5]? = some x5) :
    (W.setCell ⟨B, o, none⟩ (.int .i64 p.c)).cell? ⟨B, o + 1, none⟩ = some x1 ∧
    ((W.setCell ⟨B, o, none⟩ (.int .i64 p.c)).setCell ⟨B, o + 1, none⟩ (.int .i64 p.w)).cell? ⟨B, o + 2, none⟩ = some x2 ∧
    (((W.setCell ⟨B, o, none⟩ (.int .i64 p.c)).setCell ⟨B, o + 1, none⟩ (.int .i64 p.w)).setCell ⟨B, o + 2, none⟩ (.int .i64 p.k)).cell? ⟨B, o + 3, none⟩ = some x3 ∧
    ((((W.setCell ⟨B, o, none⟩ (.int .i64 p.c)).setCell ⟨B, o + 1, none⟩ (.int .i64 p.w)).setCell ⟨B, o + 2, none⟩ (.int .i64 p.k)).setCell ⟨B, o + 3, none⟩ (.int .i64 p.b)).cell? ⟨B, o + 4, none⟩ = some x4 ∧
    (((((W.setCell ⟨B, o, none⟩ (.int .i64 p.c)).setCell ⟨B, o + 1, none⟩ (.int .i64 p.w)).setCell ⟨B, o + 2, none⟩ (.int .i64 p.k)).setCell ⟨B, o + 3, none⟩ (.int .i64 p.b)).setCell ⟨B, o + 4, none⟩ (.int .i64 p.i)).cell? ⟨B, o + 5, none⟩ = some x5 := by
  refine ⟨?_, ?_, ?_, ?_, ?_⟩
  · rw [(h.set _ _).cell, set_next (by omega)]; exact h1
  · rw [((h.set _ _).set _ _).cell, set_next (by omega), set_next (by omega)]; exact h2
  · rw [(((h.set _ _).set _ _).set _ _).cell, set_next (by omega), set_next (by omega), set_next (by omega)]; exact h3
  · rw [((((h.set _ _).set _ _).set _ _).set _ _).cell, set_next (by omega), set_next (by omega), set_next (by omega), set_next (by omega)]; exact h4
  · rw [(((((h.set _ _).set _ _).set _ _).set _ _).set _ _).cell, set_next (by omega), set_next (by omega), set_next (by omega), set_next (by omega), set_next (by omega)]; exact h5

set_option maxHeartbeats 4000000 in
theorem scripts_any (a b : ByteArray) (pi po ps : Nat) (ha : a.size ≤ 12) (hb : b.size ≤ 12) (hpi : pi ≤ 9) (hpo : po ≤ 9) (hps : ps ≤ 9) (w : World) :
    Calls Try.prog 66 #[.string a, .string b, pv pi po ps] w fun e w' => e = .returned (.agg (boardL (boardK (bsN a) (bsN b) pi po ps)).toArray) ∧ Below w.heap.size w w' := by
  have hmx : Try.prog.follows .mixedOrders = true := by kernel_rfl
  have HP := Lib.hid (fun W => places_any a.size b.size W)
  refine (callsIn_wide (n := 9)).1 ?_
  refine callsIn_of_wp_marks Try.func66 rfl trivial ?_ rfl
  simp only [Try.ntmps66, List.size_toArray, List.length_cons, List.length_nil, Nat.reduceAdd, Nat.reduceSub, Array.replicate_succ, Array.replicate_zero, List.push_toArray, List.append_toArray, List.nil_append, List.cons_append]
  gi_wp2_with (refine ⟨trivial, ?_⟩; gi_at_call 88; refine (callsIn_wide.2 (HP.out _)).mono ?_; rintro e w' ⟨rfl, rfl⟩)
  obtain ⟨H, hH⟩ : ∃ H, w.heap.size = H := ⟨_, rfl⟩
  have hH' := Lib.hid hH
  obtain ⟨W1, hW1⟩ : ∃ W1, ((((((w.alloc (.cells #[.string a] 9)).alloc (.cells #[.string b] 9)).alloc (.cells #[.int .i64 (pi : Int), .int .i64 (po : Int), .int .i64 (ps : Int)] 28)).alloc (.cells Try.zeroCells96 96)).alloc (.cells (Try.zeroCells96.setIfInBounds 1 (.int .i64 1)) 96)).alloc (.cells #[.int .i64 (a.size : Int), .int .i64 (b.size : Int)] 65)) = W1 := ⟨_, rfl⟩
  have zz : Try.zeroCells96 = (boardL zeroK).toArray := by kernel_rfl
  have zs : Try.zeroCells96.setIfInBounds 1 (.int .i64 1) = (boardL startK).toArray := by kernel_rfl
  have rA : Boxed W1 H 9 (.string a) := by
    rw [← hW1, ← hH]; exact (((((Boxed.new w _ _).alloc _).alloc _).alloc _).alloc _).alloc _
  have rB : Boxed W1 (H + 1) 9 (.string b) := by
    rw [← hW1, ← hH]
    have := Boxed.new (w.alloc (.cells #[.string a] 9)) 9 (.string b)
    simp only [World.size_alloc] at this
    exact ((((this.alloc _).alloc _).alloc _).alloc _)
  have rP : Row W1 (H + 1 + 1) 28 [.int .i64 (pi : Int), .int .i64 (po : Int), .int .i64 (ps : Int)] := by
    rw [← hW1, ← hH]
    have := Row.new ((w.alloc (.cells #[.string a] 9)).alloc (.cells #[.string b] 9)) 28 [.int .i64 (pi : Int), .int .i64 (po : Int), .int .i64 (ps : Int)]
    simp only [World.size_alloc] at this
    exact ((this.alloc _).alloc _).alloc _
  have rR : Row W1 (H + 1 + 1 + 1) 96 (boardL zeroK) := by
    rw [← hW1, ← hH]
    have := Row.new (((w.alloc (.cells #[.string a] 9)).alloc (.cells #[.string b] 9)).alloc (.cells #[.int .i64 (pi : Int), .int .i64 (po : Int), .int .i64 (ps : Int)] 28)) 96 (boardL zeroK)
    simp only [World.size_alloc] at this
    rw [zs, zz]
    exact (this.alloc _).alloc _
  have rK : Row W1 (H + 1 + 1 + 1 + 1) 96 (boardL startK) := by
    rw [← hW1, ← hH]
    have := Row.new ((((w.alloc (.cells #[.string a] 9)).alloc (.cells #[.string b] 9)).alloc (.cells #[.int .i64 (pi : Int), .int .i64 (po : Int), .int .i64 (ps : Int)] 28)).alloc (.cells Try.zeroCells96 96)) 96 (boardL startK)
    simp only [World.size_alloc] at this
    rw [zs]
    exact this.alloc _
  have rT : Row W1 (H + 1 + 1 + 1 + 1 + 1) 65 [.int .i64 (a.size : Int), .int .i64 (b.size : Int)] := by
    rw [← hW1, ← hH]
    have := Row.new (((((w.alloc (.cells #[.string a] 9)).alloc (.cells #[.string b] 9)).alloc (.cells #[.int .i64 (pi : Int), .int .i64 (po : Int), .int .i64 (ps : Int)] 28)).alloc (.cells Try.zeroCells96 96)).alloc (.cells (Try.zeroCells96.setIfInBounds 1 (.int .i64 1)) 96)) 65 [.int .i64 (a.size : Int), .int .i64 (b.size : Int)]
    simp only [World.size_alloc] at this
    exact this
  have hB0 : Below H w W1 := by rw [← hW1, ← hH]; exact bl_al (bl_al (bl_al (bl_al (bl_al (bl_al (Below.refl _ w) _) _) _) _) _) _
  have hS0 : H + 6 ≤ W1.heap.size ∧ W1.heap.size ≤ H + 6 := by rw [← hW1, ← hH]; simp
  rw [hW1, hH]
  clear hW1 hH zz zs
  have hla := bsN_length a
  have hlb := bsN_length b
  obtain ⟨st, hst⟩ : ∃ st : (Nat → Nat → Pl) → Nat × Nat → Nat → Nat → Pl, stepK (bsN a) (bsN b) pi po ps = st := ⟨_, rfl⟩
  rename_i Q0 K0 hK0
  refine wpIn_rangeFunc_ownH rfl (by omega) (gf := 107) (lb := #[.pointer (some ⟨H + 1 + 1 + 1 + 1 + 1, 0, none⟩)]) rfl trivial (enters_of Try.func107 (by kernel_rfl) rfl)
    (places1_stops (fun k => k = H + 1 + 1 + 1 + 1 + 1) (9 - 1) a.size b.size (H + 1 + 1 + 1 + 1 + 1) (by omega) ha hb W1 rfl (rT.cell 0) (rT.cell 1)) keptOn_t (keptOn_b (fun k hk => by omega)) (Below.refl _ _) (fun _ => rfl)
    (fun pre W => ((((Row W (H + 1 + 1 + 1 + 1) 96 (boardL ((pre.map Subtype.val).foldl st startK)) ∧ Boxed W H 9 (.string a)) ∧ Boxed W (H + 1) 9 (.string b)) ∧ Row W (H + 1 + 1) 28 [.int .i64 (pi : Int), .int .i64 (po : Int), .int .i64 (ps : Int)]) ∧ Row W (H + 1 + 1 + 1) 96 (boardL zeroK)) ∧ (Row W (H + 1 + 1 + 1 + 1 + 1) 65 [.int .i64 (a.size : Int), .int .i64 (b.size : Int)] ∧ Below H w W))
    (fun _ _ _ => False)
    (OwnFrom.and (OwnFrom.and (OwnFrom.and (OwnFrom.and (OwnFrom.and (Own.from (row_own _ _ _) _) (Own.from (boxed_own _ _ _) _)) (Own.from (boxed_own _ _ _) _)) (Own.from (row_own _ _ _) _)) (Own.from (row_own _ _ _) _)) (OwnFrom.and (Own.from (row_own _ _ _) _) (ownFrom_below (by have := hH'.out; omega) (by omega))))
    (fun _ _ _ _ _ hs _ _ => hs)
    ⟨⟨⟨⟨⟨rK, rA⟩, rB⟩, rP⟩, rR⟩, rT, hB0⟩
    (fun x a' W => ∃ Bx, H + 1 + 1 + 1 + 1 + 1 < Bx ∧ Row W Bx 65 [.int .i64 (x.val.1 : Int), .int .i64 (x.val.2 : Int)] ∧ a' = { tmps := #[Value.string a, Value.string b, pv ↑pi ↑po ↑ps, .pointer (some ⟨H, 0, none⟩), .pointer (some ⟨H + 1, 0, none⟩), .pointer (some ⟨H + 1 + 1, 0, none⟩), .pointer (some ⟨H + 1 + 1 + 1, 0, none⟩), .pointer (some ⟨H + 1 + 1 + 1 + 1, 0, none⟩), .pointer (some ⟨Bx, 0, none⟩), undef, undef, undef, undef, .pointer (some ⟨H + 1 + 1 + 1 + 1, 0, none⟩), .pointer (some ⟨H + 1 + 1 + 1 + 1, 0, none⟩), .pointer (some ⟨H + 1 + 1 + 1 + 1, 1, none⟩), .string a, .int .i64 (a.size : Int), .string b, .int .i64 (b.size : Int), .agg #[.int .i64 (a.size : Int), .int .i64 (b.size : Int)], .func (.func 107) #[] #[.pointer (some ⟨H + 1 + 1 + 1 + 1 + 1, 0, none⟩)], .agg #[.int .i64 (x.val.1 : Int), .int .i64 (x.val.2 : Int)], undef, undef, undef, undef, undef, undef, undef, undef, undef, undef, undef, undef, undef, undef, undef, undef, undef, undef, undef, undef, undef, undef, undef, undef, undef, undef, undef, undef, undef, undef, undef, undef, undef, undef, undef, undef, undef], defers := [] })
    (fun x a' _ X Y row hs hg hr => by obtain ⟨Bx, h1, h2, h3⟩ := hs; exact ⟨Bx, h1, row_own Bx 65 (fun (_ : Unit) => [Value.int .i64 (x.val.1 : Int), .int .i64 (x.val.2 : Int)]) () X Y row h2 hg (fun r e => (hr r e).2), h3⟩)
    ?assign ?body ?done ?stop
  case assign =>
    rintro l pre x W K ⟨⟨⟨⟨⟨rK, rA⟩, rB⟩, rP⟩, rR⟩, rT, hB⟩ hK
    dsimp only [encP, pairV] at *
    gi_wp2
    have hlT := rT.lt
    exact hK _ _ ((KeepsOthers.alloc _ _).from _) ((KeptOn.refl _ W).below ((Below.refl _ W).alloc (Nat.le_refl _) _) (fun k (hk : k = H + 1 + 1 + 1 + 1 + 1) => by omega)) ⟨⟨⟨⟨⟨rK.alloc _, rA.alloc _⟩, rB.alloc _⟩, rP.alloc _⟩, rR.alloc _⟩, rT.alloc _, hB.alloc (by omega) _⟩ ⟨W.heap.size, by omega, Row.new W _ _, rfl⟩
  case body =>
    rintro l pre x a' W hl ⟨rl, hrl⟩ ⟨⟨⟨⟨⟨rK, rA⟩, rB⟩, rP⟩, rR⟩, rT, hB⟩ ⟨Bx, hBx, rX, rfl⟩ hlt
    obtain ⟨⟨i, j⟩, hi, hj⟩ := x
    dsimp only at hi hj rX ⊢
    obtain ⟨K, hK⟩ : ∃ K, (pre.map Subtype.val).foldl st startK = K := ⟨_, rfl⟩
    rw [hK] at rK
    refine wpIn_hide (fun Q' HQ => ?_)
    have x0 := rX.cell 0
    have x1 := rX.cell 1
    simp only [List.getElem?_cons_zero, List.getElem?_cons_succ] at x0 x1
    have kc : ∀ f, f < 6 → W.cell? ⟨H + 1 + 1 + 1 + 1, i * 78 + j * 6 + f, none⟩ = some (plF (K i j) f) := fun f hf => (rK.cell _).trans (boardL_at K (by omega) (by omega) hf)
    have HSS := Lib.hid (fun W' (h : Below W.heap.size W W') => show W'.cell? ⟨Bx, 0, none⟩ = some (.int .i64 (i : Int)) ∧ W'.cell? ⟨Bx, 1, none⟩ = some (.int .i64 (j : Int)) ∧ (W'.cell? ⟨H + 1 + 1 + 1 + 1, i * 78 + j * 6, none⟩ = some (.int .i64 (K i j).c) ∧ W'.cell? ⟨H + 1 + 1 + 1 + 1, i * 78 + j * 6 + 1, none⟩ = some (.int .i64 (K i j).w) ∧ W'.cell? ⟨H + 1 + 1 + 1 + 1, i * 78 + j * 6 + 2, none⟩ = some (.int .i64 (K i j).k) ∧ W'.cell? ⟨H + 1 + 1 + 1 + 1, i * 78 + j * 6 + 3, none⟩ = some (.int .i64 (K i j).b) ∧ W'.cell? ⟨H + 1 + 1 + 1 + 1, i * 78 + j * 6 + 4, none⟩ = some (.int .i64 (K i j).i) ∧ W'.cell? ⟨H + 1 + 1 + 1 + 1, i * 78 + j * 6 + 5, none⟩ = some (.int .i64 (K i j).j)) ∧ Below W.heap.size W W'
      from ⟨cell_later h x0, cell_later h x1, ⟨cell_later h (kc 0 (by omega)), cell_later h (kc 1 (by omega)), cell_later h (kc 2 (by omega)), cell_later h (kc 3 (by omega)), cell_later h (kc 4 (by omega)), cell_later h (kc 5 (by omega))⟩, h⟩)
    have hi13 : (i : Int) < 13 := by omega
    have hj13 : (j : Int) < 13 := by omega
    gi_wp2_with fail
    refine region_heldR (fun w' => w'.cell? ⟨Bx, 0, none⟩ = some (.int .i64 (i : Int)) ∧ w'.cell? ⟨Bx, 1, none⟩ = some (.int .i64 (j : Int)) ∧ (w'.cell? ⟨H + 1 + 1 + 1 + 1, i * 78 + j * 6, none⟩ = some (.int .i64 (K i j).c) ∧ w'.cell? ⟨H + 1 + 1 + 1 + 1, i * 78 + j * 6 + 1, none⟩ = some (.int .i64 (K i j).w) ∧ w'.cell? ⟨H + 1 + 1 + 1 + 1, i * 78 + j * 6 + 2, none⟩ = some (.int .i64 (K i j).k) ∧ w'.cell? ⟨H + 1 + 1 + 1 + 1, i * 78 + j * 6 + 3, none⟩ = some (.int .i64 (K i j).b) ∧ w'.cell? ⟨H + 1 + 1 + 1 + 1, i * 78 + j * 6 + 4, none⟩ = some (.int .i64 (K i j).i) ∧ w'.cell? ⟨H + 1 + 1 + 1 + 1, i * 78 + j * 6 + 5, none⟩ = some (.int .i64 (K i j).j)) ∧ Below W.heap.size W w') hmx (by kernel_rfl) (HSS.out _ (Below.refl _ _).drew) (fun hS => ?_)
    refine take_held (i := 0) (v := .pointer (some ⟨Bx, 0, none⟩)) rfl (by kernel_rfl) (by kernel_rfl) (by kernel_rfl) (fun _ _ _ h => h) (by rfl) (by rintro W2 ⟨q0, q1, ⟨q2, q3, q4, q5, q6, q7⟩, q8⟩; go_simp) hS ?_
    refine take_held (i := 1) (v := .int .i64 (i : Int)) rfl (by kernel_rfl) (by kernel_rfl) (by kernel_rfl) (fun _ _ _ h => h) (by rfl) (by rintro W2 ⟨q0, q1, ⟨q2, q3, q4, q5, q6, q7⟩, q8⟩; go_simp) hS ?_
    refine take_held (i := 2) (v := .pointer (some ⟨Bx, 1, none⟩)) rfl (by kernel_rfl) (by kernel_rfl) (by kernel_rfl) (fun _ _ _ h => h) (by rfl) (by rintro W2 ⟨q0, q1, ⟨q2, q3, q4, q5, q6, q7⟩, q8⟩; go_simp) hS ?_
    refine take_held (i := 3) (v := .int .i64 (j : Int)) rfl (by kernel_rfl) (by kernel_rfl) (by kernel_rfl) (fun _ _ _ h => h) (by rfl) (by rintro W2 ⟨q0, q1, ⟨q2, q3, q4, q5, q6, q7⟩, q8⟩; go_simp) hS ?_
    refine take_held (i := 4) (v := .pointer (some ⟨H + 1 + 1 + 1 + 1, i * 78, none⟩)) rfl (by kernel_rfl) (by kernel_rfl) (by kernel_rfl) (fun _ _ _ h => h) (by rfl) (by rintro W2 ⟨q0, q1, ⟨q2, q3, q4, q5, q6, q7⟩, q8⟩; go_simp) hS ?_
    refine take_held (i := 5) (v := .pointer (some ⟨H + 1 + 1 + 1 + 1, i * 78 + j * 6, none⟩)) rfl (by kernel_rfl) (by kernel_rfl) (by kernel_rfl) (fun _ _ _ h => h) (by rfl) (by rintro W2 ⟨q0, q1, ⟨q2, q3, q4, q5, q6, q7⟩, q8⟩; go_simp) hS ?_
    refine take_held (i := 6) (v := .agg (plC (K i j))) rfl (by kernel_rfl) (by kernel_rfl) (by kernel_rfl) (fun _ _ _ h => h) (by rfl) (by rintro W2 ⟨q0, q1, ⟨q2, q3, q4, q5, q6, q7⟩, q8⟩; go_simp) hS ?_
    refine step_held (i := 7) rfl (by kernel_rfl) (by rfl) (fun K' hK' => ?_)
    go_simp
    have B7 := Lib.hid (bl_al (Below.refl _ W).drew (.cells #[.int .i64 0, .int .i64 0, .int .i64 0, .int .i64 0, .int .i64 0, .int .i64 0] 93))
    refine hK' _ _ (HSS.out _ B7.out) (fun hS => ?_)
    clear hK' K'
    refine step_held (i := 8) rfl (by kernel_rfl) (by rfl) (fun K' hK' => ?_)
    go_simp
    have B8 := Lib.hid (bl_dr (bl_al (Below.refl _ W) (.cells (plC (K i j)) 93)))
    refine hK' _ _ (HSS.out _ B8.out) (fun hS => ?_)
    clear hK' K'
    refine wpAnyH_done (by kernel_rfl) ?_ _
    dsimp only [OnlyN, Exit.then]
    have rH : Row (W.alloc (.cells (plC (K i j)) 93)).drew W.heap.size 93 (plC (K i j)).toList := (Row.new W _ _).drew
    obtain ⟨W2, hW2⟩ : ∃ W2, (W.alloc (.cells (plC (K i j)) 93)).drew = W2 := ⟨_, rfl⟩
    have hs2 : W2.heap.size = W.heap.size + 1 := by rw [← hW2]; simp [World.drew]
    have hb2 : Below W.heap.size W W2 := by rw [← hW2]; exact B8.out
    have hko : KeepsOthers W W2 := by rw [← hW2]; exact keepsOthers_below B8.out
    rw [hW2] at rH ⊢
    clear hW2 hS B7 B8 HSS x0 x1
    obtain ⟨Bh, hBh⟩ : ∃ Bh, W.heap.size = Bh := ⟨_, rfl⟩
    have hlT := rT.lt
    have hlX := rX.lt
    rw [hBh] at rH ⊢ hs2 hb2 hlT hlX
    have rK2 := rK.below hb2 (by omega)
    have rA2 := Row.box ((Row.ofBox rA).below hb2 (by omega))
    have rB2 := Row.box ((Row.ofBox rB).below hb2 (by omega))
    have rP2 := rP.below hb2 (by omega)
    have rR2 := rR.below hb2 (by omega)
    have rT2 := rT.below hb2 hlT
    have rX2 := rX.below hb2 hlX
    have hrl2 := hko.same l _ hrl rfl
    have hBW2 : Below H w W2 := hB.trans (hb2.mono (by omega))
    have hKF2 : KeepsFrom W1.heap.size W W2 := hko.from _
    have cA := rA2.cell
    have cB := rB2.cell
    have x0 := rX2.cell 0
    have x1 := rX2.cell 1
    simp only [List.getElem?_cons_zero, List.getElem?_cons_succ] at x0 x1
    have HN := Lib.hid (nextEdits_any a b i j hi hj W2)
    have hNl : ∀ (l : Nat), True := fun _ => trivial
    have HKF2 := Lib.hid hKF2
    have HrT := Lib.hid rT
    clear rA rB rP rR rT rX rK kc hb2 hko hrl hKF2 hNl
    gi_wp2_with (refine ⟨trivial, ?_⟩; gi_at_call 89; refine (CallsIn.inRound l (callsIn_wide.2 HN.out)).mono ?_; rintro e w3 ⟨Bw, Br, Ba, Bt, rfl, ⟨g1, g2, g3, g4⟩, q1, q2, q3, q4, b3⟩)
    have hKF3 : KeepsFrom W1.heap.size W w3 := HKF2.out.trans ((keepsOthers_below b3).from _)
    have hs3 := b3.size
    have rK3 := rK2.later b3
    have rA3 := Row.box ((Row.ofBox rA2).later b3)
    have rB3 := Row.box ((Row.ofBox rB2).later b3)
    have rP3 := rP2.later b3
    have rR3 := rR2.later b3
    have rT3 := rT2.later b3
    have rX3 := rX2.later b3
    have rH3 := rH.later b3
    have hrl3 : w3.heap[l]? = some (.loop rl) := (keepsOthers_below b3).same l _ hrl2 rfl
    have hBW3 : Below H w w3 := hBW2.trans (b3.mono (by omega))
    clear rK2 rA2 rB2 rP2 rR2 rT2 rX2 rH hrl2 hBW2 b3 HKF2 cA cB x0 x1 HN
    have h1' : 1 ≤ 9 - 1 - 1 := by omega
    have lw := World.block_lt_of_cell? _ _ q1
    have lr := World.block_lt_of_cell? _ _ q2
    have la := World.block_lt_of_cell? _ _ q3
    have lt := World.block_lt_of_cell? _ _ q4
    dsimp only at lw lr la lt
    obtain ⟨pk, hpk⟩ : ∃ pk : (Nat → Nat → Pl) → Nx → Nat → Nat → Pl, putK pi po ps (K i j) i j = pk := ⟨_, rfl⟩
    have hwW : w.heap.size ≤ w3.heap.size := by have := hBW3.size; omega
    refine wpIn_rangeFunc_ownN (l₀ := l) (r₀ := rl) rfl hrl3 h1' (gf := 108) (lb := #[.pointer (some ⟨Bw, 0, none⟩), .pointer (some ⟨Br, 0, none⟩), .pointer (some ⟨Ba, 0, none⟩), .pointer (some ⟨Bt, 0, none⟩)]) rfl trivial (enters_of Try.func108 (by kernel_rfl) rfl)
      ((next1_stops (fun k => k < w3.heap.size ∧ k ≠ H + 1 + 1 + 1 + 1) (9 - 1 - 1 - 1) a b i j Bw Br Ba Bt (by omega) ha hb hi hj w3 ⟨lw, by omega⟩ ⟨lr, by omega⟩ ⟨la, by omega⟩ ⟨lt, by omega⟩ q1 q2 q3 q4 (fun k hk => hk.1)).inRound l) keptOn_t (keptOn_b (fun k hk => hk.1)) (Below.refl _ _) (fun _ => rfl)
      (fun pre' W' => (((((((Row W' (H + 1 + 1 + 1 + 1) 96 (boardL ((pre'.map Subtype.val).foldl pk K)) ∧ Boxed W' H 9 (.string a)) ∧ Boxed W' (H + 1) 9 (.string b)) ∧ Row W' (H + 1 + 1) 28 [.int .i64 (pi : Int), .int .i64 (po : Int), .int .i64 (ps : Int)]) ∧ Row W' (H + 1 + 1 + 1) 96 (boardL zeroK)) ∧ Row W' (H + 1 + 1 + 1 + 1 + 1) 65 [.int .i64 (a.size : Int), .int .i64 (b.size : Int)]) ∧ Row W' Bx 65 [.int .i64 (i : Int), .int .i64 (j : Int)]) ∧ Row W' Bh 93 (plC (K i j)).toList) ∧ (Below H w W' ∧ (KeepsFrom W1.heap.size W W' ∧ KeepsFrom W1.heap.size w3 W')))
      (fun _ _ _ => False)
      (OwnFrom.and (OwnFrom.and (OwnFrom.and (OwnFrom.and (OwnFrom.and (OwnFrom.and (OwnFrom.and (OwnFrom.and (Own.from (row_own _ _ _) _) (Own.from (boxed_own _ _ _) _)) (Own.from (boxed_own _ _ _) _)) (Own.from (row_own _ _ _) _)) (Own.from (row_own _ _ _) _)) (Own.from (row_own _ _ _) _)) (Own.from (row_own _ _ _) _)) (Own.from (row_own _ _ _) _)) (OwnFrom.and (ownFrom_below (by have := hH'.out; omega) (by omega)) (OwnFrom.and (ownFrom_keepsFrom (by omega)) (ownFrom_keepsFrom (Nat.le_refl _)))))
      (fun _ _ _ _ _ hs _ _ => hs)
      ⟨⟨⟨⟨⟨⟨⟨⟨rK3, rA3⟩, rB3⟩, rP3⟩, rR3⟩, rT3⟩, rX3⟩, rH3⟩, hBW3, hKF3, KeepsFrom.refl _ _⟩
      (fun x a'' W' => ∃ Be Bo, (w3.heap.size ≤ Be ∧ w3.heap.size ≤ Bo) ∧ (Row W' Be 77 [.int .i64 (x.val.k : Int), .int .i64 (x.val.b : Int)] ∧ Row W' Bo 65 [.int .i64 (x.val.i : Int), .int .i64 (x.val.j : Int)]) ∧ a'' = { tmps := #[Value.string a, Value.string b, pv ↑pi ↑po ↑ps, .pointer (some ⟨H, 0, none⟩), .pointer (some ⟨H + 1, 0, none⟩), .pointer (some ⟨H + 1 + 1, 0, none⟩), .pointer (some ⟨H + 1 + 1 + 1, 0, none⟩), .pointer (some ⟨H + 1 + 1 + 1 + 1, 0, none⟩), .pointer (some ⟨Bx, 0, none⟩), .pointer (some ⟨Bh, 0, none⟩), .pointer (some ⟨Be, 0, none⟩), .pointer (some ⟨Bo, 0, none⟩), undef, .pointer (some ⟨H + 1 + 1 + 1 + 1, 0, none⟩), .pointer (some ⟨H + 1 + 1 + 1 + 1, 0, none⟩), .pointer (some ⟨H + 1 + 1 + 1 + 1, 1, none⟩), .string a, .int .i64 (a.size : Int), .string b, .int .i64 (b.size : Int), .agg #[.int .i64 (a.size : Int), .int .i64 (b.size : Int)], .func (.func 107) #[] #[.pointer (some ⟨H + 1 + 1 + 1 + 1 + 1, 0, none⟩)], .agg #[.int .i64 (i : Int), .int .i64 (j : Int)], .pointer (some ⟨Bx, 0, none⟩), .int .i64 (i : Int), .pointer (some ⟨Bx, 1, none⟩), .int .i64 (j : Int), .pointer (some ⟨H + 1 + 1 + 1 + 1, i * 78, none⟩), .pointer (some ⟨H + 1 + 1 + 1 + 1, i * 78 + j * 6, none⟩), .agg (plC (K i j)), .string a, .string b, .agg #[.int .i64 (i : Int), .int .i64 (j : Int)], .func (.func 108) #[] #[.pointer (some ⟨Bw, 0, none⟩), .pointer (some ⟨Br, 0, none⟩), .pointer (some ⟨Ba, 0, none⟩), .pointer (some ⟨Bt, 0, none⟩)], .agg #[.int .i64 (x.val.k : Int), .int .i64 (x.val.b : Int)], .agg #[.int .i64 (x.val.i : Int), .int .i64 (x.val.j : Int)], undef, undef, undef, undef, undef, undef, undef, undef, undef, undef, undef, undef, undef, undef, undef, undef, undef, undef, undef, undef, undef, undef, undef, undef], defers := [] })
      (fun x a'' _ X Y row hs hg hr => by obtain ⟨Be, Bo, h1, ⟨h2, h3⟩, h4⟩ := hs; exact ⟨Be, Bo, h1, ⟨row_own Be 77 (fun (_ : Unit) => [Value.int .i64 (x.val.k : Int), .int .i64 (x.val.b : Int)]) () X Y row h2 hg (fun r e => (hr r e).2), row_own Bo 65 (fun (_ : Unit) => [Value.int .i64 (x.val.i : Int), .int .i64 (x.val.j : Int)]) () X Y row h3 hg (fun r e => (hr r e).2)⟩, h4⟩)
      ?assign2 ?body2 ?done2 ?stop2
    case assign2 =>
      rintro l2 pre' x W' Kk ⟨⟨⟨⟨⟨⟨⟨⟨rK, rA⟩, rB⟩, rP⟩, rR⟩, rT⟩, rX⟩, rH⟩, hBW, hKF, hKG⟩ hKk
      dsimp only [encN] at *
      have hsz := hBW.size
      have hlK := rK.lt
      have hsG := hKG.size
      gi_wp2
      refine hKk _ _ (((KeepsOthers.alloc _ _).trans (KeepsOthers.alloc _ _)).from _) ((KeptOn.refl _ W').below (bl_al (bl_al (Below.refl _ W') _) _) (fun k hk => Nat.lt_of_lt_of_le hk.1 hsG)) ⟨⟨⟨⟨⟨⟨⟨⟨(rK.alloc _).alloc _, (rA.alloc _).alloc _⟩, (rB.alloc _).alloc _⟩, (rP.alloc _).alloc _⟩, (rR.alloc _).alloc _⟩, (rT.alloc _).alloc _⟩, (rX.alloc _).alloc _⟩, (rH.alloc _).alloc _⟩, (hBW.alloc (by omega) _).alloc (by simp; omega) _, hKF.trans (((KeepsOthers.alloc _ _).trans (KeepsOthers.alloc _ _)).from _), hKG.trans (((KeepsOthers.alloc _ _).trans (KeepsOthers.alloc _ _)).from _)⟩ ⟨W'.heap.size, W'.heap.size + 1, ⟨hsG, by omega⟩, ⟨(Row.new W' _ _).alloc _, ?_⟩, rfl⟩
      have hn := Row.new (W'.alloc (.cells #[.int .i64 (x.val.k : Int), .int .i64 (x.val.b : Int)] 77)) 65 [.int .i64 (x.val.i : Int), .int .i64 (x.val.j : Int)]
      rw [World.size_alloc] at hn
      exact hn
    case body2 =>
      rintro l2 pre' x a'' W' _ _ ⟨⟨⟨⟨⟨⟨⟨⟨rK, rA⟩, rB⟩, rP⟩, rR⟩, rT⟩, rX⟩, rH⟩, hBW, hKF, hKG⟩ ⟨Be, Bo, ⟨hbe, hbo⟩, ⟨rE, rO⟩, rfl⟩ hlt2
      obtain ⟨⟨k, bb, ti, tj⟩, hk4, hbb, hti, htj⟩ := x
      dsimp only at hk4 hbb hti htj rE rO ⊢
      obtain ⟨K', hK'⟩ : ∃ K', (pre'.map Subtype.val).foldl pk K = K' := ⟨_, rfl⟩
      rw [hK'] at rK
      have hsG := hKG.size
      refine wpIn_hide (fun Q2 HQ2 => ?_)
      have o0 := rO.cell 0
      have o1 := rO.cell 1
      simp only [List.getElem?_cons_zero, List.getElem?_cons_succ] at o0 o1
      have hti13 : (ti : Int) < 13 := by omega
      have htj13 : (tj : Int) < 13 := by omega
      gi_wp2_with fail
      refine region_calmR 6 hmx (by kernel_rfl) (by kernel_rfl) ?_
      simp only [List.take_succ_cons, List.take_zero, List.drop_succ_cons, List.drop_zero]
      intro S hSn f hS1 hS2
      have l0 : ∀ s, (f s).cell? ⟨Bo, 0, none⟩ = some (.int .i64 (ti : Int)) := fun s => cell_later (hS1 s) o0
      have l1 : ∀ s, (f s).cell? ⟨Bo, 1, none⟩ = some (.int .i64 (tj : Int)) := fun s => cell_later (hS1 s) o1
      repeat (go_big_quiet_step (fail))
      refine wpQuiet_nil ?_
      rintro _ ⟨s, rfl⟩
      have hbs := Lib.hid (hS1 s)
      generalize f s = W4 at hbs ⊢
      clear l0 l1 hS1 hS2 o0 o1
      gi_wp2_with fail
      have rK4 := rK.later hbs.out
      have rH4 := rH.later hbs.out
      have rE4 := rE.later hbs.out
      have rX4 := rX.later hbs.out
      have rP4 := rP.later hbs.out
      have kc : ∀ f, f < 6 → W4.cell? ⟨H + 1 + 1 + 1 + 1, ti * 78 + tj * 6 + f, none⟩ = some (plF (K' ti tj) f) := fun f hf => (rK4.cell _).trans (boardL_at K' (by omega) (by omega) hf)
      have hc0 := rH4.cell 0
      have hc1 := rH4.cell 1
      have ec0 := rE4.cell 0
      have ec1 := rE4.cell 1
      have xc0 := rX4.cell 0
      have xc1 := rX4.cell 1
      have pc0 := rP4.cell 0
      have pc1 := rP4.cell 1
      have pc2 := rP4.cell 2
      simp only [List.getElem?_cons_zero, List.getElem?_cons_succ] at hc0 hc1 ec0 ec1 xc0 xc1 pc0 pc1 pc2
      refine region_calmR 17 hmx (by kernel_rfl) (by kernel_rfl) ?_
      simp only [List.take_succ_cons, List.take_zero, List.drop_succ_cons, List.drop_zero]
      intro S2 hSn2 f2 hT1 hT2
      have m0 : ∀ s, (f2 s).cell? ⟨H + 1 + 1 + 1 + 1, ti * 78 + tj * 6, none⟩ = some (.int .i64 (K' ti tj).c) := fun s => cell_later (hT1 s) (kc 0 (by omega))
      have m1 : ∀ s, (f2 s).cell? ⟨H + 1 + 1 + 1 + 1, ti * 78 + tj * 6 + 1, none⟩ = some (.int .i64 (K' ti tj).w) := fun s => cell_later (hT1 s) (kc 1 (by omega))
      have m2 : ∀ s, (f2 s).cell? ⟨H + 1 + 1 + 1 + 1, ti * 78 + tj * 6 + 2, none⟩ = some (.int .i64 (K' ti tj).k) := fun s => cell_later (hT1 s) (kc 2 (by omega))
      have m3 : ∀ s, (f2 s).cell? ⟨H + 1 + 1 + 1 + 1, ti * 78 + tj * 6 + 3, none⟩ = some (.int .i64 (K' ti tj).b) := fun s => cell_later (hT1 s) (kc 3 (by omega))
      have m4 : ∀ s, (f2 s).cell? ⟨H + 1 + 1 + 1 + 1, ti * 78 + tj * 6 + 4, none⟩ = some (.int .i64 (K' ti tj).i) := fun s => cell_later (hT1 s) (kc 4 (by omega))
      have m5 : ∀ s, (f2 s).cell? ⟨H + 1 + 1 + 1 + 1, ti * 78 + tj * 6 + 5, none⟩ = some (.int .i64 (K' ti tj).j) := fun s => cell_later (hT1 s) (kc 5 (by omega))
      have n0 : ∀ s, (f2 s).cell? ⟨Bh, 0, none⟩ = some (.int .i64 (K i j).c) := fun s => cell_later (hT1 s) hc0
      have n1 : ∀ s, (f2 s).cell? ⟨Bh, 1, none⟩ = some (.int .i64 (K i j).w) := fun s => cell_later (hT1 s) hc1
      have n2 : ∀ s, (f2 s).cell? ⟨Be, 0, none⟩ = some (.int .i64 (k : Int)) := fun s => cell_later (hT1 s) ec0
      have n3 : ∀ s, (f2 s).cell? ⟨Be, 1, none⟩ = some (.int .i64 (bb : Int)) := fun s => cell_later (hT1 s) ec1
      have n4 : ∀ s, (f2 s).cell? ⟨Bx, 0, none⟩ = some (.int .i64 (i : Int)) := fun s => cell_later (hT1 s) xc0
      have n5 : ∀ s, (f2 s).cell? ⟨Bx, 1, none⟩ = some (.int .i64 (j : Int)) := fun s => cell_later (hT1 s) xc1
      have n6 : ∀ s, (f2 s).cell? ⟨H + 1 + 1, 0, none⟩ = some (.int .i64 (pi : Int)) := fun s => cell_later (hT1 s) pc0
      have n7 : ∀ s, (f2 s).cell? ⟨H + 1 + 1, 1, none⟩ = some (.int .i64 (po : Int)) := fun s => cell_later (hT1 s) pc1
      have n8 : ∀ s, (f2 s).cell? ⟨H + 1 + 1, 2, none⟩ = some (.int .i64 (ps : Int)) := fun s => cell_later (hT1 s) pc2
      have hPc := Lib.hid (calm_call hT1 hT2 (fun s => price_any k hk4 bb pi po ps (f2 s)))
      have hOc := Lib.hid (calm_call hT1 hT2 (fun s => or_any (K' ti tj) (mkP pi po ps (K i j) ⟨k, bb, ti, tj⟩ i j) (f2 s)))
      repeat (go_big_quiet_step (first | exact hPc.out _ | exact hOc.out _))
      refine wpQuiet_nil ?_
      rintro _ ⟨s, rfl⟩
      have hb5 := below_nx hbs.out (hT1 s)
      have rK5 := rK4.later (hT1 s)
      generalize f2 s = W5 at hb5 rK5 ⊢
      clear m0 m1 m2 m3 m4 m5 n0 n1 n2 n3 n4 n5 n6 n7 n8 hPc hOc hT1 hT2 kc hc0 hc1 ec0 ec1 xc0 xc1 pc0 pc1 pc2 rK4 rH4 rE4 rX4 rP4 hbs
      obtain ⟨Y, hY⟩ : ∃ Y, orW (K' ti tj) (mkP pi po ps (K i j) ⟨k, bb, ti, tj⟩ i j) = Y := ⟨_, rfl⟩
      rw [hY]
      have kc : ∀ f, f < 6 → W5.cell? ⟨H + 1 + 1 + 1 + 1, ti * 78 + tj * 6 + f, none⟩ = some (plF (K' ti tj) f) := fun f hf => (rK5.cell _).trans (boardL_at K' (by omega) (by omega) hf)
      have ht : W5.there (H + 1 + 1 + 1 + 1) (ti * 78 + tj * 6) (plC Y).size := fun f hf => ⟨by rw [kc f hf]; rfl, rK5.frozen _⟩
      have R5 := Lib.hid rK5
      have B5 := Lib.hid hb5
      have HYd := Lib.hid hY
      have hlT := rT.lt
      have hlX := rX.lt
      have hlH := rH.lt
      clear hb5 rK5 kc hY
      refine wpListIn_plain rfl (fun Kst hKst => ?_)
      refine wpIn_ro (fun c h => by cases h) (wpIn_of_wp ?_)
      refine wp_store_mid 93 (.tmp 58) (.tmp 57) rfl (H + 1 + 1 + 1 + 1) (ti * 78 + tj * 6) (plC Y) rfl rfl ht (by kernel_rfl) (by simp [plC, Value.oneCell']) ?_
      refine hKst _ _ ?_
      have e6 : W5.setCells (H + 1 + 1 + 1 + 1) (ti * 78 + tj * 6) (plC Y).toList = six W5 (H + 1 + 1 + 1 + 1) (ti * 78 + tj * 6) Y := rfl
      rw [e6]
      clear hKst Kst ht e6
      gi_wp2
      have hBh : Bh ≠ H + 1 + 1 + 1 + 1 := by omega
      try dsimp only [Exit.inBlock]
      rw [HQ2.out]
      have ko : KeepsOthers W' (six W5 (H + 1 + 1 + 1 + 1) (ti * 78 + tj * 6) Y) := (keepsOthers_below B5.out).trans (six_keeps _ _ _ _)
      refine ⟨ko.from _, ((KeptOn.refl _ W').below B5.out (fun k hk => Nat.lt_of_lt_of_le hk.1 hsG)).trans (six_kept (fun h => h.2 rfl) Y), ⟨⟨⟨⟨⟨⟨⟨⟨?_, six_box (Row.box ((Row.ofBox rA).later B5.out)) (by omega) Y⟩, six_box (Row.box ((Row.ofBox rB).later B5.out)) (by omega) Y⟩, six_row (rP.later B5.out) (by omega) Y⟩, six_row (rR.later B5.out) (by omega) Y⟩, six_row (rT.later B5.out) (by omega) Y⟩, six_row (rX.later B5.out) (by omega) Y⟩, six_row (rH.later B5.out) hBh Y⟩, six_below (hBW.trans (B5.out.mono (by omega))) (by omega) Y, hKF.trans (ko.from _), hKG.trans (ko.from _)⟩⟩
      rw [List.map_append, List.foldl_append, hK']
      show Row _ _ _ (boardL (pk K' ⟨k, bb, ti, tj⟩))
      rw [← hpk]
      show Row _ _ _ (boardL (updK K' ti tj (orW (K' ti tj) (mkP pi po ps (K i j) ⟨k, bb, ti, tj⟩ i j))))
      rw [HYd.out]
      exact six_board R5.out (by omega) (by omega) Y
    case done2 =>
      rintro ys' W' hys ⟨⟨⟨⟨⟨⟨⟨⟨rK, rA⟩, rB⟩, rP⟩, rR⟩, rT⟩, rX⟩, rH⟩, hBW, hKF, hKG⟩
      have e : st K (i, j) = (ys'.map Subtype.val).foldl pk K := by rw [← hst, ← hpk, hys]; rfl
      dsimp only [Exit.inBlock]
      rw [HQ.out]
      refine ⟨hKF, ⟨hKF.size, fun k hk => ?_⟩, ⟨⟨⟨⟨⟨?_, rA⟩, rB⟩, rP⟩, rR⟩, rT, hBW⟩⟩
      · have hk' : k = H + 1 + 1 + 1 + 1 + 1 := hk
        subst hk'
        exact (show W'.heap[_]? = _ from rT).trans (show W.heap[_]? = _ from HrT.out).symm
      · rw [List.map_append, List.foldl_append, hK]
        show Row W' (H + 1 + 1 + 1 + 1) _ (boardL (st K (i, j)))
        rw [e]
        exact rK
    case stop2 =>
      rintro c pre' W' _ h
      exact h.elim
  case done =>
    rintro D ys W hD hys ⟨⟨⟨⟨⟨rK, rA⟩, rB⟩, rP⟩, rR⟩, rT, hB⟩ hKd
    have hfin : boardL ((ys.map Subtype.val).foldl st startK) = boardL (boardK (bsN a) (bsN b) pi po ps) := by
      rw [hys, ← hst, ← hla, ← hlb]; rfl
    rw [hfin] at rK
    refine hK0 _ _ ?_
    refine wpIn_seq ?_
    refine wpIn_wide.2 ?_
    dsimp only
    have hK3 : W.heap[H + 1 + 1 + 1]? = some (.cells (boardL zeroK).toArray 96 (0, 0)) := rR
    have hsz : W1.heap.size ≤ W.heap.size := by have := (Array.getElem?_eq_some_iff.1 hKd).1; omega
    go_step
    refine wpList_load_row rfl 96 (.tmp 7) rfl (H + 1 + 1 + 1 + 1) rfl 96 (boardL (boardK (bsN a) (bsN b) pi po ps)).toArray (0, 0) _ rK Try.underlying96 rfl (info_boardL _) ?_
    refine wpList_store_rowTo rfl 96 (.tmp 6) (.tmp 59) rfl rfl (H + 1 + 1 + 1) (boardL (boardK (bsN a) (bsN b) pi po ps)).toArray rfl rfl 96 (boardL zeroK).toArray hK3 (info_boardL _) (by rw [List.size_toArray, List.size_toArray, boardL_length, boardL_length]) (boardL_one _) ?_
    have hrow := setRow_heap W (H + 1 + 1 + 1) (boardL zeroK).toArray (boardL (boardK (bsN a) (bsN b) pi po ps)).toArray 96 (0, 0) hK3
    have hlt3 : H + 1 + 1 + 1 < W.heap.size := rR.lt
    have hKd2 : (W.setRow (H + 1 + 1 + 1) (boardL (boardK (bsN a) (bsN b) pi po ps)).toArray).heap[D]? = some (.deferred (some [])) := (setRow_other W (H + 1 + 1 + 1) D _ (by omega)).trans hKd
    have hB2 : Below H w (W.setRow (H + 1 + 1 + 1) (boardL (boardK (bsN a) (bsN b) pi po ps)).toArray) := below_setRow hB (by omega) _
    generalize W.setRow (H + 1 + 1 + 1) (boardL (boardK (bsN a) (bsN b) pi po ps)).toArray = W2 at hrow hKd2 hB2
    have HR := Lib.hid hrow
    have HB2 := Lib.hid hB2
    clear hrow hB2 hK3 rK rR rA rB rP rT hB hfin
    go_step
    dsimp only [Exit.then, Act.put]
    gi_wp2
    refine ⟨by simp, .inl ⟨_, _, rfl, run_takeDeferred hKd2, ?_⟩⟩
    refine ⟨_, results_cell_row rfl _ _ (H + 1 + 1 + 1) 96 (boardL (boardK (bsN a) (bsN b) pi po ps)).toArray (0, 0) _ rfl ((World.putObj_heap_other (by omega)).trans HR.out) Try.underlying96 rfl (info_boardL _), rfl, by rw [hH'.out]; exact HB2.out.trans (belowK_b (w := W1) (by omega) W2 D _ _ (by omega) hKd2 rfl rfl)⟩
  case stop =>
    rintro D c pre W _ _ h
    exact h.elim
end Go.Proofs.Ytkpmkeklopfhdaa

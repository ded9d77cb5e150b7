/-
  Script: its walk.
-/
import Derived.Test.YtkpmkeklopfhdaaEdRev
import Derived.Test.YtkpmkeklopfhdaaEdRDone
import Derived.Test.YtkpmkeklopfhdaaEdScr
import Derived.Test.YtkpmkeklopfhdaaEdCost
import Derived.Laws.StructEq
namespace Go.Proofs.Ytkpmkeklopfhdaa
open Go.ChangeShapes Go.WideShapes Go.ChangeAt Go.RowKit
set_option linter.unusedVariables false
set_option maxRecDepth 100000

theorem pairIn (d : Nat) (a b c e : Int) (w : World) : (Op.equalIn (d + 1 + 1) 65 (.agg #[.int .i64 a, .int .i64 b]) (.agg #[.int .i64 c, .int .i64 e])).run Try.prog w = .ok (decide (a = c ∧ b = e)) w := by
  have hI := fun (x y : Int) (w : World) => run_equalIn_int (P := Try.prog) w d 3 .i64 .i64 x y Try.underlying3
  rw [Op.equalIn]
  by_cases h1 : a = c <;> by_cases h2 : b = e <;>
    simp [run_underlying Try.underlying65, go_sem, Result.andThen, Std.Legacy.Range.forIn_eq_forIn_range', List.range', part, hI, h1, h2]
theorem pair10 (a b c e : Int) (w : World) : (Op.equalIn 10000 65 (.agg #[.int .i64 a, .int .i64 b]) (.agg #[.int .i64 c, .int .i64 e])).run Try.prog w = .ok (decide (a = c ∧ b = e)) w := by
  rw [show (10000 : Nat) = 9998 + 1 + 1 from rfl, pairIn]
theorem pairG : Try.prog.eqGuardType Try.prog.depth 65 = false := by kernel_rfl
theorem region_heldO {P : Program} {id : Nat} {Q : Exit → Act → World → Prop} {a : Act} {w : World} {l : List Oper} (S : World → Prop) (hm : P.follows .mixedOrders = true) (hS : S w.drew)
    (h : S w.drew → wpAnyH P .any l.toArray (OnlyN Q) S l.toArray.size (Array.replicate l.toArray.size false) a w.drew) : (Code.region id l.toArray true).wp P Q a w :=
  Code.wp_mono OnlyN.imp (wp_region_held hm (h hS))
def ofN (e : Nat × Nat) : Int × Int := ((e.1 : Int), (e.2 : Int))
/-- What holds while the script is gathered from its end. -/
def SI (A B : List Nat) (pi po ps la lb k i j : Nat) (l : List (Int × Int)) : Prop := l.length + k = la + lb ∧ ∃ t : List (Nat × Nat), scrF A B pi po ps (la + lb) la lb = scrF A B pi po ps k i j ++ t ∧ l = (t.map ofN).reverse
theorem SI.start (A B : List Nat) (pi po ps la lb : Nat) : SI A B pi po ps la lb (la + lb) la lb [] := ⟨by simp, [], by simp, rfl⟩
theorem pl_back (A B : List Nat) (pi po ps i j : Nat) (h : ¬ (i = 0 ∧ j = 0)) : ∃ r c k b : Nat, (pl A B pi po ps i j).i = r ∧ (pl A B pi po ps i j).j = c ∧ (pl A B pi po ps i j).k = k ∧ (pl A B pi po ps i j).b = b ∧ r ≤ i ∧ c ≤ j ∧ r + c < i + j := by
  cases pl_last A B pi po ps i j h with
  | keep r c e1 e2 e hk hb h1 h2 hc => exact ⟨r, c, 0, 0, h1, h2, hk, hb, by omega, by omega, by omega⟩
  | swap r c e1 e2 e hk hb h1 h2 hc => exact ⟨r, c, 1, _, h1, h2, hk, hb, by omega, by omega, by omega⟩
  | out r e1 hk hb h1 h2 hc => exact ⟨r, j, 2, 0, h1, h2, hk, hb, by omega, by omega, by omega⟩
  | inn c e1 hk hb h1 h2 hc => exact ⟨i, c, 3, _, h1, h2, hk, hb, by omega, by omega, by omega⟩
theorem SI.step {A B : List Nat} {pi po ps la lb k i j : Nat} {l : List (Int × Int)} (h : SI A B pi po ps la lb (k + 1) i j l) (h0 : ¬ (i = 0 ∧ j = 0)) {r c x y : Nat} (h1 : (pl A B pi po ps i j).i = r) (h2 : (pl A B pi po ps i j).j = c) (h3 : (pl A B pi po ps i j).k = x) (h4 : (pl A B pi po ps i j).b = y) :
    SI A B pi po ps la lb k r c (l ++ [((x : Int), (y : Int))]) := by
  obtain ⟨hl, t, ht, rfl⟩ := h
  refine ⟨by rw [List.length_append]; simp at hl ⊢; omega, (x, y) :: t, ?_, by simp [ofN]⟩
  rw [ht]
  conv => lhs; unfold scrF
  rw [if_neg h0, h1, h2, h3, h4, Int.toNat_natCast, Int.toNat_natCast, Int.toNat_natCast, Int.toNat_natCast, List.append_assoc]
  rfl
theorem SI.last {A B : List Nat} {pi po ps la lb k : Nat} {l : List (Int × Int)} (h : SI A B pi po ps la lb k 0 0 l) : l.reverse = (scrF A B pi po ps (la + lb) la lb).map ofN := by
  obtain ⟨_, t, ht, rfl⟩ := h
  rw [List.reverse_reverse, ht]
  have : scrF A B pi po ps k 0 0 = [] := by cases k <;> simp [scrF]
  rw [this, List.nil_append]
/-- The program's script. -/
def scrI (a b : ByteArray) (pi po ps : Nat) : List (Int × Int) := (scrF (bsN a) (bsN b) pi po ps (a.size + b.size) a.size b.size).map ofN
theorem own_ne_row {W : World} {L n b : Nat} {v : Value} {xs vs : List Value} {e t : TypeId} {z : Nat} (h : W.ownsRow L e z v n xs) (hr : Row W b t vs) (ht : t ≠ e) : some b ≠ v.ownBlock := by
  intro he
  obtain ⟨_, ⟨rfl, _⟩ | ⟨g, cap, cur, rfl, _, hh, _⟩⟩ := h
  · simp [Value.ownBlock] at he
  · simp [Value.ownBlock] at he
    subst he
    unfold Row at hr
    rw [hr] at hh
    cases hh
    exact ht rfl
theorem own_set_other {W : World} {L n b i : Nat} {v u : Value} {xs : List Value} {e : TypeId} {z : Nat} (h : W.ownsRow L e z v n xs) (hne : some b ≠ v.ownBlock) : (W.setCell ⟨b, i, none⟩ u).ownsRow L e z v n xs := by
  refine h.kept (row := some b) ⟨rfl, rfl, rfl, by simp [World.setCell], fun k hk hne2 => Below.heap_setCell W ⟨b, i, none⟩ u k (fun h => hne2 (by rw [h]))⟩ (Or.inr (Ne.symm hne))
theorem own_weakE {A : World} {lo lo' z : Nat} {t : TypeId} {u : Value} {j : Nat} {zs : List Value} (h : A.ownsRow lo t z u j zs) (hl : lo' ≤ lo) : A.ownsRow lo' t z u j zs := by
  obtain ⟨h0, h | ⟨g, cap, cur, h1, h2, h3⟩⟩ := h
  · exact ⟨h0, Or.inl h⟩
  · exact ⟨h0, Or.inr ⟨g, cap, cur, h1, by omega, h3⟩⟩
theorem plC_list (p : Pl) : (plC p).toList = [.int .i64 p.c, .int .i64 p.w, .int .i64 p.k, .int .i64 p.b, .int .i64 p.i, .int .i64 p.j] := rfl

set_option maxHeartbeats 2000000 in
theorem Script_bad (a b : ByteArray) (pi po ps : Int) (h : goodB a b pi po ps = false) (w : World) :
    Calls Try.prog 21 #[.string a, .string b, pv pi po ps] w fun e w' => e = .returned (.tuple #[.slice none 0 0, .int .i64 2]) ∧ Below w.heap.size w w' := by
  have HP := Lib.hid (fun W => isPriced_any pi po ps W)
  have HA := Lib.hid (fun W v hv => all_line [a, b] (by unfold maxLen; simp) v W hv)
  have HB := Lib.hid ((Below.refl w.heap.size w).alloc (Nat.le_refl _) (.cells #[.int .i64 pi, .int .i64 po, .int .i64 ps] 28))
  cases h1 : pricedB pi po ps
  · rw [h1] at HP
    clear h h1 HA
    go_enter Try.func21, Try.ntmps21
    go_wp2_with fail
    refine (HP.out _).mono ?_
    rintro e w1 ⟨rfl, b1⟩
    have B1 := Lib.hid (below_nx HB.out b1)
    clear b1
    go_wp2
    go_ret2
    exact ⟨rfl, B1.out⟩
  · have h2 : [a, b].all lineB = false := by unfold goodB at h; rw [h1] at h; simpa using h
    rw [h1] at HP
    rw [h2] at HA
    clear h h1 h2
    go_enter Try.func21, Try.ntmps21
    go_wp2_with fail
    refine (HP.out _).mono ?_
    rintro e w1 ⟨rfl, b1⟩
    have B1 := Lib.hid (below_nx HB.out b1)
    have HV := Lib.hid (strs2 w1 a b 9)
    clear b1
    go_wp2_with fail
    refine (HA.out _ _ HV.out).mono ?_
    rintro e w2 ⟨rfl, rfl⟩
    have B2 := Lib.hid (bl_al B1.out (.cells #[.string a, .string b] 9))
    go_wp2
    go_ret2
    exact ⟨rfl, B2.out⟩

set_option maxHeartbeats 2000000 in
theorem Script_ok (a b : ByteArray) (pi po ps : Nat) (h : goodB a b pi po ps = true) (w : World) :
    Calls Try.prog 21 #[.string a, .string b, pv pi po ps] w fun e w' => ∃ v, e = .returned (.tuple #[v, .int .i64 0]) ∧ w'.ownsRow w.heap.size 77 2 v (scrI a b pi po ps).length (cellsE (scrI a b pi po ps)) ∧ Below w.heap.size w w' := by
  unfold goodB at h
  rw [Bool.and_eq_true, Bool.and_eq_true] at h
  obtain ⟨h1, h2, h3⟩ := h
  obtain ⟨⟨_, q1⟩, ⟨_, q2⟩, _, q3⟩ := (priced_iff _ _ _).1 h1
  have ha : a.size ≤ 12 := of_decide_eq_true h2
  have hb : b.size ≤ 12 := of_decide_eq_true h3
  have HP := Lib.hid (fun W => isPriced_any pi po ps W)
  have HA := Lib.hid (fun W v hv => all_line [a, b] (by unfold maxLen; simp) v W hv)
  rw [show [a, b].all lineB = true by simp [h2, h3]] at HA
  rw [h1] at HP
  have HS := Lib.hid (fun W => scripts_any a b pi po ps ha hb (by omega) (by omega) (by omega) W)
  obtain ⟨i0, hi, hz0, hz1, hz2⟩ := info_parts info_edE
  have hmx : Try.prog.follows .mixedOrders = true := by kernel_rfl
  have HPR := Lib.hid (show Pr pi po ps from ⟨by omega, by omega, by omega⟩)
  have HPL := Lib.hid (fun i j h1 h2 => board_pl (bsN a) (bsN b) pi po ps (i := i) (j := j) (by omega) (by omega) (by omega) (by rw [bsN_length]; exact ha) (by rw [bsN_length]; exact hb) h1 h2)
  have ha2 := ha
  have hb2 := hb
  have HB := Lib.hid ((Below.refl w.heap.size w).alloc (Nat.le_refl _) (.cells #[.int .i64 (pi : Int), .int .i64 (po : Int), .int .i64 (ps : Int)] 28))
  clear h1 h2 h3 ha hb
  obtain ⟨W0, hW0⟩ : ∃ W0, w.alloc (.cells #[.int .i64 (pi : Int), .int .i64 (po : Int), .int .i64 (ps : Int)] 28) = W0 := ⟨_, rfl⟩
  have p0 : W0.cell? ⟨w.heap.size, 0, none⟩ = some (.int .i64 (pi : Int)) := by rw [← hW0]; simp
  have p1 : W0.cell? ⟨w.heap.size, 1, none⟩ = some (.int .i64 (po : Int)) := by rw [← hW0]; simp
  have p2 : W0.cell? ⟨w.heap.size, 2, none⟩ = some (.int .i64 (ps : Int)) := by rw [← hW0]; simp
  rw [hW0] at HB
  go_enter Try.func21, Try.ntmps21
  go_wp2_with fail
  refine (HP.out _).mono ?_
  rintro e w1 ⟨rfl, b1⟩
  try rw [hW0] at b1
  have B1 := Lib.hid (below_nx HB.out b1)
  have p0 := cell_later b1 p0
  have p1 := cell_later b1 p1
  have p2 := cell_later b1 p2
  have HV := Lib.hid (strs2 w1 a b 9)
  clear b1 hW0
  go_wp2_with fail
  refine (HA.out _ _ HV.out).mono ?_
  rintro e w2 ⟨rfl, rfl⟩
  have bl1 : Below w1.heap.size w1 (w1.alloc (.cells #[.string a, .string b] 9)) := bl_al (Below.refl _ _) _
  have p0 := cell_later bl1 p0
  have p1 := cell_later bl1 p1
  have p2 := cell_later bl1 p2
  have B2 := Lib.hid (bl_al B1.out (.cells #[.string a, .string b] 9))
  clear bl1
  generalize w1.alloc (.cells #[.string a, .string b] 9) = w3 at p0 p1 p2 B2 ⊢
  go_wp2_with fail
  refine (HS.out _).mono ?_
  rintro e w4 ⟨rfl, b4⟩
  rename_i K2 hK2 K1 hK1
  dsimp only
  refine hK1 _ _ ?_
  clear hK1 K1
  refine Great.wpList_runTo rfl _ rfl (.pointer (some ⟨w4.heap.size, 0, none⟩)) (w4.alloc (.cells (boardL zeroK).toArray 96)) ?_ ?_
  · simp only [execOp, Sem.run_bind, run_alloc_board, Result.andThen_ok]
    rfl
  refine wpList_store_rowTo rfl 96 (.tmp 8) (.tmp 25) rfl rfl w4.heap.size (boardL (boardK (bsN a) (bsN b) pi po ps)).toArray rfl rfl 96 (boardL zeroK).toArray (World.alloc_heap_new w4 _) (info_boardL _) (by rw [List.size_toArray, List.size_toArray, boardL_length, boardL_length]) (boardL_one _) ?_
  have hrow : Row ((w4.alloc (.cells (boardL zeroK).toArray 96)).setRow w4.heap.size (boardL (boardK (bsN a) (bsN b) pi po ps)).toArray) w4.heap.size 96 (boardL (boardK (bsN a) (bsN b) pi po ps)) := setRow_heap _ _ _ _ _ _ (World.alloc_heap_new w4 _)
  have hbw : Below w4.heap.size w4 ((w4.alloc (.cells (boardL zeroK).toArray 96)).setRow w4.heap.size (boardL (boardK (bsN a) (bsN b) pi po ps)).toArray) := below_setRow ((Below.refl _ _).alloc (Nat.le_refl _) _) (Nat.le_refl _) _
  have B4 := Lib.hid (below_nx B2.out b4)
  obtain ⟨KB, hKB⟩ : ∃ KB, w4.heap.size = KB := ⟨_, rfl⟩
  have hKw : w.heap.size ≤ KB := by have := B4.out.size; omega
  have B5 := Lib.hid (below_nx B4.out hbw)
  generalize (w4.alloc (.cells (boardL zeroK).toArray 96)).setRow w4.heap.size (boardL (boardK (bsN a) (bsN b) pi po ps)).toArray = w5 at hrow B5 ⊢
  rw [hKB] at hrow ⊢
  have HRow := Lib.hid hrow
  clear hrow hbw b4 hKB B4 B2 p0 p1 p2 HS
  generalize Value.agg (boardL (boardK (bsN a) (bsN b) pi po ps)).toArray = bagg
  go_step
  dsimp only [Exit.then, Act.put, Array.setIfInBounds]
  refine hK2 _ _ ?_
  clear hK2 K2

  obtain ⟨L, hL⟩ : ∃ L, w5.heap.size = L := ⟨_, rfl⟩
  have hwL : w.heap.size ≤ L := by have := B5.out.size; omega
  have hKL : KB < L := by have := HRow.out.lt; omega
  have HR2 := Lib.hid (show Row (w5.alloc (.cells #[.int .i64 (a.size : Int), .int .i64 (b.size : Int)] 65)) L 65 [.int .i64 (a.size : Int), .int .i64 (b.size : Int)] by rw [← hL]; exact Row.new w5 _ _)
  have HRK := Lib.hid (HRow.out.alloc (.cells #[.int .i64 (a.size : Int), .int .i64 (b.size : Int)] 65))
  have B6 := Lib.hid (bl_al B5.out (.cells #[.int .i64 (a.size : Int), .int .i64 (b.size : Int)] 65))
  have hown0 : (w5.alloc (.cells #[.int .i64 (a.size : Int), .int .i64 (b.size : Int)] 65)).ownsRow L 77 2 (.slice none 0 0) ([] : List (Int × Int)).length (cellsE []) := World.ownsRow_nil _ _ _ _
  have HO0 := Lib.hid hown0
  clear hown0
  go_wp2_with fail
  try rw [hL]
  clear hL
  go_loopg [9, 10, 11] (a.size + b.size) (fun k sv av _ wr => ∃ (i j : Nat) (l : List (Int × Int)) (Bx n : Nat), av = .pointer (some ⟨Bx, 0, none⟩) ∧ i ≤ a.size ∧ j ≤ b.size ∧ n ≤ k ∧ i + j ≤ n ∧ SI (bsN a) (bsN b) pi po ps a.size b.size n i j l ∧ wr.ownsRow L 77 2 sv l.length (cellsE l) ∧ Row wr Bx 65 [.int .i64 (i : Int), .int .i64 (j : Int)] ∧ L ≤ Bx ∧ Row wr KB 96 (boardL (boardK (bsN a) (bsN b) pi po ps)) ∧ Below w.heap.size w wr)
  case atStart => exact ⟨a.size, b.size, [], L, a.size + b.size, rfl, Nat.le_refl _, Nat.le_refl _, Nat.le_refl _, Nat.le_refl _, SI.start _ _ _ _ _ _ _, HO0.out, HR2.out, Nat.le_refl _, HRK.out, B6.out⟩
  case round =>
    obtain ⟨i, j, l, Bx, n, rfl, hia, hjb, hnk, hij, hsi, hown, hrx, hLx, hrk, hB⟩ := hrel
    have HOw := Lib.hid hown
    have HRX := Lib.hid hrx
    have HRK := Lib.hid hrk
    have HSI := Lib.hid hsi
    have HBr := Lib.hid hB
    have hpe := fun W => pair10 (i : Int) (j : Int) 0 0 W
    have hpg := pairG
    have x0 := hrx.cell 0
    have x1 := hrx.cell 1
    simp only [List.getElem?_cons_zero, List.getElem?_cons_succ] at x0 x1
    clear hown hsi hB hrx
    by_cases h0 : i = 0 ∧ j = 0
    · obtain ⟨rfl, rfl⟩ := h0
      have HE := Lib.hid HSI.out.last
      have hpe0 := fun W => pair10 0 0 0 0 W
      rw [show decide ((0 : Int) = 0 ∧ (0 : Int) = 0) = true by decide] at hpe0
      clear hpe
      have hll : l.length ≤ 4096 := by have := HSI.out.1; omega
      have HRv := Lib.hid (fun (W : World) (h : W.ownsRow L 77 2 u9 l.length (cellsE l)) => Reverse_own h hll)
      clear HPL HSI
      go_wp2_with fail
      refine (HRv.out _ HOw.out).mono ?_
      rintro e w9 ⟨rfl, ho, bL⟩
      have HO9 := Lib.hid (own_weakE ho hwL)
      rw [show l.reverse = scrI a b pi po ps from HE.out] at HO9
      have B9 := Lib.hid (HBr.out.trans (bL.mono hwL))
      clear ho bL
      go_wp2
      go_ret2
      refine ⟨u9, ?_, HO9.out, B9.out⟩
      rfl
    · have hd : decide ((i : Int) = 0 ∧ (j : Int) = 0) = false := decide_eq_false (by omega)
      obtain ⟨r, c, x, y, g1, g2, g3, g4, hr, hc, hrc⟩ := pl_back (bsN a) (bsN b) pi po ps i j h0
      obtain ⟨k', rfl⟩ : ∃ k', n = k' + 1 := ⟨n - 1, by omega⟩
      have HS2 := Lib.hid (HSI.out.step h0 g1 g2 g3 g4)
      have hll : l.length + 1 ≤ 24 := by have := HSI.out.1; omega
      have kc : ∀ f, f < 6 → wr.cell? ⟨KB, i * 78 + j * 6 + f, none⟩ = some (plF (boardK (bsN a) (bsN b) pi po ps i j) f) := fun f hf => (hrk.cell _).trans (boardL_at _ (by omega) (by omega) hf)
      rw [HPL.out i j (by rw [bsN_length]; exact hia) (by rw [bsN_length]; exact hjb)] at kc
      have HKC := Lib.hid (fun W' (h : Below wr.heap.size wr W') => show W'.cell? ⟨Bx, 0, none⟩ = some (.int .i64 (i : Int)) ∧ W'.cell? ⟨Bx, 1, none⟩ = some (.int .i64 (j : Int)) ∧ (W'.cell? ⟨KB, i * 78 + j * 6, none⟩ = some (.int .i64 (pl (bsN a) (bsN b) pi po ps i j).c) ∧ W'.cell? ⟨KB, i * 78 + j * 6 + 1, none⟩ = some (.int .i64 (pl (bsN a) (bsN b) pi po ps i j).w) ∧ W'.cell? ⟨KB, i * 78 + j * 6 + 2, none⟩ = some (.int .i64 (pl (bsN a) (bsN b) pi po ps i j).k) ∧ W'.cell? ⟨KB, i * 78 + j * 6 + 3, none⟩ = some (.int .i64 (pl (bsN a) (bsN b) pi po ps i j).b) ∧ W'.cell? ⟨KB, i * 78 + j * 6 + 4, none⟩ = some (.int .i64 (pl (bsN a) (bsN b) pi po ps i j).i) ∧ W'.cell? ⟨KB, i * 78 + j * 6 + 5, none⟩ = some (.int .i64 (pl (bsN a) (bsN b) pi po ps i j).j)) from ⟨cell_later h x0, cell_later h x1, cell_later h (kc 0 (by omega)), cell_later h (kc 1 (by omega)), cell_later h (kc 2 (by omega)), cell_later h (kc 3 (by omega)), cell_later h (kc 4 (by omega)), cell_later h (kc 5 (by omega))⟩)
      rw [g1, g2, g3, g4] at HKC
      clear kc hrk g1 g2 g3 g4 HPL
      generalize (pl (bsN a) (bsN b) pi po ps i j).c = pc at HKC
      generalize (pl (bsN a) (bsN b) pi po ps i j).w = pw at HKC
      have hi13 : (i : Int) < 13 := by omega
      have hj13 : (j : Int) < 13 := by omega
      go_wp2_with fail
      refine region_heldO (fun W' => Below wr.heap.size wr W') hmx (Below.refl _ wr).drew (fun hS => ?_)
      refine take_held (i := 0) (v := .pointer (some ⟨Bx, 0, none⟩)) rfl (by kernel_rfl) (by kernel_rfl) (by kernel_rfl) (fun _ _ _ h => h) (by rfl) (by intro W2 hb; obtain ⟨q0, q1, q2, q3, q4, q5, q6, q7⟩ := HKC.out W2 hb; go_simp) hS ?_
      refine take_held (i := 1) (v := .int .i64 (i : Int)) rfl (by kernel_rfl) (by kernel_rfl) (by kernel_rfl) (fun _ _ _ h => h) (by rfl) (by intro W2 hb; obtain ⟨q0, q1, q2, q3, q4, q5, q6, q7⟩ := HKC.out W2 hb; go_simp) hS ?_
      refine take_held (i := 2) (v := .pointer (some ⟨Bx, 1, none⟩)) rfl (by kernel_rfl) (by kernel_rfl) (by kernel_rfl) (fun _ _ _ h => h) (by rfl) (by intro W2 hb; obtain ⟨q0, q1, q2, q3, q4, q5, q6, q7⟩ := HKC.out W2 hb; go_simp) hS ?_
      refine take_held (i := 3) (v := .int .i64 (j : Int)) rfl (by kernel_rfl) (by kernel_rfl) (by kernel_rfl) (fun _ _ _ h => h) (by rfl) (by intro W2 hb; obtain ⟨q0, q1, q2, q3, q4, q5, q6, q7⟩ := HKC.out W2 hb; go_simp) hS ?_
      refine take_held (i := 4) (v := .pointer (some ⟨KB, i * 78, none⟩)) rfl (by kernel_rfl) (by kernel_rfl) (by kernel_rfl) (fun _ _ _ h => h) (by rfl) (by intro W2 hb; obtain ⟨q0, q1, q2, q3, q4, q5, q6, q7⟩ := HKC.out W2 hb; go_simp) hS ?_
      refine take_held (i := 5) (v := .pointer (some ⟨KB, i * 78 + j * 6, none⟩)) rfl (by kernel_rfl) (by kernel_rfl) (by kernel_rfl) (fun _ _ _ h => h) (by rfl) (by intro W2 hb; obtain ⟨q0, q1, q2, q3, q4, q5, q6, q7⟩ := HKC.out W2 hb; go_simp) hS ?_
      refine take_held (i := 6) (v := .agg (plC (⟨pc, pw, x, y, r, c⟩ : Pl))) rfl (by kernel_rfl) (by kernel_rfl) (by kernel_rfl) (fun _ _ _ h => h) (by rfl) (by intro W2 hb; obtain ⟨q0, q1, q2, q3, q4, q5, q6, q7⟩ := HKC.out W2 hb; go_simp) hS ?_
      refine step_held (i := 7) rfl (by kernel_rfl) (by rfl) (fun K' hK' => ?_)
      go_simp
      refine hK'.out _ _ (bl_al (Below.refl _ wr).drew _) (fun hS => ?_)
      clear hK' K'
      refine step_held (i := 8) rfl (by kernel_rfl) (by rfl) (fun K' hK' => ?_)
      go_simp
      refine hK'.out _ _ (bl_dr (bl_al (Below.refl _ wr) _)) (fun hS => ?_)
      clear hK' K'
      refine wpAnyH_done (by kernel_rfl) ?_ _
      dsimp only [OnlyN, Exit.then, Exit.inBlock]
      obtain ⟨W2, hW2⟩ : ∃ W2, (wr.alloc (.cells #[.int .i64 pc, .int .i64 pw, .int .i64 (x : Int), .int .i64 (y : Int), .int .i64 (r : Int), .int .i64 (c : Int)] 93)).drew = W2 := ⟨_, rfl⟩
      have rH : Row W2 wr.heap.size 93 (#[.int .i64 pc, .int .i64 pw, .int .i64 (x : Int), .int .i64 (y : Int), .int .i64 (r : Int), .int .i64 (c : Int)] : Array Value).toList := by rw [← hW2]; exact (Row.new wr _ _).drew
      have ho2 : W2.ownsRow L 77 2 u9 l.length (cellsE l) := by rw [← hW2]; exact (HOw.out.alloc _).drew
      have rx2 : Row W2 Bx 65 [.int .i64 (i : Int), .int .i64 (j : Int)] := by rw [← hW2]; exact (HRX.out.alloc _).drew
      have rk2 : Row W2 KB 96 (boardL (boardK (bsN a) (bsN b) pi po ps)) := by rw [← hW2]; exact (HRK.out.alloc _).drew
      have b2 : Below w.heap.size w W2 := by rw [← hW2]; exact bl_dr (bl_al HBr.out _)
      have hnH : some wr.heap.size ≠ u9.ownBlock := fun e => by have := (HOw.out.lt _ e.symm).2; omega
      have hnK : some KB ≠ u9.ownBlock := fun e => by have := (HOw.out.lt _ e.symm).1; omega
      have hnX : some Bx ≠ u9.ownBlock := own_ne_row ho2 rx2 (by decide)
      obtain ⟨Hb, hHb⟩ : ∃ Hb, wr.heap.size = Hb := ⟨_, rfl⟩
      rw [hW2]
      rw [hHb] at rH hnH ⊢
      have h2 := rH.cell 2
      have h3 := rH.cell 3
      simp only [List.getElem?_cons_zero, List.getElem?_cons_succ] at h2 h3
      have HO2 := Lib.hid ho2
      have RX2 := Lib.hid rx2
      have RK2 := Lib.hid rk2
      have RH2 := Lib.hid rH
      have B2x := Lib.hid b2
      have hsz2 : L ≤ W2.heap.size := by have := rx2.lt; omega
      have hwz2 : w.heap.size ≤ W2.heap.size := by omega
      clear hW2 hHb ho2 rx2 rk2 rH b2 x0 x1 hS HKC HOw HRX HRK HBr HSI hpe hpg
      go_wp2_with (at_builtin; refine wpList_append_own _ rfl _ _ 30 rfl L 77 i0 (.agg #[.int .i64 0, .int .i64 0]) 2 16 Try.underlying30 hi hz0 hz1 hz2 rfl (by decide) _ _ _ rfl (HO2.out.alloc _) ⟨W2.heap.size, 0, none⟩ 1 1 [.int .i64 (x : Int), .int .i64 (y : Int)] rfl rfl ?c1 ?c2 ?c3 ?c4 ?c5 ?_)
      case c2 => simp [Value.oneCell']
      case c3 => unfold maxLen; omega
      case c4 => omega
      case c5 => first | omega | (simp; omega) | (trace_state; omega)
      intro v' w7 hown7 hgrow7 hnil7
      have HO7 := Lib.hid (show w7.ownsRow L 77 2 v' (l ++ [((x : Int), (y : Int))]).length (cellsE (l ++ [((x : Int), (y : Int))])) by rw [cellsE_append, List.length_append]; exact hown7)
      have rx7 := (RX2.out.alloc (.cells #[.int .i64 (x : Int), .int .i64 (y : Int)] 77)).grown hgrow7 hnX
      have rk7 := (RK2.out.alloc (.cells #[.int .i64 (x : Int), .int .i64 (y : Int)] 77)).grown hgrow7 hnK
      have rh7 := (RH2.out.alloc (.cells #[.int .i64 (x : Int), .int .i64 (y : Int)] 77)).grown hgrow7 hnH
      have b7 : Below w.heap.size w w7 := (B2x.out.alloc hwz2 (.cells #[.int .i64 (x : Int), .int .i64 (y : Int)] 77)).grown hgrow7 (by simp; omega) (fun q e => Nat.le_trans hwL (HO2.out.lt q e).1)
      have hnX7 : some Bx ≠ v'.ownBlock := own_ne_row HO7.out rx7 (by decide)
      have h4 := rh7.cell 4
      have h5 := rh7.cell 5
      have x0 := rx7.cell 0
      have x1 := rx7.cell 1
      have f0 := rx7.frozen 0
      have f1 := rx7.frozen 1
      have rx8 := (rx7.set 0 (.int .i64 (r : Int))).set 1 (.int .i64 (c : Int))
      have z1 := (rx7.set 0 (.int .i64 (r : Int))).cell 1
      have zf := (rx7.set 0 (.int .i64 (r : Int))).frozen 1
      have y0 := rx8.cell 0
      have y1 := rx8.cell 1
      simp only [List.getElem?_cons_zero, List.getElem?_cons_succ, List.set_cons_zero, List.set_cons_succ] at h4 h5 x0 x1 y0 y1 z1
      have HO8 := Lib.hid (((own_set_other (i := 1) (u := .int .i64 (c : Int)) (own_set_other (i := 0) (u := .int .i64 (r : Int)) HO7.out hnX7) hnX7)).alloc (.cells #[.int .i64 (r : Int), .int .i64 (c : Int)] 65))
      have RX8 := Lib.hid (Row.new ((w7.setCell ⟨Bx, 0, none⟩ (.int .i64 (r : Int))).setCell ⟨Bx, 1, none⟩ (.int .i64 (c : Int))) 65 [.int .i64 (r : Int), .int .i64 (c : Int)])
      have RK8 := Lib.hid (((rk7.other (b' := Bx) (by omega) (i := 0) (.int .i64 (r : Int))).other (b' := Bx) (by omega) (i := 1) (.int .i64 (c : Int))).alloc (.cells #[.int .i64 (r : Int), .int .i64 (c : Int)] 65))
      have hsz8 : ((w7.setCell ⟨Bx, 0, none⟩ (.int .i64 (r : Int))).setCell ⟨Bx, 1, none⟩ (.int .i64 (c : Int))).heap.size = w7.heap.size := by simp [World.setCell]
      have hL7 : L ≤ w7.heap.size := by have := rx7.lt; omega
      rw [hsz8] at RX8
      have B8 := Lib.hid (((b7.setCell (p := ⟨Bx, 0, none⟩) (show w.heap.size ≤ Bx by omega) (.int .i64 (r : Int))).setCell (p := ⟨Bx, 1, none⟩) (show w.heap.size ≤ Bx by omega) (.int .i64 (c : Int))).alloc (by rw [hsz8]; omega) (.cells #[.int .i64 (r : Int), .int .i64 (c : Int)] 65))
      clear hown7 hgrow7 hnil7 rk7 rx7 rh7 rx8 b7 HO7 hsz8 h2 h3
      go_wp2
      go_roundg k'
      case measure => omega
      case rel => exact ⟨r, c, _, w7.heap.size, k', rfl, by omega, by omega, Nat.le_refl _, by omega, HS2.out, HO8.out, RX8.out, hL7, RK8.out, B8.out⟩
end Go.Proofs.Ytkpmkeklopfhdaa

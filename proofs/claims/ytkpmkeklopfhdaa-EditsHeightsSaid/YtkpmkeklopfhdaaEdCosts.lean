/-
  The reference's costs: two tables that grow by a row each round.
-/
import Derived.Test.YtkpmkeklopfhdaaEdTabO
import Derived.Test.YtkpmkeklopfhdaaEdTri
import Derived.Test.YtkpmkeklopfhdaaEdStr
import Derived.BigQuiet
import Derived.Deep.Cut
namespace Go.Proofs.Ytkpmkeklopfhdaa
open Go.ChangeShapes Go.WideShapes Go.ChangeAt Go.RowKit
set_option linter.unusedVariables false
set_option maxRecDepth 100000

section
variable {P : Program} {ops : Array Oper} {md : Region.Mode} {Q : Exit → Act → World → Prop} {S : World → Prop}
theorem two_held {i j : Nat} {oi oj : Oper} {fuel : Nat} {listed : Array Bool} {a : Act} {w : World} (hi : ops[i]? = some oi) (hj : ops[j]? = some oj) (hr : Region.ready md ops listed = [i, j]) (hwi : Region.wanted oi (yielded ops a.tmps) = true) (hwj : Region.wanted oj (yielded ops a.tmps) = true)
    (h1 : ∀ K' : Act → World → Prop, Shut (∀ a' w', S w' → (S w' → wpAnyH P md ops Q S fuel (listed.setIfInBounds i true) a' w') → K' a' w') → oi.wp P a w K' Q)
    (h2 : ∀ K' : Act → World → Prop, Shut (∀ a' w', S w' → (S w' → wpAnyH P md ops Q S fuel (listed.setIfInBounds j true) a' w') → K' a' w') → oj.wp P a w K' Q) : wpAnyH P md ops Q S (fuel + 1) listed a w :=
  wpAnyH_all hr (by simp) (fun k hk => by
    have hk : k = i ∨ k = j := by simpa using hk
    rcases hk with rfl | rfl
    · unfold wpOp
      rw [hi]
      simp only [hwi, if_true]
      exact .inl (h1 _ (fun a' w' h1 h2 => ⟨h1, h2 h1⟩))
    · unfold wpOp
      rw [hj]
      simp only [hwj, if_true]
      exact .inl (h2 _ (fun a' w' h1 h2 => ⟨h1, h2 h1⟩)))
end
/-- A post of a code, stated by what it is to be of the frame ahead of it. -/
theorem wp_via2 {P : Program} {c : Code} {Q : Exit → Act → World → Prop} {a : Act} {w : World} (R : Act → Act → World → Prop) (h1 : c.wp P (OnlyN fun _ a' w' => R a a' w') a w) (h2 : ∀ a' w', R a a' w' → Q .normal a' w') : c.wp P Q a w :=
  Code.wp_mono (fun e a' w' h => by cases e <;> first | exact h2 _ _ h | exact (h : False).elim) h1
theorem pow_24 {n : Nat} (h : n ≤ 24) : (3 : Int) ^ n ≤ 282429536481 := by
  have h2 : (3 : Nat) ^ n ≤ 3 ^ 24 := Nat.pow_le_pow_right (by decide) h
  have h3 : (3 : Int) ^ n ≤ 3 ^ 24 := by exact_mod_cast h2
  have h4 : (3 : Int) ^ 24 = 282429536481 := by decide
  rw [h4] at h3
  exact h3
theorem pl_small (A B : List Nat) (pi po ps : Nat) (hi : pi ≤ 9) (ho : po ≤ 9) (hs : ps ≤ 9) {i j : Nat} (h : i + j ≤ 24) : 0 ≤ (pl A B pi po ps i j).c ∧ (pl A B pi po ps i j).c ≤ 216 ∧ 1 ≤ (pl A B pi po ps i j).w ∧ (pl A B pi po ps i j).w ≤ 282429536481 := by
  obtain ⟨h1, h2, h3, h4⟩ := pl_bounds A B pi po ps hi ho hs _ i j (Nat.le_refl _)
  have h5 := Int.le_trans h4 (pow_24 h)
  clear h4
  exact ⟨h1, by omega, h3, h5⟩
theorem pred_facts {k x : Nat} (h : k = x + 1) (hk : k ≤ 13) : (k : Int) - 1 = (x : Int) ∧ x < k ∧ k - 1 = x ∧ x < k + 1 := by
  refine ⟨by omega, by omega, by omega, by omega⟩
theorem q_facts (q : Nat) : (q = 0 → ((q : Int) == 0) = true ∧ ((q : Int) == 1) = false ∧ ((q : Int) == 2) = false) ∧ (q = 1 → ((q : Int) == 0) = false ∧ ((q : Int) == 1) = true ∧ ((q : Int) == 2) = false) ∧ (q = 2 → ((q : Int) == 0) = false ∧ ((q : Int) == 1) = false ∧ ((q : Int) == 2) = true) := by
  refine ⟨?_, ?_, ?_⟩ <;> (rintro rfl; exact ⟨rfl, rfl, rfl⟩)
theorem num_facts {C V : Int} (h : 0 ≤ C ∧ C ≤ 300) (h2 : 1 ≤ V) (h3 : V ≤ 282429536481) : IntKind.i64.wrap C = C ∧ wrap64 C = C ∧ IntKind.i64.wrap V = V ∧ wrap64 V = V :=
  ⟨IntWalk.i64_in _ (by omega), by unfold wrap64; omega, IntWalk.i64_in _ (by omega), by unfold wrap64; omega⟩
theorem sum_facts {s V : Int} (h : 0 ≤ s) (h1 : s ≤ 3000000000000) (h2 : 1 ≤ V) (h3 : V ≤ 282429536481) : IntKind.i64.wrap (s + V) = s + V ∧ wrap64 (s + V) = s + V :=
  ⟨IntWalk.i64_in _ (by omega), by unfold wrap64; omega⟩
theorem price_facts {C : Int} {p : Nat} (h1 : 0 ≤ C) (h2 : C ≤ 216) (hp : p ≤ 9) : 0 ≤ C + (p : Int) ∧ C + (p : Int) ≤ 300 := by omega
theorem plain_facts {C : Int} (h1 : 0 ≤ C) (h2 : C ≤ 216) : 0 ≤ C ∧ C ≤ 300 := by omega
theorem st_A {s1 s2 C V : Int} (h : s1 < 0) : stC (s1, s2) C V = (C, V) := by unfold stC; rw [if_pos (Or.inl h)]
theorem st_B {s1 s2 C V : Int} (h : C < s1) : stC (s1, s2) C V = (C, V) := by unfold stC; rw [if_pos (Or.inr h)]
theorem st_C {s1 s2 C V : Int} (hn : ¬ s1 < 0) (h : C = s1) : stC (s1, s2) C V = (s1, s2 + V) := by unfold stC; rw [if_neg (by rintro (h1 | h1) <;> simp only [] at h1 <;> omega), if_pos h]
theorem st_D {s1 s2 C V : Int} (hn : ¬ s1 < 0) (h : ¬ C < s1) (h2 : ¬ C = s1) : stC (s1, s2) C V = (s1, s2) := by unfold stC; rw [if_neg (by rintro (h1 | h1) <;> simp only [] at h1 <;> omega), if_neg (by simp only []; omega)]
theorem ij_24 {a k j m x y : Nat} (h1 : k < a + 1) (h2 : j < m) (h3 : m ≤ 13) (h4 : a ≤ 12) (hx : x ≤ k) (hy : y ≤ j) : x + y ≤ 24 := by omega
theorem meas_3 {q : Nat} (h : q < 3) : 3 - (intOf (.int .i64 ((q : Int) + 1))).toNat < 3 - (intOf (.int .i64 (q : Int))).toNat := by simp only [intOf]; omega
theorem meas_o {n k : Nat} (h : k < n) : n - (intOf (.int .i64 ((k : Int) + 1))).toNat < n - (intOf (.int .i64 (k : Int))).toNat := by simp only [intOf]; omega
theorem ex_pred {k : Nat} (h : 0 < k) : ∃ x, k = x + 1 := ⟨k - 1, by omega⟩
theorem pred_neg {k : Nat} (h : ¬ 0 < k) : decide ((k : Int) - 1 < 0) = true ∧ (k : Int) - 1 < 0 := ⟨decide_eq_true (by omega), by omega⟩
theorem pred_pos {k : Nat} (h : 0 < k) : ¬ (k : Int) - 1 < 0 := by omega
theorem ix_byte (s : ByteArray) (i : Nat) (h : i < s.size) (w : World) : (Instr.index 9 (.string s) (.int .i64 (i : Int))).run Try.prog w = .ok (.int .u8 (atB (bsN s) i : Nat)) w := by
  rw [run_index_string w _ _ _ _ Try.underlying9]
  have h1 : ((i : Int)).toNat = i := by omega
  simp only [h1]
  rw [bsN_at _ _ h]
  simp [h]
theorem one_sls (g m : Nat) : ∀ u ∈ [Value.slice (some ⟨g, 0, none⟩) m m], u.oneCell' = true := by simp [Value.oneCell']

set_option maxHeartbeats 4000000 in
theorem costs_any (a b : ByteArray) (pi po ps : Nat) (ha : a.size ≤ 12) (hb : b.size ≤ 12) (hpi : pi ≤ 9) (hpo : po ≤ 9) (hps : ps ≤ 9) (w : World) :
    Calls Try.prog 68 #[.string a, .string b, pv pi po ps] w fun e w' => ∃ vc bc vw bw, e = .returned (.tuple #[vc, vw]) ∧ bc.length = a.size + 1 ∧ bw.length = a.size + 1 ∧
      Two w' (w.heap.size + 1) (b.size + 1) vc bc (fun i j => (pl (bsN a) (bsN b) pi po ps i j).c) vw bw (fun i j => (pl (bsN a) (bsN b) pi po ps i j).w) ∧ Below w.heap.size w w' := by
  have hmx : Try.prog.follows .mixedOrders = true := by kernel_rfl
  obtain ⟨i0, hi, hz0, hz1, hz2⟩ := info_parts info_intsE
  obtain ⟨m, hm⟩ : ∃ m, b.size + 1 = m := ⟨_, rfl⟩
  have hm13 : m ≤ 13 := by omega
  have hmI : (b.size : Int) + 1 = (m : Int) := by omega
  have hmw : wrap64 (m : Int) = (m : Int) := by unfold wrap64; omega
  have hmk : IntKind.i64.wrap (m : Int) = (m : Int) := IntWalk.i64_in _ (by omega)
  rw [hm]
  obtain ⟨W0, hW0⟩ : ∃ W0, w.alloc (.cells #[.int .i64 (pi : Int), .int .i64 (po : Int), .int .i64 (ps : Int)] 23) = W0 := ⟨_, rfl⟩
  obtain ⟨H, hH⟩ : ∃ H, w.heap.size = H := ⟨_, rfl⟩
  have hB0 : Below H w W0 := by rw [← hW0, ← hH]; exact (Below.refl _ w).alloc (Nat.le_refl _) _
  have p0 : W0.cell? ⟨H, 0, none⟩ = some (.int .i64 (pi : Int)) := by rw [← hW0, ← hH]; simp
  have p1 : W0.cell? ⟨H, 1, none⟩ = some (.int .i64 (po : Int)) := by rw [← hW0, ← hH]; simp
  have p2 : W0.cell? ⟨H, 2, none⟩ = some (.int .i64 (ps : Int)) := by rw [← hW0, ← hH]; simp
  obtain ⟨H1, hH1⟩ : ∃ H1, H1 = H + 1 := ⟨_, rfl⟩
  have hs0 : W0.heap.size = H1 := by rw [← hW0, hH1, ← hH]; simp
  have HH1 := Lib.hid hH1
  have HS0 := Lib.hid hs0
  have HB0 := Lib.hid hB0
  have HP := Lib.hid (fun W (h : Below H1 W0 W) => (⟨cell_later (by rw [hs0]; exact h) p0, cell_later (by rw [hs0]; exact h) p1, cell_later (by rw [hs0]; exact h) p2⟩ : W.cell? ⟨H, 0, none⟩ = some (.int .i64 (pi : Int)) ∧ W.cell? ⟨H, 1, none⟩ = some (.int .i64 (po : Int)) ∧ W.cell? ⟨H, 2, none⟩ = some (.int .i64 (ps : Int))))
  rw [hH]
  rw [← hH1]
  clear p0 p1 p2 hB0 hs0 hH1
  have HM := Lib.hid hm
  have HMI := Lib.hid hmI
  go_enter Try.func68, Try.ntmps68
  go_wp2_with fail
  try rw [hW0]
  try rw [hH]
  clear hW0
  go_loopw [8, 9, 22] (fun vc vw i wr => ∃ (k : Nat) (bc bw : List Nat) (fc fw : Nat → Nat → Int), k ≤ a.size + 1 ∧ i = .int .i64 k ∧ bc.length = k ∧ bw.length = k ∧ Two wr H1 m vc bc fc vw bw fw ∧ (∀ i j, i < k → j < m → fc i j = (pl (bsN a) (bsN b) pi po ps i j).c ∧ fw i j = (pl (bsN a) (bsN b) pi po ps i j).w) ∧ Below H1 W0 wr) (fun _ _ i _ => a.size + 1 - (intOf i).toNat)
  case atStart => exact ⟨0, [], [], fun _ _ => 0, fun _ _ => 0, Nat.zero_le _, rfl, rfl, rfl, ⟨TabO.nil _ _ _ _, TabO.nil _ _ _ _, fun x h => by simp at h, fun r h => by cases h⟩, fun i j h => by omega, Below.refl _ _⟩
  case round =>
    obtain ⟨k, bc, bw, fc, fw, hk, rfl, hbc, hbw, hT, hF, hB⟩ := hrel
    have HF := Lib.hid hF
    have HT := Lib.hid hT
    have HB := Lib.hid hB
    clear hF hT hB
    by_cases hka : k < a.size + 1
    · have HBC := Lib.hid hbc
      have HBW := Lib.hid hbw
      have hd5 : decide ((k : Int) < (a.size : Int) + 1) = true := decide_eq_true (by omega)
      go_upto_region 5 with fail
      try simp only [hd5]
      clear hd5
      refine wp_via2 (fun a a' w' => ∃ (g1 h1 : Nat) (v1 : Value) (g2 h2 : Nat) (v2 : Value), a' = (Act.put (Act.put (Act.put (Act.put (Act.put (Act.put (Act.put (Act.put (Act.put (Act.put (Act.put (Act.put (Act.put (Act.put (Act.put (Act.put a (some 25) (u8)) (some 26) (.string b)) (some 27) (.int .i64 (b.size : Int))) (some 28) (.int .i64 (m : Int))) (some 32) (u9)) (some 33) (.string b)) (some 34) (.int .i64 (b.size : Int))) (some 35) (.int .i64 (m : Int))) (some 29) (.slice (some ⟨g1, 0, none⟩) m m)) (some 30) (.slice (some ⟨h1, 0, none⟩) 1 1)) (some 31) (v1)) (some 36) (.slice (some ⟨g2, 0, none⟩) m m)) (some 37) (.slice (some ⟨h2, 0, none⟩) 1 1)) (some 38) (v2)) (some 8) (v1)) (some 9) (v2)) ∧ Two w' H1 m v1 (bc ++ [g1]) (fun i j => if i = bc.length then 0 else fc i j) v2 (bw ++ [g2]) (fun i j => if i = bw.length then 0 else fw i j) ∧ Below H1 W0 w') ?_ ?_
      · clear HF HP
        obtain ⟨u0, hu0⟩ : ∃ u0, wr.drew = u0 := ⟨_, rfl⟩
        have T0 := HT.out.drew
        have B0 := HB.out.drew
        have L0 : H1 ≤ wr.drew.heap.size := by have := HB.out.size; have := HS0.out; exact (by omega : H1 ≤ wr.heap.size)
        have hmI2 := HMI.out
        have hbl1 : bc.length ≤ 12 := by rw [HBC.out]; omega
        have hbl2 : bw.length ≤ 12 := by rw [HBW.out]; omega
        have hm2 : m ≤ 65536 := by omega
        refine wp_region_held_drew (S := fun _ => True) hmx trivial (fun _ => ?_)
        rw [hu0] at T0 B0 L0 ⊢
        clear hu0
        refine take_held (i := 0) (v := u8) rfl (by kernel_rfl) (by kernel_rfl) (by kernel_rfl) (fun _ _ _ h => h) (by rfl) (fun W _ => by rfl) trivial ?_
        simp only [Act.put, List.getElem_toArray, List.getElem_cons_zero, List.setIfInBounds_toArray, List.set_cons_zero, List.set_cons_succ]
        refine take_held (i := 1) (v := .string b) rfl (by kernel_rfl) (by kernel_rfl) (by kernel_rfl) (fun _ _ _ h => h) (by rfl) (fun W _ => by rfl) trivial ?_
        simp only [Act.put, List.getElem_toArray, List.getElem_cons_zero, List.getElem_cons_succ, List.setIfInBounds_toArray, List.set_cons_zero, List.set_cons_succ]
        refine take_held (i := 2) (v := .int .i64 (b.size : Int)) rfl (by kernel_rfl) (by kernel_rfl) (by kernel_rfl) (fun _ _ _ h => h) (by rfl) (fun W _ => by go_simp) trivial ?_
        simp only [Act.put, List.getElem_toArray, List.getElem_cons_zero, List.getElem_cons_succ, List.setIfInBounds_toArray, List.set_cons_zero, List.set_cons_succ]
        refine take_held (i := 3) (v := .int .i64 (m : Int)) rfl (by kernel_rfl) (by kernel_rfl) (by kernel_rfl) (fun _ _ _ h => h) (by rfl) (fun W _ => by go_simp) trivial ?_
        simp only [Act.put, List.getElem_toArray, List.getElem_cons_zero, List.getElem_cons_succ, List.setIfInBounds_toArray, List.set_cons_zero, List.set_cons_succ]
        refine take_held (i := 7) (v := u9) rfl (by kernel_rfl) (by kernel_rfl) (by kernel_rfl) (fun _ _ _ h => h) (by rfl) (fun W _ => by rfl) trivial ?_
        simp only [Act.put, List.getElem_toArray, List.getElem_cons_zero, List.getElem_cons_succ, List.setIfInBounds_toArray, List.set_cons_zero, List.set_cons_succ]
        refine take_held (i := 8) (v := .string b) rfl (by kernel_rfl) (by kernel_rfl) (by kernel_rfl) (fun _ _ _ h => h) (by rfl) (fun W _ => by rfl) trivial ?_
        simp only [Act.put, List.getElem_toArray, List.getElem_cons_zero, List.getElem_cons_succ, List.setIfInBounds_toArray, List.set_cons_zero, List.set_cons_succ]
        refine take_held (i := 9) (v := .int .i64 (b.size : Int)) rfl (by kernel_rfl) (by kernel_rfl) (by kernel_rfl) (fun _ _ _ h => h) (by rfl) (fun W _ => by go_simp) trivial ?_
        simp only [Act.put, List.getElem_toArray, List.getElem_cons_zero, List.getElem_cons_succ, List.setIfInBounds_toArray, List.set_cons_zero, List.set_cons_succ]
        refine take_held (i := 10) (v := .int .i64 (m : Int)) rfl (by kernel_rfl) (by kernel_rfl) (by kernel_rfl) (fun _ _ _ h => h) (by rfl) (fun W _ => by go_simp) trivial ?_
        simp only [Act.put, List.getElem_toArray, List.getElem_cons_zero, List.getElem_cons_succ, List.setIfInBounds_toArray, List.set_cons_zero, List.set_cons_succ]
        refine two_held (i := 4) (j := 11) rfl rfl (by kernel_rfl) (by rfl) (by rfl) (fun K' hK => ?_) (fun K' hK => ?_)
        · refine wp_make_ints m hm2 (.tmp 28) rfl rfl ?_
          have G1 := T0.newG L0
          have T1 := T0.alloc (.cells (rowI m fun _ => 0).toArray 3)
          have B1 := B0.alloc L0 (.cells (rowI m fun _ => 0).toArray 3)
          have L1 : H1 ≤ (u0.alloc (.cells (rowI m fun _ => 0).toArray 3)).heap.size := (by rw [World.size_alloc]; exact Nat.le_succ_of_le L0)
          clear T0 B0 L0
          generalize hWW : u0.alloc (.cells (rowI m fun _ => 0).toArray 3) = u1 at *
          generalize hgg : u0.heap.size = g1 at *
          clear hWW hgg
          refine hK.out _ _ trivial (fun _ => ?_)
          clear hK K'
          simp only [Act.put, List.getElem_toArray, List.getElem_cons_zero, List.getElem_cons_succ, List.setIfInBounds_toArray, List.set_cons_zero, List.set_cons_succ]
          refine two_held (i := 5) (j := 11) rfl rfl (by kernel_rfl) (by rfl) (by rfl) (fun K' hK => ?_) (fun K' hK => ?_)
          · refine wp_build_one g1 m (.tmp 29) rfl rfl ?_
            have H3 := T1.newH g1
            have T3 := T1.alloc (.cells #[.slice (some ⟨g1, 0, none⟩) m m] 53)
            have B3 := B1.alloc L1 (.cells #[.slice (some ⟨g1, 0, none⟩) m m] 53)
            have L3 : H1 ≤ (u1.alloc (.cells #[.slice (some ⟨g1, 0, none⟩) m m] 53)).heap.size := (by rw [World.size_alloc]; exact Nat.le_succ_of_le L1)
            have G31 := G1.alloc (.cells #[.slice (some ⟨g1, 0, none⟩) m m] 53)
            clear T1 B1 L1 G1
            generalize hWW : u1.alloc (.cells #[.slice (some ⟨g1, 0, none⟩) m m] 53) = u3 at *
            generalize hgg : u1.heap.size = h3 at *
            clear hWW hgg
            refine hK.out _ _ trivial (fun _ => ?_)
            clear hK K'
            simp only [Act.put, List.getElem_toArray, List.getElem_cons_zero, List.getElem_cons_succ, List.setIfInBounds_toArray, List.set_cons_zero, List.set_cons_succ]
            refine two_held (i := 6) (j := 11) rfl rfl (by kernel_rfl) (by rfl) (by rfl) (fun K' hK => ?_) (fun K' hK => ?_)
            · refine wp_append_lies u3 (.tmp 25) (.tmp 30) 47 rfl H1 53 i0 (.slice none 0 0) 1 24 Try.underlying47 hi hz0 hz1 hz2 rfl (by decide) u8 bc.length (slsV m bc) rfl (T3.c.own) ⟨h3, 0, none⟩ 1 1 [.slice (some ⟨g1, 0, none⟩) m m] rfl rfl (H3.news) (one_sls _ _) (by decide) (by unfold maxLen; omega) (by omega) L3 u3.heap.size rfl ?_
              intro y5 cap5 u5 own5 gr5 at5 lt5
              have e5 := at_own (v2 := .slice (some ⟨y5, 0, none⟩) (bc.length + 1) cap5) rfl at5
              have T5 := (T3).app G31 own5 gr5 e5
              have B5 := B3.grown gr5 L3 (fun q e => (T3.c.own.lt q e).1)
              have L5 : H1 ≤ u5.heap.size := Nat.le_trans L3 gr5.size
              clear T3 B3 L3 G31 H3 own5 gr5 at5 lt5 e5
              refine hK.out _ _ trivial (fun _ => ?_)
              clear hK K'
              simp only [Act.put, List.getElem_toArray, List.getElem_cons_zero, List.getElem_cons_succ, List.setIfInBounds_toArray, List.set_cons_zero, List.set_cons_succ]
              refine step_held (i := 11) rfl (by kernel_rfl) (by rfl) (fun K' hK => ?_)
              refine wp_make_ints m hm2 (.tmp 35) rfl rfl ?_
              have G7 := T5.newG L5
              have T7 := T5.alloc (.cells (rowI m fun _ => 0).toArray 3)
              have B7 := B5.alloc L5 (.cells (rowI m fun _ => 0).toArray 3)
              have L7 : H1 ≤ (u5.alloc (.cells (rowI m fun _ => 0).toArray 3)).heap.size := (by rw [World.size_alloc]; exact Nat.le_succ_of_le L5)
              clear T5 B5 L5
              generalize hWW : u5.alloc (.cells (rowI m fun _ => 0).toArray 3) = u7 at *
              generalize hgg : u5.heap.size = g7 at *
              clear hWW hgg
              refine hK.out _ _ trivial (fun _ => ?_)
              clear hK K'
              simp only [Act.put, List.getElem_toArray, List.getElem_cons_zero, List.getElem_cons_succ, List.setIfInBounds_toArray, List.set_cons_zero, List.set_cons_succ]
              refine step_held (i := 12) rfl (by kernel_rfl) (by rfl) (fun K' hK => ?_)
              refine wp_build_one g7 m (.tmp 36) rfl rfl ?_
              have H8 := T7.newH g7
              have T8 := T7.alloc (.cells #[.slice (some ⟨g7, 0, none⟩) m m] 53)
              have B8 := B7.alloc L7 (.cells #[.slice (some ⟨g7, 0, none⟩) m m] 53)
              have L8 : H1 ≤ (u7.alloc (.cells #[.slice (some ⟨g7, 0, none⟩) m m] 53)).heap.size := (by rw [World.size_alloc]; exact Nat.le_succ_of_le L7)
              have G82 := G7.alloc (.cells #[.slice (some ⟨g7, 0, none⟩) m m] 53)
              clear T7 B7 L7 G7
              generalize hWW : u7.alloc (.cells #[.slice (some ⟨g7, 0, none⟩) m m] 53) = u8 at *
              generalize hgg : u7.heap.size = h8 at *
              clear hWW hgg
              refine hK.out _ _ trivial (fun _ => ?_)
              clear hK K'
              simp only [Act.put, List.getElem_toArray, List.getElem_cons_zero, List.getElem_cons_succ, List.setIfInBounds_toArray, List.set_cons_zero, List.set_cons_succ]
              refine step_held (i := 13) rfl (by kernel_rfl) (by rfl) (fun K' hK => ?_)
              refine wp_append_lies u8 (.tmp 32) (.tmp 37) 47 rfl H1 53 i0 (.slice none 0 0) 1 24 Try.underlying47 hi hz0 hz1 hz2 rfl (by decide) u9 bw.length (slsV m bw) rfl (T8.sw.c.own) ⟨h8, 0, none⟩ 1 1 [.slice (some ⟨g7, 0, none⟩) m m] rfl rfl (H8.news) (one_sls _ _) (by decide) (by unfold maxLen; omega) (by omega) L8 u8.heap.size rfl ?_
              intro y9 cap9 u9 own9 gr9 at9 lt9
              have e9 := at_own (v2 := .slice (some ⟨y9, 0, none⟩) (bw.length + 1) cap9) rfl at9
              have T9 := ((T8.sw).app G82.sw own9 gr9 e9).sw
              have B9 := B8.grown gr9 L8 (fun q e => (T8.sw.c.own.lt q e).1)
              have L9 : H1 ≤ u9.heap.size := Nat.le_trans L8 gr9.size
              clear T8 B8 L8 G82 H8 own9 gr9 at9 lt9 e9
              refine hK.out _ _ trivial (fun _ => ?_)
              clear hK K'
              simp only [Act.put, List.getElem_toArray, List.getElem_cons_zero, List.getElem_cons_succ, List.setIfInBounds_toArray, List.set_cons_zero, List.set_cons_succ]
              refine take_held (i := 14) (v := (.slice (some ⟨y5, 0, none⟩) (bc.length + 1) cap5)) rfl (by kernel_rfl) (by kernel_rfl) (by kernel_rfl) (fun _ _ _ h => h) (by rfl) (fun W _ => by rfl) trivial ?_
              simp only [Act.put, List.getElem_toArray, List.getElem_cons_zero, List.getElem_cons_succ, List.setIfInBounds_toArray, List.set_cons_zero, List.set_cons_succ]
              refine take_held (i := 15) (v := (.slice (some ⟨y9, 0, none⟩) (bw.length + 1) cap9)) rfl (by kernel_rfl) (by kernel_rfl) (by kernel_rfl) (fun _ _ _ h => h) (by rfl) (fun W _ => by rfl) trivial ?_
              simp only [Act.put, List.getElem_toArray, List.getElem_cons_zero, List.getElem_cons_succ, List.setIfInBounds_toArray, List.set_cons_zero, List.set_cons_succ]
              refine wpAnyH_done (by kernel_rfl) ?_ _
              dsimp only [OnlyN]
              exact ⟨g1, h3, (.slice (some ⟨y5, 0, none⟩) (bc.length + 1) cap5), g7, h8, (.slice (some ⟨y9, 0, none⟩) (bw.length + 1) cap9), rfl, T9, B9⟩
            · refine wp_make_ints m hm2 (.tmp 35) rfl rfl ?_
              have G6 := T3.newG L3
              have n6 : g1 ≠ u3.heap.size := Nat.ne_of_lt G31.row.lt
              have T6 := T3.alloc (.cells (rowI m fun _ => 0).toArray 3)
              have B6 := B3.alloc L3 (.cells (rowI m fun _ => 0).toArray 3)
              have L6 : H1 ≤ (u3.alloc (.cells (rowI m fun _ => 0).toArray 3)).heap.size := (by rw [World.size_alloc]; exact Nat.le_succ_of_le L3)
              have G61 := G31.alloc (.cells (rowI m fun _ => 0).toArray 3)
              have H61 := H3.alloc (.cells (rowI m fun _ => 0).toArray 3)
              clear T3 B3 L3 G31 H3
              generalize hWW : u3.alloc (.cells (rowI m fun _ => 0).toArray 3) = u6 at *
              generalize hgg : u3.heap.size = g6 at *
              clear hWW hgg
              refine hK.out _ _ trivial (fun _ => ?_)
              clear hK K'
              simp only [Act.put, List.getElem_toArray, List.getElem_cons_zero, List.getElem_cons_succ, List.setIfInBounds_toArray, List.set_cons_zero, List.set_cons_succ]
              refine two_held (i := 6) (j := 12) rfl rfl (by kernel_rfl) (by rfl) (by rfl) (fun K' hK => ?_) (fun K' hK => ?_)
              · refine wp_append_lies u6 (.tmp 25) (.tmp 30) 47 rfl H1 53 i0 (.slice none 0 0) 1 24 Try.underlying47 hi hz0 hz1 hz2 rfl (by decide) u8 bc.length (slsV m bc) rfl (T6.c.own) ⟨h3, 0, none⟩ 1 1 [.slice (some ⟨g1, 0, none⟩) m m] rfl rfl (H61.news) (one_sls _ _) (by decide) (by unfold maxLen; omega) (by omega) L6 u6.heap.size rfl ?_
                intro y10 cap10 u10 own10 gr10 at10 lt10
                have e10 := at_own (v2 := .slice (some ⟨y10, 0, none⟩) (bc.length + 1) cap10) rfl at10
                have T10 := (T6).app G61 own10 gr10 e10
                have B10 := B6.grown gr10 L6 (fun q e => (T6.c.own.lt q e).1)
                have L10 : H1 ≤ u10.heap.size := Nat.le_trans L6 gr10.size
                have G102 := Gx.app (T6) G6 (fun e => n6 e.symm) gr10
                clear T6 B6 L6 G61 G6 H61 own10 gr10 at10 lt10 e10
                refine hK.out _ _ trivial (fun _ => ?_)
                clear hK K'
                simp only [Act.put, List.getElem_toArray, List.getElem_cons_zero, List.getElem_cons_succ, List.setIfInBounds_toArray, List.set_cons_zero, List.set_cons_succ]
                refine step_held (i := 12) rfl (by kernel_rfl) (by rfl) (fun K' hK => ?_)
                refine wp_build_one g6 m (.tmp 36) rfl rfl ?_
                have H12 := T10.newH g6
                have T12 := T10.alloc (.cells #[.slice (some ⟨g6, 0, none⟩) m m] 53)
                have B12 := B10.alloc L10 (.cells #[.slice (some ⟨g6, 0, none⟩) m m] 53)
                have L12 : H1 ≤ (u10.alloc (.cells #[.slice (some ⟨g6, 0, none⟩) m m] 53)).heap.size := (by rw [World.size_alloc]; exact Nat.le_succ_of_le L10)
                have G122 := G102.alloc (.cells #[.slice (some ⟨g6, 0, none⟩) m m] 53)
                clear T10 B10 L10 G102
                generalize hWW : u10.alloc (.cells #[.slice (some ⟨g6, 0, none⟩) m m] 53) = u12 at *
                generalize hgg : u10.heap.size = h12 at *
                clear hWW hgg
                refine hK.out _ _ trivial (fun _ => ?_)
                clear hK K'
                simp only [Act.put, List.getElem_toArray, List.getElem_cons_zero, List.getElem_cons_succ, List.setIfInBounds_toArray, List.set_cons_zero, List.set_cons_succ]
                refine step_held (i := 13) rfl (by kernel_rfl) (by rfl) (fun K' hK => ?_)
                refine wp_append_lies u12 (.tmp 32) (.tmp 37) 47 rfl H1 53 i0 (.slice none 0 0) 1 24 Try.underlying47 hi hz0 hz1 hz2 rfl (by decide) u9 bw.length (slsV m bw) rfl (T12.sw.c.own) ⟨h12, 0, none⟩ 1 1 [.slice (some ⟨g6, 0, none⟩) m m] rfl rfl (H12.news) (one_sls _ _) (by decide) (by unfold maxLen; omega) (by omega) L12 u12.heap.size rfl ?_
                intro y13 cap13 u13 own13 gr13 at13 lt13
                have e13 := at_own (v2 := .slice (some ⟨y13, 0, none⟩) (bw.length + 1) cap13) rfl at13
                have T13 := ((T12.sw).app G122.sw own13 gr13 e13).sw
                have B13 := B12.grown gr13 L12 (fun q e => (T12.sw.c.own.lt q e).1)
                have L13 : H1 ≤ u13.heap.size := Nat.le_trans L12 gr13.size
                clear T12 B12 L12 G122 H12 own13 gr13 at13 lt13 e13
                refine hK.out _ _ trivial (fun _ => ?_)
                clear hK K'
                simp only [Act.put, List.getElem_toArray, List.getElem_cons_zero, List.getElem_cons_succ, List.setIfInBounds_toArray, List.set_cons_zero, List.set_cons_succ]
                refine take_held (i := 14) (v := (.slice (some ⟨y10, 0, none⟩) (bc.length + 1) cap10)) rfl (by kernel_rfl) (by kernel_rfl) (by kernel_rfl) (fun _ _ _ h => h) (by rfl) (fun W _ => by rfl) trivial ?_
                simp only [Act.put, List.getElem_toArray, List.getElem_cons_zero, List.getElem_cons_succ, List.setIfInBounds_toArray, List.set_cons_zero, List.set_cons_succ]
                refine take_held (i := 15) (v := (.slice (some ⟨y13, 0, none⟩) (bw.length + 1) cap13)) rfl (by kernel_rfl) (by kernel_rfl) (by kernel_rfl) (fun _ _ _ h => h) (by rfl) (fun W _ => by rfl) trivial ?_
                simp only [Act.put, List.getElem_toArray, List.getElem_cons_zero, List.getElem_cons_succ, List.setIfInBounds_toArray, List.set_cons_zero, List.set_cons_succ]
                refine wpAnyH_done (by kernel_rfl) ?_ _
                dsimp only [OnlyN]
                exact ⟨g1, h3, (.slice (some ⟨y10, 0, none⟩) (bc.length + 1) cap10), g6, h12, (.slice (some ⟨y13, 0, none⟩) (bw.length + 1) cap13), rfl, T13, B13⟩
              · refine wp_build_one g6 m (.tmp 36) rfl rfl ?_
                have H11 := T6.newH g6
                have T11 := T6.alloc (.cells #[.slice (some ⟨g6, 0, none⟩) m m] 53)
                have B11 := B6.alloc L6 (.cells #[.slice (some ⟨g6, 0, none⟩) m m] 53)
                have L11 : H1 ≤ (u6.alloc (.cells #[.slice (some ⟨g6, 0, none⟩) m m] 53)).heap.size := (by rw [World.size_alloc]; exact Nat.le_succ_of_le L6)
                have G111 := G61.alloc (.cells #[.slice (some ⟨g6, 0, none⟩) m m] 53)
                have G112 := G6.alloc (.cells #[.slice (some ⟨g6, 0, none⟩) m m] 53)
                have H111 := H61.alloc (.cells #[.slice (some ⟨g6, 0, none⟩) m m] 53)
                clear T6 B6 L6 G61 G6 H61
                generalize hWW : u6.alloc (.cells #[.slice (some ⟨g6, 0, none⟩) m m] 53) = u11 at *
                generalize hgg : u6.heap.size = h11 at *
                clear hWW hgg
                refine hK.out _ _ trivial (fun _ => ?_)
                clear hK K'
                simp only [Act.put, List.getElem_toArray, List.getElem_cons_zero, List.getElem_cons_succ, List.setIfInBounds_toArray, List.set_cons_zero, List.set_cons_succ]
                refine step_held (i := 6) rfl (by kernel_rfl) (by rfl) (fun K' hK => ?_)
                refine wp_append_lies u11 (.tmp 25) (.tmp 30) 47 rfl H1 53 i0 (.slice none 0 0) 1 24 Try.underlying47 hi hz0 hz1 hz2 rfl (by decide) u8 bc.length (slsV m bc) rfl (T11.c.own) ⟨h3, 0, none⟩ 1 1 [.slice (some ⟨g1, 0, none⟩) m m] rfl rfl (H111.news) (one_sls _ _) (by decide) (by unfold maxLen; omega) (by omega) L11 u11.heap.size rfl ?_
                intro y14 cap14 u14 own14 gr14 at14 lt14
                have e14 := at_own (v2 := .slice (some ⟨y14, 0, none⟩) (bc.length + 1) cap14) rfl at14
                have T14 := (T11).app G111 own14 gr14 e14
                have B14 := B11.grown gr14 L11 (fun q e => (T11.c.own.lt q e).1)
                have L14 : H1 ≤ u14.heap.size := Nat.le_trans L11 gr14.size
                have G142 := Gx.app (T11) G112 (fun e => n6 e.symm) gr14
                have H142 := H11.app gr14 e14
                clear T11 B11 L11 G111 G112 H111 H11 own14 gr14 at14 lt14 e14
                refine hK.out _ _ trivial (fun _ => ?_)
                clear hK K'
                simp only [Act.put, List.getElem_toArray, List.getElem_cons_zero, List.getElem_cons_succ, List.setIfInBounds_toArray, List.set_cons_zero, List.set_cons_succ]
                refine step_held (i := 13) rfl (by kernel_rfl) (by rfl) (fun K' hK => ?_)
                refine wp_append_lies u14 (.tmp 32) (.tmp 37) 47 rfl H1 53 i0 (.slice none 0 0) 1 24 Try.underlying47 hi hz0 hz1 hz2 rfl (by decide) u9 bw.length (slsV m bw) rfl (T14.sw.c.own) ⟨h11, 0, none⟩ 1 1 [.slice (some ⟨g6, 0, none⟩) m m] rfl rfl (H142.news) (one_sls _ _) (by decide) (by unfold maxLen; omega) (by omega) L14 u14.heap.size rfl ?_
                intro y15 cap15 u15 own15 gr15 at15 lt15
                have e15 := at_own (v2 := .slice (some ⟨y15, 0, none⟩) (bw.length + 1) cap15) rfl at15
                have T15 := ((T14.sw).app G142.sw own15 gr15 e15).sw
                have B15 := B14.grown gr15 L14 (fun q e => (T14.sw.c.own.lt q e).1)
                have L15 : H1 ≤ u15.heap.size := Nat.le_trans L14 gr15.size
                clear T14 B14 L14 G142 H142 own15 gr15 at15 lt15 e15
                refine hK.out _ _ trivial (fun _ => ?_)
                clear hK K'
                simp only [Act.put, List.getElem_toArray, List.getElem_cons_zero, List.getElem_cons_succ, List.setIfInBounds_toArray, List.set_cons_zero, List.set_cons_succ]
                refine take_held (i := 14) (v := (.slice (some ⟨y14, 0, none⟩) (bc.length + 1) cap14)) rfl (by kernel_rfl) (by kernel_rfl) (by kernel_rfl) (fun _ _ _ h => h) (by rfl) (fun W _ => by rfl) trivial ?_
                simp only [Act.put, List.getElem_toArray, List.getElem_cons_zero, List.getElem_cons_succ, List.setIfInBounds_toArray, List.set_cons_zero, List.set_cons_succ]
                refine take_held (i := 15) (v := (.slice (some ⟨y15, 0, none⟩) (bw.length + 1) cap15)) rfl (by kernel_rfl) (by kernel_rfl) (by kernel_rfl) (fun _ _ _ h => h) (by rfl) (fun W _ => by rfl) trivial ?_
                simp only [Act.put, List.getElem_toArray, List.getElem_cons_zero, List.getElem_cons_succ, List.setIfInBounds_toArray, List.set_cons_zero, List.set_cons_succ]
                refine wpAnyH_done (by kernel_rfl) ?_ _
                dsimp only [OnlyN]
                exact ⟨g1, h3, (.slice (some ⟨y14, 0, none⟩) (bc.length + 1) cap14), g6, h11, (.slice (some ⟨y15, 0, none⟩) (bw.length + 1) cap15), rfl, T15, B15⟩
          · refine wp_make_ints m hm2 (.tmp 35) rfl rfl ?_
            have G4 := T1.newG L1
            have n4 : g1 ≠ u1.heap.size := Nat.ne_of_lt G1.row.lt
            have T4 := T1.alloc (.cells (rowI m fun _ => 0).toArray 3)
            have B4 := B1.alloc L1 (.cells (rowI m fun _ => 0).toArray 3)
            have L4 : H1 ≤ (u1.alloc (.cells (rowI m fun _ => 0).toArray 3)).heap.size := (by rw [World.size_alloc]; exact Nat.le_succ_of_le L1)
            have G41 := G1.alloc (.cells (rowI m fun _ => 0).toArray 3)
            clear T1 B1 L1 G1
            generalize hWW : u1.alloc (.cells (rowI m fun _ => 0).toArray 3) = u4 at *
            generalize hgg : u1.heap.size = g4 at *
            clear hWW hgg
            refine hK.out _ _ trivial (fun _ => ?_)
            clear hK K'
            simp only [Act.put, List.getElem_toArray, List.getElem_cons_zero, List.getElem_cons_succ, List.setIfInBounds_toArray, List.set_cons_zero, List.set_cons_succ]
            refine two_held (i := 5) (j := 12) rfl rfl (by kernel_rfl) (by rfl) (by rfl) (fun K' hK => ?_) (fun K' hK => ?_)
            · refine wp_build_one g1 m (.tmp 29) rfl rfl ?_
              have H16 := T4.newH g1
              have T16 := T4.alloc (.cells #[.slice (some ⟨g1, 0, none⟩) m m] 53)
              have B16 := B4.alloc L4 (.cells #[.slice (some ⟨g1, 0, none⟩) m m] 53)
              have L16 : H1 ≤ (u4.alloc (.cells #[.slice (some ⟨g1, 0, none⟩) m m] 53)).heap.size := (by rw [World.size_alloc]; exact Nat.le_succ_of_le L4)
              have G161 := G41.alloc (.cells #[.slice (some ⟨g1, 0, none⟩) m m] 53)
              have G162 := G4.alloc (.cells #[.slice (some ⟨g1, 0, none⟩) m m] 53)
              clear T4 B4 L4 G41 G4
              generalize hWW : u4.alloc (.cells #[.slice (some ⟨g1, 0, none⟩) m m] 53) = u16 at *
              generalize hgg : u4.heap.size = h16 at *
              clear hWW hgg
              refine hK.out _ _ trivial (fun _ => ?_)
              clear hK K'
              simp only [Act.put, List.getElem_toArray, List.getElem_cons_zero, List.getElem_cons_succ, List.setIfInBounds_toArray, List.set_cons_zero, List.set_cons_succ]
              refine two_held (i := 6) (j := 12) rfl rfl (by kernel_rfl) (by rfl) (by rfl) (fun K' hK => ?_) (fun K' hK => ?_)
              · refine wp_append_lies u16 (.tmp 25) (.tmp 30) 47 rfl H1 53 i0 (.slice none 0 0) 1 24 Try.underlying47 hi hz0 hz1 hz2 rfl (by decide) u8 bc.length (slsV m bc) rfl (T16.c.own) ⟨h16, 0, none⟩ 1 1 [.slice (some ⟨g1, 0, none⟩) m m] rfl rfl (H16.news) (one_sls _ _) (by decide) (by unfold maxLen; omega) (by omega) L16 u16.heap.size rfl ?_
                intro y18 cap18 u18 own18 gr18 at18 lt18
                have e18 := at_own (v2 := .slice (some ⟨y18, 0, none⟩) (bc.length + 1) cap18) rfl at18
                have T18 := (T16).app G161 own18 gr18 e18
                have B18 := B16.grown gr18 L16 (fun q e => (T16.c.own.lt q e).1)
                have L18 : H1 ≤ u18.heap.size := Nat.le_trans L16 gr18.size
                have G182 := Gx.app (T16) G162 (fun e => n4 e.symm) gr18
                clear T16 B16 L16 G161 G162 H16 own18 gr18 at18 lt18 e18
                refine hK.out _ _ trivial (fun _ => ?_)
                clear hK K'
                simp only [Act.put, List.getElem_toArray, List.getElem_cons_zero, List.getElem_cons_succ, List.setIfInBounds_toArray, List.set_cons_zero, List.set_cons_succ]
                refine step_held (i := 12) rfl (by kernel_rfl) (by rfl) (fun K' hK => ?_)
                refine wp_build_one g4 m (.tmp 36) rfl rfl ?_
                have H20 := T18.newH g4
                have T20 := T18.alloc (.cells #[.slice (some ⟨g4, 0, none⟩) m m] 53)
                have B20 := B18.alloc L18 (.cells #[.slice (some ⟨g4, 0, none⟩) m m] 53)
                have L20 : H1 ≤ (u18.alloc (.cells #[.slice (some ⟨g4, 0, none⟩) m m] 53)).heap.size := (by rw [World.size_alloc]; exact Nat.le_succ_of_le L18)
                have G202 := G182.alloc (.cells #[.slice (some ⟨g4, 0, none⟩) m m] 53)
                clear T18 B18 L18 G182
                generalize hWW : u18.alloc (.cells #[.slice (some ⟨g4, 0, none⟩) m m] 53) = u20 at *
                generalize hgg : u18.heap.size = h20 at *
                clear hWW hgg
                refine hK.out _ _ trivial (fun _ => ?_)
                clear hK K'
                simp only [Act.put, List.getElem_toArray, List.getElem_cons_zero, List.getElem_cons_succ, List.setIfInBounds_toArray, List.set_cons_zero, List.set_cons_succ]
                refine step_held (i := 13) rfl (by kernel_rfl) (by rfl) (fun K' hK => ?_)
                refine wp_append_lies u20 (.tmp 32) (.tmp 37) 47 rfl H1 53 i0 (.slice none 0 0) 1 24 Try.underlying47 hi hz0 hz1 hz2 rfl (by decide) u9 bw.length (slsV m bw) rfl (T20.sw.c.own) ⟨h20, 0, none⟩ 1 1 [.slice (some ⟨g4, 0, none⟩) m m] rfl rfl (H20.news) (one_sls _ _) (by decide) (by unfold maxLen; omega) (by omega) L20 u20.heap.size rfl ?_
                intro y21 cap21 u21 own21 gr21 at21 lt21
                have e21 := at_own (v2 := .slice (some ⟨y21, 0, none⟩) (bw.length + 1) cap21) rfl at21
                have T21 := ((T20.sw).app G202.sw own21 gr21 e21).sw
                have B21 := B20.grown gr21 L20 (fun q e => (T20.sw.c.own.lt q e).1)
                have L21 : H1 ≤ u21.heap.size := Nat.le_trans L20 gr21.size
                clear T20 B20 L20 G202 H20 own21 gr21 at21 lt21 e21
                refine hK.out _ _ trivial (fun _ => ?_)
                clear hK K'
                simp only [Act.put, List.getElem_toArray, List.getElem_cons_zero, List.getElem_cons_succ, List.setIfInBounds_toArray, List.set_cons_zero, List.set_cons_succ]
                refine take_held (i := 14) (v := (.slice (some ⟨y18, 0, none⟩) (bc.length + 1) cap18)) rfl (by kernel_rfl) (by kernel_rfl) (by kernel_rfl) (fun _ _ _ h => h) (by rfl) (fun W _ => by rfl) trivial ?_
                simp only [Act.put, List.getElem_toArray, List.getElem_cons_zero, List.getElem_cons_succ, List.setIfInBounds_toArray, List.set_cons_zero, List.set_cons_succ]
                refine take_held (i := 15) (v := (.slice (some ⟨y21, 0, none⟩) (bw.length + 1) cap21)) rfl (by kernel_rfl) (by kernel_rfl) (by kernel_rfl) (fun _ _ _ h => h) (by rfl) (fun W _ => by rfl) trivial ?_
                simp only [Act.put, List.getElem_toArray, List.getElem_cons_zero, List.getElem_cons_succ, List.setIfInBounds_toArray, List.set_cons_zero, List.set_cons_succ]
                refine wpAnyH_done (by kernel_rfl) ?_ _
                dsimp only [OnlyN]
                exact ⟨g1, h16, (.slice (some ⟨y18, 0, none⟩) (bc.length + 1) cap18), g4, h20, (.slice (some ⟨y21, 0, none⟩) (bw.length + 1) cap21), rfl, T21, B21⟩
              · refine wp_build_one g4 m (.tmp 36) rfl rfl ?_
                have H19 := T16.newH g4
                have T19 := T16.alloc (.cells #[.slice (some ⟨g4, 0, none⟩) m m] 53)
                have B19 := B16.alloc L16 (.cells #[.slice (some ⟨g4, 0, none⟩) m m] 53)
                have L19 : H1 ≤ (u16.alloc (.cells #[.slice (some ⟨g4, 0, none⟩) m m] 53)).heap.size := (by rw [World.size_alloc]; exact Nat.le_succ_of_le L16)
                have G191 := G161.alloc (.cells #[.slice (some ⟨g4, 0, none⟩) m m] 53)
                have G192 := G162.alloc (.cells #[.slice (some ⟨g4, 0, none⟩) m m] 53)
                have H191 := H16.alloc (.cells #[.slice (some ⟨g4, 0, none⟩) m m] 53)
                clear T16 B16 L16 G161 G162 H16
                generalize hWW : u16.alloc (.cells #[.slice (some ⟨g4, 0, none⟩) m m] 53) = u19 at *
                generalize hgg : u16.heap.size = h19 at *
                clear hWW hgg
                refine hK.out _ _ trivial (fun _ => ?_)
                clear hK K'
                simp only [Act.put, List.getElem_toArray, List.getElem_cons_zero, List.getElem_cons_succ, List.setIfInBounds_toArray, List.set_cons_zero, List.set_cons_succ]
                refine step_held (i := 6) rfl (by kernel_rfl) (by rfl) (fun K' hK => ?_)
                refine wp_append_lies u19 (.tmp 25) (.tmp 30) 47 rfl H1 53 i0 (.slice none 0 0) 1 24 Try.underlying47 hi hz0 hz1 hz2 rfl (by decide) u8 bc.length (slsV m bc) rfl (T19.c.own) ⟨h16, 0, none⟩ 1 1 [.slice (some ⟨g1, 0, none⟩) m m] rfl rfl (H191.news) (one_sls _ _) (by decide) (by unfold maxLen; omega) (by omega) L19 u19.heap.size rfl ?_
                intro y22 cap22 u22 own22 gr22 at22 lt22
                have e22 := at_own (v2 := .slice (some ⟨y22, 0, none⟩) (bc.length + 1) cap22) rfl at22
                have T22 := (T19).app G191 own22 gr22 e22
                have B22 := B19.grown gr22 L19 (fun q e => (T19.c.own.lt q e).1)
                have L22 : H1 ≤ u22.heap.size := Nat.le_trans L19 gr22.size
                have G222 := Gx.app (T19) G192 (fun e => n4 e.symm) gr22
                have H222 := H19.app gr22 e22
                clear T19 B19 L19 G191 G192 H191 H19 own22 gr22 at22 lt22 e22
                refine hK.out _ _ trivial (fun _ => ?_)
                clear hK K'
                simp only [Act.put, List.getElem_toArray, List.getElem_cons_zero, List.getElem_cons_succ, List.setIfInBounds_toArray, List.set_cons_zero, List.set_cons_succ]
                refine step_held (i := 13) rfl (by kernel_rfl) (by rfl) (fun K' hK => ?_)
                refine wp_append_lies u22 (.tmp 32) (.tmp 37) 47 rfl H1 53 i0 (.slice none 0 0) 1 24 Try.underlying47 hi hz0 hz1 hz2 rfl (by decide) u9 bw.length (slsV m bw) rfl (T22.sw.c.own) ⟨h19, 0, none⟩ 1 1 [.slice (some ⟨g4, 0, none⟩) m m] rfl rfl (H222.news) (one_sls _ _) (by decide) (by unfold maxLen; omega) (by omega) L22 u22.heap.size rfl ?_
                intro y23 cap23 u23 own23 gr23 at23 lt23
                have e23 := at_own (v2 := .slice (some ⟨y23, 0, none⟩) (bw.length + 1) cap23) rfl at23
                have T23 := ((T22.sw).app G222.sw own23 gr23 e23).sw
                have B23 := B22.grown gr23 L22 (fun q e => (T22.sw.c.own.lt q e).1)
                have L23 : H1 ≤ u23.heap.size := Nat.le_trans L22 gr23.size
                clear T22 B22 L22 G222 H222 own23 gr23 at23 lt23 e23
                refine hK.out _ _ trivial (fun _ => ?_)
                clear hK K'
                simp only [Act.put, List.getElem_toArray, List.getElem_cons_zero, List.getElem_cons_succ, List.setIfInBounds_toArray, List.set_cons_zero, List.set_cons_succ]
                refine take_held (i := 14) (v := (.slice (some ⟨y22, 0, none⟩) (bc.length + 1) cap22)) rfl (by kernel_rfl) (by kernel_rfl) (by kernel_rfl) (fun _ _ _ h => h) (by rfl) (fun W _ => by rfl) trivial ?_
                simp only [Act.put, List.getElem_toArray, List.getElem_cons_zero, List.getElem_cons_succ, List.setIfInBounds_toArray, List.set_cons_zero, List.set_cons_succ]
                refine take_held (i := 15) (v := (.slice (some ⟨y23, 0, none⟩) (bw.length + 1) cap23)) rfl (by kernel_rfl) (by kernel_rfl) (by kernel_rfl) (fun _ _ _ h => h) (by rfl) (fun W _ => by rfl) trivial ?_
                simp only [Act.put, List.getElem_toArray, List.getElem_cons_zero, List.getElem_cons_succ, List.setIfInBounds_toArray, List.set_cons_zero, List.set_cons_succ]
                refine wpAnyH_done (by kernel_rfl) ?_ _
                dsimp only [OnlyN]
                exact ⟨g1, h16, (.slice (some ⟨y22, 0, none⟩) (bc.length + 1) cap22), g4, h19, (.slice (some ⟨y23, 0, none⟩) (bw.length + 1) cap23), rfl, T23, B23⟩
            · refine wp_build_one g4 m (.tmp 36) rfl rfl ?_
              have H17 := T4.newH g4
              have T17 := T4.alloc (.cells #[.slice (some ⟨g4, 0, none⟩) m m] 53)
              have B17 := B4.alloc L4 (.cells #[.slice (some ⟨g4, 0, none⟩) m m] 53)
              have L17 : H1 ≤ (u4.alloc (.cells #[.slice (some ⟨g4, 0, none⟩) m m] 53)).heap.size := (by rw [World.size_alloc]; exact Nat.le_succ_of_le L4)
              have G171 := G41.alloc (.cells #[.slice (some ⟨g4, 0, none⟩) m m] 53)
              have G172 := G4.alloc (.cells #[.slice (some ⟨g4, 0, none⟩) m m] 53)
              clear T4 B4 L4 G41 G4
              generalize hWW : u4.alloc (.cells #[.slice (some ⟨g4, 0, none⟩) m m] 53) = u17 at *
              generalize hgg : u4.heap.size = h17 at *
              clear hWW hgg
              refine hK.out _ _ trivial (fun _ => ?_)
              clear hK K'
              simp only [Act.put, List.getElem_toArray, List.getElem_cons_zero, List.getElem_cons_succ, List.setIfInBounds_toArray, List.set_cons_zero, List.set_cons_succ]
              refine step_held (i := 5) rfl (by kernel_rfl) (by rfl) (fun K' hK => ?_)
              refine wp_build_one g1 m (.tmp 29) rfl rfl ?_
              have H24 := T17.newH g1
              have T24 := T17.alloc (.cells #[.slice (some ⟨g1, 0, none⟩) m m] 53)
              have B24 := B17.alloc L17 (.cells #[.slice (some ⟨g1, 0, none⟩) m m] 53)
              have L24 : H1 ≤ (u17.alloc (.cells #[.slice (some ⟨g1, 0, none⟩) m m] 53)).heap.size := (by rw [World.size_alloc]; exact Nat.le_succ_of_le L17)
              have G241 := G171.alloc (.cells #[.slice (some ⟨g1, 0, none⟩) m m] 53)
              have G242 := G172.alloc (.cells #[.slice (some ⟨g1, 0, none⟩) m m] 53)
              have H242 := H17.alloc (.cells #[.slice (some ⟨g1, 0, none⟩) m m] 53)
              clear T17 B17 L17 G171 G172 H17
              generalize hWW : u17.alloc (.cells #[.slice (some ⟨g1, 0, none⟩) m m] 53) = u24 at *
              generalize hgg : u17.heap.size = h24 at *
              clear hWW hgg
              refine hK.out _ _ trivial (fun _ => ?_)
              clear hK K'
              simp only [Act.put, List.getElem_toArray, List.getElem_cons_zero, List.getElem_cons_succ, List.setIfInBounds_toArray, List.set_cons_zero, List.set_cons_succ]
              refine step_held (i := 6) rfl (by kernel_rfl) (by rfl) (fun K' hK => ?_)
              refine wp_append_lies u24 (.tmp 25) (.tmp 30) 47 rfl H1 53 i0 (.slice none 0 0) 1 24 Try.underlying47 hi hz0 hz1 hz2 rfl (by decide) u8 bc.length (slsV m bc) rfl (T24.c.own) ⟨h24, 0, none⟩ 1 1 [.slice (some ⟨g1, 0, none⟩) m m] rfl rfl (H24.news) (one_sls _ _) (by decide) (by unfold maxLen; omega) (by omega) L24 u24.heap.size rfl ?_
              intro y25 cap25 u25 own25 gr25 at25 lt25
              have e25 := at_own (v2 := .slice (some ⟨y25, 0, none⟩) (bc.length + 1) cap25) rfl at25
              have T25 := (T24).app G241 own25 gr25 e25
              have B25 := B24.grown gr25 L24 (fun q e => (T24.c.own.lt q e).1)
              have L25 : H1 ≤ u25.heap.size := Nat.le_trans L24 gr25.size
              have G252 := Gx.app (T24) G242 (fun e => n4 e.symm) gr25
              have H252 := H242.app gr25 e25
              clear T24 B24 L24 G241 G242 H24 H242 own25 gr25 at25 lt25 e25
              refine hK.out _ _ trivial (fun _ => ?_)
              clear hK K'
              simp only [Act.put, List.getElem_toArray, List.getElem_cons_zero, List.getElem_cons_succ, List.setIfInBounds_toArray, List.set_cons_zero, List.set_cons_succ]
              refine step_held (i := 13) rfl (by kernel_rfl) (by rfl) (fun K' hK => ?_)
              refine wp_append_lies u25 (.tmp 32) (.tmp 37) 47 rfl H1 53 i0 (.slice none 0 0) 1 24 Try.underlying47 hi hz0 hz1 hz2 rfl (by decide) u9 bw.length (slsV m bw) rfl (T25.sw.c.own) ⟨h17, 0, none⟩ 1 1 [.slice (some ⟨g4, 0, none⟩) m m] rfl rfl (H252.news) (one_sls _ _) (by decide) (by unfold maxLen; omega) (by omega) L25 u25.heap.size rfl ?_
              intro y26 cap26 u26 own26 gr26 at26 lt26
              have e26 := at_own (v2 := .slice (some ⟨y26, 0, none⟩) (bw.length + 1) cap26) rfl at26
              have T26 := ((T25.sw).app G252.sw own26 gr26 e26).sw
              have B26 := B25.grown gr26 L25 (fun q e => (T25.sw.c.own.lt q e).1)
              have L26 : H1 ≤ u26.heap.size := Nat.le_trans L25 gr26.size
              clear T25 B25 L25 G252 H252 own26 gr26 at26 lt26 e26
              refine hK.out _ _ trivial (fun _ => ?_)
              clear hK K'
              simp only [Act.put, List.getElem_toArray, List.getElem_cons_zero, List.getElem_cons_succ, List.setIfInBounds_toArray, List.set_cons_zero, List.set_cons_succ]
              refine take_held (i := 14) (v := (.slice (some ⟨y25, 0, none⟩) (bc.length + 1) cap25)) rfl (by kernel_rfl) (by kernel_rfl) (by kernel_rfl) (fun _ _ _ h => h) (by rfl) (fun W _ => by rfl) trivial ?_
              simp only [Act.put, List.getElem_toArray, List.getElem_cons_zero, List.getElem_cons_succ, List.setIfInBounds_toArray, List.set_cons_zero, List.set_cons_succ]
              refine take_held (i := 15) (v := (.slice (some ⟨y26, 0, none⟩) (bw.length + 1) cap26)) rfl (by kernel_rfl) (by kernel_rfl) (by kernel_rfl) (fun _ _ _ h => h) (by rfl) (fun W _ => by rfl) trivial ?_
              simp only [Act.put, List.getElem_toArray, List.getElem_cons_zero, List.getElem_cons_succ, List.setIfInBounds_toArray, List.set_cons_zero, List.set_cons_succ]
              refine wpAnyH_done (by kernel_rfl) ?_ _
              dsimp only [OnlyN]
              exact ⟨g1, h24, (.slice (some ⟨y25, 0, none⟩) (bc.length + 1) cap25), g4, h17, (.slice (some ⟨y26, 0, none⟩) (bw.length + 1) cap26), rfl, T26, B26⟩
        · refine wp_make_ints m hm2 (.tmp 35) rfl rfl ?_
          have G2 := T0.newG L0
          have T2 := T0.alloc (.cells (rowI m fun _ => 0).toArray 3)
          have B2 := B0.alloc L0 (.cells (rowI m fun _ => 0).toArray 3)
          have L2 : H1 ≤ (u0.alloc (.cells (rowI m fun _ => 0).toArray 3)).heap.size := (by rw [World.size_alloc]; exact Nat.le_succ_of_le L0)
          clear T0 B0 L0
          generalize hWW : u0.alloc (.cells (rowI m fun _ => 0).toArray 3) = u2 at *
          generalize hgg : u0.heap.size = g2 at *
          clear hWW hgg
          refine hK.out _ _ trivial (fun _ => ?_)
          clear hK K'
          simp only [Act.put, List.getElem_toArray, List.getElem_cons_zero, List.getElem_cons_succ, List.setIfInBounds_toArray, List.set_cons_zero, List.set_cons_succ]
          refine two_held (i := 4) (j := 12) rfl rfl (by kernel_rfl) (by rfl) (by rfl) (fun K' hK => ?_) (fun K' hK => ?_)
          · refine wp_make_ints m hm2 (.tmp 28) rfl rfl ?_
            have G27 := T2.newG L2
            have n27 : g2 ≠ u2.heap.size := Nat.ne_of_lt G2.row.lt
            have T27 := T2.alloc (.cells (rowI m fun _ => 0).toArray 3)
            have B27 := B2.alloc L2 (.cells (rowI m fun _ => 0).toArray 3)
            have L27 : H1 ≤ (u2.alloc (.cells (rowI m fun _ => 0).toArray 3)).heap.size := (by rw [World.size_alloc]; exact Nat.le_succ_of_le L2)
            have G272 := G2.alloc (.cells (rowI m fun _ => 0).toArray 3)
            clear T2 B2 L2 G2
            generalize hWW : u2.alloc (.cells (rowI m fun _ => 0).toArray 3) = u27 at *
            generalize hgg : u2.heap.size = g27 at *
            clear hWW hgg
            refine hK.out _ _ trivial (fun _ => ?_)
            clear hK K'
            simp only [Act.put, List.getElem_toArray, List.getElem_cons_zero, List.getElem_cons_succ, List.setIfInBounds_toArray, List.set_cons_zero, List.set_cons_succ]
            refine two_held (i := 5) (j := 12) rfl rfl (by kernel_rfl) (by rfl) (by rfl) (fun K' hK => ?_) (fun K' hK => ?_)
            · refine wp_build_one g27 m (.tmp 29) rfl rfl ?_
              have H29 := T27.newH g27
              have T29 := T27.alloc (.cells #[.slice (some ⟨g27, 0, none⟩) m m] 53)
              have B29 := B27.alloc L27 (.cells #[.slice (some ⟨g27, 0, none⟩) m m] 53)
              have L29 : H1 ≤ (u27.alloc (.cells #[.slice (some ⟨g27, 0, none⟩) m m] 53)).heap.size := (by rw [World.size_alloc]; exact Nat.le_succ_of_le L27)
              have G291 := G27.alloc (.cells #[.slice (some ⟨g27, 0, none⟩) m m] 53)
              have G292 := G272.alloc (.cells #[.slice (some ⟨g27, 0, none⟩) m m] 53)
              clear T27 B27 L27 G27 G272
              generalize hWW : u27.alloc (.cells #[.slice (some ⟨g27, 0, none⟩) m m] 53) = u29 at *
              generalize hgg : u27.heap.size = h29 at *
              clear hWW hgg
              refine hK.out _ _ trivial (fun _ => ?_)
              clear hK K'
              simp only [Act.put, List.getElem_toArray, List.getElem_cons_zero, List.getElem_cons_succ, List.setIfInBounds_toArray, List.set_cons_zero, List.set_cons_succ]
              refine two_held (i := 6) (j := 12) rfl rfl (by kernel_rfl) (by rfl) (by rfl) (fun K' hK => ?_) (fun K' hK => ?_)
              · refine wp_append_lies u29 (.tmp 25) (.tmp 30) 47 rfl H1 53 i0 (.slice none 0 0) 1 24 Try.underlying47 hi hz0 hz1 hz2 rfl (by decide) u8 bc.length (slsV m bc) rfl (T29.c.own) ⟨h29, 0, none⟩ 1 1 [.slice (some ⟨g27, 0, none⟩) m m] rfl rfl (H29.news) (one_sls _ _) (by decide) (by unfold maxLen; omega) (by omega) L29 u29.heap.size rfl ?_
                intro y31 cap31 u31 own31 gr31 at31 lt31
                have e31 := at_own (v2 := .slice (some ⟨y31, 0, none⟩) (bc.length + 1) cap31) rfl at31
                have T31 := (T29).app G291 own31 gr31 e31
                have B31 := B29.grown gr31 L29 (fun q e => (T29.c.own.lt q e).1)
                have L31 : H1 ≤ u31.heap.size := Nat.le_trans L29 gr31.size
                have G312 := Gx.app (T29) G292 n27 gr31
                clear T29 B29 L29 G291 G292 H29 own31 gr31 at31 lt31 e31
                refine hK.out _ _ trivial (fun _ => ?_)
                clear hK K'
                simp only [Act.put, List.getElem_toArray, List.getElem_cons_zero, List.getElem_cons_succ, List.setIfInBounds_toArray, List.set_cons_zero, List.set_cons_succ]
                refine step_held (i := 12) rfl (by kernel_rfl) (by rfl) (fun K' hK => ?_)
                refine wp_build_one g2 m (.tmp 36) rfl rfl ?_
                have H33 := T31.newH g2
                have T33 := T31.alloc (.cells #[.slice (some ⟨g2, 0, none⟩) m m] 53)
                have B33 := B31.alloc L31 (.cells #[.slice (some ⟨g2, 0, none⟩) m m] 53)
                have L33 : H1 ≤ (u31.alloc (.cells #[.slice (some ⟨g2, 0, none⟩) m m] 53)).heap.size := (by rw [World.size_alloc]; exact Nat.le_succ_of_le L31)
                have G332 := G312.alloc (.cells #[.slice (some ⟨g2, 0, none⟩) m m] 53)
                clear T31 B31 L31 G312
                generalize hWW : u31.alloc (.cells #[.slice (some ⟨g2, 0, none⟩) m m] 53) = u33 at *
                generalize hgg : u31.heap.size = h33 at *
                clear hWW hgg
                refine hK.out _ _ trivial (fun _ => ?_)
                clear hK K'
                simp only [Act.put, List.getElem_toArray, List.getElem_cons_zero, List.getElem_cons_succ, List.setIfInBounds_toArray, List.set_cons_zero, List.set_cons_succ]
                refine step_held (i := 13) rfl (by kernel_rfl) (by rfl) (fun K' hK => ?_)
                refine wp_append_lies u33 (.tmp 32) (.tmp 37) 47 rfl H1 53 i0 (.slice none 0 0) 1 24 Try.underlying47 hi hz0 hz1 hz2 rfl (by decide) u9 bw.length (slsV m bw) rfl (T33.sw.c.own) ⟨h33, 0, none⟩ 1 1 [.slice (some ⟨g2, 0, none⟩) m m] rfl rfl (H33.news) (one_sls _ _) (by decide) (by unfold maxLen; omega) (by omega) L33 u33.heap.size rfl ?_
                intro y34 cap34 u34 own34 gr34 at34 lt34
                have e34 := at_own (v2 := .slice (some ⟨y34, 0, none⟩) (bw.length + 1) cap34) rfl at34
                have T34 := ((T33.sw).app G332.sw own34 gr34 e34).sw
                have B34 := B33.grown gr34 L33 (fun q e => (T33.sw.c.own.lt q e).1)
                have L34 : H1 ≤ u34.heap.size := Nat.le_trans L33 gr34.size
                clear T33 B33 L33 G332 H33 own34 gr34 at34 lt34 e34
                refine hK.out _ _ trivial (fun _ => ?_)
                clear hK K'
                simp only [Act.put, List.getElem_toArray, List.getElem_cons_zero, List.getElem_cons_succ, List.setIfInBounds_toArray, List.set_cons_zero, List.set_cons_succ]
                refine take_held (i := 14) (v := (.slice (some ⟨y31, 0, none⟩) (bc.length + 1) cap31)) rfl (by kernel_rfl) (by kernel_rfl) (by kernel_rfl) (fun _ _ _ h => h) (by rfl) (fun W _ => by rfl) trivial ?_
                simp only [Act.put, List.getElem_toArray, List.getElem_cons_zero, List.getElem_cons_succ, List.setIfInBounds_toArray, List.set_cons_zero, List.set_cons_succ]
                refine take_held (i := 15) (v := (.slice (some ⟨y34, 0, none⟩) (bw.length + 1) cap34)) rfl (by kernel_rfl) (by kernel_rfl) (by kernel_rfl) (fun _ _ _ h => h) (by rfl) (fun W _ => by rfl) trivial ?_
                simp only [Act.put, List.getElem_toArray, List.getElem_cons_zero, List.getElem_cons_succ, List.setIfInBounds_toArray, List.set_cons_zero, List.set_cons_succ]
                refine wpAnyH_done (by kernel_rfl) ?_ _
                dsimp only [OnlyN]
                exact ⟨g27, h29, (.slice (some ⟨y31, 0, none⟩) (bc.length + 1) cap31), g2, h33, (.slice (some ⟨y34, 0, none⟩) (bw.length + 1) cap34), rfl, T34, B34⟩
              · refine wp_build_one g2 m (.tmp 36) rfl rfl ?_
                have H32 := T29.newH g2
                have T32 := T29.alloc (.cells #[.slice (some ⟨g2, 0, none⟩) m m] 53)
                have B32 := B29.alloc L29 (.cells #[.slice (some ⟨g2, 0, none⟩) m m] 53)
                have L32 : H1 ≤ (u29.alloc (.cells #[.slice (some ⟨g2, 0, none⟩) m m] 53)).heap.size := (by rw [World.size_alloc]; exact Nat.le_succ_of_le L29)
                have G321 := G291.alloc (.cells #[.slice (some ⟨g2, 0, none⟩) m m] 53)
                have G322 := G292.alloc (.cells #[.slice (some ⟨g2, 0, none⟩) m m] 53)
                have H321 := H29.alloc (.cells #[.slice (some ⟨g2, 0, none⟩) m m] 53)
                clear T29 B29 L29 G291 G292 H29
                generalize hWW : u29.alloc (.cells #[.slice (some ⟨g2, 0, none⟩) m m] 53) = u32 at *
                generalize hgg : u29.heap.size = h32 at *
                clear hWW hgg
                refine hK.out _ _ trivial (fun _ => ?_)
                clear hK K'
                simp only [Act.put, List.getElem_toArray, List.getElem_cons_zero, List.getElem_cons_succ, List.setIfInBounds_toArray, List.set_cons_zero, List.set_cons_succ]
                refine step_held (i := 6) rfl (by kernel_rfl) (by rfl) (fun K' hK => ?_)
                refine wp_append_lies u32 (.tmp 25) (.tmp 30) 47 rfl H1 53 i0 (.slice none 0 0) 1 24 Try.underlying47 hi hz0 hz1 hz2 rfl (by decide) u8 bc.length (slsV m bc) rfl (T32.c.own) ⟨h29, 0, none⟩ 1 1 [.slice (some ⟨g27, 0, none⟩) m m] rfl rfl (H321.news) (one_sls _ _) (by decide) (by unfold maxLen; omega) (by omega) L32 u32.heap.size rfl ?_
                intro y35 cap35 u35 own35 gr35 at35 lt35
                have e35 := at_own (v2 := .slice (some ⟨y35, 0, none⟩) (bc.length + 1) cap35) rfl at35
                have T35 := (T32).app G321 own35 gr35 e35
                have B35 := B32.grown gr35 L32 (fun q e => (T32.c.own.lt q e).1)
                have L35 : H1 ≤ u35.heap.size := Nat.le_trans L32 gr35.size
                have G352 := Gx.app (T32) G322 n27 gr35
                have H352 := H32.app gr35 e35
                clear T32 B32 L32 G321 G322 H321 H32 own35 gr35 at35 lt35 e35
                refine hK.out _ _ trivial (fun _ => ?_)
                clear hK K'
                simp only [Act.put, List.getElem_toArray, List.getElem_cons_zero, List.getElem_cons_succ, List.setIfInBounds_toArray, List.set_cons_zero, List.set_cons_succ]
                refine step_held (i := 13) rfl (by kernel_rfl) (by rfl) (fun K' hK => ?_)
                refine wp_append_lies u35 (.tmp 32) (.tmp 37) 47 rfl H1 53 i0 (.slice none 0 0) 1 24 Try.underlying47 hi hz0 hz1 hz2 rfl (by decide) u9 bw.length (slsV m bw) rfl (T35.sw.c.own) ⟨h32, 0, none⟩ 1 1 [.slice (some ⟨g2, 0, none⟩) m m] rfl rfl (H352.news) (one_sls _ _) (by decide) (by unfold maxLen; omega) (by omega) L35 u35.heap.size rfl ?_
                intro y36 cap36 u36 own36 gr36 at36 lt36
                have e36 := at_own (v2 := .slice (some ⟨y36, 0, none⟩) (bw.length + 1) cap36) rfl at36
                have T36 := ((T35.sw).app G352.sw own36 gr36 e36).sw
                have B36 := B35.grown gr36 L35 (fun q e => (T35.sw.c.own.lt q e).1)
                have L36 : H1 ≤ u36.heap.size := Nat.le_trans L35 gr36.size
                clear T35 B35 L35 G352 H352 own36 gr36 at36 lt36 e36
                refine hK.out _ _ trivial (fun _ => ?_)
                clear hK K'
                simp only [Act.put, List.getElem_toArray, List.getElem_cons_zero, List.getElem_cons_succ, List.setIfInBounds_toArray, List.set_cons_zero, List.set_cons_succ]
                refine take_held (i := 14) (v := (.slice (some ⟨y35, 0, none⟩) (bc.length + 1) cap35)) rfl (by kernel_rfl) (by kernel_rfl) (by kernel_rfl) (fun _ _ _ h => h) (by rfl) (fun W _ => by rfl) trivial ?_
                simp only [Act.put, List.getElem_toArray, List.getElem_cons_zero, List.getElem_cons_succ, List.setIfInBounds_toArray, List.set_cons_zero, List.set_cons_succ]
                refine take_held (i := 15) (v := (.slice (some ⟨y36, 0, none⟩) (bw.length + 1) cap36)) rfl (by kernel_rfl) (by kernel_rfl) (by kernel_rfl) (fun _ _ _ h => h) (by rfl) (fun W _ => by rfl) trivial ?_
                simp only [Act.put, List.getElem_toArray, List.getElem_cons_zero, List.getElem_cons_succ, List.setIfInBounds_toArray, List.set_cons_zero, List.set_cons_succ]
                refine wpAnyH_done (by kernel_rfl) ?_ _
                dsimp only [OnlyN]
                exact ⟨g27, h29, (.slice (some ⟨y35, 0, none⟩) (bc.length + 1) cap35), g2, h32, (.slice (some ⟨y36, 0, none⟩) (bw.length + 1) cap36), rfl, T36, B36⟩
            · refine wp_build_one g2 m (.tmp 36) rfl rfl ?_
              have H30 := T27.newH g2
              have T30 := T27.alloc (.cells #[.slice (some ⟨g2, 0, none⟩) m m] 53)
              have B30 := B27.alloc L27 (.cells #[.slice (some ⟨g2, 0, none⟩) m m] 53)
              have L30 : H1 ≤ (u27.alloc (.cells #[.slice (some ⟨g2, 0, none⟩) m m] 53)).heap.size := (by rw [World.size_alloc]; exact Nat.le_succ_of_le L27)
              have G301 := G27.alloc (.cells #[.slice (some ⟨g2, 0, none⟩) m m] 53)
              have G302 := G272.alloc (.cells #[.slice (some ⟨g2, 0, none⟩) m m] 53)
              clear T27 B27 L27 G27 G272
              generalize hWW : u27.alloc (.cells #[.slice (some ⟨g2, 0, none⟩) m m] 53) = u30 at *
              generalize hgg : u27.heap.size = h30 at *
              clear hWW hgg
              refine hK.out _ _ trivial (fun _ => ?_)
              clear hK K'
              simp only [Act.put, List.getElem_toArray, List.getElem_cons_zero, List.getElem_cons_succ, List.setIfInBounds_toArray, List.set_cons_zero, List.set_cons_succ]
              refine step_held (i := 5) rfl (by kernel_rfl) (by rfl) (fun K' hK => ?_)
              refine wp_build_one g27 m (.tmp 29) rfl rfl ?_
              have H37 := T30.newH g27
              have T37 := T30.alloc (.cells #[.slice (some ⟨g27, 0, none⟩) m m] 53)
              have B37 := B30.alloc L30 (.cells #[.slice (some ⟨g27, 0, none⟩) m m] 53)
              have L37 : H1 ≤ (u30.alloc (.cells #[.slice (some ⟨g27, 0, none⟩) m m] 53)).heap.size := (by rw [World.size_alloc]; exact Nat.le_succ_of_le L30)
              have G371 := G301.alloc (.cells #[.slice (some ⟨g27, 0, none⟩) m m] 53)
              have G372 := G302.alloc (.cells #[.slice (some ⟨g27, 0, none⟩) m m] 53)
              have H372 := H30.alloc (.cells #[.slice (some ⟨g27, 0, none⟩) m m] 53)
              clear T30 B30 L30 G301 G302 H30
              generalize hWW : u30.alloc (.cells #[.slice (some ⟨g27, 0, none⟩) m m] 53) = u37 at *
              generalize hgg : u30.heap.size = h37 at *
              clear hWW hgg
              refine hK.out _ _ trivial (fun _ => ?_)
              clear hK K'
              simp only [Act.put, List.getElem_toArray, List.getElem_cons_zero, List.getElem_cons_succ, List.setIfInBounds_toArray, List.set_cons_zero, List.set_cons_succ]
              refine step_held (i := 6) rfl (by kernel_rfl) (by rfl) (fun K' hK => ?_)
              refine wp_append_lies u37 (.tmp 25) (.tmp 30) 47 rfl H1 53 i0 (.slice none 0 0) 1 24 Try.underlying47 hi hz0 hz1 hz2 rfl (by decide) u8 bc.length (slsV m bc) rfl (T37.c.own) ⟨h37, 0, none⟩ 1 1 [.slice (some ⟨g27, 0, none⟩) m m] rfl rfl (H37.news) (one_sls _ _) (by decide) (by unfold maxLen; omega) (by omega) L37 u37.heap.size rfl ?_
              intro y38 cap38 u38 own38 gr38 at38 lt38
              have e38 := at_own (v2 := .slice (some ⟨y38, 0, none⟩) (bc.length + 1) cap38) rfl at38
              have T38 := (T37).app G371 own38 gr38 e38
              have B38 := B37.grown gr38 L37 (fun q e => (T37.c.own.lt q e).1)
              have L38 : H1 ≤ u38.heap.size := Nat.le_trans L37 gr38.size
              have G382 := Gx.app (T37) G372 n27 gr38
              have H382 := H372.app gr38 e38
              clear T37 B37 L37 G371 G372 H37 H372 own38 gr38 at38 lt38 e38
              refine hK.out _ _ trivial (fun _ => ?_)
              clear hK K'
              simp only [Act.put, List.getElem_toArray, List.getElem_cons_zero, List.getElem_cons_succ, List.setIfInBounds_toArray, List.set_cons_zero, List.set_cons_succ]
              refine step_held (i := 13) rfl (by kernel_rfl) (by rfl) (fun K' hK => ?_)
              refine wp_append_lies u38 (.tmp 32) (.tmp 37) 47 rfl H1 53 i0 (.slice none 0 0) 1 24 Try.underlying47 hi hz0 hz1 hz2 rfl (by decide) u9 bw.length (slsV m bw) rfl (T38.sw.c.own) ⟨h30, 0, none⟩ 1 1 [.slice (some ⟨g2, 0, none⟩) m m] rfl rfl (H382.news) (one_sls _ _) (by decide) (by unfold maxLen; omega) (by omega) L38 u38.heap.size rfl ?_
              intro y39 cap39 u39 own39 gr39 at39 lt39
              have e39 := at_own (v2 := .slice (some ⟨y39, 0, none⟩) (bw.length + 1) cap39) rfl at39
              have T39 := ((T38.sw).app G382.sw own39 gr39 e39).sw
              have B39 := B38.grown gr39 L38 (fun q e => (T38.sw.c.own.lt q e).1)
              have L39 : H1 ≤ u39.heap.size := Nat.le_trans L38 gr39.size
              clear T38 B38 L38 G382 H382 own39 gr39 at39 lt39 e39
              refine hK.out _ _ trivial (fun _ => ?_)
              clear hK K'
              simp only [Act.put, List.getElem_toArray, List.getElem_cons_zero, List.getElem_cons_succ, List.setIfInBounds_toArray, List.set_cons_zero, List.set_cons_succ]
              refine take_held (i := 14) (v := (.slice (some ⟨y38, 0, none⟩) (bc.length + 1) cap38)) rfl (by kernel_rfl) (by kernel_rfl) (by kernel_rfl) (fun _ _ _ h => h) (by rfl) (fun W _ => by rfl) trivial ?_
              simp only [Act.put, List.getElem_toArray, List.getElem_cons_zero, List.getElem_cons_succ, List.setIfInBounds_toArray, List.set_cons_zero, List.set_cons_succ]
              refine take_held (i := 15) (v := (.slice (some ⟨y39, 0, none⟩) (bw.length + 1) cap39)) rfl (by kernel_rfl) (by kernel_rfl) (by kernel_rfl) (fun _ _ _ h => h) (by rfl) (fun W _ => by rfl) trivial ?_
              simp only [Act.put, List.getElem_toArray, List.getElem_cons_zero, List.getElem_cons_succ, List.setIfInBounds_toArray, List.set_cons_zero, List.set_cons_succ]
              refine wpAnyH_done (by kernel_rfl) ?_ _
              dsimp only [OnlyN]
              exact ⟨g27, h37, (.slice (some ⟨y38, 0, none⟩) (bc.length + 1) cap38), g2, h30, (.slice (some ⟨y39, 0, none⟩) (bw.length + 1) cap39), rfl, T39, B39⟩
          · refine wp_build_one g2 m (.tmp 36) rfl rfl ?_
            have H28 := T2.newH g2
            have T28 := T2.alloc (.cells #[.slice (some ⟨g2, 0, none⟩) m m] 53)
            have B28 := B2.alloc L2 (.cells #[.slice (some ⟨g2, 0, none⟩) m m] 53)
            have L28 : H1 ≤ (u2.alloc (.cells #[.slice (some ⟨g2, 0, none⟩) m m] 53)).heap.size := (by rw [World.size_alloc]; exact Nat.le_succ_of_le L2)
            have G282 := G2.alloc (.cells #[.slice (some ⟨g2, 0, none⟩) m m] 53)
            clear T2 B2 L2 G2
            generalize hWW : u2.alloc (.cells #[.slice (some ⟨g2, 0, none⟩) m m] 53) = u28 at *
            generalize hgg : u2.heap.size = h28 at *
            clear hWW hgg
            refine hK.out _ _ trivial (fun _ => ?_)
            clear hK K'
            simp only [Act.put, List.getElem_toArray, List.getElem_cons_zero, List.getElem_cons_succ, List.setIfInBounds_toArray, List.set_cons_zero, List.set_cons_succ]
            refine step_held (i := 4) rfl (by kernel_rfl) (by rfl) (fun K' hK => ?_)
            refine wp_make_ints m hm2 (.tmp 28) rfl rfl ?_
            have G40 := T28.newG L28
            have n40 : g2 ≠ u28.heap.size := Nat.ne_of_lt G282.row.lt
            have T40 := T28.alloc (.cells (rowI m fun _ => 0).toArray 3)
            have B40 := B28.alloc L28 (.cells (rowI m fun _ => 0).toArray 3)
            have L40 : H1 ≤ (u28.alloc (.cells (rowI m fun _ => 0).toArray 3)).heap.size := (by rw [World.size_alloc]; exact Nat.le_succ_of_le L28)
            have G402 := G282.alloc (.cells (rowI m fun _ => 0).toArray 3)
            have H402 := H28.alloc (.cells (rowI m fun _ => 0).toArray 3)
            clear T28 B28 L28 G282 H28
            generalize hWW : u28.alloc (.cells (rowI m fun _ => 0).toArray 3) = u40 at *
            generalize hgg : u28.heap.size = g40 at *
            clear hWW hgg
            refine hK.out _ _ trivial (fun _ => ?_)
            clear hK K'
            simp only [Act.put, List.getElem_toArray, List.getElem_cons_zero, List.getElem_cons_succ, List.setIfInBounds_toArray, List.set_cons_zero, List.set_cons_succ]
            refine step_held (i := 5) rfl (by kernel_rfl) (by rfl) (fun K' hK => ?_)
            refine wp_build_one g40 m (.tmp 29) rfl rfl ?_
            have H41 := T40.newH g40
            have T41 := T40.alloc (.cells #[.slice (some ⟨g40, 0, none⟩) m m] 53)
            have B41 := B40.alloc L40 (.cells #[.slice (some ⟨g40, 0, none⟩) m m] 53)
            have L41 : H1 ≤ (u40.alloc (.cells #[.slice (some ⟨g40, 0, none⟩) m m] 53)).heap.size := (by rw [World.size_alloc]; exact Nat.le_succ_of_le L40)
            have G411 := G40.alloc (.cells #[.slice (some ⟨g40, 0, none⟩) m m] 53)
            have G412 := G402.alloc (.cells #[.slice (some ⟨g40, 0, none⟩) m m] 53)
            have H412 := H402.alloc (.cells #[.slice (some ⟨g40, 0, none⟩) m m] 53)
            clear T40 B40 L40 G40 G402 H402
            generalize hWW : u40.alloc (.cells #[.slice (some ⟨g40, 0, none⟩) m m] 53) = u41 at *
            generalize hgg : u40.heap.size = h41 at *
            clear hWW hgg
            refine hK.out _ _ trivial (fun _ => ?_)
            clear hK K'
            simp only [Act.put, List.getElem_toArray, List.getElem_cons_zero, List.getElem_cons_succ, List.setIfInBounds_toArray, List.set_cons_zero, List.set_cons_succ]
            refine step_held (i := 6) rfl (by kernel_rfl) (by rfl) (fun K' hK => ?_)
            refine wp_append_lies u41 (.tmp 25) (.tmp 30) 47 rfl H1 53 i0 (.slice none 0 0) 1 24 Try.underlying47 hi hz0 hz1 hz2 rfl (by decide) u8 bc.length (slsV m bc) rfl (T41.c.own) ⟨h41, 0, none⟩ 1 1 [.slice (some ⟨g40, 0, none⟩) m m] rfl rfl (H41.news) (one_sls _ _) (by decide) (by unfold maxLen; omega) (by omega) L41 u41.heap.size rfl ?_
            intro y42 cap42 u42 own42 gr42 at42 lt42
            have e42 := at_own (v2 := .slice (some ⟨y42, 0, none⟩) (bc.length + 1) cap42) rfl at42
            have T42 := (T41).app G411 own42 gr42 e42
            have B42 := B41.grown gr42 L41 (fun q e => (T41.c.own.lt q e).1)
            have L42 : H1 ≤ u42.heap.size := Nat.le_trans L41 gr42.size
            have G422 := Gx.app (T41) G412 n40 gr42
            have H422 := H412.app gr42 e42
            clear T41 B41 L41 G411 G412 H41 H412 own42 gr42 at42 lt42 e42
            refine hK.out _ _ trivial (fun _ => ?_)
            clear hK K'
            simp only [Act.put, List.getElem_toArray, List.getElem_cons_zero, List.getElem_cons_succ, List.setIfInBounds_toArray, List.set_cons_zero, List.set_cons_succ]
            refine step_held (i := 13) rfl (by kernel_rfl) (by rfl) (fun K' hK => ?_)
            refine wp_append_lies u42 (.tmp 32) (.tmp 37) 47 rfl H1 53 i0 (.slice none 0 0) 1 24 Try.underlying47 hi hz0 hz1 hz2 rfl (by decide) u9 bw.length (slsV m bw) rfl (T42.sw.c.own) ⟨h28, 0, none⟩ 1 1 [.slice (some ⟨g2, 0, none⟩) m m] rfl rfl (H422.news) (one_sls _ _) (by decide) (by unfold maxLen; omega) (by omega) L42 u42.heap.size rfl ?_
            intro y43 cap43 u43 own43 gr43 at43 lt43
            have e43 := at_own (v2 := .slice (some ⟨y43, 0, none⟩) (bw.length + 1) cap43) rfl at43
            have T43 := ((T42.sw).app G422.sw own43 gr43 e43).sw
            have B43 := B42.grown gr43 L42 (fun q e => (T42.sw.c.own.lt q e).1)
            have L43 : H1 ≤ u43.heap.size := Nat.le_trans L42 gr43.size
            clear T42 B42 L42 G422 H422 own43 gr43 at43 lt43 e43
            refine hK.out _ _ trivial (fun _ => ?_)
            clear hK K'
            simp only [Act.put, List.getElem_toArray, List.getElem_cons_zero, List.getElem_cons_succ, List.setIfInBounds_toArray, List.set_cons_zero, List.set_cons_succ]
            refine take_held (i := 14) (v := (.slice (some ⟨y42, 0, none⟩) (bc.length + 1) cap42)) rfl (by kernel_rfl) (by kernel_rfl) (by kernel_rfl) (fun _ _ _ h => h) (by rfl) (fun W _ => by rfl) trivial ?_
            simp only [Act.put, List.getElem_toArray, List.getElem_cons_zero, List.getElem_cons_succ, List.setIfInBounds_toArray, List.set_cons_zero, List.set_cons_succ]
            refine take_held (i := 15) (v := (.slice (some ⟨y43, 0, none⟩) (bw.length + 1) cap43)) rfl (by kernel_rfl) (by kernel_rfl) (by kernel_rfl) (fun _ _ _ h => h) (by rfl) (fun W _ => by rfl) trivial ?_
            simp only [Act.put, List.getElem_toArray, List.getElem_cons_zero, List.getElem_cons_succ, List.setIfInBounds_toArray, List.set_cons_zero, List.set_cons_succ]
            refine wpAnyH_done (by kernel_rfl) ?_ _
            dsimp only [OnlyN]
            exact ⟨g40, h41, (.slice (some ⟨y42, 0, none⟩) (bc.length + 1) cap42), g2, h28, (.slice (some ⟨y43, 0, none⟩) (bw.length + 1) cap43), rfl, T43, B43⟩
      · rintro a' w' ⟨g1, h1, v1, g2, h2, v2, rfl, T1, B1⟩
        clear HT HB hmw hmk
        obtain ⟨bc2, hbc2⟩ : ∃ x, bc ++ [g1] = x := ⟨_, rfl⟩
        obtain ⟨bw2, hbw2⟩ : ∃ x, bw ++ [g2] = x := ⟨_, rfl⟩
        have hlc : bc2.length = k + 1 := by rw [← hbc2, List.length_append, HBC.out]; rfl
        have hlw : bw2.length = k + 1 := by rw [← hbw2, List.length_append, HBW.out]; rfl
        have F1 : ∀ i j, i < k → j < m → (if i = bc.length then 0 else fc i j) = (pl (bsN a) (bsN b) pi po ps i j).c ∧ (if i = bw.length then 0 else fw i j) = (pl (bsN a) (bsN b) pi po ps i j).w := fun i j h1 h2 => by rw [HBC.out, HBW.out, if_neg (by omega), if_neg (by omega)]; exact HF.out i j h1 h2
        have F3 : ∀ j : Nat, (if k = bc.length then (0 : Int) else fc k j) = 0 ∧ (if k = bw.length then (0 : Int) else fw k j) = 0 := fun j => by rw [HBC.out, HBW.out, if_pos rfl, if_pos rfl]; exact ⟨rfl, rfl⟩
        have HF1 := Lib.hid F1
        have HF3 := Lib.hid F3
        clear F1 F3 HF
        obtain ⟨f1, hf1⟩ : ∃ f1 : Nat → Nat → Int, (fun i j => if i = bc.length then 0 else fc i j) = f1 := ⟨_, rfl⟩
        obtain ⟨q1, hq1⟩ : ∃ q1 : Nat → Nat → Int, (fun i j => if i = bw.length then 0 else fw i j) = q1 := ⟨_, rfl⟩
        rw [hbc2, hbw2, hf1, hq1] at T1
        have HF1 : Hid (∀ i j, i < k → j < m → f1 i j = (pl (bsN a) (bsN b) pi po ps i j).c ∧ q1 i j = (pl (bsN a) (bsN b) pi po ps i j).w) := Lib.hid (by rw [← hf1, ← hq1]; exact HF1.out)
        have HF3 : Hid (∀ j, f1 k j = 0 ∧ q1 k j = 0) := Lib.hid (by rw [← hf1, ← hq1]; exact HF3.out)
        clear hf1 hq1 hbc2 hbw2 HBC HBW hbc hbw
        obtain ⟨gc, capc, hv1, _, _⟩ := T1.c.own.form (by rw [hlc]; omega)
        obtain ⟨gw, capw, hv2, _, _⟩ := T1.w.own.form (by rw [hlw]; omega)
        rw [hlc] at hv1
        rw [hlw] at hv2
        subst hv1 hv2
        have HLC := Lib.hid hlc
        have HLW := Lib.hid hlw
        have HT := Lib.hid T1
        have HB := Lib.hid B1
        clear T1 B1 hlc hlw
        simp only [Act.put, List.setIfInBounds_toArray, List.set_cons_zero, List.set_cons_succ]
        have hmI3 := HMI.out
        go_wp2_with fail
        go_loopw [42] (fun jv wr2 => ∃ (j : Nat) (f g : Nat → Nat → Int), j ≤ m ∧ jv = .int .i64 j ∧ Two wr2 H1 m (.slice (some ⟨gc, 0, none⟩) (k + 1) capc) bc2 f (.slice (some ⟨gw, 0, none⟩) (k + 1) capw) bw2 g ∧ (∀ i' j', i' < k → j' < m → f i' j' = (pl (bsN a) (bsN b) pi po ps i' j').c ∧ g i' j' = (pl (bsN a) (bsN b) pi po ps i' j').w) ∧ (∀ j', j' < j → f k j' = (pl (bsN a) (bsN b) pi po ps k j').c ∧ g k j' = (pl (bsN a) (bsN b) pi po ps k j').w) ∧ (∀ j', j ≤ j' → f k j' = 0 ∧ g k j' = 0) ∧ Below H1 W0 wr2) (fun jv _ => m - (intOf jv).toNat)
        case atStart => exact ⟨0, f1, q1, Nat.zero_le _, rfl, HT.out, HF1.out, fun j' h => by omega, fun j' _ => HF3.out j', HB.out⟩
        case round =>
          clear HT HB HF1 HF3 f1 q1
          obtain ⟨j, f, g, hj, rfl, hT, hA, hBf, hCf, hB⟩ := hrel
          have HT := Lib.hid hT
          have HB := Lib.hid hB
          have HA := Lib.hid hA
          have HBf := Lib.hid hBf
          have HCf := Lib.hid hCf
          clear hT hA hBf hCf hB
          by_cases hjm : j < m
          · have cC := fun x (hx : x < k + 1) => (show wr.cell? ⟨gc, x, none⟩ = some (.slice (some ⟨bc2.getD x 0, 0, none⟩) m m) from HT.out.c.cellAt HLC.out hx)
            have cW := fun x (hx : x < k + 1) => (show wr.cell? ⟨gw, x, none⟩ = some (.slice (some ⟨bw2.getD x 0, 0, none⟩) m m) from HT.out.w.cellAt HLW.out hx)
            have rC := fun x (hx : x < k + 1) => HT.out.c.row x (by rw [HLC.out]; exact hx)
            have rW := fun x (hx : x < k + 1) => HT.out.w.row x (by rw [HLW.out]; exact hx)
            have HcC := Lib.hid cC
            have HcW := Lib.hid cW
            have HrC := Lib.hid rC
            have HrW := Lib.hid rW
            clear cC cW rC rW
            by_cases h00 : k = 0 ∧ j = 0
            · have z1 : ((k : Int) == 0) = true := by rw [beq_iff_eq]; omega
              have z2 : ((j : Int) == 0) = true := by rw [beq_iff_eq]; omega
              have d0 := HcW.out 0 (by omega)
              have d1 := (HrW.out 0 (by omega)).cell 0
              rw [rowI_at _ (by omega)] at d1
              have d2 := (HrW.out 0 (by omega)).frozen 0
              have hlo := HT.out.w.low _ (getD_mem (i := 0) (by rw [HLW.out]; omega))
              have TN := Lib.hid (HT.out.setW (i := 0) (j := 0) (by rw [HLW.out]; omega) 1)
              have BN := Lib.hid (HB.out.setCell (p := ⟨bw2.getD 0 0, 0, none⟩) hlo (.int .i64 1))
              have k0 : k = 0 := h00.1
              have j0 : j = 0 := h00.2
              have HK0 := Lib.hid k0
              have HJ0 := Lib.hid j0
              clear h00 k0 j0 hlo
              generalize bw2.getD 0 0 = r0 at d0 d1 d2 TN BN
              generalize g 0 0 = g00 at d1
              go_wp2
              go_roundw
              case rel =>
                have hk0 := HK0.out
                have hj0 := HJ0.out
                refine ⟨j + 1, _, _, by omega, by go_num, TN.out, fun i' j' h1 h2 => by omega, fun j' hj' => ?_, fun j' hj' => ?_, BN.out⟩
                · obtain rfl : j' = 0 := by omega
                  have := HCf.out 0 (by omega)
                  subst hk0
                  rw [pl_00]
                  exact ⟨this.1, by simp [oneP]⟩
                · have := HCf.out j' (by omega)
                  refine ⟨this.1, ?_⟩
                  show (if k = 0 ∧ j' = 0 then (1 : Int) else g k j') = 0
                  rw [if_neg (by omega)]
                  exact this.2
              case measure => simp only [intOf]; omega
            · have hd9 : decide ((j : Int) < (m : Int)) = true := decide_eq_true (by omega)
              go_upto_region 9 with fail
              try simp only [hd9]
              clear hd9
              refine wp_via2 (fun a a' w' => (∃ x45 x46 x47 x48 x49, a' = (Act.put (Act.put (Act.put (Act.put (Act.put (Act.put a (some 45) x45) (some 46) x46) (some 47) x47) (some 48) x48) (some 49) x49) (some 50) (.bool false))) ∧ wr = w') ?_ ?_
              · clear HT HB HA HBf HCf HcC HcW HrC HrW
                by_cases hk0 : k = 0
                · have z1 : ((k : Int) == 0) = true := by rw [beq_iff_eq]; omega
                  have z2 : ((j : Int) == 0) = false := by rw [beq_eq_false_iff_ne]; omega
                  go_wp2
                  exact ⟨⟨_, _, _, _, _, rfl⟩, rfl⟩
                · have z1 : ((k : Int) == 0) = false := by rw [beq_eq_false_iff_ne]; omega
                  go_wp2
                  exact ⟨⟨_, _, _, _, _, rfl⟩, rfl⟩
              · rintro a' w' ⟨⟨x45, x46, x47, x48, x49, rfl⟩, rfl⟩
                simp only [Act.put, List.setIfInBounds_toArray, List.set_cons_zero, List.set_cons_succ]
                obtain ⟨HPp0, HPp1, HPp2⟩ := HP.out wr HB.out
                have hbd := fun q => bstC_bd (bsN a) (bsN b) pi po ps hpi hpo hps k j (by omega) q
                have HBD := Lib.hid hbd
                clear hbd
                go_wp2_with fail
                go_loopw [12, 13, 55] (fun bv nv qv wq => ∃ (q d : Nat), q ≤ 3 ∧ qv = .int .i64 q ∧ bv = .int .i64 (bstC (bsN a) (bsN b) pi po ps k j q).1 ∧ nv = .int .i64 (bstC (bsN a) (bsN b) pi po ps k j q).2 ∧ wq = wr.drewN d) (fun _ _ qv _ => 3 - (intOf qv).toNat)
                case atStart => exact ⟨0, 0, by omega, rfl, rfl, rfl, rfl⟩
                case round =>
                  obtain ⟨q, d, hq, rfl, rfl, rfl, rfl⟩ := hrel
                  by_cases hq3 : q < 3
                  · have hk13 : k ≤ 13 := by omega
                    have hj13 : j ≤ 13 := by omega
                    rcases (show q = 0 ∨ q = 1 ∨ q = 2 by omega) with hq0 | hq1 | hq2
                    · by_cases hk0 : 0 < k
                      · obtain ⟨x, hx⟩ := ex_pred hk0
                        obtain ⟨hx1, hxk, hxx, hxl⟩ := pred_facts hx hk13
                        have HX := Lib.hid hx
                        have hxx := Lib.hid hxx
                        clear hx
                        have HE := Lib.hid (show bstC (bsN a) (bsN b) pi po ps k j (q + 1) = stC (bstC (bsN a) (bsN b) pi po ps k j q) ((pl (bsN a) (bsN b) pi po ps (x) (j)).c + (po : Int)) (pl (bsN a) (bsN b) pi po ps (x) (j)).w by rw [hq0]; rw [bstC_0, bstC_1]; unfold bst1; rw [if_pos hk0, hxx.out])
                        have KB := Lib.hid (pl_small (bsN a) (bsN b) pi po ps hpi hpo hps (i := x) (j := j) (ij_24 hka hjm hm13 ha (Nat.le_of_lt hxk) (Nat.le_refl j)))
                        have c1 := HcC.out (x) hxl
                        have c2 := (HrC.out (x) hxl).cell (j)
                        rw [rowI_at _ hjm, (HA.out x j hxk hjm).1] at c2
                        have d1 := HcW.out (x) hxl
                        have d2 := (HrW.out (x) hxl).cell (j)
                        rw [rowI_at _ hjm, (HA.out x j hxk hjm).2] at d2
                        generalize bc2.getD (x) 0 = rx at c1 c2
                        generalize bw2.getD (x) 0 = ry at d1 d2
                        obtain ⟨s1, hs1⟩ : ∃ z, (bstC (bsN a) (bsN b) pi po ps k j q).1 = z := ⟨_, rfl⟩
                        obtain ⟨s2, hs2⟩ : ∃ z, (bstC (bsN a) (bsN b) pi po ps k j q).2 = z := ⟨_, rfl⟩
                        rw [show bstC (bsN a) (bsN b) pi po ps k j q = (s1, s2) from Prod.ext hs1 hs2] at HE
                        have hb1 := HBD.out q
                        rw [hs1, hs2] at hb1
                        rw [hs1, hs2]
                        clear hs1 hs2
                        generalize (pl (bsN a) (bsN b) pi po ps (x) (j)).c = Cv at c2 KB HE
                        generalize (pl (bsN a) (bsN b) pi po ps (x) (j)).w = Vv at d2 KB HE
                        obtain ⟨kb1, kb2, kb3, kw⟩ := KB.out
                        clear KB
                        obtain ⟨Cp, hCp⟩ : ∃ Cp, Cv + (po : Int) = Cp := ⟨_, rfl⟩
                        rw [hCp] at HE
                        have hCb := price_facts kb1 kb2 hpo
                        rw [hCp] at hCb
                        clear kb1 kb2
                        obtain ⟨w1, w2, w3, w4⟩ := num_facts hCb kb3 kw
                        obtain ⟨qt0, qt1, qt2⟩ := (q_facts q).1 hq0
                        have HQ := Lib.hid hq0
                        clear hq0
                        by_cases hn : s1 < 0
                        · have HE2 := Lib.hid (show bstC (bsN a) (bsN b) pi po ps k j (q + 1) = (Cp, Vv) from HE.out.trans (st_A hn))
                          have t1 : decide (s1 < 0) = true := decide_eq_true hn
                          clear HE
                          go_wp2_with fail
                          go_quiet (fail)
                          try dsimp only [Exit.then]
                          go_wp2_with fail
                          go_quiet (fail)
                          try dsimp only [Exit.then]
                          go_wp2_with fail
                          go_quiet (fail)
                          try dsimp only [Exit.then]
                          go_wp2
                          go_roundw
                          case rel => exact ⟨q + 1, _, hq3, by go_num, by rw [HE2.out], by rw [HE2.out], rfl⟩
                          case measure => exact meas_3 hq3
                        · by_cases hl : Cp < s1
                          · have HE2 := Lib.hid (show bstC (bsN a) (bsN b) pi po ps k j (q + 1) = (Cp, Vv) from HE.out.trans (st_B hl))
                            have t1 : decide (s1 < 0) = false := decide_eq_false hn
                            have t2 : decide (Cp < s1) = true := decide_eq_true hl
                            clear HE
                            go_wp2_with fail
                            go_quiet (fail)
                            try dsimp only [Exit.then]
                            go_wp2_with fail
                            go_quiet (fail)
                            try dsimp only [Exit.then]
                            go_wp2_with fail
                            go_quiet (fail)
                            try dsimp only [Exit.then]
                            go_wp2
                            go_roundw
                            case rel => exact ⟨q + 1, _, hq3, by go_num, by rw [HE2.out], by rw [HE2.out], rfl⟩
                            case measure => exact meas_3 hq3
                          · by_cases hl2 : Cp = s1
                            · have HE2 := Lib.hid (show bstC (bsN a) (bsN b) pi po ps k j (q + 1) = (s1, s2 + Vv) from HE.out.trans (st_C hn hl2))
                              have t1 : decide (s1 < 0) = false := decide_eq_false hn
                              have t2 : decide (Cp < s1) = false := decide_eq_false hl
                              have t3 : (Cp == s1) = true := beq_iff_eq.2 hl2
                              obtain ⟨w5, w6⟩ := sum_facts hb1.2.2.1 hb1.2.2.2 kb3 kw
                              obtain ⟨N2, hN2⟩ : ∃ N2, s2 + Vv = N2 := ⟨_, rfl⟩
                              rw [hN2] at w5 w6 HE2
                              clear hl2
                              clear HE
                              go_wp2_with fail
                              go_quiet (fail)
                              try dsimp only [Exit.then]
                              go_wp2_with fail
                              go_quiet (fail)
                              try dsimp only [Exit.then]
                              go_wp2_with fail
                              go_quiet (fail)
                              try dsimp only [Exit.then]
                              go_wp2
                              go_roundw
                              case rel => exact ⟨q + 1, _, hq3, by go_num, by rw [HE2.out], by rw [HE2.out], rfl⟩
                              case measure => exact meas_3 hq3
                            · have HE2 := Lib.hid (show bstC (bsN a) (bsN b) pi po ps k j (q + 1) = (s1, s2) from HE.out.trans (st_D hn hl hl2))
                              have t1 : decide (s1 < 0) = false := decide_eq_false hn
                              have t2 : decide (Cp < s1) = false := decide_eq_false hl
                              have t3 : (Cp == s1) = false := beq_eq_false_iff_ne.2 hl2
                              clear HE
                              go_wp2_with fail
                              go_quiet (fail)
                              try dsimp only [Exit.then]
                              go_wp2_with fail
                              go_quiet (fail)
                              try dsimp only [Exit.then]
                              go_wp2_with fail
                              go_quiet (fail)
                              try dsimp only [Exit.then]
                              go_wp2
                              go_roundw
                              case rel => exact ⟨q + 1, _, hq3, by go_num, by rw [HE2.out], by rw [HE2.out], rfl⟩
                              case measure => exact meas_3 hq3
                      · have HE := Lib.hid (show bstC (bsN a) (bsN b) pi po ps k j (q + 1) = bstC (bsN a) (bsN b) pi po ps k j q by rw [hq0]; rw [bstC_0, bstC_1]; unfold bst1; rw [if_neg hk0])
                        generalize bstC (bsN a) (bsN b) pi po ps k j q = s at HE ⊢
                        obtain ⟨qt0, qt1, qt2⟩ := (q_facts q).1 hq0
                        obtain ⟨t0, hkn⟩ := pred_neg hk0
                        clear hq0
                        go_wp2_with fail
                        go_quiet (fail)
                        try dsimp only [Exit.then]
                        go_wp2_with fail
                        go_quiet (fail)
                        try dsimp only [Exit.then]
                        go_wp2
                        go_roundw
                        case rel => exact ⟨q + 1, _, hq3, by go_num, by rw [HE.out], by rw [HE.out], rfl⟩
                        case measure => exact meas_3 hq3
                    · by_cases hj0 : 0 < j
                      · obtain ⟨y, hy⟩ := ex_pred hj0
                        obtain ⟨hy1, hyj, hyy, _⟩ := pred_facts hy hj13
                        have HY := Lib.hid hy
                        have hyy := Lib.hid hyy
                        have hym : y < m := Nat.lt_trans hyj hjm
                        clear hy
                        have HE := Lib.hid (show bstC (bsN a) (bsN b) pi po ps k j (q + 1) = stC (bstC (bsN a) (bsN b) pi po ps k j q) ((pl (bsN a) (bsN b) pi po ps (k) (y)).c + (pi : Int)) (pl (bsN a) (bsN b) pi po ps (k) (y)).w by rw [hq1]; rw [bstC_1, bstC_2]; unfold bst2; rw [if_pos hj0, hyy.out])
                        have KB := Lib.hid (pl_small (bsN a) (bsN b) pi po ps hpi hpo hps (i := k) (j := y) (ij_24 hka hjm hm13 ha (Nat.le_refl k) (Nat.le_of_lt hyj)))
                        have c1 := HcC.out (k) (Nat.lt_succ_self k)
                        have c2 := (HrC.out (k) (Nat.lt_succ_self k)).cell (y)
                        rw [rowI_at _ hym, (HBf.out y hyj).1] at c2
                        have d1 := HcW.out (k) (Nat.lt_succ_self k)
                        have d2 := (HrW.out (k) (Nat.lt_succ_self k)).cell (y)
                        rw [rowI_at _ hym, (HBf.out y hyj).2] at d2
                        generalize bc2.getD (k) 0 = rx at c1 c2
                        generalize bw2.getD (k) 0 = ry at d1 d2
                        obtain ⟨s1, hs1⟩ : ∃ z, (bstC (bsN a) (bsN b) pi po ps k j q).1 = z := ⟨_, rfl⟩
                        obtain ⟨s2, hs2⟩ : ∃ z, (bstC (bsN a) (bsN b) pi po ps k j q).2 = z := ⟨_, rfl⟩
                        rw [show bstC (bsN a) (bsN b) pi po ps k j q = (s1, s2) from Prod.ext hs1 hs2] at HE
                        have hb1 := HBD.out q
                        rw [hs1, hs2] at hb1
                        rw [hs1, hs2]
                        clear hs1 hs2
                        generalize (pl (bsN a) (bsN b) pi po ps (k) (y)).c = Cv at c2 KB HE
                        generalize (pl (bsN a) (bsN b) pi po ps (k) (y)).w = Vv at d2 KB HE
                        obtain ⟨kb1, kb2, kb3, kw⟩ := KB.out
                        clear KB
                        obtain ⟨Cp, hCp⟩ : ∃ Cp, Cv + (pi : Int) = Cp := ⟨_, rfl⟩
                        rw [hCp] at HE
                        have hCb := price_facts kb1 kb2 hpi
                        rw [hCp] at hCb
                        clear kb1 kb2
                        obtain ⟨w1, w2, w3, w4⟩ := num_facts hCb kb3 kw
                        obtain ⟨qt0, qt1, qt2⟩ := (q_facts q).2.1 hq1
                        have HQ := Lib.hid hq1
                        clear hq1
                        by_cases hn : s1 < 0
                        · have HE2 := Lib.hid (show bstC (bsN a) (bsN b) pi po ps k j (q + 1) = (Cp, Vv) from HE.out.trans (st_A hn))
                          have t1 : decide (s1 < 0) = true := decide_eq_true hn
                          clear HE
                          go_wp2_with fail
                          go_quiet (fail)
                          try dsimp only [Exit.then]
                          go_wp2_with fail
                          go_quiet (fail)
                          try dsimp only [Exit.then]
                          go_wp2_with fail
                          go_quiet (fail)
                          try dsimp only [Exit.then]
                          go_wp2
                          go_roundw
                          case rel => exact ⟨q + 1, _, hq3, by go_num, by rw [HE2.out], by rw [HE2.out], rfl⟩
                          case measure => exact meas_3 hq3
                        · by_cases hl : Cp < s1
                          · have HE2 := Lib.hid (show bstC (bsN a) (bsN b) pi po ps k j (q + 1) = (Cp, Vv) from HE.out.trans (st_B hl))
                            have t1 : decide (s1 < 0) = false := decide_eq_false hn
                            have t2 : decide (Cp < s1) = true := decide_eq_true hl
                            clear HE
                            go_wp2_with fail
                            go_quiet (fail)
                            try dsimp only [Exit.then]
                            go_wp2_with fail
                            go_quiet (fail)
                            try dsimp only [Exit.then]
                            go_wp2_with fail
                            go_quiet (fail)
                            try dsimp only [Exit.then]
                            go_wp2
                            go_roundw
                            case rel => exact ⟨q + 1, _, hq3, by go_num, by rw [HE2.out], by rw [HE2.out], rfl⟩
                            case measure => exact meas_3 hq3
                          · by_cases hl2 : Cp = s1
                            · have HE2 := Lib.hid (show bstC (bsN a) (bsN b) pi po ps k j (q + 1) = (s1, s2 + Vv) from HE.out.trans (st_C hn hl2))
                              have t1 : decide (s1 < 0) = false := decide_eq_false hn
                              have t2 : decide (Cp < s1) = false := decide_eq_false hl
                              have t3 : (Cp == s1) = true := beq_iff_eq.2 hl2
                              obtain ⟨w5, w6⟩ := sum_facts hb1.2.2.1 hb1.2.2.2 kb3 kw
                              obtain ⟨N2, hN2⟩ : ∃ N2, s2 + Vv = N2 := ⟨_, rfl⟩
                              rw [hN2] at w5 w6 HE2
                              clear hl2
                              clear HE
                              go_wp2_with fail
                              go_quiet (fail)
                              try dsimp only [Exit.then]
                              go_wp2_with fail
                              go_quiet (fail)
                              try dsimp only [Exit.then]
                              go_wp2_with fail
                              go_quiet (fail)
                              try dsimp only [Exit.then]
                              go_wp2
                              go_roundw
                              case rel => exact ⟨q + 1, _, hq3, by go_num, by rw [HE2.out], by rw [HE2.out], rfl⟩
                              case measure => exact meas_3 hq3
                            · have HE2 := Lib.hid (show bstC (bsN a) (bsN b) pi po ps k j (q + 1) = (s1, s2) from HE.out.trans (st_D hn hl hl2))
                              have t1 : decide (s1 < 0) = false := decide_eq_false hn
                              have t2 : decide (Cp < s1) = false := decide_eq_false hl
                              have t3 : (Cp == s1) = false := beq_eq_false_iff_ne.2 hl2
                              clear HE
                              go_wp2_with fail
                              go_quiet (fail)
                              try dsimp only [Exit.then]
                              go_wp2_with fail
                              go_quiet (fail)
                              try dsimp only [Exit.then]
                              go_wp2_with fail
                              go_quiet (fail)
                              try dsimp only [Exit.then]
                              go_wp2
                              go_roundw
                              case rel => exact ⟨q + 1, _, hq3, by go_num, by rw [HE2.out], by rw [HE2.out], rfl⟩
                              case measure => exact meas_3 hq3
                      · have HE := Lib.hid (show bstC (bsN a) (bsN b) pi po ps k j (q + 1) = bstC (bsN a) (bsN b) pi po ps k j q by rw [hq1]; rw [bstC_1, bstC_2]; unfold bst2; rw [if_neg hj0])
                        generalize bstC (bsN a) (bsN b) pi po ps k j q = s at HE ⊢
                        obtain ⟨qt0, qt1, qt2⟩ := (q_facts q).2.1 hq1
                        obtain ⟨t0, hjn⟩ := pred_neg hj0
                        clear hq1
                        go_wp2_with fail
                        go_quiet (fail)
                        try dsimp only [Exit.then]
                        go_wp2_with fail
                        go_quiet (fail)
                        try dsimp only [Exit.then]
                        go_wp2
                        go_roundw
                        case rel => exact ⟨q + 1, _, hq3, by go_num, by rw [HE.out], by rw [HE.out], rfl⟩
                        case measure => exact meas_3 hq3
                    · by_cases hk0 : 0 < k
                      · by_cases hj0 : 0 < j
                        · obtain ⟨x, hx⟩ := ex_pred hk0
                          obtain ⟨hx1, hxk, hxx, hxl⟩ := pred_facts hx hk13
                          have HX := Lib.hid hx
                          have hxx := Lib.hid hxx
                          clear hx
                          obtain ⟨y, hy⟩ := ex_pred hj0
                          obtain ⟨hy1, hyj, hyy, _⟩ := pred_facts hy hj13
                          have HY := Lib.hid hy
                          have hyy := Lib.hid hyy
                          have hym : y < m := Nat.lt_trans hyj hjm
                          clear hy
                          have hxs : x < a.size := Nat.lt_of_lt_of_le hxk (Nat.le_of_lt_succ hka)
                          have hys : y < b.size := Nat.lt_of_lt_of_le hyj (Nat.le_of_lt_succ (by rw [← Nat.succ_eq_add_one] at hm; rw [hm]; exact hjm))
                          have ia := fun W => ix_byte a x hxs W
                          have ib := fun W => ix_byte b y hys W
                          by_cases hab : atB (bsN a) x = atB (bsN b) y
                          · have te : ((atB (bsN a) x : Int) == (atB (bsN b) y : Int)) = true := by rw [beq_iff_eq, hab]
                            have HAB := Lib.hid hab
                            clear hab
                            have HE := Lib.hid (show bstC (bsN a) (bsN b) pi po ps k j (q + 1) = stC (bstC (bsN a) (bsN b) pi po ps k j q) ((pl (bsN a) (bsN b) pi po ps (x) (y)).c + 0) (pl (bsN a) (bsN b) pi po ps (x) (y)).w by rw [hq2]; rw [bstC_2, bstC_3]; unfold bst3; rw [if_pos ⟨hk0, hj0⟩, hxx.out, hyy.out, if_pos HAB.out])
                            have KB := Lib.hid (pl_small (bsN a) (bsN b) pi po ps hpi hpo hps (i := x) (j := y) (ij_24 hka hjm hm13 ha (Nat.le_of_lt hxk) (Nat.le_of_lt hyj)))
                            have c1 := HcC.out (x) hxl
                            have c2 := (HrC.out (x) hxl).cell (y)
                            rw [rowI_at _ hym, (HA.out x y hxk hym).1] at c2
                            have d1 := HcW.out (x) hxl
                            have d2 := (HrW.out (x) hxl).cell (y)
                            rw [rowI_at _ hym, (HA.out x y hxk hym).2] at d2
                            generalize bc2.getD (x) 0 = rx at c1 c2
                            generalize bw2.getD (x) 0 = ry at d1 d2
                            obtain ⟨s1, hs1⟩ : ∃ z, (bstC (bsN a) (bsN b) pi po ps k j q).1 = z := ⟨_, rfl⟩
                            obtain ⟨s2, hs2⟩ : ∃ z, (bstC (bsN a) (bsN b) pi po ps k j q).2 = z := ⟨_, rfl⟩
                            rw [show bstC (bsN a) (bsN b) pi po ps k j q = (s1, s2) from Prod.ext hs1 hs2] at HE
                            have hb1 := HBD.out q
                            rw [hs1, hs2] at hb1
                            rw [hs1, hs2]
                            clear hs1 hs2
                            generalize (pl (bsN a) (bsN b) pi po ps (x) (y)).c = Cv at c2 KB HE
                            generalize (pl (bsN a) (bsN b) pi po ps (x) (y)).w = Vv at d2 KB HE
                            obtain ⟨kb1, kb2, kb3, kw⟩ := KB.out
                            clear KB
                            rw [Int.add_zero] at HE
                            obtain ⟨Cp, hCp⟩ : ∃ Cp, Cv = Cp := ⟨_, rfl⟩
                            rw [hCp] at HE c2
                            have hCb := plain_facts kb1 kb2
                            rw [hCp] at hCb
                            clear hCp kb1 kb2
                            obtain ⟨w1, w2, w3, w4⟩ := num_facts hCb kb3 kw
                            obtain ⟨qt0, qt1, qt2⟩ := (q_facts q).2.2 hq2
                            have HQ := Lib.hid hq2
                            clear hq2
                            by_cases hn : s1 < 0
                            · have HE2 := Lib.hid (show bstC (bsN a) (bsN b) pi po ps k j (q + 1) = (Cp, Vv) from HE.out.trans (st_A hn))
                              have t1 : decide (s1 < 0) = true := decide_eq_true hn
                              clear HE
                              go_wp2_with fail
                              go_quiet (fail)
                              try dsimp only [Exit.then]
                              go_wp2_with fail
                              go_quiet (fail)
                              try dsimp only [Exit.then]
                              go_wp2
                              go_roundw
                              case rel => exact ⟨q + 1, _, hq3, by go_num, by rw [HE2.out], by rw [HE2.out], rfl⟩
                              case measure => exact meas_3 hq3
                            · by_cases hl : Cp < s1
                              · have HE2 := Lib.hid (show bstC (bsN a) (bsN b) pi po ps k j (q + 1) = (Cp, Vv) from HE.out.trans (st_B hl))
                                have t1 : decide (s1 < 0) = false := decide_eq_false hn
                                have t2 : decide (Cp < s1) = true := decide_eq_true hl
                                clear HE
                                go_wp2_with fail
                                go_quiet (fail)
                                try dsimp only [Exit.then]
                                go_wp2_with fail
                                go_quiet (fail)
                                try dsimp only [Exit.then]
                                go_wp2
                                go_roundw
                                case rel => exact ⟨q + 1, _, hq3, by go_num, by rw [HE2.out], by rw [HE2.out], rfl⟩
                                case measure => exact meas_3 hq3
                              · by_cases hl2 : Cp = s1
                                · have HE2 := Lib.hid (show bstC (bsN a) (bsN b) pi po ps k j (q + 1) = (s1, s2 + Vv) from HE.out.trans (st_C hn hl2))
                                  have t1 : decide (s1 < 0) = false := decide_eq_false hn
                                  have t2 : decide (Cp < s1) = false := decide_eq_false hl
                                  have t3 : (Cp == s1) = true := beq_iff_eq.2 hl2
                                  obtain ⟨w5, w6⟩ := sum_facts hb1.2.2.1 hb1.2.2.2 kb3 kw
                                  obtain ⟨N2, hN2⟩ : ∃ N2, s2 + Vv = N2 := ⟨_, rfl⟩
                                  rw [hN2] at w5 w6 HE2
                                  clear hl2
                                  clear HE
                                  go_wp2_with fail
                                  go_quiet (fail)
                                  try dsimp only [Exit.then]
                                  go_wp2_with fail
                                  go_quiet (fail)
                                  try dsimp only [Exit.then]
                                  go_wp2
                                  go_roundw
                                  case rel => exact ⟨q + 1, _, hq3, by go_num, by rw [HE2.out], by rw [HE2.out], rfl⟩
                                  case measure => exact meas_3 hq3
                                · have HE2 := Lib.hid (show bstC (bsN a) (bsN b) pi po ps k j (q + 1) = (s1, s2) from HE.out.trans (st_D hn hl hl2))
                                  have t1 : decide (s1 < 0) = false := decide_eq_false hn
                                  have t2 : decide (Cp < s1) = false := decide_eq_false hl
                                  have t3 : (Cp == s1) = false := beq_eq_false_iff_ne.2 hl2
                                  clear HE
                                  go_wp2_with fail
                                  go_quiet (fail)
                                  try dsimp only [Exit.then]
                                  go_wp2_with fail
                                  go_quiet (fail)
                                  try dsimp only [Exit.then]
                                  go_wp2
                                  go_roundw
                                  case rel => exact ⟨q + 1, _, hq3, by go_num, by rw [HE2.out], by rw [HE2.out], rfl⟩
                                  case measure => exact meas_3 hq3
                          · have te : ((atB (bsN a) x : Int) == (atB (bsN b) y : Int)) = false := by rw [beq_eq_false_iff_ne]; exact fun h => hab (by exact_mod_cast h)
                            have HAB := Lib.hid hab
                            clear hab
                            have HE := Lib.hid (show bstC (bsN a) (bsN b) pi po ps k j (q + 1) = stC (bstC (bsN a) (bsN b) pi po ps k j q) ((pl (bsN a) (bsN b) pi po ps (x) (y)).c + (ps : Int)) (pl (bsN a) (bsN b) pi po ps (x) (y)).w by rw [hq2]; rw [bstC_2, bstC_3]; unfold bst3; rw [if_pos ⟨hk0, hj0⟩, hxx.out, hyy.out, if_neg HAB.out])
                            have KB := Lib.hid (pl_small (bsN a) (bsN b) pi po ps hpi hpo hps (i := x) (j := y) (ij_24 hka hjm hm13 ha (Nat.le_of_lt hxk) (Nat.le_of_lt hyj)))
                            have c1 := HcC.out (x) hxl
                            have c2 := (HrC.out (x) hxl).cell (y)
                            rw [rowI_at _ hym, (HA.out x y hxk hym).1] at c2
                            have d1 := HcW.out (x) hxl
                            have d2 := (HrW.out (x) hxl).cell (y)
                            rw [rowI_at _ hym, (HA.out x y hxk hym).2] at d2
                            generalize bc2.getD (x) 0 = rx at c1 c2
                            generalize bw2.getD (x) 0 = ry at d1 d2
                            obtain ⟨s1, hs1⟩ : ∃ z, (bstC (bsN a) (bsN b) pi po ps k j q).1 = z := ⟨_, rfl⟩
                            obtain ⟨s2, hs2⟩ : ∃ z, (bstC (bsN a) (bsN b) pi po ps k j q).2 = z := ⟨_, rfl⟩
                            rw [show bstC (bsN a) (bsN b) pi po ps k j q = (s1, s2) from Prod.ext hs1 hs2] at HE
                            have hb1 := HBD.out q
                            rw [hs1, hs2] at hb1
                            rw [hs1, hs2]
                            clear hs1 hs2
                            generalize (pl (bsN a) (bsN b) pi po ps (x) (y)).c = Cv at c2 KB HE
                            generalize (pl (bsN a) (bsN b) pi po ps (x) (y)).w = Vv at d2 KB HE
                            obtain ⟨kb1, kb2, kb3, kw⟩ := KB.out
                            clear KB
                            obtain ⟨Cp, hCp⟩ : ∃ Cp, Cv + (ps : Int) = Cp := ⟨_, rfl⟩
                            rw [hCp] at HE
                            have hCb := price_facts kb1 kb2 hps
                            rw [hCp] at hCb
                            clear kb1 kb2
                            obtain ⟨w1, w2, w3, w4⟩ := num_facts hCb kb3 kw
                            obtain ⟨qt0, qt1, qt2⟩ := (q_facts q).2.2 hq2
                            have HQ := Lib.hid hq2
                            clear hq2
                            by_cases hn : s1 < 0
                            · have HE2 := Lib.hid (show bstC (bsN a) (bsN b) pi po ps k j (q + 1) = (Cp, Vv) from HE.out.trans (st_A hn))
                              have t1 : decide (s1 < 0) = true := decide_eq_true hn
                              clear HE
                              go_wp2_with fail
                              go_quiet (fail)
                              try dsimp only [Exit.then]
                              go_wp2_with fail
                              go_quiet (fail)
                              try dsimp only [Exit.then]
                              go_wp2
                              go_roundw
                              case rel => exact ⟨q + 1, _, hq3, by go_num, by rw [HE2.out], by rw [HE2.out], rfl⟩
                              case measure => exact meas_3 hq3
                            · by_cases hl : Cp < s1
                              · have HE2 := Lib.hid (show bstC (bsN a) (bsN b) pi po ps k j (q + 1) = (Cp, Vv) from HE.out.trans (st_B hl))
                                have t1 : decide (s1 < 0) = false := decide_eq_false hn
                                have t2 : decide (Cp < s1) = true := decide_eq_true hl
                                clear HE
                                go_wp2_with fail
                                go_quiet (fail)
                                try dsimp only [Exit.then]
                                go_wp2_with fail
                                go_quiet (fail)
                                try dsimp only [Exit.then]
                                go_wp2
                                go_roundw
                                case rel => exact ⟨q + 1, _, hq3, by go_num, by rw [HE2.out], by rw [HE2.out], rfl⟩
                                case measure => exact meas_3 hq3
                              · by_cases hl2 : Cp = s1
                                · have HE2 := Lib.hid (show bstC (bsN a) (bsN b) pi po ps k j (q + 1) = (s1, s2 + Vv) from HE.out.trans (st_C hn hl2))
                                  have t1 : decide (s1 < 0) = false := decide_eq_false hn
                                  have t2 : decide (Cp < s1) = false := decide_eq_false hl
                                  have t3 : (Cp == s1) = true := beq_iff_eq.2 hl2
                                  obtain ⟨w5, w6⟩ := sum_facts hb1.2.2.1 hb1.2.2.2 kb3 kw
                                  obtain ⟨N2, hN2⟩ : ∃ N2, s2 + Vv = N2 := ⟨_, rfl⟩
                                  rw [hN2] at w5 w6 HE2
                                  clear hl2
                                  clear HE
                                  go_wp2_with fail
                                  go_quiet (fail)
                                  try dsimp only [Exit.then]
                                  go_wp2_with fail
                                  go_quiet (fail)
                                  try dsimp only [Exit.then]
                                  go_wp2
                                  go_roundw
                                  case rel => exact ⟨q + 1, _, hq3, by go_num, by rw [HE2.out], by rw [HE2.out], rfl⟩
                                  case measure => exact meas_3 hq3
                                · have HE2 := Lib.hid (show bstC (bsN a) (bsN b) pi po ps k j (q + 1) = (s1, s2) from HE.out.trans (st_D hn hl hl2))
                                  have t1 : decide (s1 < 0) = false := decide_eq_false hn
                                  have t2 : decide (Cp < s1) = false := decide_eq_false hl
                                  have t3 : (Cp == s1) = false := beq_eq_false_iff_ne.2 hl2
                                  clear HE
                                  go_wp2_with fail
                                  go_quiet (fail)
                                  try dsimp only [Exit.then]
                                  go_wp2_with fail
                                  go_quiet (fail)
                                  try dsimp only [Exit.then]
                                  go_wp2
                                  go_roundw
                                  case rel => exact ⟨q + 1, _, hq3, by go_num, by rw [HE2.out], by rw [HE2.out], rfl⟩
                                  case measure => exact meas_3 hq3
                        · have HE := Lib.hid (show bstC (bsN a) (bsN b) pi po ps k j (q + 1) = bstC (bsN a) (bsN b) pi po ps k j q by rw [hq2]; rw [bstC_2, bstC_3]; unfold bst3; rw [if_neg (fun h => hj0 h.2)])
                          generalize bstC (bsN a) (bsN b) pi po ps k j q = s at HE ⊢
                          obtain ⟨qt0, qt1, qt2⟩ := (q_facts q).2.2 hq2
                          obtain ⟨t0, hjn⟩ := pred_neg hj0
                          have hkn := pred_pos hk0
                          clear hq2
                          go_wp2_with fail
                          go_quiet (fail)
                          try dsimp only [Exit.then]
                          go_wp2
                          go_roundw
                          case rel => exact ⟨q + 1, _, hq3, by go_num, by rw [HE.out], by rw [HE.out], rfl⟩
                          case measure => exact meas_3 hq3
                      · have HE := Lib.hid (show bstC (bsN a) (bsN b) pi po ps k j (q + 1) = bstC (bsN a) (bsN b) pi po ps k j q by rw [hq2]; rw [bstC_2, bstC_3]; unfold bst3; rw [if_neg (fun h => hk0 h.1)])
                        generalize bstC (bsN a) (bsN b) pi po ps k j q = s at HE ⊢
                        obtain ⟨qt0, qt1, qt2⟩ := (q_facts q).2.2 hq2
                        obtain ⟨t0, hkn⟩ := pred_neg hk0
                        clear hq2
                        go_wp2_with fail
                        go_quiet (fail)
                        try dsimp only [Exit.then]
                        go_wp2
                        go_roundw
                        case rel => exact ⟨q + 1, _, hq3, by go_num, by rw [HE.out], by rw [HE.out], rfl⟩
                        case measure => exact meas_3 hq3
                  · have hq9 : q = 3 := by omega
                    have hS : bstC (bsN a) (bsN b) pi po ps k j q = ((pl (bsN a) (bsN b) pi po ps k j).c, (pl (bsN a) (bsN b) pi po ps k j).w) := by rw [hq9]; exact bstC_end _ _ _ _ _ hpi hpo hps k j h00
                    have t0 : decide ((q : Int) < 3) = false := decide_eq_false (by omega)
                    obtain ⟨Bv, hBv⟩ : ∃ z, (bstC (bsN a) (bsN b) pi po ps k j q).1 = z := ⟨_, rfl⟩
                    obtain ⟨Nv, hNv⟩ : ∃ z, (bstC (bsN a) (bsN b) pi po ps k j q).2 = z := ⟨_, rfl⟩
                    rw [hBv, hNv]
                    rw [hS] at hBv hNv
                    have HBv := Lib.hid hBv
                    have HNv := Lib.hid hNv
                    have hkl := Nat.lt_succ_self k
                    have c1 := HcC.out k hkl
                    have c2 := (HrC.out k hkl).cell j
                    have c3 := (HrC.out k hkl).frozen j
                    rw [rowI_at _ hjm] at c2
                    have d1 := HcW.out k hkl
                    have d2 := (HrW.out k hkl).cell j
                    have d3 := (HrW.out k hkl).frozen j
                    rw [rowI_at _ hjm] at d2
                    have hmc : k < bc2.length := by rw [HLC.out]; exact hkl
                    have hmw : k < bw2.length := by rw [HLW.out]; exact hkl
                    have hne : bc2.getD k 0 ≠ bw2.getD k 0 := fun e => HT.out.ap _ (getD_mem hmc) (by rw [e]; exact getD_mem hmw)
                    have hlc := HT.out.c.low _ (getD_mem hmc)
                    have hlw := HT.out.w.low _ (getD_mem hmw)
                    have n1 : gc ≠ bc2.getD k 0 := fun e => by obtain ⟨c, fz, hc⟩ := HT.out.c.kind gc rfl; rw [e] at hc; exact row_kind (c := []) (HrC.out k hkl) hc
                    have n2 : gc ≠ bw2.getD k 0 := fun e => by obtain ⟨c, fz, hc⟩ := HT.out.c.kind gc rfl; rw [e] at hc; exact row_kind (c := []) (HrW.out k hkl) hc
                    have n3 : gw ≠ bc2.getD k 0 := fun e => by obtain ⟨c, fz, hc⟩ := HT.out.w.kind gw rfl; rw [e] at hc; exact row_kind (c := []) (HrC.out k hkl) hc
                    have n4 : gw ≠ bw2.getD k 0 := fun e => by obtain ⟨c, fz, hc⟩ := HT.out.w.kind gw rfl; rw [e] at hc; exact row_kind (c := []) (HrW.out k hkl) hc
                    obtain ⟨wd, hwd⟩ : ∃ wd, wr.drewN d = wd := ⟨_, rfl⟩
                    rw [hwd]
                    have HTd : Hid (Two wd H1 m (.slice (some ⟨gc, 0, none⟩) (k + 1) capc) bc2 f (.slice (some ⟨gw, 0, none⟩) (k + 1) capw) bw2 g) := Lib.hid (by rw [← hwd]; exact ⟨⟨HT.out.c.own, HT.out.c.row, HT.out.c.low, HT.out.c.nod⟩, ⟨HT.out.w.own, HT.out.w.row, HT.out.w.low, HT.out.w.nod⟩, HT.out.ap, HT.out.ne⟩)
                    have HBd : Hid (Below H1 W0 wd) := Lib.hid (by rw [← hwd]; exact below_drewN HB.out d)
                    have TA := Lib.hid ((HTd.out.setC (j := j) hmc Bv).setW (j := j) hmw Nv).drew
                    have TB := Lib.hid ((HTd.out.setW (j := j) hmw Nv).setC (j := j) hmc Bv).drew
                    have BA := Lib.hid ((HBd.out.setCell (p := ⟨bc2.getD k 0, j, none⟩) hlc (.int .i64 Bv)).setCell (p := ⟨bw2.getD k 0, j, none⟩) hlw (.int .i64 Nv)).drew
                    have BB := Lib.hid ((HBd.out.setCell (p := ⟨bw2.getD k 0, j, none⟩) hlw (.int .i64 Nv)).setCell (p := ⟨bc2.getD k 0, j, none⟩) hlc (.int .i64 Bv)).drew
                    have x1 : wd.drew.cell? ⟨gc, k, none⟩ = some (.slice (some ⟨bc2.getD k 0, 0, none⟩) m m) := by rw [← hwd]; exact c1
                    have x2 : wd.drew.cell? ⟨gw, k, none⟩ = some (.slice (some ⟨bw2.getD k 0, 0, none⟩) m m) := by rw [← hwd]; exact d1
                    have y1 : wd.cell? ⟨bc2.getD k 0, j, none⟩ = some (.int .i64 (f k j)) := by rw [← hwd]; exact c2
                    have y2 : wd.frozen? ⟨bc2.getD k 0, j, none⟩ = false := by rw [← hwd]; exact c3
                    have z1 : wd.cell? ⟨bw2.getD k 0, j, none⟩ = some (.int .i64 (g k j)) := by rw [← hwd]; exact d2
                    have z2 : wd.frozen? ⟨bw2.getD k 0, j, none⟩ = false := by rw [← hwd]; exact d3
                    have hm0 := hmc
                    have HfA := Lib.hid (show ∀ i' j', i' < k → j' < m → (if i' = k ∧ j' = j then Bv else f i' j') = (pl (bsN a) (bsN b) pi po ps i' j').c ∧ (if i' = k ∧ j' = j then Nv else g i' j') = (pl (bsN a) (bsN b) pi po ps i' j').w from fun i' j' h1 h2 => by rw [if_neg (fun h => Nat.ne_of_lt h1 h.1), if_neg (fun h => Nat.ne_of_lt h1 h.1)]; exact HA.out i' j' h1 h2)
                    have HfB := Lib.hid (show ∀ i' j', i' = k → j' < j + 1 → (if i' = k ∧ j' = j then Bv else f i' j') = (pl (bsN a) (bsN b) pi po ps k j').c ∧ (if i' = k ∧ j' = j then Nv else g i' j') = (pl (bsN a) (bsN b) pi po ps k j').w from fun i' j' h0 h1 => by
                      subst h0
                      by_cases e : j' = j
                      · rw [if_pos ⟨rfl, e⟩, if_pos ⟨rfl, e⟩, e, ← HBv.out, ← HNv.out]; exact ⟨rfl, rfl⟩
                      · rw [if_neg (fun h => e h.2), if_neg (fun h => e h.2)]; exact HBf.out j' (by omega))
                    have HfC := Lib.hid (show ∀ i' j', i' = k → j + 1 ≤ j' → (if i' = k ∧ j' = j then Bv else f i' j') = 0 ∧ (if i' = k ∧ j' = j then Nv else g i' j') = 0 from fun i' j' h0 h1 => by subst h0; rw [if_neg (fun h => Nat.ne_of_gt h1 h.2), if_neg (fun h => Nat.ne_of_gt h1 h.2)]; exact HCf.out j' (Nat.le_of_succ_le h1))
                    clear c1 c2 c3 d1 d2 d3 hlc hlw hmc hmw hwd hBv hNv hS hq9 HTd HBd hm0
                    have HNE := Lib.hid hne
                    generalize bc2.getD k 0 = rx at *
                    generalize bw2.getD k 0 = ry at *
                    generalize f k j = fkj at y1
                    generalize g k j = gkj at z1
                    have ik1 : (0 : Int) ≤ (k : Int) := Int.natCast_nonneg k
                    have ik2 : (k : Int) < (k : Int) + 1 := Int.lt_succ _
                    have ik3 : (k : Int) < ((k + 1 : Nat) : Int) := Int.ofNat_lt.2 hkl
                    go_upto_region 30 with fail
                    go_region_held3 (fun W => W.cell? ⟨gc, k, none⟩ = some (.slice (some ⟨rx, 0, none⟩) m m) ∧ W.cell? ⟨gw, k, none⟩ = some (.slice (some ⟨ry, 0, none⟩) m m)) (first | assumption | exact ⟨x1, x2⟩ | exact ⟨cell_set_other x1 n1, cell_set_other x2 n3⟩ | exact ⟨cell_set_other x1 n2, cell_set_other x2 n4⟩ | exact ⟨cell_set_other (cell_set_other x1 n1) n2, cell_set_other (cell_set_other x2 n3) n4⟩ | exact ⟨cell_set_other (cell_set_other x1 n2) n1, cell_set_other (cell_set_other x2 n4) n3⟩) (fail)
                    all_goals
                      try dsimp only [Exit.then, Exit.inBlock]
                      go_wp2
                      go_roundw
                      case rel =>
                        first
                        | exact ⟨j + 1, _, _, hjm, by go_num, TA.out, HfA.out, fun j' h => HfB.out k j' rfl h, fun j' h => HfC.out k j' rfl h, BA.out⟩
                        | exact ⟨j + 1, _, _, hjm, by go_num, TB.out, HfA.out, fun j' h => HfB.out k j' rfl h, fun j' h => HfC.out k j' rfl h, BB.out⟩
                      case measure => exact meas_o hjm
          · obtain rfl : j = m := by omega
            go_wp2
            go_roundw
            case rel =>
              refine ⟨k + 1, bc2, bw2, f, g, hka, by go_num, HLC.out, HLW.out, HT.out, fun i' j' h1 h2 => ?_, HB.out⟩
              by_cases e : i' = k
              · rw [e]; exact HBf.out j' h2
              · exact HA.out i' j' (by omega) h2
            case measure => exact meas_o hka
    · have hke : k = a.size + 1 := by omega
      have HKE := Lib.hid hke
      clear hke
      go_wp2
      go_ret2
      have hke := HKE.out
      refine ⟨u8, bc, u9, bw, rfl, by rw [hbc, hke], by rw [hbw, hke], ?_, HB0.out.trans (HB.out.mono (by have := HH1.out; omega))⟩
      have hT := HT.out
      exact ⟨hT.c.congr (fun i j h1 h2 => (HF.out i j (by omega) h2).1), hT.w.congr (fun i j h1 h2 => (HF.out i j (by omega) h2).2), hT.ap, hT.ne⟩
end Go.Proofs.Ytkpmkeklopfhdaa

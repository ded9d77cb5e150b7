/-
  Wheels as values and in memory; their lists; wheels of lists and of chords.
-/
import Derived.Test.YthnenhfdojpobaaDoorWhLeaf
import Derived.Test.YthnenhfdojpobaaDoorRoSteps
import Derived.Deep.Cut
import Derived.Great.Walk
namespace Go.Proofs.YthnenhfdojpobaaDoor
open Go.ChangeShapes Go.WideShapes Go.ChangeAt Go.RowKit
set_option maxRecDepth 100000

/-- The numbers at the first places. -/
def tabN (n : Nat) (f : Nat → Nat) : List Nat := (List.range n).map f
theorem tabN_length (n : Nat) (f : Nat → Nat) : (tabN n f).length = n := by simp [tabN]
theorem tabN_at {n x : Nat} (h : x < n) (f : Nat → Nat) : (tabN n f)[x]?.getD 0 = f x := by simp [tabN, h]
theorem tabN_set {n x : Nat} (h : x < n) (f : Nat → Nat) (v : Nat) : (tabN n f).set x v = tabN n (fun k => if k = x then v else f k) := by
  apply List.ext_getElem?
  intro i
  rw [List.getElem?_set]
  by_cases hi : i < n
  · by_cases e : x = i
    · subst e; simp [tabN, h]
    · rw [if_neg e]
      simp [tabN, hi, Ne.symm e]
  · rw [if_neg (by omega)]
    simp [tabN, hi]
theorem tabN_congr {n : Nat} {f g : Nat → Nat} (h : ∀ x, x < n → f x = g x) : tabN n f = tabN n g := by
  unfold tabN
  exact List.map_congr_left (fun x hx => h x (List.mem_range.1 hx))
theorem natI_len (l : List Nat) : (natI l).length = l.length := natI_length l

/-- The cells of a wheel. -/
def whC (n : Nat) (f : Nat → Nat) : List Value := fC n (qN n) (wN n) ++ ints (tabN 16 f)
def whV (n : Nat) (f : Nat → Nat) : Value := .agg (whC n f).toArray
theorem whC_length (n : Nat) (f : Nat → Nat) : (whC n f).length = 19 := by simp [whC, fC, ints_length, tabN_length]
theorem info_wheel : (Tryd.prog.info? 43).map (·.size) = some 19 := by kernel_rfl
theorem whC_size (n : Nat) (f : Nat → Nat) : (whC n f).toArray.size = 19 := by rw [List.size_toArray, whC_length]
theorem info_whC (n : Nat) (f : Nat → Nat) : (Tryd.prog.info? 43).map (·.size) = some (whC n f).toArray.size := by rw [whC_size]; exact info_wheel
theorem whC_one (n : Nat) (f : Nat → Nat) : (whC n f).toArray.all (·.oneCell') = true := by
  rw [Array.all_eq_true_iff_forall_mem]
  intro v hv
  have h : v ∈ whC n f := by simpa using hv
  unfold whC fC at h
  rcases List.mem_append.1 h with h | h
  · simp at h
    rcases h with rfl | rfl | rfl <;> rfl
  · obtain ⟨x, _, rfl⟩ := List.mem_map.1 h
    rfl
theorem whC_at {x : Nat} (h : x < 16) (n : Nat) (f : Nat → Nat) : (whC n f)[3 + x]? = some (.int .i64 ((f x : Nat) : Int)) := by
  unfold whC
  rw [List.getElem?_append_right (by simp [fC])]
  rw [show 3 + x - (fC n (qN n) (wN n)).length = x by simp [fC], ints_at (by rw [tabN_length]; exact h), tabN_at h]
theorem whC_set {x : Nat} (h : x < 16) (n : Nat) (f : Nat → Nat) (v : Nat) : (whC n f).set (3 + x) (.int .i64 (v : Int)) = whC n (fun k => if k = x then v else f k) := by
  unfold whC
  rw [List.set_append, if_neg (by simp [fC])]
  rw [show 3 + x - (fC n (qN n) (wN n)).length = x by simp [fC], ints_set, tabN_set h]

/-- A wheel in its box, and what may have come later. -/
structure WAt (w0 : World) (b n : Nat) (f : Nat → Nat) (W : World) : Prop where
  hb : Below w0.heap.size w0 W
  row : Row W b 43 (whC n f)
theorem WAt.new (n : Nat) (f : Nat → Nat) (w : World) : WAt w w.heap.size n f (w.alloc (.cells (whC n f).toArray 43)) :=
  ⟨(Below.refl _ w).alloc (Nat.le_refl _) _, Row.new w _ _⟩
theorem WAt.later {w0 : World} {b n : Nat} {f : Nat → Nat} {W W' : World} (h : WAt w0 b n f W) (k : Below W.heap.size W W') : WAt w0 b n f W' :=
  ⟨h.hb.trans (k.mono h.hb.size), h.row.later k⟩
theorem WAt.drewN {w0 : World} {b n : Nat} {f : Nat → Nat} {W : World} (h : WAt w0 b n f W) (k : Nat) : WAt w0 b n f (W.drewN k) := ⟨bl_drewN h.hb k, h.row.drewN k⟩
theorem WAt.head {w0 : World} {b n : Nat} {f : Nat → Nat} {W : World} (h : WAt w0 b n f W) : W.cell? ⟨b, 0, none⟩ = some (.int .i64 (n : Int)) ∧ W.cell? ⟨b, 1, none⟩ = some (.int .i64 ((qN n : Nat) : Int)) ∧ W.cell? ⟨b, 2, none⟩ = some (.int .i64 ((wN n : Nat) : Int)) :=
  ⟨h.row.cell 0, h.row.cell 1, h.row.cell 2⟩
theorem WAt.at {w0 : World} {b n : Nat} {f : Nat → Nat} {W : World} (h : WAt w0 b n f W) {x : Nat} (hx : x < 16) : W.cell? ⟨b, 3 + x, none⟩ = some (.int .i64 ((f x : Nat) : Int)) := by
  rw [h.row.cell, whC_at hx]
theorem WAt.set {w0 : World} {b n : Nat} {f : Nat → Nat} {W : World} (h : WAt w0 b n f W) (hb : w0.heap.size ≤ b) {x : Nat} (hx : x < 16) (v : Nat) : WAt w0 b n (fun k => if k = x then v else f k) (W.setCell ⟨b, 3 + x, none⟩ (.int .i64 (v : Int))) :=
  ⟨h.hb.setCell (p := ⟨b, 3 + x, none⟩) hb _, by rw [← whC_set hx]; exact h.row.set _ _⟩
theorem WAt.other {w0 : World} {b b' i n : Nat} {f : Nat → Nat} {W : World} (h : WAt w0 b n f W) (hne : b ≠ b') (hb : w0.heap.size ≤ b') (v : Value) : WAt w0 b n f (W.setCell ⟨b', i, none⟩ v) :=
  ⟨h.hb.setCell (p := ⟨b', i, none⟩) hb _, h.row.other hne v⟩

/-- The numbers of a wheel, as a slice of its array. -/
theorem WAt.ints {w0 : World} {b n : Nat} {f : Nat → Nat} {W : World} (h : WAt w0 b n f W) {k : Nat} (hk : k ≤ 16) : IntsV W (.slice (some ⟨b, 3, none⟩) (natI (tabN k f)).length 16) (natI (tabN k f)) := by
  refine ⟨_, 16, rfl, by rw [natI_len, tabN_length]; exact hk, fun _ => ⟨b, 3, rfl, fun i hi => ?_⟩⟩
  rw [natI_len, tabN_length] at hi
  rw [h.at (by omega)]
  simp [natI, tabN, hi]

theorem arr_ht : Tryd.prog.underlying 41 = some (.array (Tryd.prog.arrayLen 41) (Tryd.prog.elem 41)) := by kernel_rfl
theorem arr_len : Tryd.prog.arrayLen 41 = 16 := by kernel_rfl
theorem arr_elem (W : World) : (sizeOf (Tryd.prog.elem 41)).run Tryd.prog W = .ok 1 W := by
  rw [show Tryd.prog.elem 41 = 3 by kernel_rfl]
  obtain ⟨i0, hi, _⟩ := info_parts info_intV
  rw [run_sizeOf (h := hi), show Tryd.prog.cellsOf 3 = 1 by kernel_rfl]
theorem run_arr_upto (a : Addr) (n : Nat) (hn : n ≤ 16) (W : World) : (Instr.sliceAt 41 (.pointer (some a)) none (some (.int .i64 (n : Int))) none).run Tryd.prog W = .ok (.slice (some a) n 16) W := by
  rw [run_sliceAt_array_h (ht := arr_ht) (h0 := by omega) (h2 := by rw [arr_len]; omega), arr_elem, arr_len]
  rfl
theorem run_arr_all (a : Addr) (W : World) : (Instr.sliceAt 41 (.pointer (some a)) none none none).run Tryd.prog W = .ok (.slice (some a) 16 16) W := by
  rw [run_sliceAt_array_all (ht := arr_ht), arr_elem, arr_len]
  rfl

theorem list_wh (n : Nat) (hn : n ≤ 16) (f : Nat → Nat) (w : World) :
    Calls Tryd.prog 22 #[whV n f] w fun e w' => ∃ v', e = .returned v' ∧ IntsV w' v' (natI (tabN n f)) ∧ Below w.heap.size w w' := by
  have HW := Lib.hid (WAt.new n f w)
  have HI := Lib.hid (HW.out.ints hn)
  have HC := Lib.hid (fun v W h => Clone_any (natI (tabN n f)) v W (by rw [natI_len, tabN_length]; omega) h)
  rw [natI_len, tabN_length] at HI
  obtain ⟨c0, c1, c2⟩ := HW.out.head
  unfold whV
  generalize (whC n f).toArray = cs at *
  have hr := run_arr_upto ⟨w.heap.size, 3, none⟩ n hn (w.alloc (.cells cs 43))
  go_enter Tryd.func22, Tryd.ntmps22
  go_wp2_with fail
  refine (HC.out _ _ HI.out).mono ?_
  rintro e w1 ⟨v', rfl, i1, b1⟩
  have I1 := Lib.hid i1
  have B1 := Lib.hid (HW.out.hb.trans (b1.mono HW.out.hb.size))
  clear i1 b1
  go_wp2
  go_ret
  exact ⟨v', rfl, I1.out, B1.out⟩

/-- A wheel of nothing. -/
def zeroF (_ : Nat) : Nat := 0
def zeroC : Array Value := #[.int .i64 0, .int .i64 0, .int .i64 0, .int .i64 0, .int .i64 0, .int .i64 0, .int .i64 0, .int .i64 0, .int .i64 0, .int .i64 0, .int .i64 0, .int .i64 0, .int .i64 0, .int .i64 0, .int .i64 0, .int .i64 0, .int .i64 0, .int .i64 0, .int .i64 0]
def headC (n q r : Nat) : Array Value := #[.int .i64 (n : Int), .int .i64 (q : Int), .int .i64 (r : Int), .int .i64 0, .int .i64 0, .int .i64 0, .int .i64 0, .int .i64 0, .int .i64 0, .int .i64 0, .int .i64 0, .int .i64 0, .int .i64 0, .int .i64 0, .int .i64 0, .int .i64 0, .int .i64 0, .int .i64 0, .int .i64 0]
theorem headC_eq (n : Nat) : (whC n zeroF).toArray = headC n (qN n) (wN n) := rfl

/-- The list's numbers at their places. -/
def ofL (l : List Nat) (x : Nat) : Nat := l[x]?.getD 0

theorem run_built (n q r : Nat) : Tryd.prog.built 43 [(0, .agg #[.int .i64 (n : Int), .int .i64 (q : Int), .int .i64 (r : Int)])] = some (headC n q r) := by rfl
/-- A new block, stored as a whole. -/
theorem made (W : World) (old cs : Array Value) (t : TypeId) : ((W.alloc (.cells old t)).setRow W.heap.size cs).heap.size = W.heap.size + 1 ∧ ((W.alloc (.cells old t)).setRow W.heap.size cs).heap[W.heap.size]? = some (.cells cs t (0, 0)) ∧ Below W.heap.size W ((W.alloc (.cells old t)).setRow W.heap.size cs) := by
  have hss : ∀ (W : World) (g : Nat), (W.setRow g cs).heap.size = W.heap.size := fun W g => Array.size_modify ..
  exact ⟨(hss _ _).trans (World.size_alloc _ _), setRow_heap _ _ _ _ _ _ (World.alloc_heap_new W _), below_setRow ((Below.refl _ W).alloc (Nat.le_refl _) _) (Nat.le_refl _) cs⟩

theorem ints_natW {W : World} {v : Value} {l : List Nat} (h : IntsV W v (natI l)) (h0 : 0 < l.length) : ∃ b off cap, v = .slice (some ⟨b, off, none⟩) l.length cap ∧ l.length ≤ cap ∧ ∀ i, i < l.length → W.cell? ⟨b, off + i, none⟩ = some (.int .i64 ((l[i]?.getD 0 : Nat) : Int)) := by
  obtain ⟨ao, cap, rfl, hlc, hc⟩ := h
  rw [natI_len] at *
  obtain ⟨b, off, rfl, hd⟩ := hc h0
  refine ⟨b, off, cap, rfl, hlc, fun i hi => ?_⟩
  rw [hd i hi]
  simp [natI, hi]
theorem splice_wheel {n : Nat} (h : n ≤ 16) {l : List Nat} (hl : l.length = n) : splice (whC n zeroF) 3 (ints l) = whC n (ofL l) := by
  have e1 : (whC n zeroF).take 3 = fC n (qN n) (wN n) := rfl
  unfold splice
  rw [e1]
  unfold whC
  congr 1
  apply List.ext_getElem?
  intro i
  rw [ints_length, hl]
  by_cases hi : i < n
  · rw [List.getElem?_append_left (by rw [ints_length]; omega), ints_at (by omega), ints_at (by rw [tabN_length]; omega), tabN_at (by omega)]; rfl
  · rw [List.getElem?_append_right (by rw [ints_length]; omega), ints_length, hl, List.getElem?_drop]
    have e2 : 3 + n + (i - n) = 3 + i := by omega
    rw [e2]
    by_cases h16 : i < 16
    · have e3 : (fC n (qN n) (wN n) ++ ints (tabN 16 zeroF))[3 + i]? = some (.int .i64 ((zeroF i : Nat) : Int)) := whC_at h16 n zeroF
      rw [e3, ints_at (by rw [tabN_length]; exact h16), tabN_at h16]
      have : ofL l i = 0 := by unfold ofL; rw [List.getElem?_eq_none (by omega)]; rfl
      rw [this]; rfl
    · rw [List.getElem?_eq_none (by rw [List.length_append, ints_length, tabN_length]; simp [fC]; omega), List.getElem?_eq_none (by rw [ints_length, tabN_length]; omega)]

/-! ### a new wheel with its field -/
theorem run_alloc_wheel (W : World) : (Instr.alloc 43 true (.tuple #[])).run Tryd.prog W = .ok (.pointer (some ⟨W.heap.size, 0, none⟩)) (W.alloc (.cells zeroC 43)) := by
  simp only [Instr.alloc, Sem.run_bind, Tryd.zeroValue43, Result.andThen_ok]
  rfl

theorem run_load_head {W : World} {b n q r : Nat} (h0 : W.cell? ⟨b, 0, none⟩ = some (.int .i64 (n : Int))) (h1 : W.cell? ⟨b, 1, none⟩ = some (.int .i64 (q : Int))) (h2 : W.cell? ⟨b, 2, none⟩ = some (.int .i64 (r : Int))) :
    (Instr.loadAt 38 (.pointer (some ⟨b, 0, none⟩))).run Tryd.prog W = .ok (fV n q r) W := by
  have hl : (loadCells ⟨b, 0, none⟩ (fC n q r).length).run Tryd.prog W = .ok (fC n q r).toArray W :=
    run_loadCells_list (P := Tryd.prog) W ⟨b, 0, none⟩ (fC n q r) (fun j v hv => by
      have hadd : (⟨b, 0, none⟩ : Addr).add j = ⟨b, j, none⟩ := by unfold Addr.add; split <;> simp_all
      rw [hadd]
      unfold fC at hv
      rcases j with _ | _ | _ | j
      · rw [h0]; exact hv
      · rw [h1]; exact hv
      · rw [h2]; exact hv
      · simp at hv)
  have hl' : (loadCells ⟨b, 0, none⟩ 3).run Tryd.prog W = .ok (fC n q r).toArray W := hl
  simp only [Instr.loadAt, Instr.sureAddr, Sem.run_bind, Sem.run_pure, Result.andThen_ok, loadVar, Tryd.isAgg38, Tryd.sizeOf38, if_true, hl']
  rfl

theorem wpList_fresh {ops : Array Oper} {o1 o2 o3 : Oper} {rest : List Oper} {a : Act} {w : World} {Q : Exit → Act → World → Prop} (n q r : Nat) (x d1 d2 : Tmp)
    (h1 : o1.op = .build 43 #[(0, .tmp x)]) (g1 : o1.guard = none) (e1 : o1.dst = some d1)
    (h2 : o2.op = .alloc 43) (g2 : o2.guard = none) (e2 : o2.dst = some d2)
    (h3 : o3.op = .store 43 (.tmp d2) (.tmp d1)) (g3 : o3.guard = none) (e3 : o3.dst = none)
    (hx : a.eval (.tmp x) = fV n q r)
    (hd1 : ∀ v u, ((a.put (some d1) v).put (some d2) u).eval (.tmp d1) = v) (hd2 : ∀ v u, ((a.put (some d1) v).put (some d2) u).eval (.tmp d2) = u)
    (g : Nat) (hg : w.heap.size = g)
    (h : ∀ W2 cs, cs = headC n q r → W2.heap.size = g + 1 → W2.heap[g]? = some (.cells cs 43 (0, 0)) → Below g w W2 → wpList Tryd.prog ops Q rest ((a.put (some d1) (.agg cs)).put (some d2) (.pointer (some ⟨g, 0, none⟩))) W2) :
    wpList Tryd.prog ops Q (o1 :: o2 :: o3 :: rest) a w := by
  subst hg
  refine Great.wpList_runTo g1 _ e1 (.agg (headC n q r)) w ?_ ?_
  · simp only [execOp, h1, Sem.run_bind]
    rw [run_build w _ _ (headC n q r) (by simp only [List.map_toArray, List.map_cons, List.map_nil, hx]; rfl)]
    rfl
  refine Great.wpList_runTo g2 _ e2 (.pointer (some ⟨w.heap.size, 0, none⟩)) (w.alloc (.cells zeroC 43)) ?_ ?_
  · simp only [execOp, h2, Sem.run_bind, run_alloc_wheel, Result.andThen_ok]
    rfl
  obtain ⟨m1, m2, m3⟩ := made w zeroC (headC n q r) 43
  refine wpList_store_rowTo g3 43 (.tmp d2) (.tmp d1) h3 e3 w.heap.size (headC n q r) (hd2 _ _) (hd1 _ _) 43 zeroC (World.alloc_heap_new w _) info_wheel rfl ?_ (h _ _ rfl m1 m2 m3)
  simp [headC, Value.oneCell']

/-- What was made is handed on to the result's variable. -/
theorem wpList_give {ops : Array Oper} {o1 o2 : Oper} {rest : List Oper} {a : Act} {w : World} {Q : Exit → Act → World → Prop} (n : Nat) (f : Nat → Nat) (x y d : Tmp)
    (h1 : o1.op = .load 43 (.tmp x)) (g1 : o1.guard = none) (e1 : o1.dst = some d)
    (h2 : o2.op = .store 43 (.tmp y) (.tmp d)) (g2 : o2.guard = none) (e2 : o2.dst = none)
    (g k : Nat) (hx : a.eval (.tmp x) = .pointer (some ⟨g, 0, none⟩)) (hy : ∀ v, (a.put (some d) v).eval (.tmp y) = .pointer (some ⟨k, 0, none⟩)) (hd : ∀ v, (a.put (some d) v).eval (.tmp d) = v)
    (hg : Row w g 43 (whC n f)) (old : Array Value) (hk : w.heap[k]? = some (.cells old 43 (0, 0))) (ho : old.size = 19)
    (h : ∀ W2, Row W2 k 43 (whC n f) → Below k w W2 → wpList Tryd.prog ops Q rest (a.put (some d) (.agg (whC n f).toArray)) W2) :
    wpList Tryd.prog ops Q (o1 :: o2 :: rest) a w := by
  refine wpList_load_row g1 43 (.tmp x) h1 g hx 43 (whC n f).toArray (0, 0) _ hg Tryd.underlying43 rfl (info_whC n f) ?_
  rw [e1]
  exact wpList_store_rowTo g2 43 (.tmp y) (.tmp d) h2 e2 k (whC n f).toArray (hy _) (hd _) 43 old hk (info_whC n f) (by rw [whC_size, ho]) (whC_one n f)
    (h _ (setRow_heap _ _ _ _ _ _ hk) (below_setRow (Below.refl _ _) (Nat.le_refl _) _))

theorem src_cells {W : World} {b off : Nat} {l : List Nat} (h : ∀ i, i < l.length → W.cell? ⟨b, off + i, none⟩ = some (.int .i64 ((l[i]?.getD 0 : Nat) : Int))) (j : Nat) (v : Value) (hv : (ints l)[j]? = some v) : W.cell? ((⟨b, off, none⟩ : Addr).add j) = some v := by
  have hadd : (⟨b, off, none⟩ : Addr).add j = ⟨b, off + j, none⟩ := by unfold Addr.add; split <;> simp_all
  have hj : j < l.length := by
    apply Nat.lt_of_not_le; intro hle
    rw [List.getElem?_eq_none (by rw [ints_length]; exact hle)] at hv; cases hv
  rw [ints_at hj] at hv
  rw [hadd, h j hj, hv]

theorem zero_new (W : World) : (W.alloc (.cells zeroC 43)).heap[W.heap.size]? = some (.cells zeroC 43 (0, 0)) := World.alloc_heap_new W _
theorem heap_later {W W' : World} {k : Nat} {o : Obj} (h : W.heap[k]? = some o) (hb : Below W.heap.size W W') : W'.heap[k]? = some o :=
  (hb.block k (Array.getElem?_eq_some_iff.1 h).1).trans h

set_option maxHeartbeats 1000000 in
theorem wheel_any (n : Nat) (h : Circ n) (l : List Nat) (hl : l.length = n) (v : Value) (w : World) (hv : IntsV w v (natI l)) :
    Calls Tryd.prog 21 #[fV n (qN n) (wN n), v] w fun e w' => e = .returned (whV n (ofL l)) ∧ Below w.heap.size w w' := by
  have hn := h.2
  have hn0 := h.pos
  obtain ⟨b, off, cap, rfl, hcap, ha⟩ := ints_natW hv (by omega)
  have HE := Lib.hid (headC_eq n)
  have HSRC := Lib.hid ha
  have HLen := Lib.hid (show (ints l).length = n by rw [ints_length, hl])
  have HOn := Lib.hid (show ∀ v ∈ ints l, v.oneCell' = true from fun v hv => by obtain ⟨x, _, rfl⟩ := List.mem_map.1 hv; rfl)
  have HSp := Lib.hid (splice_wheel (show n ≤ 16 by omega) hl)
  have HSW := Lib.hid (whC_length n zeroF)
  have HMin := Lib.hid (show n = Nat.min n 16 from (Nat.min_eq_left (by omega)).symm)
  obtain ⟨W0, hW0⟩ : ∃ W0, w.alloc (.cells #[.int .i64 (n : Int), .int .i64 ((qN n : Nat) : Int), .int .i64 ((wN n : Nat) : Int)] 38) = W0 := ⟨_, rfl⟩
  have hs0 : W0.heap.size = w.heap.size + 1 := by rw [← hW0]; exact World.size_alloc _ _
  have hF0 : FAt w w.heap.size n (qN n) (wN n) W0 := hW0 ▸ FAt.new n (qN n) (wN n) w
  have hF1 := hF0.later ((Below.refl _ W0).alloc (Nat.le_refl _) (.cells zeroC 43))
  have hz1 := zero_new W0
  have hs1 : (W0.alloc (.cells zeroC 43)).heap.size = w.heap.size + 1 + 1 := by rw [World.size_alloc, hs0]
  rw [hs0, ← hW0] at hz1
  rw [← hW0] at hF1 hs1
  have HF1 := Lib.hid hF1
  have HZ1 := Lib.hid hz1
  have HS1 := Lib.hid hs1
  clear ha hF0 hF1 hz1 hs1 hs0 hW0 hv
  rw [hl]
  unfold fV
  go_enter Tryd.func21, Tryd.ntmps21
  go_upto_region 1 with fail
  go_step
  refine wpList_load_row rfl 38 (.tmp 2) rfl w.heap.size rfl 38 (fC n (qN n) (wN n)).toArray (0, 0) _ HF1.out.row Tryd.underlying38 rfl info_field ?_
  refine wpList_fresh n (qN n) (wN n) 6 7 5 rfl rfl rfl rfl rfl rfl rfl rfl rfl rfl (fun _ _ => rfl) (fun _ _ => rfl) (w.heap.size + 1 + 1) HS1.out ?_
  intro W2 cs hcs hs2 hr2 hb2
  go_frame
  have HB2 := Lib.hid (HF1.out.hb.trans (hb2.mono (by omega)))
  have HR2 := Lib.hid (show Row W2 (w.heap.size + 1 + 1) 43 (whC n zeroF) by rw [hcs, ← HE.out] at hr2; exact hr2)
  have HZ2 := Lib.hid ((hb2.block (w.heap.size + 1) (by omega)).trans HZ1.out)
  have HS := Lib.hid (fun j v => src_cells (W := W2) (fun i hi => cell_later HB2.out (HSRC.out i hi)) j v)
  clear hcs hs2 hr2 hb2
  generalize Value.agg cs = csv
  go_upto_region 3 with (refine wpList_copy_splice rfl _ _ 24 24 rfl 3 Tryd.underlying24 (by kernel_rfl) _ _ 16 16 n cap rfl rfl (w.heap.size + 1 + 1) 3 (whC n zeroF) 43 HR2.out (ints l) (by rw [HLen.out]; exact HMin.out) (fun _ => ⟨rfl, _, rfl, HS.out⟩) (by rw [HLen.out, HSW.out]; omega) HOn.out (w.heap.size + 1 + 1) W2 (Below.refl _ _) (Nat.le_refl _) ?_; intro w3 hR3 hB3; rw [HLen.out])
  have HR3 := Lib.hid (show Row w3 (w.heap.size + 1 + 1) 43 (whC n (ofL l)) by have := hR3.out; rw [HSp.out] at this; exact this)
  have HZ3 := Lib.hid ((hB3.block (w.heap.size + 1) (by omega)).trans HZ2.out)
  have HB3 := Lib.hid (HB2.out.trans (hB3.mono (by omega)))
  clear hR3 hB3
  go_step
  refine wpList_give n (ofL l) 5 4 12 rfl rfl rfl rfl rfl rfl (w.heap.size + 1 + 1) (w.heap.size + 1) rfl (fun _ => rfl) (fun _ => rfl) HR3.out zeroC HZ3.out rfl ?_
  intro W4 hr4 hb4
  have HB4 := Lib.hid (HB3.out.trans (hb4.mono (by omega)))
  go_frame
  go_wp2
  refine bodyPost_ret (results_cell_row rfl _ _ (w.heap.size + 1) 43 (whC n (ofL l)).toArray (0, 0) _ rfl hr4 Tryd.underlying43 rfl (info_whC _ _)) rfl ?_
  exact ⟨rfl, HB4.out⟩
end Go.Proofs.YthnenhfdojpobaaDoor

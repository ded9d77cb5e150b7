/-
  The reference's search of the ways.
-/
import Derived.Test.YtibkhjbcagihbaaTrRoundRef2
import Derived.Lib.SlBytesConst
namespace Go.Proofs.Ytibkhjbcagihbaa
open Go.ChangeShapes Go.WideShapes Go.ChangeAt Go.RowKit Go.Shelf
set_option maxRecDepth 100000

/-- The walks as the reference holds them. -/
def wayC (n : Nat) (L : St) : List Value := (List.range (2 * n)).map (fun t => Value.string (strOf ((lookL L t).getD [])))
theorem wayC_length (n : Nat) (L : St) : (wayC n L).length = 2 * n := by simp [wayC]
theorem wayC_get {n t : Nat} (L : St) (h : t < 2 * n) : (wayC n L)[t]? = some (.string (strOf ((lookL L t).getD []))) := by
  unfold wayC; rw [List.getElem?_map, List.getElem?_range h]; rfl
theorem wayC_set (n : Nat) (L : St) (p : Nat × List Nat) (h : hasK L p.1 = false) : (wayC n L).set p.1 (.string (strOf p.2)) = wayC n (L ++ [p]) := by
  refine List.ext_getElem? (fun i => ?_)
  rw [List.getElem?_set]
  by_cases hi : i < 2 * n
  · rw [wayC_get _ hi, wayC_get _ hi, wayC_length, lookL_append L p i h]
    by_cases e : p.1 = i
    · simp [e, hi]
    · have : ¬ i = p.1 := fun h => e h.symm
      simp [e, this]
  · have h1 : ∀ M, (wayC n M)[i]? = none := fun M => by rw [List.getElem?_eq_none_iff, wayC_length]; omega
    rw [h1, h1, wayC_length]
    by_cases e : p.1 = i
    · simp [e, hi]
    · simp [e]
theorem nat_beq_comm (a b : Nat) : (a == b) = (b == a) := by rw [Bool.eq_iff_iff, beq_iff_eq, beq_iff_eq]; exact eq_comm
theorem metC_add (n : Nat) (L : St) (p : Nat × List Nat) : (metC n (hasK L)).set p.1 (.bool true) = metC n (hasK (L ++ [p])) := by
  rw [metC_set]
  congr 1
  funext x
  unfold putM
  rw [hasK_append, Bool.or_comm]
  congr 1
  simp [hasK, nat_beq_comm x]
theorem wayC_start (n s : Nat) : wayC n [(s, [])] = List.replicate (2 * n) (.string ⟨#[]⟩) := by
  refine List.eq_replicate_iff.2 ⟨wayC_length _ _, fun x hx => ?_⟩
  unfold wayC at hx
  obtain ⟨t, _, rfl⟩ := List.mem_map.1 hx
  have : (lookL [(s, [])] t).getD [] = ([] : List Nat) := by
    unfold lookL
    by_cases e : s = t
    · simp [e]
    · simp [e]
  rw [this]; rfl
theorem metC_start (n s : Nat) : metC n (hasK [(s, [])]) = (List.replicate (2 * n) (Value.bool false)).set s (.bool true) := by
  rw [← metC_none, metC_set]
  congr 1
  funext x
  simp [putM, hasK, nat_beq_comm x]

theorem madeCells_strs (k : Nat) : madeCells #[Value.string ⟨#[]⟩] k = (List.replicate k (Value.string ⟨#[]⟩)).toArray := by
  apply Array.ext
  · rw [size_madeCells]; simp
  · intro i h1 h2
    simp [madeCells, Nat.mod_one]
theorem run_make_strs (k : Nat) (hk : k ≤ 65536) (W : World) : (Instr.makeSlice 64 (.int .i64 (k : Int)) (.int .i64 (k : Int))).run Try.prog W = .ok (.slice (some ⟨W.heap.size, 0, none⟩) k k) (W.alloc (.cells (List.replicate k (Value.string ⟨#[]⟩)).toArray 9)) := by
  rw [← madeCells_strs]
  exact run_make_row' 64 9 (.string ⟨#[]⟩) 16 Try.underlying64 (by kernel_rfl) rfl .i64 .i64 k (by omega) (by omega) W

/-- How the search stands in memory. -/
structure RWSt (n a b : Nat) (w wr : World) (H gw gm lo : Nat) (v : Value) (L : St) : Prop where
  box : wr.heap[H]? = some (rcells n a b)
  way : Row wr gw 9 (wayC n L)
  met : Row wr gm 4 (metC n (hasK L))
  q : wr.ownsRow lo 3 1 v L.length (ints (L.map Prod.fst))
  below : Below w.heap.size w wr
  h1 : w.heap.size ≤ H
  h2 : H < gw
  h3 : H < gm
  h4 : gw ≠ gm
  h5 : gw < lo
  h6 : gm < lo

theorem RWSt.later {n a b : Nat} {w wr w' : World} {H gw gm lo : Nat} {v : Value} {L : St} (h : RWSt n a b w wr H gw gm lo v L) (hb : Below wr.heap.size wr w') : RWSt n a b w w' H gw gm lo v L :=
  { h with
    box := (hb.block _ (Array.getElem?_eq_some_iff.1 h.box).1).trans h.box
    way := h.way.later hb
    met := h.met.later hb
    q := h.q.kept (row := none) ⟨hb.os, hb.tape, hb.output, hb.size, fun i hi _ => hb.block i hi⟩ (by cases v.ownBlock <;> simp)
    below := h.below.trans (hb.mono h.below.size) }
theorem RWSt.cells {n a b : Nat} {w wr : World} {H gw gm lo : Nat} {v : Value} {L : St} (h : RWSt n a b w wr H gw gm lo v L) : wr.cell? ⟨H, 0, none⟩ = some (.int .i64 n) ∧ wr.cell? ⟨H, 1, none⟩ = some (.int .i64 a) ∧ wr.cell? ⟨H, 2, none⟩ = some (.int .i64 b) := by
  refine ⟨?_, ?_, ?_⟩ <;> simp [World.cell?, h.box]

theorem own_other {w : World} {lo : Nat} {t : TypeId} {v : Value} {m : Nat} {xs : List Value} (h : w.ownsRow lo t 1 v m xs) {g : Nat} (hg : g < lo) (i : Nat) (u : Value) : (w.setCell ⟨g, i, none⟩ u).ownsRow lo t 1 v m xs :=
  h.kept (row := some g) ⟨rfl, rfl, rfl, by simp [World.setCell], fun k _ hne => Below.heap_setCell w ⟨g, i, none⟩ u k (fun e => hne (by rw [e]))⟩ (by
    cases hv : v.ownBlock with
    | none => left; rfl
    | some k => right; intro e; have := (h.lt k hv).1; have := Option.some.inj e; omega)

/-- A triad more: it is met, its walk is laid, it stands in the queue. -/
theorem RWSt.push {n a b : Nat} {w wr w' : World} {H gw gm lo : Nat} {v v' : Value} {L : St} (h : RWSt n a b w wr H gw gm lo v L) (p : Nat × List Nat) (hn : hasK L p.1 = false) (o : Obj)
    (hown : w'.ownsRow lo 3 1 v' (L.length + 1) (ints (L.map Prod.fst) ++ [.int .i64 (p.1 : Int)]))
    (hg : (((wr.setCell ⟨gm, p.1, none⟩ (.bool true)).setCell ⟨gw, p.1, none⟩ (.string (strOf p.2))).alloc o).grownBy w' v.ownBlock) : RWSt n a b w w' H gw gm lo v' (L ++ [p]) := by
  have hlt : ∀ k, v.ownBlock = some k → lo ≤ k := fun k e => (h.q.lt k e).1
  have h1 := h.h1
  have h2 := h.h2
  have h3 := h.h3
  have h5 := h.h5
  have h6 := h.h6
  have hbx := (Array.getElem?_eq_some_iff.1 h.box).1
  have hsz : ((wr.setCell ⟨gm, p.1, none⟩ (.bool true)).setCell ⟨gw, p.1, none⟩ (.string (strOf p.2))).heap.size = wr.heap.size := by simp [World.setCell]
  have r1 : Row ((wr.setCell ⟨gm, p.1, none⟩ (.bool true)).setCell ⟨gw, p.1, none⟩ (.string (strOf p.2))) gw 9 (wayC n (L ++ [p])) := by
    rw [← wayC_set n L p hn]
    exact (h.way.other h.h4 _).set _ _
  have r2 : Row ((wr.setCell ⟨gm, p.1, none⟩ (.bool true)).setCell ⟨gw, p.1, none⟩ (.string (strOf p.2))) gm 4 (metC n (hasK (L ++ [p]))) := by
    rw [← metC_add]
    exact (h.met.set _ _).other (Ne.symm h.h4) _
  refine ⟨?_, (r1.alloc o).grown hg (fun e => by have := hlt _ e.symm; omega), (r2.alloc o).grown hg (fun e => by have := hlt _ e.symm; omega), ?_, ?_, h.h1, h.h2, h.h3, h.h4, h.h5, h.h6⟩
  · refine (hg.block H (by simp [World.setCell]; omega) (fun e => by have := hlt _ e.symm; omega)).trans ?_
    refine (Below.heap_alloc _ _ _ (by simp [World.setCell]; omega)).trans ?_
    refine (Below.heap_setCell _ ⟨gw, p.1, none⟩ _ H (by simp; omega)).trans ?_
    exact (Below.heap_setCell _ ⟨gm, p.1, none⟩ _ H (by simp; omega)).trans h.box
  · rw [List.length_append, List.map_append]
    unfold ints at hown ⊢
    rw [List.map_append]
    exact hown
  · have b1 := (h.below.setCell (p := ⟨gm, p.1, none⟩) (by show w.heap.size ≤ gm; omega) (.bool true)).setCell (p := ⟨gw, p.1, none⟩) (by show w.heap.size ≤ gw; omega) (.string (strOf p.2))
    exact (b1.alloc b1.size o).grown hg (by simp [World.setCell]; omega) (fun q e => by have := hlt q e; omega)

/-- The two slices, as they are made. -/
structure RW0 (n a b : Nat) (w W : World) (H gw gm : Nat) : Prop where
  box : W.heap[H]? = some (rcells n a b)
  way : Row W gw 9 (List.replicate (2 * n) (.string ⟨#[]⟩))
  met : Row W gm 4 (List.replicate (2 * n) (.bool false))
  below : Below w.heap.size w W
  h1 : w.heap.size ≤ H
  h2 : H < gw
  h3 : H < gm
  h4 : gw ≠ gm

theorem RW0.start {n a b : Nat} {w W : World} {H gw gm : Nat} (h : RW0 n a b w W H gw gm) (s : Nat) :
    RWSt n a b w ((W.setCell ⟨gm, s, none⟩ (.bool true)).alloc (.cells #[.int .i64 (s : Int)] 3)) H gw gm W.heap.size (.slice (some ⟨W.heap.size, 0, none⟩) 1 1) [(s, [])] := by
  have h1 := h.h1
  have h2 := h.h2
  have h3 := h.h3
  have hl1 := h.way.lt
  have hl2 := h.met.lt
  have hb := (Array.getElem?_eq_some_iff.1 h.box).1
  have hsz : (W.setCell ⟨gm, s, none⟩ (.bool true)).heap.size = W.heap.size := by simp [World.setCell]
  refine ⟨?_, ?_, ?_, ?_, ?_, h.h1, h.h2, h.h3, h.h4, hl1, hl2⟩
  · exact (Below.heap_alloc _ _ H (by rw [hsz]; exact hb)).trans ((Below.heap_setCell W ⟨gm, s, none⟩ _ H (by simp; omega)).trans h.box)
  · rw [wayC_start]
    exact (h.way.other h.h4 _).alloc _
  · rw [metC_start]
    exact (h.met.set _ _).alloc _
  · have := World.ownsRow_lit (base := W.heap.size) (e := 3) (size := 1) (W.setCell ⟨gm, s, none⟩ (.bool true)) #[.int .i64 (s : Int)] 1 (by rw [hsz]; exact Nat.le_refl _) (by unfold maxLen; omega) rfl
    rw [hsz] at this
    exact this
  · have b1 := h.below.setCell (p := ⟨gm, s, none⟩) (by show w.heap.size ≤ gm; omega) (.bool true)
    exact b1.alloc b1.size _

/-- The letters, as they lie in memory. -/
def letC : Obj := .cells #[.int .u8 76, .int .u8 80, .int .u8 82] 5 (3, 4)
def letAt (j : Nat) : Nat := lprL[j]?.getD 0
theorem let_cell {w : World} {G j : Nat} (h : w.heap[G]? = some letC) (hj : j < 3) : w.cell? ⟨G, j, none⟩ = some (.int .u8 (letAt j : Nat)) := by
  rcases (show j = 0 ∨ j = 1 ∨ j = 2 by omega) with rfl | rfl | rfl <;> simp [World.cell?, h, letC, letAt, lprL]
theorem let_facts {j : Nat} (hj : j < 3) : letAt j ∈ lprL ∧ isLetN (letAt j) = true ∧ letAt j < 256 ∧ lprL.take (j + 1) = lprL.take j ++ [letAt j] := by
  rcases (show j = 0 ∨ j = 1 ∨ j = 2 by omega) with rfl | rfl | rfl <;> decide
theorem fst_at {L : St} {k : Nat} {p : Nat × List Nat} (h : L[k]? = some p) : (ints (L.map Prod.fst))[k]? = some (.int .i64 (p.1 : Int)) := by
  unfold ints
  rw [List.getElem?_map, List.getElem?_map, h]; rfl

set_option maxHeartbeats 4000000 in
theorem Rways_any (n a b s : Nat) (hk : KOk n a b) (hs : s < 2 * n) (w : World) :
    Calls Try.prog 59 #[kv n a b, .int .i64 s] w fun e w' => ∃ gw gm, e = .returned (.tuple #[.slice (some ⟨gw, 0, none⟩) (2 * n) (2 * n), .slice (some ⟨gm, 0, none⟩) (2 * n) (2 * n)]) ∧ Row w' gw 9 (wayC n (bfsA n a b s)) ∧ Row w' gm 4 (metC n (hasK (bfsA n a b s))) ∧ Below w.heap.size w w' := by
  have h16 := hk.h16
  have h6 := hk.h6
  obtain ⟨i0, hi, hz0, hz1', hz2'⟩ := info_parts info_int
  obtain ⟨N, hN⟩ : ∃ N, 2 * n = N := ⟨_, rfl⟩
  have hmkS := run_make_strs N (by omega)
  have hmkB := run_make_bools N (by omega)
  have hNi : (2 * (n : Int)) = (N : Int) := by omega
  have c0 : ((w.alloc (rcells n a b)).cell? ⟨w.heap.size, 0, none⟩) = some (.int .i64 n) := by simp
  have hsN : s < N := by omega
  have hmx : Try.prog.follows .mixedOrders = true := by kernel_rfl
  obtain ⟨W1, hW1⟩ : ∃ W1, (((w.alloc (rcells n a b)).alloc (.cells (Array.replicate N (Value.string ⟨#[]⟩)) 9)).alloc (.cells (Array.replicate N (Value.bool false)) 4)).drew = W1 := ⟨_, rfl⟩
  obtain ⟨W2, hW2⟩ : ∃ W2, (((w.alloc (rcells n a b)).alloc (.cells (Array.replicate N (Value.bool false)) 4)).alloc (.cells (Array.replicate N (Value.string ⟨#[]⟩)) 9)).drew = W2 := ⟨_, rfl⟩
  have hR1 : RW0 n a b w W1 w.heap.size (w.heap.size + 1) (w.heap.size + 1 + 1) := by
    rw [← hW1]
    refine ⟨?_, ?_, ?_, ?_, Nat.le_refl _, by omega, by omega, by omega⟩
    · exact (Below.heap_alloc _ _ _ (by simp; omega)).trans ((Below.heap_alloc _ _ _ (by simp)).trans (heap_alloc_new w _))
    · have := Row.new (w.alloc (rcells n a b)) 9 (List.replicate (2 * n) (Value.string ⟨#[]⟩))
      rw [World.size_alloc, List.toArray_replicate, hN] at this
      rw [hN]
      exact this.alloc _
    · have := Row.new ((w.alloc (rcells n a b)).alloc (.cells (Array.replicate N (Value.string ⟨#[]⟩)) 9)) 4 (List.replicate (2 * n) (Value.bool false))
      rw [World.size_alloc, World.size_alloc, List.toArray_replicate, hN] at this
      rw [hN]
      exact this
    · exact ((((Below.refl _ w).alloc (Nat.le_refl _) _).alloc (by simp) _).alloc (by simp; omega) _).drew
  have hR2 : RW0 n a b w W2 w.heap.size (w.heap.size + 1 + 1) (w.heap.size + 1) := by
    rw [← hW2]
    refine ⟨?_, ?_, ?_, ?_, Nat.le_refl _, by omega, by omega, by omega⟩
    · exact (Below.heap_alloc _ _ _ (by simp; omega)).trans ((Below.heap_alloc _ _ _ (by simp)).trans (heap_alloc_new w _))
    · have := Row.new ((w.alloc (rcells n a b)).alloc (.cells (Array.replicate N (Value.bool false)) 4)) 9 (List.replicate (2 * n) (Value.string ⟨#[]⟩))
      rw [World.size_alloc, World.size_alloc, List.toArray_replicate, hN] at this
      rw [hN]
      exact this
    · have := Row.new (w.alloc (rcells n a b)) 4 (List.replicate (2 * n) (Value.bool false))
      rw [World.size_alloc, List.toArray_replicate, hN] at this
      rw [hN]
      exact this.alloc _
    · exact ((((Below.refl _ w).alloc (Nat.le_refl _) _).alloc (by simp) _).alloc (by simp; omega) _).drew
  have HW1 := Lib.hid hW1
  have HW2 := Lib.hid hW2
  have HR1 := Lib.hid hR1
  have HR2 := Lib.hid hR2
  have HNe := Lib.hid hN
  have HI0 := Lib.hid (BInv.start (a := a) (b := b) hs lprL)
  have HIA : Hid (∀ (L : St) (i : Nat) (p : Nat × List Nat) (c : Nat), BInv n a b s lprL L → L[i]? = some p → c ∈ lprL → BInv n a b s lprL (addL n a b p L c)) := Lib.hid (fun L i p c h hp hc => h.add hk hp hc)
  have HIV : Hid (∀ (L : St) (i : Nat) (p : Nat × List Nat) (ds : List Nat), BInv n a b s lprL L → L[i]? = some p → (∀ c ∈ ds, c ∈ lprL) → BInv n a b s lprL (visit n a b ds p L)) := Lib.hid (fun L i p ds h hp hd => (BInv.visit hk ds h hp hd).1)
  have HSt := Lib.hid (fun t c ht hc => RStep_any n a b t c hk ht hc)
  have HLt := Lib.hid (fun t c (ht : t < 2 * n) => step_lt hk t c ht)
  clear hW1 hW2 hR1 hR2 hN
  go_enter Try.func59, Try.ntmps59
  go_wp2_with fail
  go_region
  all_goals (first
    | (rw [HW1.out]
       have HR0 := HR1
       generalize w.heap.size + 1 + 1 = gm at HR0 ⊢
       generalize w.heap.size + 1 = gw at HR0 ⊢
       generalize W1 = W at HR0 ⊢)
    | (rw [HW2.out]
       have HR0 := HR2
       generalize w.heap.size + 1 + 1 = gw at HR0 ⊢
       generalize w.heap.size + 1 = gm at HR0 ⊢
       generalize W2 = W at HR0 ⊢))
  all_goals (clear HR1 HR2 HW1 HW2 hmkS hmkB c0)
  all_goals (
    have HS0 := Lib.hid (HR0.out.start s)
    have hfr := HR0.out.met.frozen s
    have hcl := HR0.out.met.cell s
    rw [List.getElem?_replicate, if_pos (show s < 2 * n from hs)] at hcl)
  all_goals (
    obtain ⟨lo, hlo⟩ : ∃ lo, W.heap.size = lo := ⟨_, rfl⟩
    have HLo := Lib.hid hlo
    rw [hlo] at HS0
    clear hlo
    go_wp2
    rw [HLo.out]
    clear hfr hcl
    go_loopw [8, 9] (fun v i wr => ∃ (L : St) (k f g cap : Nat), v = .slice (some ⟨g, 0, none⟩) L.length cap ∧ i = .int .i64 k ∧ bfsGo n a b lprL f L k = bfsA n a b s ∧ BInv n a b s lprL L ∧ k ≤ L.length ∧ f + k = 2 * n ∧ RWSt n a b w wr w.heap.size gw gm lo v L) (fun _ i _ => 2 * n - (intOf i).toNat)
    case atStart => exact ⟨[(s, [])], 0, 2 * n, lo, 1, rfl, rfl, rfl, HI0.out, Nat.zero_le _, rfl, HS0.out⟩
    case round =>
      obtain ⟨L, k, f, g, cap, rfl, rfl, hgo, hinv, hkl, hf, hst⟩ := hrel
      have hL := hinv.size
      have HInv := Lib.hid hinv
      have HStt := Lib.hid hst
      by_cases hlt : k < L.length
      · obtain ⟨p, hp⟩ : ∃ p, L[k]? = some p := ⟨_, List.getElem?_eq_getElem hlt⟩
        obtain ⟨f', rfl⟩ : ∃ f', f = f' + 1 := ⟨f - 1, by omega⟩
        rw [bfsGo_step n a b lprL f' L k p hp] at hgo
        have HGo := Lib.hid hgo
        obtain ⟨G, hG⟩ : ∃ G, wr.heap.size = G := ⟨_, rfl⟩
        obtain ⟨W3, hW3⟩ : ∃ W3, wr.alloc letC = W3 := ⟨_, rfl⟩
        have hgG : g ≠ G := by have := (hst.q.lt g rfl).2; omega
        have HS1 : Hid (RWSt n a b w W3 w.heap.size gw gm lo (.slice (some ⟨g, 0, none⟩) L.length cap) L) := Lib.hid (by rw [← hW3]; exact hst.later ((Below.refl _ wr).alloc (Nat.le_refl _) _))
        have HGc : Hid (W3.heap[G]? = some letC) := Lib.hid (by rw [← hW3, ← hG]; exact heap_alloc_new wr _)
        have HlG : Hid (lo ≤ G) := Lib.hid (by have := (hst.q.lt g rfl); omega)
        have HG := Lib.hid hG
        have HW3 := Lib.hid (show wr.alloc (.cells #[.int .u8 76, .int .u8 80, .int .u8 82] 5 (3, 4)) = W3 from hW3)
        clear hgo hinv hst hG hW3
        have hcv := Lib.run_convert_bytes_const (P := Try.prog) wr 86 5 #[.int .u8 76, .int .u8 80, .int .u8 82] 3 3 Try.underlying86 Try.underlying5
        simp only [show (#[Value.int .u8 76, .int .u8 80, .int .u8 82] : Array Value).size = 3 from rfl] at hcv
        go_wp2
        rw [HW3.out, HG.out]
        clear hcv
        go_loopw [8, 35] (fun u j wq => ∃ jj g2 cap2 : Nat, jj ≤ 3 ∧ j = .int .i64 jj ∧ u = .slice (some ⟨g2, 0, none⟩) (visit n a b (lprL.take jj) p L).length cap2 ∧ g2 ≠ G ∧ wq.heap[G]? = some letC ∧ RWSt n a b w wq w.heap.size gw gm lo u (visit n a b (lprL.take jj) p L)) (fun _ j _ => 3 - (intOf j).toNat)
        case atStart => exact ⟨0, g, cap, by omega, rfl, rfl, hgG, HGc.out, HS1.out⟩
        case round =>
          obtain ⟨jj, g2, cap2, hj3, rfl, rfl, hg2, hlc, hst⟩ := hrel
          have hinv2 := HIV.out L k p (lprL.take jj) HInv.out hp (fun c hc => List.mem_of_mem_take hc)
          have hpre := visit_prefix n a b p (lprL.take jj) L
          have hp2 := get_mono hpre hp
          have hm2 := List.mem_of_getElem? hp2
          have hlook := lookL_of_mem hinv2.nodup hm2
          have hpl := hinv2.lt p hm2
          have hplen := hinv2.len k p hp2
          have hL2 := hinv2.size
          have hk2 := (List.getElem?_eq_some_iff.1 hp2).1
          by_cases hjl : jj < 3
          · obtain ⟨f1, f2, f3, f4⟩ := let_facts hjl
            have hlcell := let_cell hlc hjl
            have HT : visit n a b (lprL.take (jj + 1)) p L = addL n a b p (visit n a b (lprL.take jj) p L) (letAt jj) := by rw [f4, visit_snoc]
            have HT' := Lib.hid HT
            have HInv2 := Lib.hid hinv2
            have HLk := Lib.hid hlook
            have HCall := Lib.hid (HSt.out p.1 (letAt jj) hpl f3)
            have hv := HLt.out p.1 (letAt jj) hpl
            have HConv := Lib.hid (conv_let _ f2)
            have HFst := Lib.hid (fst_at hp2)
            have hqc := (hst.q.cellAt k (by omega)).trans HFst.out
            obtain ⟨c0, c1, c2⟩ := hst.cells
            have HStt2 := Lib.hid hst
            have HLc := Lib.hid hlc
            have hAdd : Hid (addL n a b p (visit n a b (lprL.take jj) p L) (letAt jj) = if hasK (visit n a b (lprL.take jj) p L) (stepN n a b p.1 (letAt jj)) = true then visit n a b (lprL.take jj) p L else visit n a b (lprL.take jj) p L ++ [(stepN n a b p.1 (letAt jj), p.2 ++ [letAt jj])]) := Lib.hid rfl
            clear hinv2 hpre hm2 hlook hst hlc HT f1 f2 f4 hp2
            generalize addL n a b p (visit n a b (lprL.take jj) p L) (letAt jj) = L3 at HT' hAdd
            generalize visit n a b (lprL.take jj) p L = L2 at *
            generalize stepN n a b p.1 (letAt jj) = tt at *
            generalize letAt jj = cc at *
            have hmt : tt < N := by have := HNe.out; omega
            have hpN : p.1 < N := by have := HNe.out; omega
            go_wp2_with fail
            refine region_calm hmx (by kernel_rfl) ?_
            intro S hSn f hS1 hS2
            have l0 : ∀ z, (f z).cell? ⟨w.heap.size, 0, none⟩ = some (.int .i64 n) := fun z => cell_later (hS1 z) c0
            have l1 : ∀ z, (f z).cell? ⟨w.heap.size, 1, none⟩ = some (.int .i64 a) := fun z => cell_later (hS1 z) c1
            have l2 : ∀ z, (f z).cell? ⟨w.heap.size, 2, none⟩ = some (.int .i64 b) := fun z => cell_later (hS1 z) c2
            have l3 : ∀ z, (f z).cell? ⟨g2, k, none⟩ = some (.int .i64 p.1) := fun z => cell_later (hS1 z) hqc
            have hC1 := Lib.hid (calm_call hS1 hS2 (fun z => HCall.out (f z)))
            repeat (go_big_quiet_step (exact hC1.out _))
            refine wpQuiet_nil ?_
            rintro _ ⟨z, rfl⟩
            have hst3 := HStt2.out.later (hS1 z)
            have hlc3 : (f z).heap[G]? = some letC := ((hS1 z).block G (Array.getElem?_eq_some_iff.1 HLc.out).1).trans HLc.out
            generalize f z = w3 at hst3 hlc3
            have hcm := (hst3.met.cell tt).trans (metC_get _ hv)
            have HSt3 := Lib.hid hst3
            have HLc3 := Lib.hid hlc3
            clear l0 l1 l2 l3 hC1 hS1 hS2 c0 c1 c2 hqc hst3 hlc3
            try dsimp only [Exit.then]
            cases hh : hasK L2 tt
            · rw [hh] at hcm
              have hst3 := HSt3.out
              have hg2lo : lo ≤ g2 := (hst3.q.lt g2 rfl).1
              have hgm := hst3.h6
              have hgw := hst3.h5
              have hne := hst3.h4
              have hl3 := hst3.q.lt g2 rfl
              have HE3 := Lib.hid (show L3 = L2 ++ [(tt, p.2 ++ [cc])] by rw [hAdd.out, hh]; rfl)
              have hfm := hst3.met.frozen tt
              have hway := hst3.way.other (i := tt) hne (.bool true)
              have hqa : (w3.setCell ⟨gm, tt, none⟩ (.bool true)).cell? ⟨g2, k, none⟩ = some (.int .i64 p.1) := cell_set_other ((hst3.q.cellAt k (by omega)).trans HFst.out) (by simp; omega)
              have hwa : (w3.setCell ⟨gm, tt, none⟩ (.bool true)).cell? ⟨gw, p.1, none⟩ = some (.string (strOf p.2)) := by
                rw [hway.cell, wayC_get _ hpl, HLk.out]; rfl
              have hta := (hway.cell tt).trans (wayC_get _ hv)
              have hfa := hway.frozen tt
              have hO : ((w3.setCell ⟨gm, tt, none⟩ (.bool true)).setCell ⟨gw, tt, none⟩ (.string (strOf p.2 ++ strOf [cc]))).ownsRow lo 3 1 (.slice (some ⟨g2, 0, none⟩) L2.length cap2) L2.length (ints (L2.map Prod.fst)) := own_other (own_other hst3.q hgm tt _) hgw tt _
              have HO := Lib.hid hO
              have hcv2 := HConv.out (w3.setCell ⟨gm, tt, none⟩ (.bool true))
              have hz1 : (strOf p.2).size ≤ 1000 := by rw [strOf_size]; omega
              have hz2 : (strOf [cc]).size = 1 := strOf_size _
              have HHh := Lib.hid hh
              have hs3 : lo ≤ w3.heap.size := by omega
              have hGg : g2 ≠ G := hg2
              have hG3 : G < w3.heap.size := (Array.getElem?_eq_some_iff.1 HLc3.out).1
              have hcn := cell_one_new ((w3.setCell ⟨gm, tt, none⟩ (.bool true)).setCell ⟨gw, tt, none⟩ (.string (strOf p.2 ++ strOf [cc]))) (.int .i64 (tt : Int)) 3
              have hsz : ((w3.setCell ⟨gm, tt, none⟩ (.bool true)).setCell ⟨gw, tt, none⟩ (.string (strOf p.2 ++ strOf [cc]))).heap.size = w3.heap.size := by simp [World.setCell]
              rw [hsz] at hcn
              have HCn := Lib.hid hcn
              have HSz := Lib.hid hsz
              clear hst3 hway hO hh hcn hsz
              go_wp2_with (at_builtin; refine wpList_append_own_at _ rfl _ _ 40 rfl lo 3 i0 (.int .i64 0) 1 8 Try.underlying40 hi hz0 hz1' hz2' rfl (by decide) _ _ _ rfl (HO.out.alloc _) ⟨w3.heap.size, 0, none⟩ 1 1 [.int .i64 tt] rfl rfl HCn.out (by simp [Value.oneCell']) (by unfold maxLen; omega) (by omega) (by rw [World.size_alloc, HSz.out]; omega) ?_; intro v' w4 hown1 hgrow1 hnil1 hob1)
              have hgr := hgrow1
              rw [← strOf_append] at hgr
              have HPush := Lib.hid (HSt3.out.push (tt, p.2 ++ [cc]) HHh.out _ hown1 hgr)
              have HG4 : Hid (w4.heap[G]? = some letC) := Lib.hid (by
                have := HlG.out
                refine (hgrow1.block G (by rw [World.size_alloc, HSz.out]; omega) (fun e => hGg (Option.some.inj e).symm)).trans ?_
                refine (Below.heap_alloc _ _ G (by rw [HSz.out]; omega)).trans ?_
                refine (Below.heap_setCell _ ⟨gw, tt, none⟩ _ G (by simp; omega)).trans ?_
                exact (Below.heap_setCell _ ⟨gm, tt, none⟩ _ G (by simp; omega)).trans HLc3.out)
              obtain ⟨_, ⟨h7, h8⟩ | ⟨g4, cap4, cur4, rfl, _⟩⟩ := hown1
              · omega
              · have hg4 : g4 ≠ G := by
                  rcases hob1 with e | e
                  · have e' : g4 = g2 := Option.some.inj e
                    omega
                  · have e' := Option.some.inj e
                    rw [World.size_alloc, HSz.out] at e'
                    have e2 : g4 = w3.heap.size + 1 := e'
                    omega
                clear hgr hgrow1 hob1 hnil1
                go_roundw
                case rel => exact ⟨jj + 1, g4, cap4, by omega, by go_num, by rw [HT'.out, HE3.out, List.length_append]; rfl, hg4, HG4.out, by rw [HT'.out, HE3.out]; exact HPush.out⟩
                case measure => simp [intOf]; omega
            · rw [hh] at hcm
              have HE3 := Lib.hid (show L3 = L2 by rw [hAdd.out, hh]; rfl)
              clear hh
              go_wp2
              refine ⟨?_, by simp [intOf]; omega⟩
              exact ⟨jj + 1, g2, cap2, by omega, by go_num, by rw [HT'.out, HE3.out], hg2, HLc3.out, by rw [HT'.out, HE3.out]; exact HSt3.out⟩
          · obtain rfl : jj = 3 := by omega
            have e3 : lprL.take 3 = lprL := rfl
            rw [e3] at hst hinv2 hL2 hk2
            have HF1 := Lib.hid hst
            have HF2 := Lib.hid hinv2
            clear hst hinv2 hlook hp2 hpre hm2 hlc
            simp only [e3]
            generalize visit n a b lprL p L = L2 at *
            go_wp2
            refine ⟨⟨L2, k + 1, f', g2, cap2, rfl, by go_num, HGo.out, HF2.out, by omega, by omega, HF1.out⟩, ?_⟩
            simp [intOf]; omega
      · have hgo' : L = bfsA n a b s := by rw [← hgo, bfsGo_end _ _ _ _ _ _ _ (by omega)]
        have HF := Lib.hid hst
        have HE := Lib.hid hgo'
        clear hgo hgo' hinv hst
        go_wp2
        go_ret2
        refine ⟨gw, gm, by rw [HNe.out]; rfl, ?_, ?_, HF.out.below⟩
        · rw [← HE.out]; exact HF.out.way
        · rw [← HE.out]; exact HF.out.met)
end Go.Proofs.Ytibkhjbcagihbaa

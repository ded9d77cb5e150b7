/-
  The statement on the lines that are near to one: the walk.
-/
import Derived.Test.YtkpmkeklopfhdaaEdRWithin
import Derived.Test.YtkpmkeklopfhdaaEdNearLaw
namespace Go.Proofs.Ytkpmkeklopfhdaa
open Go.ChangeShapes Go.WideShapes Go.ChangeAt Go.RowKit Go.Shelf
attribute [local go_sem] Oper.semAt_some
set_option linter.unusedVariables false
set_option maxRecDepth 100000

theorem info_strE : (Try.prog.info? 9).map (fun i => (i.zero, i.size, i.bytes)) = some (some (.string ⟨#[]⟩), 1, 16) := by kernel_rfl
/-- Two rows of one's own that hold the same. -/
theorem equal_own {W : World} {lo lo' : Nat} {v v' : Value} {xs : List Nat} (h : W.ownsRow lo 3 1 v xs.length (ints xs)) (h' : W.ownsRow lo' 3 1 v' xs.length (ints xs)) (hl : xs.length ≤ 4096) :
    Calls Try.prog 51 #[v, v'] W fun e w' => e = .returned (.bool true) ∧ ∃ q, w' = W.drewN q := by
  rcases Nat.eq_zero_or_pos xs.length with h0 | h0
  · obtain ⟨ao, cap, rfl⟩ := own_slice h
    obtain ⟨ao', cap', rfl⟩ := own_slice h'
    rw [h0]
    exact (Try.slices_Equal_int_empty ao ao' cap 0 cap' W (by omega)).mono fun e w' ⟨h1, h2⟩ => ⟨h1, 0, h2⟩
  · have hz : (xs.map (fun n : Nat => (n : Int))).length = xs.length := by simp
    rcases own_cells h with ⟨_, e⟩ | ⟨g, cap, rfl, hc⟩
    · rw [e] at h0; simp at h0
    rcases own_cells h' with ⟨_, e⟩ | ⟨g', cap', rfl, hc'⟩
    · rw [e] at h0; simp at h0
    refine (Try.slices_Equal_int g 0 xs.length cap g' 0 xs.length cap' (xs.map (fun n : Nat => (n : Int))) (xs.map (fun n : Nat => (n : Int))) W (by omega) (by omega) (by omega) (by omega) (fun j hj => ?_) (fun j hj => ?_)).mono fun e w' ⟨h1, h2⟩ => ⟨by rw [h1, beq_self_eq_true], h2⟩
    · rw [hz] at hj; rw [Nat.zero_add, hc j hj]; simp [List.getD_eq_getElem?_getD, hj]
    · rw [hz] at hj; rw [Nat.zero_add, hc' j hj]; simp [List.getD_eq_getElem?_getD, hj]

/-- The first lines of a list, the beginning of each. -/
def fewL (ss : List ByteArray) (k : Nat) : List ByteArray := (ss.take (min k 23)).map fun s => s.extract 0 16
theorem fewL_len {ss : List ByteArray} {k : Nat} (h : k ≤ ss.length) : (fewL ss k).length = min k 23 := by unfold fewL; rw [List.length_map, List.length_take]; omega
theorem fewL_more {ss : List ByteArray} {k : Nat} (h : k < ss.length) (h2 : k < 23) : fewL ss (k + 1) = fewL ss k ++ [(strAt ss k).extract 0 16] := by
  unfold fewL strAt
  rw [Nat.min_eq_left (by omega), Nat.min_eq_left (by omega), List.take_succ_eq_append_getElem h, List.map_append, List.getElem?_eq_getElem h]
  rfl
theorem fewL_same {ss : List ByteArray} {k : Nat} (h2 : ¬ k < 23) : fewL ss (k + 1) = fewL ss k := by
  unfold fewL; rw [Nat.min_eq_right (by omega), Nat.min_eq_right (by omega)]
theorem fewL_good {a : ByteArray} {pi po ps most : Int} {ss : List ByteArray} : wgood (a.extract 0 16) pi po ps most (fewL ss ss.length) ↔ wgood a pi po ps most ss := by
  have hln := fewL_len (Nat.le_refl ss.length)
  unfold wgood
  rw [text_line, hln]
  have key : ss.length ≤ 20 → ((fewL ss ss.length).all lineB = ss.all lineB) := fun h => by
    unfold fewL
    rw [Nat.min_eq_left (by omega), List.take_length, List.all_map]
    congr 1
    funext s
    exact text_line s
  constructor
  · rintro ⟨h1, h2, h3, h4, h5, h6⟩
    have h7 : ss.length ≤ 20 := by omega
    exact ⟨h1, h2, h3, h4, h7, by rw [← key h7]; exact h6⟩
  · rintro ⟨h1, h2, h3, h4, h5, h6⟩
    exact ⟨h1, h2, h3, h4, by omega, by rw [key h5]; exact h6⟩
theorem fewL_id {ss : List ByteArray} (h : ss.length ≤ 20) (h2 : ss.all lineB = true) : fewL ss ss.length = ss := by
  unfold fewL
  rw [Nat.min_eq_left (by omega), List.take_length]
  have : ss.map (fun s => s.extract 0 16) = ss.map id := List.map_congr_left (fun s hs => text_id (List.all_eq_true.1 h2 s hs))
  rw [this, List.map_id]

set_option maxHeartbeats 4000000 in
theorem EditsWithin_b1 (a : ByteArray) (pi po ps most : Int) (ss : List ByteArray) (v : Value) (g1 : lineB a = false) (hl : ss.length ≤ maxLen) (w : World) (hv : StrsV w v ss) :
    Calls Try.prog 9 #[.string a, pv pi po ps, .int .i64 most, v] w fun e w' => e = .returned (.bool true) ∧ Below w.heap.size w w' := by
  obtain ⟨i0, hi, hz0, hz1, hz2⟩ := info_parts info_strE
  have hl9 := hl
  unfold maxLen at hl9
  have HAw := Lib.hid (fun W => awake_any W)
  have H1 := Lib.hid (fun W => RLine_any a W)
  have H2 := Lib.hid (fun W => RValid_any pi po ps W)
  have H3 := Lib.hid (fun W hV => RList_any ss hl v W hV)
  have HO := Lib.hid (fun W => Of_any pi po ps W)
  have HW := Lib.hid (fun v1 W hV => Within_bad (a.extract 0 16) pi po ps most (fewL ss ss.length) v1 (fun h => (fun h => by have h1 := h.1; rw [g1] at h1; cases h1) (fewL_good.1 h)) (by rw [fewL_len (Nat.le_refl _)]; unfold maxLen; omega) W hV)
  rw [g1] at H1
  clear g1 H2 H3
  obtain ⟨W0, hW0⟩ : ∃ W0, w.alloc (.cells #[.int .i64 pi, .int .i64 po, .int .i64 ps] 23) = W0 := ⟨_, rfl⟩
  have hB0 : Below w.heap.size w W0 := by rw [← hW0]; exact bl_al (Below.refl _ w) _
  have p0 : W0.cell? ⟨w.heap.size, 0, none⟩ = some (.int .i64 pi) := by rw [← hW0]; simp
  have p1 : W0.cell? ⟨w.heap.size, 1, none⟩ = some (.int .i64 po) := by rw [← hW0]; simp
  have p2 : W0.cell? ⟨w.heap.size, 2, none⟩ = some (.int .i64 ps) := by rw [← hW0]; simp
  have HB0 := Lib.hid hB0
  clear hB0
  have HV := Lib.hid hv
  obtain ⟨ao, cap, rfl, hlc, hd⟩ := hv
  have HD := Lib.hid hd
  clear hd
  obtain ⟨L, hL⟩ : ∃ L, W0.heap.size = L := ⟨_, rfl⟩
  have HL := Lib.hid hL
  have hbL : Below L W0 W0 := Below.refl _ _
  have hown0 : W0.ownsRow L 9 1 (.slice none 0 0) (fewL ss 0).length ((fewL ss 0).map Value.string) := ⟨rfl, Or.inl ⟨rfl, rfl⟩⟩
  clear hL
  go_enter Try.func9, Try.ntmps9
  go_wp2_with fail
  try rw [hW0]
  clear hW0
  go_loopw [9, 10, 11, 16] (fun nv _ _ i wr => ∃ k : Nat, k ≤ ss.length ∧ i = .int .i64 k ∧ wr.ownsRow L 9 1 nv (fewL ss k).length ((fewL ss k).map Value.string) ∧ Below L W0 wr) (fun _ _ _ i _ => ss.length - (intOf i).toNat)
  case atStart => exact ⟨0, Nat.zero_le _, rfl, hown0, hbL⟩
  case round =>
    obtain ⟨k, hk, rfl, hown, hB⟩ := hrel
    by_cases hkl : k < ss.length
    · obtain ⟨b, off, rfl, hdd⟩ := HD.out (by omega)
      have c0 := hdd k hkl
      have hBw := Lib.hid (HB0.out.trans (hB.mono (by have := HB0.out.size; have := HL.out; omega)) : Below w.heap.size w wr)
      have ck := cell_later hBw.out c0
      rw [show ss[k]?.getD { data := #[] } = strAt ss k from rfl] at ck
      have hsz : L ≤ wr.heap.size := by have := hB.size; have := HL.out; omega
      have HTk := Lib.hid (text_any (strAt ss k) wr)
      have hmr := fewL_more (ss := ss) hkl
      have hfl := fewL_len (Nat.le_of_lt hkl)
      have hB2 := Lib.hid hB
      have ho' := Lib.hid hown
      generalize strAt ss k = sk at ck HTk hmr
      generalize sk.extract 0 16 = tk at HTk hmr
      clear hdd c0 hB hown
      by_cases h23 : k < 23
      · have HYk := Lib.hid (hmr h23)
        have hd1 : decide ((k : Int) < 23) = true := decide_eq_true (by omega)
        have hfl2 : (fewL ss k).length ≤ 23 := by omega
        clear hmr hfl
        go_wp2_with fail
        refine HTk.out.mono ?_
        rintro e w2 ⟨rfl, rfl⟩
        go_wp2_with (at_builtin; refine wpList_append_own _ rfl _ _ 68 rfl L 9 i0 (.string ⟨#[]⟩) 1 16 Try.underlying68 hi hz0 hz1 hz2 rfl (by decide) _ _ _ rfl (ho'.out.alloc _) ⟨wr.heap.size, 0, none⟩ 1 1 [.string tk] rfl rfl (cell_one_newE _ _ _) (by simp [Value.oneCell']) (by unfold maxLen; omega) (by omega) (by simp; omega) ?_; intro v' w1 hown1 hgrow1 hnil1)
        go_wp2
        go_roundw
        case rel => exact ⟨k + 1, by omega, by go_num, by rw [HYk.out]; simp only [List.length_append, List.length_singleton, List.map_append, List.map_cons, List.map_nil]; exact hown1, ((hB2.out).alloc (by omega) _).grown hgrow1 (by simp; omega) (fun q e => (ho'.out.lt q e).1)⟩
        case measure => simp only [intOf]; omega
      · have HSk := Lib.hid (fewL_same (ss := ss) h23)
        have hd1 : decide ((k : Int) < 23) = false := decide_eq_false (by omega)
        clear hmr hfl
        go_wp2
        go_roundw
        case rel => exact ⟨k + 1, by omega, by go_num, by rw [HSk.out]; exact ho'.out, hB2.out⟩
        case measure => simp only [intOf]; omega
    · obtain rfl : k = ss.length := by omega
      have Hs := Lib.hid (strs_own (ss := fewL ss ss.length) rfl hown)
      have hB1 : Below W0.heap.size W0 wr := by rw [HL.out]; exact hB
      replace p0 := cell_later hB1 p0
      replace p1 := cell_later hB1 p1
      replace p2 := cell_later hB1 p2
      have HBw := Lib.hid (HB0.out.trans (hB1.mono HB0.out.size) : Below w.heap.size w wr)
      have HVw := Lib.hid (HV.out.later HBw.out)
      obtain ⟨fao, fcap, rfl, _, _⟩ := Hs.out
      clear hown hB hB1 HD HB0 HL
      have HK := Lib.hid (fun W (hb : Below wr.heap.size wr W) => (⟨hb, cell_later hb p0, cell_later hb p1, cell_later hb p2⟩ : Below wr.heap.size wr W ∧ W.cell? ⟨w.heap.size, 0, none⟩ = some (.int .i64 pi) ∧ W.cell? ⟨w.heap.size, 1, none⟩ = some (.int .i64 po) ∧ W.cell? ⟨w.heap.size, 2, none⟩ = some (.int .i64 ps)))
      have HTa := Lib.hid (fun W => text_any a W)
      obtain ⟨G, hG⟩ : ∃ G, w.heap.size = G := ⟨_, rfl⟩
      rw [hG] at HK
      go_wp2_with fail
      try rw [hG]
      go_region_held3 (fun W => Below wr.heap.size wr W ∧ W.cell? ⟨G, 0, none⟩ = some (.int .i64 pi) ∧ W.cell? ⟨G, 1, none⟩ = some (.int .i64 po) ∧ W.cell? ⟨G, 2, none⟩ = some (.int .i64 ps)) (first | assumption | (refine HK.out _ ?_; repeat (first | assumption | exact (Below.refl _ _).drew | exact Below.refl _ _ | refine bl_dr ?_ | refine bl_al ?_ _ | (refine below_nx ?_ (by assumption))))) (first | (go_at_call 19; refine (HTa.out _).mono ?_; rintro e w1 ⟨rfl, rfl⟩) | (go_at_call 20; refine (HO.out _).mono ?_; rintro e w2 ⟨rfl, b2⟩) | (go_at_call 48; refine (HW.out _ _ (Hs.out.later (by first | assumption | exact below_nx (Below.refl _ _).drew (by assumption) | exact (‹Below wr.heap.size wr _ ∧ _›).1))).mono ?_; rintro e w3 ⟨rfl, b3⟩))
      all_goals
        have hS := ‹Below wr.heap.size wr _ ∧ _›
        obtain ⟨hB2, q0, q1, q2⟩ := hS
        have HB2 := Lib.hid (HBw.out.trans (hB2.mono HBw.out.size))
        clear hB2
        try dsimp only [Exit.then]
        go_wp2_with fail
        refine (H1.out _).mono ?_
        rintro e u1 ⟨rfl, rfl⟩
        go_wp2_with fail
        refine (HAw.out _).mono ?_
        rintro e uz ⟨rfl, bz⟩
        go_wp2
        go_ret
        exact ⟨rfl, below_nx HB2.out bz⟩

set_option maxHeartbeats 4000000 in
theorem EditsWithin_b2 (a : ByteArray) (pi po ps most : Int) (ss : List ByteArray) (v : Value) (g1 : lineB a = true) (g2 : pricedB pi po ps = false) (hl : ss.length ≤ maxLen) (w : World) (hv : StrsV w v ss) :
    Calls Try.prog 9 #[.string a, pv pi po ps, .int .i64 most, v] w fun e w' => e = .returned (.bool true) ∧ Below w.heap.size w w' := by
  obtain ⟨i0, hi, hz0, hz1, hz2⟩ := info_parts info_strE
  have hl9 := hl
  unfold maxLen at hl9
  have HAw := Lib.hid (fun W => awake_any W)
  have H1 := Lib.hid (fun W => RLine_any a W)
  have H2 := Lib.hid (fun W => RValid_any pi po ps W)
  have H3 := Lib.hid (fun W hV => RList_any ss hl v W hV)
  have HO := Lib.hid (fun W => Of_any pi po ps W)
  have HW := Lib.hid (fun v1 W hV => Within_bad (a.extract 0 16) pi po ps most (fewL ss ss.length) v1 (fun h => (fun h => by have h1 := h.2.1; rw [g2] at h1; cases h1) (fewL_good.1 h)) (by rw [fewL_len (Nat.le_refl _)]; unfold maxLen; omega) W hV)
  rw [g1] at H1
  rw [g2] at H2
  clear g1 g2 H3
  obtain ⟨W0, hW0⟩ : ∃ W0, w.alloc (.cells #[.int .i64 pi, .int .i64 po, .int .i64 ps] 23) = W0 := ⟨_, rfl⟩
  have hB0 : Below w.heap.size w W0 := by rw [← hW0]; exact bl_al (Below.refl _ w) _
  have p0 : W0.cell? ⟨w.heap.size, 0, none⟩ = some (.int .i64 pi) := by rw [← hW0]; simp
  have p1 : W0.cell? ⟨w.heap.size, 1, none⟩ = some (.int .i64 po) := by rw [← hW0]; simp
  have p2 : W0.cell? ⟨w.heap.size, 2, none⟩ = some (.int .i64 ps) := by rw [← hW0]; simp
  have HB0 := Lib.hid hB0
  clear hB0
  have HV := Lib.hid hv
  obtain ⟨ao, cap, rfl, hlc, hd⟩ := hv
  have HD := Lib.hid hd
  clear hd
  obtain ⟨L, hL⟩ : ∃ L, W0.heap.size = L := ⟨_, rfl⟩
  have HL := Lib.hid hL
  have hbL : Below L W0 W0 := Below.refl _ _
  have hown0 : W0.ownsRow L 9 1 (.slice none 0 0) (fewL ss 0).length ((fewL ss 0).map Value.string) := ⟨rfl, Or.inl ⟨rfl, rfl⟩⟩
  clear hL
  go_enter Try.func9, Try.ntmps9
  go_wp2_with fail
  try rw [hW0]
  clear hW0
  go_loopw [9, 10, 11, 16] (fun nv _ _ i wr => ∃ k : Nat, k ≤ ss.length ∧ i = .int .i64 k ∧ wr.ownsRow L 9 1 nv (fewL ss k).length ((fewL ss k).map Value.string) ∧ Below L W0 wr) (fun _ _ _ i _ => ss.length - (intOf i).toNat)
  case atStart => exact ⟨0, Nat.zero_le _, rfl, hown0, hbL⟩
  case round =>
    obtain ⟨k, hk, rfl, hown, hB⟩ := hrel
    by_cases hkl : k < ss.length
    · obtain ⟨b, off, rfl, hdd⟩ := HD.out (by omega)
      have c0 := hdd k hkl
      have hBw := Lib.hid (HB0.out.trans (hB.mono (by have := HB0.out.size; have := HL.out; omega)) : Below w.heap.size w wr)
      have ck := cell_later hBw.out c0
      rw [show ss[k]?.getD { data := #[] } = strAt ss k from rfl] at ck
      have hsz : L ≤ wr.heap.size := by have := hB.size; have := HL.out; omega
      have HTk := Lib.hid (text_any (strAt ss k) wr)
      have hmr := fewL_more (ss := ss) hkl
      have hfl := fewL_len (Nat.le_of_lt hkl)
      have hB2 := Lib.hid hB
      have ho' := Lib.hid hown
      generalize strAt ss k = sk at ck HTk hmr
      generalize sk.extract 0 16 = tk at HTk hmr
      clear hdd c0 hB hown
      by_cases h23 : k < 23
      · have HYk := Lib.hid (hmr h23)
        have hd1 : decide ((k : Int) < 23) = true := decide_eq_true (by omega)
        have hfl2 : (fewL ss k).length ≤ 23 := by omega
        clear hmr hfl
        go_wp2_with fail
        refine HTk.out.mono ?_
        rintro e w2 ⟨rfl, rfl⟩
        go_wp2_with (at_builtin; refine wpList_append_own _ rfl _ _ 68 rfl L 9 i0 (.string ⟨#[]⟩) 1 16 Try.underlying68 hi hz0 hz1 hz2 rfl (by decide) _ _ _ rfl (ho'.out.alloc _) ⟨wr.heap.size, 0, none⟩ 1 1 [.string tk] rfl rfl (cell_one_newE _ _ _) (by simp [Value.oneCell']) (by unfold maxLen; omega) (by omega) (by simp; omega) ?_; intro v' w1 hown1 hgrow1 hnil1)
        go_wp2
        go_roundw
        case rel => exact ⟨k + 1, by omega, by go_num, by rw [HYk.out]; simp only [List.length_append, List.length_singleton, List.map_append, List.map_cons, List.map_nil]; exact hown1, ((hB2.out).alloc (by omega) _).grown hgrow1 (by simp; omega) (fun q e => (ho'.out.lt q e).1)⟩
        case measure => simp only [intOf]; omega
      · have HSk := Lib.hid (fewL_same (ss := ss) h23)
        have hd1 : decide ((k : Int) < 23) = false := decide_eq_false (by omega)
        clear hmr hfl
        go_wp2
        go_roundw
        case rel => exact ⟨k + 1, by omega, by go_num, by rw [HSk.out]; exact ho'.out, hB2.out⟩
        case measure => simp only [intOf]; omega
    · obtain rfl : k = ss.length := by omega
      have Hs := Lib.hid (strs_own (ss := fewL ss ss.length) rfl hown)
      have hB1 : Below W0.heap.size W0 wr := by rw [HL.out]; exact hB
      replace p0 := cell_later hB1 p0
      replace p1 := cell_later hB1 p1
      replace p2 := cell_later hB1 p2
      have HBw := Lib.hid (HB0.out.trans (hB1.mono HB0.out.size) : Below w.heap.size w wr)
      have HVw := Lib.hid (HV.out.later HBw.out)
      obtain ⟨fao, fcap, rfl, _, _⟩ := Hs.out
      clear hown hB hB1 HD HB0 HL
      have HK := Lib.hid (fun W (hb : Below wr.heap.size wr W) => (⟨hb, cell_later hb p0, cell_later hb p1, cell_later hb p2⟩ : Below wr.heap.size wr W ∧ W.cell? ⟨w.heap.size, 0, none⟩ = some (.int .i64 pi) ∧ W.cell? ⟨w.heap.size, 1, none⟩ = some (.int .i64 po) ∧ W.cell? ⟨w.heap.size, 2, none⟩ = some (.int .i64 ps)))
      have HTa := Lib.hid (fun W => text_any a W)
      obtain ⟨G, hG⟩ : ∃ G, w.heap.size = G := ⟨_, rfl⟩
      rw [hG] at HK
      go_wp2_with fail
      try rw [hG]
      go_region_held3 (fun W => Below wr.heap.size wr W ∧ W.cell? ⟨G, 0, none⟩ = some (.int .i64 pi) ∧ W.cell? ⟨G, 1, none⟩ = some (.int .i64 po) ∧ W.cell? ⟨G, 2, none⟩ = some (.int .i64 ps)) (first | assumption | (refine HK.out _ ?_; repeat (first | assumption | exact (Below.refl _ _).drew | exact Below.refl _ _ | refine bl_dr ?_ | refine bl_al ?_ _ | (refine below_nx ?_ (by assumption))))) (first | (go_at_call 19; refine (HTa.out _).mono ?_; rintro e w1 ⟨rfl, rfl⟩) | (go_at_call 20; refine (HO.out _).mono ?_; rintro e w2 ⟨rfl, b2⟩) | (go_at_call 48; refine (HW.out _ _ (Hs.out.later (by first | assumption | exact below_nx (Below.refl _ _).drew (by assumption) | exact (‹Below wr.heap.size wr _ ∧ _›).1))).mono ?_; rintro e w3 ⟨rfl, b3⟩))
      all_goals
        have hS := ‹Below wr.heap.size wr _ ∧ _›
        obtain ⟨hB2, q0, q1, q2⟩ := hS
        have HB2 := Lib.hid (HBw.out.trans (hB2.mono HBw.out.size))
        clear hB2
        try dsimp only [Exit.then]
        go_wp2_with fail
        refine (H1.out _).mono ?_
        rintro e u1 ⟨rfl, rfl⟩
        go_wp2_with fail
        refine (H2.out _).mono ?_
        rintro e u2 ⟨rfl, b2⟩
        replace q0 := cell_later b2 q0
        replace q1 := cell_later b2 q1
        replace q2 := cell_later b2 q2
        have B2 := Lib.hid (below_nx HB2.out b2)
        clear b2
        go_wp2_with fail
        refine (HAw.out _).mono ?_
        rintro e uz ⟨rfl, bz⟩
        go_wp2
        go_ret
        exact ⟨rfl, below_nx B2.out bz⟩

set_option maxHeartbeats 4000000 in
theorem EditsWithin_b3 (a : ByteArray) (pi po ps most : Int) (ss : List ByteArray) (v : Value) (g1 : lineB a = true) (g2 : pricedB pi po ps = true) (g3 : most < 0) (hl : ss.length ≤ maxLen) (w : World) (hv : StrsV w v ss) :
    Calls Try.prog 9 #[.string a, pv pi po ps, .int .i64 most, v] w fun e w' => e = .returned (.bool true) ∧ Below w.heap.size w w' := by
  obtain ⟨i0, hi, hz0, hz1, hz2⟩ := info_parts info_strE
  have hl9 := hl
  unfold maxLen at hl9
  have HAw := Lib.hid (fun W => awake_any W)
  have H1 := Lib.hid (fun W => RLine_any a W)
  have H2 := Lib.hid (fun W => RValid_any pi po ps W)
  have H3 := Lib.hid (fun W hV => RList_any ss hl v W hV)
  have HO := Lib.hid (fun W => Of_any pi po ps W)
  have HW := Lib.hid (fun v1 W hV => Within_bad (a.extract 0 16) pi po ps most (fewL ss ss.length) v1 (fun h => (fun h => absurd h.2.2.1 (by omega)) (fewL_good.1 h)) (by rw [fewL_len (Nat.le_refl _)]; unfold maxLen; omega) W hV)
  rw [g1] at H1
  rw [g2] at H2
  clear g1 g2 H3
  obtain ⟨W0, hW0⟩ : ∃ W0, w.alloc (.cells #[.int .i64 pi, .int .i64 po, .int .i64 ps] 23) = W0 := ⟨_, rfl⟩
  have hB0 : Below w.heap.size w W0 := by rw [← hW0]; exact bl_al (Below.refl _ w) _
  have p0 : W0.cell? ⟨w.heap.size, 0, none⟩ = some (.int .i64 pi) := by rw [← hW0]; simp
  have p1 : W0.cell? ⟨w.heap.size, 1, none⟩ = some (.int .i64 po) := by rw [← hW0]; simp
  have p2 : W0.cell? ⟨w.heap.size, 2, none⟩ = some (.int .i64 ps) := by rw [← hW0]; simp
  have HB0 := Lib.hid hB0
  clear hB0
  have HV := Lib.hid hv
  obtain ⟨ao, cap, rfl, hlc, hd⟩ := hv
  have HD := Lib.hid hd
  clear hd
  obtain ⟨L, hL⟩ : ∃ L, W0.heap.size = L := ⟨_, rfl⟩
  have HL := Lib.hid hL
  have hbL : Below L W0 W0 := Below.refl _ _
  have hown0 : W0.ownsRow L 9 1 (.slice none 0 0) (fewL ss 0).length ((fewL ss 0).map Value.string) := ⟨rfl, Or.inl ⟨rfl, rfl⟩⟩
  clear hL
  go_enter Try.func9, Try.ntmps9
  go_wp2_with fail
  try rw [hW0]
  clear hW0
  go_loopw [9, 10, 11, 16] (fun nv _ _ i wr => ∃ k : Nat, k ≤ ss.length ∧ i = .int .i64 k ∧ wr.ownsRow L 9 1 nv (fewL ss k).length ((fewL ss k).map Value.string) ∧ Below L W0 wr) (fun _ _ _ i _ => ss.length - (intOf i).toNat)
  case atStart => exact ⟨0, Nat.zero_le _, rfl, hown0, hbL⟩
  case round =>
    obtain ⟨k, hk, rfl, hown, hB⟩ := hrel
    by_cases hkl : k < ss.length
    · obtain ⟨b, off, rfl, hdd⟩ := HD.out (by omega)
      have c0 := hdd k hkl
      have hBw := Lib.hid (HB0.out.trans (hB.mono (by have := HB0.out.size; have := HL.out; omega)) : Below w.heap.size w wr)
      have ck := cell_later hBw.out c0
      rw [show ss[k]?.getD { data := #[] } = strAt ss k from rfl] at ck
      have hsz : L ≤ wr.heap.size := by have := hB.size; have := HL.out; omega
      have HTk := Lib.hid (text_any (strAt ss k) wr)
      have hmr := fewL_more (ss := ss) hkl
      have hfl := fewL_len (Nat.le_of_lt hkl)
      have hB2 := Lib.hid hB
      have ho' := Lib.hid hown
      generalize strAt ss k = sk at ck HTk hmr
      generalize sk.extract 0 16 = tk at HTk hmr
      clear hdd c0 hB hown
      by_cases h23 : k < 23
      · have HYk := Lib.hid (hmr h23)
        have hd1 : decide ((k : Int) < 23) = true := decide_eq_true (by omega)
        have hfl2 : (fewL ss k).length ≤ 23 := by omega
        clear hmr hfl
        go_wp2_with fail
        refine HTk.out.mono ?_
        rintro e w2 ⟨rfl, rfl⟩
        go_wp2_with (at_builtin; refine wpList_append_own _ rfl _ _ 68 rfl L 9 i0 (.string ⟨#[]⟩) 1 16 Try.underlying68 hi hz0 hz1 hz2 rfl (by decide) _ _ _ rfl (ho'.out.alloc _) ⟨wr.heap.size, 0, none⟩ 1 1 [.string tk] rfl rfl (cell_one_newE _ _ _) (by simp [Value.oneCell']) (by unfold maxLen; omega) (by omega) (by simp; omega) ?_; intro v' w1 hown1 hgrow1 hnil1)
        go_wp2
        go_roundw
        case rel => exact ⟨k + 1, by omega, by go_num, by rw [HYk.out]; simp only [List.length_append, List.length_singleton, List.map_append, List.map_cons, List.map_nil]; exact hown1, ((hB2.out).alloc (by omega) _).grown hgrow1 (by simp; omega) (fun q e => (ho'.out.lt q e).1)⟩
        case measure => simp only [intOf]; omega
      · have HSk := Lib.hid (fewL_same (ss := ss) h23)
        have hd1 : decide ((k : Int) < 23) = false := decide_eq_false (by omega)
        clear hmr hfl
        go_wp2
        go_roundw
        case rel => exact ⟨k + 1, by omega, by go_num, by rw [HSk.out]; exact ho'.out, hB2.out⟩
        case measure => simp only [intOf]; omega
    · obtain rfl : k = ss.length := by omega
      have Hs := Lib.hid (strs_own (ss := fewL ss ss.length) rfl hown)
      have hB1 : Below W0.heap.size W0 wr := by rw [HL.out]; exact hB
      replace p0 := cell_later hB1 p0
      replace p1 := cell_later hB1 p1
      replace p2 := cell_later hB1 p2
      have HBw := Lib.hid (HB0.out.trans (hB1.mono HB0.out.size) : Below w.heap.size w wr)
      have HVw := Lib.hid (HV.out.later HBw.out)
      obtain ⟨fao, fcap, rfl, _, _⟩ := Hs.out
      clear hown hB hB1 HD HB0 HL
      have HK := Lib.hid (fun W (hb : Below wr.heap.size wr W) => (⟨hb, cell_later hb p0, cell_later hb p1, cell_later hb p2⟩ : Below wr.heap.size wr W ∧ W.cell? ⟨w.heap.size, 0, none⟩ = some (.int .i64 pi) ∧ W.cell? ⟨w.heap.size, 1, none⟩ = some (.int .i64 po) ∧ W.cell? ⟨w.heap.size, 2, none⟩ = some (.int .i64 ps)))
      have HTa := Lib.hid (fun W => text_any a W)
      obtain ⟨G, hG⟩ : ∃ G, w.heap.size = G := ⟨_, rfl⟩
      rw [hG] at HK
      go_wp2_with fail
      try rw [hG]
      go_region_held3 (fun W => Below wr.heap.size wr W ∧ W.cell? ⟨G, 0, none⟩ = some (.int .i64 pi) ∧ W.cell? ⟨G, 1, none⟩ = some (.int .i64 po) ∧ W.cell? ⟨G, 2, none⟩ = some (.int .i64 ps)) (first | assumption | (refine HK.out _ ?_; repeat (first | assumption | exact (Below.refl _ _).drew | exact Below.refl _ _ | refine bl_dr ?_ | refine bl_al ?_ _ | (refine below_nx ?_ (by assumption))))) (first | (go_at_call 19; refine (HTa.out _).mono ?_; rintro e w1 ⟨rfl, rfl⟩) | (go_at_call 20; refine (HO.out _).mono ?_; rintro e w2 ⟨rfl, b2⟩) | (go_at_call 48; refine (HW.out _ _ (Hs.out.later (by first | assumption | exact below_nx (Below.refl _ _).drew (by assumption) | exact (‹Below wr.heap.size wr _ ∧ _›).1))).mono ?_; rintro e w3 ⟨rfl, b3⟩))
      all_goals
        have hS := ‹Below wr.heap.size wr _ ∧ _›
        obtain ⟨hB2, q0, q1, q2⟩ := hS
        have HB2 := Lib.hid (HBw.out.trans (hB2.mono HBw.out.size))
        clear hB2
        try dsimp only [Exit.then]
        go_wp2_with fail
        refine (H1.out _).mono ?_
        rintro e u1 ⟨rfl, rfl⟩
        go_wp2_with fail
        refine (H2.out _).mono ?_
        rintro e u2 ⟨rfl, b2⟩
        replace q0 := cell_later b2 q0
        replace q1 := cell_later b2 q1
        replace q2 := cell_later b2 q2
        have B2 := Lib.hid (below_nx HB2.out b2)
        clear b2
        go_wp2_with fail
        refine (HAw.out _).mono ?_
        rintro e uz ⟨rfl, bz⟩
        go_wp2
        go_ret
        exact ⟨rfl, below_nx B2.out bz⟩

set_option maxHeartbeats 4000000 in
theorem EditsWithin_b4 (a : ByteArray) (pi po ps most : Int) (ss : List ByteArray) (v : Value) (g1 : lineB a = true) (g2 : pricedB pi po ps = true) (g3 : ¬ most < 0) (g4 : 100 < most) (hl : ss.length ≤ maxLen) (w : World) (hv : StrsV w v ss) :
    Calls Try.prog 9 #[.string a, pv pi po ps, .int .i64 most, v] w fun e w' => e = .returned (.bool true) ∧ Below w.heap.size w w' := by
  obtain ⟨i0, hi, hz0, hz1, hz2⟩ := info_parts info_strE
  have hl9 := hl
  unfold maxLen at hl9
  have HAw := Lib.hid (fun W => awake_any W)
  have H1 := Lib.hid (fun W => RLine_any a W)
  have H2 := Lib.hid (fun W => RValid_any pi po ps W)
  have H3 := Lib.hid (fun W hV => RList_any ss hl v W hV)
  have HO := Lib.hid (fun W => Of_any pi po ps W)
  have HW := Lib.hid (fun v1 W hV => Within_bad (a.extract 0 16) pi po ps most (fewL ss ss.length) v1 (fun h => (fun h => absurd h.2.2.2.1 (by omega)) (fewL_good.1 h)) (by rw [fewL_len (Nat.le_refl _)]; unfold maxLen; omega) W hV)
  rw [g1] at H1
  rw [g2] at H2
  clear g1 g2 H3
  obtain ⟨W0, hW0⟩ : ∃ W0, w.alloc (.cells #[.int .i64 pi, .int .i64 po, .int .i64 ps] 23) = W0 := ⟨_, rfl⟩
  have hB0 : Below w.heap.size w W0 := by rw [← hW0]; exact bl_al (Below.refl _ w) _
  have p0 : W0.cell? ⟨w.heap.size, 0, none⟩ = some (.int .i64 pi) := by rw [← hW0]; simp
  have p1 : W0.cell? ⟨w.heap.size, 1, none⟩ = some (.int .i64 po) := by rw [← hW0]; simp
  have p2 : W0.cell? ⟨w.heap.size, 2, none⟩ = some (.int .i64 ps) := by rw [← hW0]; simp
  have HB0 := Lib.hid hB0
  clear hB0
  have HV := Lib.hid hv
  obtain ⟨ao, cap, rfl, hlc, hd⟩ := hv
  have HD := Lib.hid hd
  clear hd
  obtain ⟨L, hL⟩ : ∃ L, W0.heap.size = L := ⟨_, rfl⟩
  have HL := Lib.hid hL
  have hbL : Below L W0 W0 := Below.refl _ _
  have hown0 : W0.ownsRow L 9 1 (.slice none 0 0) (fewL ss 0).length ((fewL ss 0).map Value.string) := ⟨rfl, Or.inl ⟨rfl, rfl⟩⟩
  clear hL
  go_enter Try.func9, Try.ntmps9
  go_wp2_with fail
  try rw [hW0]
  clear hW0
  go_loopw [9, 10, 11, 16] (fun nv _ _ i wr => ∃ k : Nat, k ≤ ss.length ∧ i = .int .i64 k ∧ wr.ownsRow L 9 1 nv (fewL ss k).length ((fewL ss k).map Value.string) ∧ Below L W0 wr) (fun _ _ _ i _ => ss.length - (intOf i).toNat)
  case atStart => exact ⟨0, Nat.zero_le _, rfl, hown0, hbL⟩
  case round =>
    obtain ⟨k, hk, rfl, hown, hB⟩ := hrel
    by_cases hkl : k < ss.length
    · obtain ⟨b, off, rfl, hdd⟩ := HD.out (by omega)
      have c0 := hdd k hkl
      have hBw := Lib.hid (HB0.out.trans (hB.mono (by have := HB0.out.size; have := HL.out; omega)) : Below w.heap.size w wr)
      have ck := cell_later hBw.out c0
      rw [show ss[k]?.getD { data := #[] } = strAt ss k from rfl] at ck
      have hsz : L ≤ wr.heap.size := by have := hB.size; have := HL.out; omega
      have HTk := Lib.hid (text_any (strAt ss k) wr)
      have hmr := fewL_more (ss := ss) hkl
      have hfl := fewL_len (Nat.le_of_lt hkl)
      have hB2 := Lib.hid hB
      have ho' := Lib.hid hown
      generalize strAt ss k = sk at ck HTk hmr
      generalize sk.extract 0 16 = tk at HTk hmr
      clear hdd c0 hB hown
      by_cases h23 : k < 23
      · have HYk := Lib.hid (hmr h23)
        have hd1 : decide ((k : Int) < 23) = true := decide_eq_true (by omega)
        have hfl2 : (fewL ss k).length ≤ 23 := by omega
        clear hmr hfl
        go_wp2_with fail
        refine HTk.out.mono ?_
        rintro e w2 ⟨rfl, rfl⟩
        go_wp2_with (at_builtin; refine wpList_append_own _ rfl _ _ 68 rfl L 9 i0 (.string ⟨#[]⟩) 1 16 Try.underlying68 hi hz0 hz1 hz2 rfl (by decide) _ _ _ rfl (ho'.out.alloc _) ⟨wr.heap.size, 0, none⟩ 1 1 [.string tk] rfl rfl (cell_one_newE _ _ _) (by simp [Value.oneCell']) (by unfold maxLen; omega) (by omega) (by simp; omega) ?_; intro v' w1 hown1 hgrow1 hnil1)
        go_wp2
        go_roundw
        case rel => exact ⟨k + 1, by omega, by go_num, by rw [HYk.out]; simp only [List.length_append, List.length_singleton, List.map_append, List.map_cons, List.map_nil]; exact hown1, ((hB2.out).alloc (by omega) _).grown hgrow1 (by simp; omega) (fun q e => (ho'.out.lt q e).1)⟩
        case measure => simp only [intOf]; omega
      · have HSk := Lib.hid (fewL_same (ss := ss) h23)
        have hd1 : decide ((k : Int) < 23) = false := decide_eq_false (by omega)
        clear hmr hfl
        go_wp2
        go_roundw
        case rel => exact ⟨k + 1, by omega, by go_num, by rw [HSk.out]; exact ho'.out, hB2.out⟩
        case measure => simp only [intOf]; omega
    · obtain rfl : k = ss.length := by omega
      have Hs := Lib.hid (strs_own (ss := fewL ss ss.length) rfl hown)
      have hB1 : Below W0.heap.size W0 wr := by rw [HL.out]; exact hB
      replace p0 := cell_later hB1 p0
      replace p1 := cell_later hB1 p1
      replace p2 := cell_later hB1 p2
      have HBw := Lib.hid (HB0.out.trans (hB1.mono HB0.out.size) : Below w.heap.size w wr)
      have HVw := Lib.hid (HV.out.later HBw.out)
      obtain ⟨fao, fcap, rfl, _, _⟩ := Hs.out
      clear hown hB hB1 HD HB0 HL
      have HK := Lib.hid (fun W (hb : Below wr.heap.size wr W) => (⟨hb, cell_later hb p0, cell_later hb p1, cell_later hb p2⟩ : Below wr.heap.size wr W ∧ W.cell? ⟨w.heap.size, 0, none⟩ = some (.int .i64 pi) ∧ W.cell? ⟨w.heap.size, 1, none⟩ = some (.int .i64 po) ∧ W.cell? ⟨w.heap.size, 2, none⟩ = some (.int .i64 ps)))
      have HTa := Lib.hid (fun W => text_any a W)
      obtain ⟨G, hG⟩ : ∃ G, w.heap.size = G := ⟨_, rfl⟩
      rw [hG] at HK
      go_wp2_with fail
      try rw [hG]
      go_region_held3 (fun W => Below wr.heap.size wr W ∧ W.cell? ⟨G, 0, none⟩ = some (.int .i64 pi) ∧ W.cell? ⟨G, 1, none⟩ = some (.int .i64 po) ∧ W.cell? ⟨G, 2, none⟩ = some (.int .i64 ps)) (first | assumption | (refine HK.out _ ?_; repeat (first | assumption | exact (Below.refl _ _).drew | exact Below.refl _ _ | refine bl_dr ?_ | refine bl_al ?_ _ | (refine below_nx ?_ (by assumption))))) (first | (go_at_call 19; refine (HTa.out _).mono ?_; rintro e w1 ⟨rfl, rfl⟩) | (go_at_call 20; refine (HO.out _).mono ?_; rintro e w2 ⟨rfl, b2⟩) | (go_at_call 48; refine (HW.out _ _ (Hs.out.later (by first | assumption | exact below_nx (Below.refl _ _).drew (by assumption) | exact (‹Below wr.heap.size wr _ ∧ _›).1))).mono ?_; rintro e w3 ⟨rfl, b3⟩))
      all_goals
        have hS := ‹Below wr.heap.size wr _ ∧ _›
        obtain ⟨hB2, q0, q1, q2⟩ := hS
        have HB2 := Lib.hid (HBw.out.trans (hB2.mono HBw.out.size))
        clear hB2
        try dsimp only [Exit.then]
        go_wp2_with fail
        refine (H1.out _).mono ?_
        rintro e u1 ⟨rfl, rfl⟩
        go_wp2_with fail
        refine (H2.out _).mono ?_
        rintro e u2 ⟨rfl, b2⟩
        replace q0 := cell_later b2 q0
        replace q1 := cell_later b2 q1
        replace q2 := cell_later b2 q2
        have B2 := Lib.hid (below_nx HB2.out b2)
        clear b2
        go_wp2_with fail
        refine (HAw.out _).mono ?_
        rintro e uz ⟨rfl, bz⟩
        go_wp2
        go_ret
        exact ⟨rfl, below_nx B2.out bz⟩

set_option maxHeartbeats 4000000 in
theorem EditsWithin_b5 (a : ByteArray) (pi po ps most : Int) (ss : List ByteArray) (v : Value) (g1 : lineB a = true) (g2 : pricedB pi po ps = true) (g3 : ¬ most < 0) (g4 : ¬ 100 < most) (g5 : (ss.all lineB && decide (ss.length ≤ 20)) = false) (hl : ss.length ≤ maxLen) (w : World) (hv : StrsV w v ss) :
    Calls Try.prog 9 #[.string a, pv pi po ps, .int .i64 most, v] w fun e w' => e = .returned (.bool true) ∧ Below w.heap.size w w' := by
  obtain ⟨i0, hi, hz0, hz1, hz2⟩ := info_parts info_strE
  have hl9 := hl
  unfold maxLen at hl9
  have HAw := Lib.hid (fun W => awake_any W)
  have H1 := Lib.hid (fun W => RLine_any a W)
  have H2 := Lib.hid (fun W => RValid_any pi po ps W)
  have H3 := Lib.hid (fun W hV => RList_any ss hl v W hV)
  have HO := Lib.hid (fun W => Of_any pi po ps W)
  have HW := Lib.hid (fun v1 W hV => Within_bad (a.extract 0 16) pi po ps most (fewL ss ss.length) v1 (fun h => (fun h => by rw [h.2.2.2.2.2, decide_eq_true h.2.2.2.2.1] at g5; exact absurd g5 (by decide)) (fewL_good.1 h)) (by rw [fewL_len (Nat.le_refl _)]; unfold maxLen; omega) W hV)
  rw [g1] at H1
  rw [g2] at H2
  rw [g5] at H3
  clear g1 g2 g5
  obtain ⟨W0, hW0⟩ : ∃ W0, w.alloc (.cells #[.int .i64 pi, .int .i64 po, .int .i64 ps] 23) = W0 := ⟨_, rfl⟩
  have hB0 : Below w.heap.size w W0 := by rw [← hW0]; exact bl_al (Below.refl _ w) _
  have p0 : W0.cell? ⟨w.heap.size, 0, none⟩ = some (.int .i64 pi) := by rw [← hW0]; simp
  have p1 : W0.cell? ⟨w.heap.size, 1, none⟩ = some (.int .i64 po) := by rw [← hW0]; simp
  have p2 : W0.cell? ⟨w.heap.size, 2, none⟩ = some (.int .i64 ps) := by rw [← hW0]; simp
  have HB0 := Lib.hid hB0
  clear hB0
  have HV := Lib.hid hv
  obtain ⟨ao, cap, rfl, hlc, hd⟩ := hv
  have HD := Lib.hid hd
  clear hd
  obtain ⟨L, hL⟩ : ∃ L, W0.heap.size = L := ⟨_, rfl⟩
  have HL := Lib.hid hL
  have hbL : Below L W0 W0 := Below.refl _ _
  have hown0 : W0.ownsRow L 9 1 (.slice none 0 0) (fewL ss 0).length ((fewL ss 0).map Value.string) := ⟨rfl, Or.inl ⟨rfl, rfl⟩⟩
  clear hL
  go_enter Try.func9, Try.ntmps9
  go_wp2_with fail
  try rw [hW0]
  clear hW0
  go_loopw [9, 10, 11, 16] (fun nv _ _ i wr => ∃ k : Nat, k ≤ ss.length ∧ i = .int .i64 k ∧ wr.ownsRow L 9 1 nv (fewL ss k).length ((fewL ss k).map Value.string) ∧ Below L W0 wr) (fun _ _ _ i _ => ss.length - (intOf i).toNat)
  case atStart => exact ⟨0, Nat.zero_le _, rfl, hown0, hbL⟩
  case round =>
    obtain ⟨k, hk, rfl, hown, hB⟩ := hrel
    by_cases hkl : k < ss.length
    · obtain ⟨b, off, rfl, hdd⟩ := HD.out (by omega)
      have c0 := hdd k hkl
      have hBw := Lib.hid (HB0.out.trans (hB.mono (by have := HB0.out.size; have := HL.out; omega)) : Below w.heap.size w wr)
      have ck := cell_later hBw.out c0
      rw [show ss[k]?.getD { data := #[] } = strAt ss k from rfl] at ck
      have hsz : L ≤ wr.heap.size := by have := hB.size; have := HL.out; omega
      have HTk := Lib.hid (text_any (strAt ss k) wr)
      have hmr := fewL_more (ss := ss) hkl
      have hfl := fewL_len (Nat.le_of_lt hkl)
      have hB2 := Lib.hid hB
      have ho' := Lib.hid hown
      generalize strAt ss k = sk at ck HTk hmr
      generalize sk.extract 0 16 = tk at HTk hmr
      clear hdd c0 hB hown
      by_cases h23 : k < 23
      · have HYk := Lib.hid (hmr h23)
        have hd1 : decide ((k : Int) < 23) = true := decide_eq_true (by omega)
        have hfl2 : (fewL ss k).length ≤ 23 := by omega
        clear hmr hfl
        go_wp2_with fail
        refine HTk.out.mono ?_
        rintro e w2 ⟨rfl, rfl⟩
        go_wp2_with (at_builtin; refine wpList_append_own _ rfl _ _ 68 rfl L 9 i0 (.string ⟨#[]⟩) 1 16 Try.underlying68 hi hz0 hz1 hz2 rfl (by decide) _ _ _ rfl (ho'.out.alloc _) ⟨wr.heap.size, 0, none⟩ 1 1 [.string tk] rfl rfl (cell_one_newE _ _ _) (by simp [Value.oneCell']) (by unfold maxLen; omega) (by omega) (by simp; omega) ?_; intro v' w1 hown1 hgrow1 hnil1)
        go_wp2
        go_roundw
        case rel => exact ⟨k + 1, by omega, by go_num, by rw [HYk.out]; simp only [List.length_append, List.length_singleton, List.map_append, List.map_cons, List.map_nil]; exact hown1, ((hB2.out).alloc (by omega) _).grown hgrow1 (by simp; omega) (fun q e => (ho'.out.lt q e).1)⟩
        case measure => simp only [intOf]; omega
      · have HSk := Lib.hid (fewL_same (ss := ss) h23)
        have hd1 : decide ((k : Int) < 23) = false := decide_eq_false (by omega)
        clear hmr hfl
        go_wp2
        go_roundw
        case rel => exact ⟨k + 1, by omega, by go_num, by rw [HSk.out]; exact ho'.out, hB2.out⟩
        case measure => simp only [intOf]; omega
    · obtain rfl : k = ss.length := by omega
      have Hs := Lib.hid (strs_own (ss := fewL ss ss.length) rfl hown)
      have hB1 : Below W0.heap.size W0 wr := by rw [HL.out]; exact hB
      replace p0 := cell_later hB1 p0
      replace p1 := cell_later hB1 p1
      replace p2 := cell_later hB1 p2
      have HBw := Lib.hid (HB0.out.trans (hB1.mono HB0.out.size) : Below w.heap.size w wr)
      have HVw := Lib.hid (HV.out.later HBw.out)
      obtain ⟨fao, fcap, rfl, _, _⟩ := Hs.out
      clear hown hB hB1 HD HB0 HL
      have HK := Lib.hid (fun W (hb : Below wr.heap.size wr W) => (⟨hb, cell_later hb p0, cell_later hb p1, cell_later hb p2⟩ : Below wr.heap.size wr W ∧ W.cell? ⟨w.heap.size, 0, none⟩ = some (.int .i64 pi) ∧ W.cell? ⟨w.heap.size, 1, none⟩ = some (.int .i64 po) ∧ W.cell? ⟨w.heap.size, 2, none⟩ = some (.int .i64 ps)))
      have HTa := Lib.hid (fun W => text_any a W)
      obtain ⟨G, hG⟩ : ∃ G, w.heap.size = G := ⟨_, rfl⟩
      rw [hG] at HK
      go_wp2_with fail
      try rw [hG]
      go_region_held3 (fun W => Below wr.heap.size wr W ∧ W.cell? ⟨G, 0, none⟩ = some (.int .i64 pi) ∧ W.cell? ⟨G, 1, none⟩ = some (.int .i64 po) ∧ W.cell? ⟨G, 2, none⟩ = some (.int .i64 ps)) (first | assumption | (refine HK.out _ ?_; repeat (first | assumption | exact (Below.refl _ _).drew | exact Below.refl _ _ | refine bl_dr ?_ | refine bl_al ?_ _ | (refine below_nx ?_ (by assumption))))) (first | (go_at_call 19; refine (HTa.out _).mono ?_; rintro e w1 ⟨rfl, rfl⟩) | (go_at_call 20; refine (HO.out _).mono ?_; rintro e w2 ⟨rfl, b2⟩) | (go_at_call 48; refine (HW.out _ _ (Hs.out.later (by first | assumption | exact below_nx (Below.refl _ _).drew (by assumption) | exact (‹Below wr.heap.size wr _ ∧ _›).1))).mono ?_; rintro e w3 ⟨rfl, b3⟩))
      all_goals
        have hS := ‹Below wr.heap.size wr _ ∧ _›
        obtain ⟨hB2, q0, q1, q2⟩ := hS
        have HB2 := Lib.hid (HBw.out.trans (hB2.mono HBw.out.size))
        clear hB2
        try dsimp only [Exit.then]
        go_wp2_with fail
        refine (H1.out _).mono ?_
        rintro e u1 ⟨rfl, rfl⟩
        go_wp2_with fail
        refine (H2.out _).mono ?_
        rintro e u2 ⟨rfl, b2⟩
        replace q0 := cell_later b2 q0
        replace q1 := cell_later b2 q1
        replace q2 := cell_later b2 q2
        have B2 := Lib.hid (below_nx HB2.out b2)
        clear b2
        go_wp2_with fail
        refine (H3.out _ (HV.out.later B2.out)).mono ?_
        rintro e u3 ⟨rfl, rfl⟩
        go_wp2_with fail
        refine (HAw.out _).mono ?_
        rintro e uz ⟨rfl, bz⟩
        go_wp2
        go_ret
        exact ⟨rfl, below_nx B2.out bz⟩

set_option maxHeartbeats 4000000 in
theorem EditsWithin_ok (a : ByteArray) (pi po ps : Nat) (most : Int) (ss : List ByteArray) (v : Value) (hg : wgood a pi po ps most ss) (hl : ss.length ≤ maxLen) (w : World) (hv : StrsV w v ss) :
    Calls Try.prog 9 #[.string a, pv pi po ps, .int .i64 most, v] w fun e w' => e = .returned (.bool true) ∧ Below w.heap.size w w' := by
  obtain ⟨i0, hi, hz0, hz1, hz2⟩ := info_parts info_strE
  have hl9 := hl
  unfold maxLen at hl9
  have HAw := Lib.hid (fun W => awake_any W)
  have H1 := Lib.hid (fun W => RLine_any a W)
  have H2 := Lib.hid (fun W => RValid_any pi po ps W)
  have H3 := Lib.hid (fun W hV => RList_any ss hl v W hV)
  have HO := Lib.hid (fun W => Of_any pi po ps W)
  have HW := Lib.hid (fun v1 W hV => Within_ok a pi po ps most ss v1 hg.1 hg.2.1 hg.2.2.1 hg.2.2.2.1 hg.2.2.2.2.1 hg.2.2.2.2.2 W hV)
  have HR := Lib.hid (fun W hV => RWithin_any a pi po ps most ss v hg.1 hg.2.1 hg.2.2.2.2.1 hg.2.2.2.2.2 W hV)
  have HE := Lib.hid (fewL_id hg.2.2.2.2.1 hg.2.2.2.2.2)
  have HX := Lib.hid (text_id hg.1)
  rw [hg.1] at H1
  rw [hg.2.1] at H2
  rw [hg.2.2.2.2.2, decide_eq_true hg.2.2.2.2.1] at H3
  have HLQ := Lib.hid (Nat.le_trans (near_length a pi po ps most ss ss.length) (Nat.le_trans hg.2.2.2.2.1 (by decide : 20 ≤ 4096)))
  have g3 : ¬ most < 0 := by have := hg.2.2.1; omega
  have g4 : ¬ 100 < most := by have := hg.2.2.2.1; omega
  clear hg
  obtain ⟨W0, hW0⟩ : ∃ W0, w.alloc (.cells #[.int .i64 (pi : Int), .int .i64 (po : Int), .int .i64 (ps : Int)] 23) = W0 := ⟨_, rfl⟩
  have hB0 : Below w.heap.size w W0 := by rw [← hW0]; exact bl_al (Below.refl _ w) _
  have p0 : W0.cell? ⟨w.heap.size, 0, none⟩ = some (.int .i64 (pi : Int)) := by rw [← hW0]; simp
  have p1 : W0.cell? ⟨w.heap.size, 1, none⟩ = some (.int .i64 (po : Int)) := by rw [← hW0]; simp
  have p2 : W0.cell? ⟨w.heap.size, 2, none⟩ = some (.int .i64 (ps : Int)) := by rw [← hW0]; simp
  have HB0 := Lib.hid hB0
  clear hB0
  have HV := Lib.hid hv
  obtain ⟨ao, cap, rfl, hlc, hd⟩ := hv
  have HD := Lib.hid hd
  clear hd
  obtain ⟨L, hL⟩ : ∃ L, W0.heap.size = L := ⟨_, rfl⟩
  have HL := Lib.hid hL
  have hbL : Below L W0 W0 := Below.refl _ _
  have hown0 : W0.ownsRow L 9 1 (.slice none 0 0) (fewL ss 0).length ((fewL ss 0).map Value.string) := ⟨rfl, Or.inl ⟨rfl, rfl⟩⟩
  clear hL
  go_enter Try.func9, Try.ntmps9
  go_wp2_with fail
  try rw [hW0]
  clear hW0
  go_loopw [9, 10, 11, 16] (fun nv _ _ i wr => ∃ k : Nat, k ≤ ss.length ∧ i = .int .i64 k ∧ wr.ownsRow L 9 1 nv (fewL ss k).length ((fewL ss k).map Value.string) ∧ Below L W0 wr) (fun _ _ _ i _ => ss.length - (intOf i).toNat)
  case atStart => exact ⟨0, Nat.zero_le _, rfl, hown0, hbL⟩
  case round =>
    obtain ⟨k, hk, rfl, hown, hB⟩ := hrel
    by_cases hkl : k < ss.length
    · obtain ⟨b, off, rfl, hdd⟩ := HD.out (by omega)
      have c0 := hdd k hkl
      have hBw := Lib.hid (HB0.out.trans (hB.mono (by have := HB0.out.size; have := HL.out; omega)) : Below w.heap.size w wr)
      have ck := cell_later hBw.out c0
      rw [show ss[k]?.getD { data := #[] } = strAt ss k from rfl] at ck
      have hsz : L ≤ wr.heap.size := by have := hB.size; have := HL.out; omega
      have HTk := Lib.hid (text_any (strAt ss k) wr)
      have hmr := fewL_more (ss := ss) hkl
      have hfl := fewL_len (Nat.le_of_lt hkl)
      have hB2 := Lib.hid hB
      have ho' := Lib.hid hown
      generalize strAt ss k = sk at ck HTk hmr
      generalize sk.extract 0 16 = tk at HTk hmr
      clear hdd c0 hB hown
      by_cases h23 : k < 23
      · have HYk := Lib.hid (hmr h23)
        have hd1 : decide ((k : Int) < 23) = true := decide_eq_true (by omega)
        have hfl2 : (fewL ss k).length ≤ 23 := by omega
        clear hmr hfl
        go_wp2_with fail
        refine HTk.out.mono ?_
        rintro e w2 ⟨rfl, rfl⟩
        go_wp2_with (at_builtin; refine wpList_append_own _ rfl _ _ 68 rfl L 9 i0 (.string ⟨#[]⟩) 1 16 Try.underlying68 hi hz0 hz1 hz2 rfl (by decide) _ _ _ rfl (ho'.out.alloc _) ⟨wr.heap.size, 0, none⟩ 1 1 [.string tk] rfl rfl (cell_one_newE _ _ _) (by simp [Value.oneCell']) (by unfold maxLen; omega) (by omega) (by simp; omega) ?_; intro v' w1 hown1 hgrow1 hnil1)
        go_wp2
        go_roundw
        case rel => exact ⟨k + 1, by omega, by go_num, by rw [HYk.out]; simp only [List.length_append, List.length_singleton, List.map_append, List.map_cons, List.map_nil]; exact hown1, ((hB2.out).alloc (by omega) _).grown hgrow1 (by simp; omega) (fun q e => (ho'.out.lt q e).1)⟩
        case measure => simp only [intOf]; omega
      · have HSk := Lib.hid (fewL_same (ss := ss) h23)
        have hd1 : decide ((k : Int) < 23) = false := decide_eq_false (by omega)
        clear hmr hfl
        go_wp2
        go_roundw
        case rel => exact ⟨k + 1, by omega, by go_num, by rw [HSk.out]; exact ho'.out, hB2.out⟩
        case measure => simp only [intOf]; omega
    · obtain rfl : k = ss.length := by omega
      have Hs := Lib.hid (by have h := strs_own (ss := fewL ss ss.length) rfl hown; rw [HE.out] at h; exact h)
      have hB1 : Below W0.heap.size W0 wr := by rw [HL.out]; exact hB
      replace p0 := cell_later hB1 p0
      replace p1 := cell_later hB1 p1
      replace p2 := cell_later hB1 p2
      have HBw := Lib.hid (HB0.out.trans (hB1.mono HB0.out.size) : Below w.heap.size w wr)
      have HVw := Lib.hid (HV.out.later HBw.out)
      obtain ⟨fao, fcap, rfl, _, _⟩ := Hs.out
      clear hown hB hB1 HD HB0 HL
      have HK := Lib.hid (fun W (hb : Below wr.heap.size wr W) => (⟨hb, cell_later hb p0, cell_later hb p1, cell_later hb p2⟩ : Below wr.heap.size wr W ∧ W.cell? ⟨w.heap.size, 0, none⟩ = some (.int .i64 (pi : Int)) ∧ W.cell? ⟨w.heap.size, 1, none⟩ = some (.int .i64 (po : Int)) ∧ W.cell? ⟨w.heap.size, 2, none⟩ = some (.int .i64 (ps : Int))))
      have HTa := Lib.hid (fun W => by have h := text_any a W; rw [HX.out] at h; exact h)
      obtain ⟨G, hG⟩ : ∃ G, w.heap.size = G := ⟨_, rfl⟩
      rw [hG] at HK
      go_wp2_with fail
      try rw [hG]
      go_region_held3 (fun W => Below wr.heap.size wr W ∧ W.cell? ⟨G, 0, none⟩ = some (.int .i64 (pi : Int)) ∧ W.cell? ⟨G, 1, none⟩ = some (.int .i64 (po : Int)) ∧ W.cell? ⟨G, 2, none⟩ = some (.int .i64 (ps : Int))) (first | assumption | (refine HK.out _ ?_; repeat (first | assumption | exact (Below.refl _ _).drew | exact Below.refl _ _ | refine bl_dr ?_ | refine bl_al ?_ _ | (refine below_nx ?_ (by assumption))))) (first | (go_at_call 19; refine (HTa.out _).mono ?_; rintro e w1 ⟨rfl, rfl⟩) | (go_at_call 20; refine (HO.out _).mono ?_; rintro e w2 ⟨rfl, b2⟩) | (go_at_call 48; refine (HW.out _ _ (Hs.out.later (by first | assumption | exact below_nx (Below.refl _ _).drew (by assumption) | exact (‹Below wr.heap.size wr _ ∧ _›).1))).mono ?_; rintro e w3 ⟨v3, rfl, o3, b3⟩))
      all_goals
        have hS := ‹Below wr.heap.size wr _ ∧ _›
        obtain ⟨hB2, q0, q1, q2⟩ := hS
        have HB2 := Lib.hid (HBw.out.trans (hB2.mono HBw.out.size))
        clear hB2
        try dsimp only [Exit.then]
        have O3 := Lib.hid o3
        clear o3
        go_wp2_with fail
        refine (H1.out _).mono ?_
        rintro e u1 ⟨rfl, rfl⟩
        go_wp2_with fail
        refine (H2.out _).mono ?_
        rintro e u2 ⟨rfl, b2⟩
        replace q0 := cell_later b2 q0
        replace q1 := cell_later b2 q1
        replace q2 := cell_later b2 q2
        have O3b := Lib.hid (owns_later O3.out b2)
        have B2 := Lib.hid (below_nx HB2.out b2)
        clear b2
        go_wp2_with fail
        refine (H3.out _ (HV.out.later B2.out)).mono ?_
        rintro e u3 ⟨rfl, rfl⟩
        go_wp2_with fail
        refine (HR.out _ (HV.out.later B2.out)).mono ?_
        rintro e x1 ⟨v4, rfl, o4, c1⟩
        have X1 := Lib.hid (below_nx B2.out c1)
        have O4 := Lib.hid (owns_later O3b.out c1)
        go_wp2_with fail
        refine (equal_own O4.out o4 HLQ.out).mono ?_
        rintro e x2 ⟨rfl, m0, rfl⟩
        have X2 := Lib.hid (below_nx X1.out (below_drewN x1 m0))
        go_wp2_with fail
        refine (HAw.out _).mono ?_
        rintro e uz ⟨rfl, bz⟩
        go_wp2
        go_ret
        exact ⟨rfl, below_nx X2.out bz⟩

theorem EditsWithin_walk (a : ByteArray) (pi po ps most : Int) (ss : List ByteArray) (v : Value) (_ : a.size ≤ maxLen) (_ : (Lit.int .i64 pi).wf = true) (_ : (Lit.int .i64 po).wf = true) (_ : (Lit.int .i64 ps).wf = true) (_ : (Lit.int .i64 most).wf = true) (hl : ss.length ≤ maxLen) (w : World) (hv : StrsV w v ss) :
    Calls Try.prog 9 #[.string a, pv pi po ps, .int .i64 most, v] w fun e w' => e = .returned (.bool true) ∧ Below w.heap.size w w' := by
  cases g1 : lineB a
  · exact EditsWithin_b1 a pi po ps most ss v g1 hl w hv
  cases g2 : pricedB pi po ps
  · exact EditsWithin_b2 a pi po ps most ss v g1 g2 hl w hv
  by_cases g3 : most < 0
  · exact EditsWithin_b3 a pi po ps most ss v g1 g2 g3 hl w hv
  by_cases g4 : 100 < most
  · exact EditsWithin_b4 a pi po ps most ss v g1 g2 g3 g4 hl w hv
  cases g5 : (ss.all lineB && decide (ss.length ≤ 20))
  · exact EditsWithin_b5 a pi po ps most ss v g1 g2 g3 g4 g5 hl w hv
  obtain ⟨x, y, z, rfl, rfl, rfl, _⟩ := priced_nat g2
  rw [Bool.and_eq_true] at g5
  exact EditsWithin_ok a x y z most ss v ⟨g1, g2, by omega, by omega, of_decide_eq_true g5.2, g5.1⟩ hl w hv
end Go.Proofs.Ytkpmkeklopfhdaa

/-
  The table of the least costs: the code's.
-/
import Derived.Test.YtkpiakoijkflmaaVoCross
import Derived.Test.YtkpiakoijkflmaaCaOnes
import Derived.Laws.CopyOwn
import Derived.Laws.Rows
namespace Go.Proofs.Ytkpiakoijkflmaa
open Go.ChangeShapes Go.WideShapes Go.ChangeAt Go.RowKit
set_option maxRecDepth 100000

/-- How many places are taken. -/
def pcN (T : Nat) : Nat := (tonesL T).length
theorem card_free (T k : Nat) : cardN k T + (freeP T k).length = k := by
  induction k with
  | zero => simp [cardN, sumN, freeP]
  | succ k ih =>
    rw [freeP_succ]
    unfold cardN at ih ⊢
    rw [sumN, show bI T k = if T.testBit k = true then 1 else 0 from rfl]
    by_cases h : T.testBit k <;> simp [h] <;> omega
theorem pc_free {T k : Nat} (hk : k ≤ 6) (h : T < 2 ^ k) : pcN T + (freeP T k).length = k := by
  unfold pcN
  rw [cardN_tonesL (n := k) (by omega) h, card_free]
theorem all_bits {T k : Nat} (h : T < 2 ^ k) (hf : freeP T k = []) : T = 2 ^ k - 1 := by
  apply Nat.eq_of_testBit_eq
  intro i
  rw [Nat.testBit_two_pow_sub_one]
  by_cases hi : i < k
  · rw [decide_eq_true hi]
    cases e : T.testBit i
    · have : i ∈ freeP T k := freeP_mem.2 ⟨hi, e⟩
      rw [hf] at this; cases this
    · rfl
  · rw [decide_eq_false hi]
    exact Nat.testBit_lt_two_pow (Nat.lt_of_lt_of_le h (Nat.pow_le_pow_right (by omega) (by omega)))
theorem pc_lt {T k : Nat} (hk : k ≤ 6) (h : T + 1 < 2 ^ k) : pcN T < k := by
  have := pc_free hk (show T < 2 ^ k by omega)
  have h2 : freeP T k ≠ [] := fun e => by have := all_bits (show T < 2 ^ k by omega) e; omega
  have := List.length_pos_iff.2 h2
  omega
theorem pc_all {k : Nat} (hk : k ≤ 6) : pcN (2 ^ k - 1) = k := by
  have h0 : 0 < 2 ^ k := Nat.two_pow_pos k
  have := pc_free hk (show 2 ^ k - 1 < 2 ^ k by omega)
  have h2 : freeP (2 ^ k - 1) k = [] := by
    refine List.eq_nil_iff_forall_not_mem.2 (fun p hp => ?_)
    have := freeP_mem.1 hp
    rw [Nat.testBit_two_pow_sub_one, decide_eq_true this.1] at this
    cases this.2
  rw [h2] at this
  simpa using this
theorem pc_or {T k p : Nat} (hk : k ≤ 6) (h : T < 2 ^ k) (hp : p < k) (hb : T.testBit p = false) : pcN (T ||| 1 <<< p) = pcN T + 1 := by
  have hn : T ||| 1 <<< p < 2 ^ k := Nat.or_lt_two_pow h (by rw [Nat.one_shiftLeft]; exact Nat.pow_lt_pow_right (by omega) hp)
  have h1 := pc_free hk h
  have h2 := pc_free hk hn
  have h3 := free_or hp hb
  omega
theorem or_same {T p : Nat} (h : T.testBit p = true) : T ||| 1 <<< p = T := by
  apply Nat.eq_of_testBit_eq
  intro i
  rw [Nat.testBit_or, testBit_one_shl]
  by_cases e : p = i
  · subst e; simp [h]
  · simp [e]
theorem or_gt {T p : Nat} (h : T.testBit p = false) : T < T ||| 1 <<< p := by
  refine Nat.lt_of_le_of_ne Nat.left_le_or (fun e => ?_)
  have : (T ||| 1 <<< p).testBit p = true := by rw [Nat.testBit_or, testBit_one_shl]; simp
  rw [← e, h] at this
  cases this

theorem ones_any (c : Nat) (hc : c < 2 ^ 24) (w : World) :
    Calls Try.prog 111 #[.int .u64 c] w fun e w' => e = .returned (.int .i64 (pcN c : Nat)) ∧ w = w' := by
  have H := Lib.hid (ones64_any c hc)
  unfold pcN
  generalize (tonesL c).length = k at *
  go_enter Try.func111, Try.ntmps111
  go_wp2_with fail
  refine (H.out _).mono ?_
  rintro e w1 ⟨rfl, rfl⟩
  go_wp2
  go_ret
  exact ⟨rfl, rfl⟩

theorem costT_drop {us : List Nat} {i : Nat} (h : i < us.length) : us.drop i = us[i]?.getD 0 :: us.drop (i + 1) := by
  rw [List.drop_eq_getElem_cons h, List.getElem?_eq_getElem h]; rfl

/-- The table is right from T on. -/
def Good (n k : Nat) (us bs : List Nat) (T : Nat) (L : List Nat) : Prop := ∀ m, T ≤ m → m < 2 ^ k → L[m]?.getD 0 = costT n bs (us.drop (pcN m)) m
/-- What is known while the places below j have been tried. -/
structure Tried (n k : Nat) (us bs : List Nat) (T j : Nat) (f : Bool) (L : List Nat) : Prop where
  len : L.length = 64
  good : Good n k us bs (T + 1) L
  here : minS (tryL n bs (us[pcN T]?.getD 0) (us.drop (pcN T + 1)) T j) = if f then some (L[T]?.getD 0) else none

theorem Tried.start {n k : Nat} {us bs : List Nat} {T : Nat} {L : List Nat} (hl : L.length = 64) (hg : Good n k us bs (T + 1) L) : Tried n k us bs T 0 false L := ⟨hl, hg, rfl⟩
theorem Tried.skip {n k : Nat} {us bs : List Nat} {T j : Nat} {f : Bool} {L : List Nat} (h : Tried n k us bs T j f L) (hb : T.testBit j = true) : Tried n k us bs T (j + 1) f L :=
  ⟨h.len, h.good, by rw [tryL_succ, if_pos hb]; exact h.here⟩
/-- What the place j gives. -/
def sumAt (n : Nat) (us bs : List Nat) (T j : Nat) : Nat := dsN n (us[pcN T]?.getD 0) (bs[j]?.getD 0) + costT n bs (us.drop (pcN T + 1)) (T ||| 1 <<< j)
theorem Tried.keep {n k : Nat} {us bs : List Nat} {T j : Nat} {L : List Nat} (h : Tried n k us bs T j true L) (hb : T.testBit j = false) (hs : ¬ sumAt n us bs T j < L[T]?.getD 0) : Tried n k us bs T (j + 1) true L :=
  ⟨h.len, h.good, by
    rw [tryL_succ, hb, if_neg (by simp), minS_snoc, h.here]
    have : ¬ (dsN n (us[pcN T]?.getD 0) (bs[j]?.getD 0) + costT n bs (us.drop (pcN T + 1)) (T ||| 1 <<< j) < L[T]?.getD 0) := hs
    simp [this]⟩
theorem Tried.put {n k : Nat} {us bs : List Nat} {T j : Nat} {f : Bool} {L : List Nat} (h : Tried n k us bs T j f L) (hT : T < 64) (hb : T.testBit j = false) (hs : f = false ∨ sumAt n us bs T j < L[T]?.getD 0) : Tried n k us bs T (j + 1) true (L.set T (sumAt n us bs T j)) :=
  ⟨by rw [List.length_set]; exact h.len, fun m hm hm2 => by rw [List.getElem?_set_ne (by omega)]; exact h.good m hm hm2, by
    rw [tryL_succ, hb, if_neg (by simp), minS_snoc, h.here, List.getElem?_set_self (by rw [h.len]; exact hT)]
    rcases hs with hs | hs
    · rw [hs]; rfl
    · cases f
      · rfl
      · have hs' : dsN n (us[pcN T]?.getD 0) (bs[j]?.getD 0) + costT n bs (us.drop (pcN T + 1)) (T ||| 1 <<< j) < L[T]?.getD 0 := hs
        simp only [if_true, hs', Option.getD_some]; rfl⟩
theorem Tried.done {n k : Nat} {us bs : List Nat} {T : Nat} {f : Bool} {L : List Nat} (hk : k ≤ 6) (hu : us.length = k) (hbk : bs.length = k) (hT : T + 1 < 2 ^ k) (h : Tried n k us bs T k f L) : Good n k us bs T L := fun m hm hm2 => by
  by_cases e : m = T
  · subst e
    have hp := pc_lt hk hT
    have hh := h.here
    rw [costT_drop (by omega), costT_cons, hbk, hh]
    cases f
    · have := (minS_none _).1 hh
      unfold tryL at this
      rw [List.map_eq_nil_iff] at this
      have h1 := pc_free hk hm2
      rw [this] at h1
      simp at h1; omega
    · rfl
  · exact h.good m (by omega) hm2
theorem Good.all {n k : Nat} {us bs L : List Nat} (hk : k ≤ 6) (hu : us.length = k) (h : ∀ m : Nat, L[m]?.getD 0 = 0) : Good n k us bs (2 ^ k - 1) L := fun m hm hm2 => by
  have e : m = 2 ^ k - 1 := by omega
  rw [h, e, pc_all hk, ← hu, List.drop_length]; rfl
theorem sumAt_le {n k : Nat} {us bs : List Nat} (hv : Vc n us bs) (T j : Nat) : dsN n (us[pcN T]?.getD 0) (bs[j]?.getD 0) ≤ 16 ∧ costT n bs (us.drop (pcN T + 1)) (T ||| 1 <<< j) ≤ 96 := by
  have h1 := dsN_le hv.pos (us[pcN T]?.getD 0) (bs[j]?.getD 0)
  have h2 := costT_le hv.pos bs (us.drop (pcN T + 1)) (T ||| 1 <<< j)
  have h3 : (us.drop (pcN T + 1)).length ≤ 6 := by rw [List.length_drop]; have := hv.l6; omega
  have h4 : (us.drop (pcN T + 1)).length * n ≤ 6 * 16 := Nat.mul_le_mul h3 hv.hi
  have := hv.hi
  exact ⟨by omega, by omega⟩

theorem info_arr : (Try.prog.info? 99).map (·.size) = some 64 := by kernel_rfl
theorem ints_size (L : List Nat) : (ints L).toArray.size = L.length := by simp [ints]
theorem ints_one (L : List Nat) : (ints L).toArray.all (·.oneCell') = true := by
  rw [Array.all_eq_true_iff_forall_mem]
  intro v hv
  have : v ∈ ints L := by simpa using hv
  obtain ⟨x, _, rfl⟩ := List.mem_map.1 this
  rfl

theorem zeros_lit : (ints (List.replicate 64 0)).toArray = #[Value.int .i64 0, Value.int .i64 0, Value.int .i64 0, Value.int .i64 0, Value.int .i64 0, Value.int .i64 0, Value.int .i64 0, Value.int .i64 0, Value.int .i64 0, Value.int .i64 0, Value.int .i64 0, Value.int .i64 0, Value.int .i64 0, Value.int .i64 0, Value.int .i64 0, Value.int .i64 0, Value.int .i64 0, Value.int .i64 0, Value.int .i64 0, Value.int .i64 0, Value.int .i64 0, Value.int .i64 0, Value.int .i64 0, Value.int .i64 0, Value.int .i64 0, Value.int .i64 0, Value.int .i64 0, Value.int .i64 0, Value.int .i64 0, Value.int .i64 0, Value.int .i64 0, Value.int .i64 0, Value.int .i64 0, Value.int .i64 0, Value.int .i64 0, Value.int .i64 0, Value.int .i64 0, Value.int .i64 0, Value.int .i64 0, Value.int .i64 0, Value.int .i64 0, Value.int .i64 0, Value.int .i64 0, Value.int .i64 0, Value.int .i64 0, Value.int .i64 0, Value.int .i64 0, Value.int .i64 0, Value.int .i64 0, Value.int .i64 0, Value.int .i64 0, Value.int .i64 0, Value.int .i64 0, Value.int .i64 0, Value.int .i64 0, Value.int .i64 0, Value.int .i64 0, Value.int .i64 0, Value.int .i64 0, Value.int .i64 0, Value.int .i64 0, Value.int .i64 0, Value.int .i64 0, Value.int .i64 0] := rfl
theorem least_world (w : World) : ∃ W : World, ((w.alloc (.cells #[Value.int .i64 0, Value.int .i64 0, Value.int .i64 0, Value.int .i64 0, Value.int .i64 0, Value.int .i64 0, Value.int .i64 0, Value.int .i64 0, Value.int .i64 0, Value.int .i64 0, Value.int .i64 0, Value.int .i64 0, Value.int .i64 0, Value.int .i64 0, Value.int .i64 0, Value.int .i64 0, Value.int .i64 0, Value.int .i64 0, Value.int .i64 0, Value.int .i64 0, Value.int .i64 0, Value.int .i64 0, Value.int .i64 0, Value.int .i64 0, Value.int .i64 0, Value.int .i64 0, Value.int .i64 0, Value.int .i64 0, Value.int .i64 0, Value.int .i64 0, Value.int .i64 0, Value.int .i64 0, Value.int .i64 0, Value.int .i64 0, Value.int .i64 0, Value.int .i64 0, Value.int .i64 0, Value.int .i64 0, Value.int .i64 0, Value.int .i64 0, Value.int .i64 0, Value.int .i64 0, Value.int .i64 0, Value.int .i64 0, Value.int .i64 0, Value.int .i64 0, Value.int .i64 0, Value.int .i64 0, Value.int .i64 0, Value.int .i64 0, Value.int .i64 0, Value.int .i64 0, Value.int .i64 0, Value.int .i64 0, Value.int .i64 0, Value.int .i64 0, Value.int .i64 0, Value.int .i64 0, Value.int .i64 0, Value.int .i64 0, Value.int .i64 0, Value.int .i64 0, Value.int .i64 0, Value.int .i64 0] 99)).alloc (.cells #[Value.int .i64 0, Value.int .i64 0, Value.int .i64 0, Value.int .i64 0, Value.int .i64 0, Value.int .i64 0, Value.int .i64 0, Value.int .i64 0, Value.int .i64 0, Value.int .i64 0, Value.int .i64 0, Value.int .i64 0, Value.int .i64 0, Value.int .i64 0, Value.int .i64 0, Value.int .i64 0, Value.int .i64 0, Value.int .i64 0, Value.int .i64 0, Value.int .i64 0, Value.int .i64 0, Value.int .i64 0, Value.int .i64 0, Value.int .i64 0, Value.int .i64 0, Value.int .i64 0, Value.int .i64 0, Value.int .i64 0, Value.int .i64 0, Value.int .i64 0, Value.int .i64 0, Value.int .i64 0, Value.int .i64 0, Value.int .i64 0, Value.int .i64 0, Value.int .i64 0, Value.int .i64 0, Value.int .i64 0, Value.int .i64 0, Value.int .i64 0, Value.int .i64 0, Value.int .i64 0, Value.int .i64 0, Value.int .i64 0, Value.int .i64 0, Value.int .i64 0, Value.int .i64 0, Value.int .i64 0, Value.int .i64 0, Value.int .i64 0, Value.int .i64 0, Value.int .i64 0, Value.int .i64 0, Value.int .i64 0, Value.int .i64 0, Value.int .i64 0, Value.int .i64 0, Value.int .i64 0, Value.int .i64 0, Value.int .i64 0, Value.int .i64 0, Value.int .i64 0, Value.int .i64 0, Value.int .i64 0] 99)) = W ∧ Row W w.heap.size 99 (ints (List.replicate 64 0)) ∧ Row W (w.heap.size + 1) 99 (ints (List.replicate 64 0)) ∧ Below w.heap.size w W := by
  rw [← zeros_lit]
  refine ⟨_, rfl, (Row.new w _ _).alloc _, ?_, ((Below.refl _ w).alloc (Nat.le_refl _) _).alloc (by simp) _⟩
  have := Row.new (w.alloc (.cells (ints (List.replicate 64 0)).toArray 99)) 99 (ints (List.replicate 64 0))
  rw [World.size_alloc] at this
  exact this

set_option maxHeartbeats 2000000 in
theorem leastCosts_any (n : Nat) (us bs : List Nat) (hv : Vc n us bs) (v u : Value) (w : World) (h : IntsV w v (natI us)) (k : IntsV w u (natI bs)) :
    Calls Try.prog 92 #[.int .i64 n, v, u] w fun e w' => ∃ L : List Nat, e = .returned (.agg (ints L).toArray) ∧ L.length = 64 ∧ Good n us.length us bs 0 L ∧ Below w.heap.size w w' := by
  have l1 := hv.l1
  have l6 := hv.l6
  have hlen := hv.len
  have hn := hv.hi
  obtain ⟨b1, o1, c1, rfl, _, ha⟩ := ints_nat h (by omega)
  obtain ⟨b2, o2, c2, rfl, _, hbs⟩ := ints_nat k (by omega)
  have HA := Lib.hid ha
  have HB := Lib.hid hbs
  have HD := Lib.hid (fun x y hx hy => distance_any n x y hn hx hy)
  have HX := Lib.hid (fun i => getD_lt hv.la hv.pos i)
  have HY := Lib.hid (fun i => getD_lt hv.lb hv.pos i)
  have HO := Lib.hid (fun c hc => ones_any c hc)
  have HSl := Lib.hid (fun T j => sumAt_le (k := 0) hv T j)
  clear h k ha hbs hv
  obtain ⟨m, hm⟩ : ∃ m, us.length = m := ⟨_, rfl⟩
  have hm2 : bs.length = m := by omega
  rw [hm] at l1 l6 HA
  rw [hm2] at HB
  have HU := Lib.hid hm
  have HV := Lib.hid hm2
  rw [hm, hm2]
  clear hm hm2 hlen
  obtain ⟨W0, hW0, r0, r1, hb0⟩ := least_world w
  obtain ⟨H, hH⟩ : ∃ H, w.heap.size = H := ⟨_, rfl⟩
  have hN64 : 2 ^ m ≤ 2 ^ 6 := Nat.pow_le_pow_right (by omega) l6
  have hN2 : 2 ^ 1 ≤ 2 ^ m := Nat.pow_le_pow_right (by omega) l1
  have hsh := w64_pow (show m < 16 by omega)
  rw [Nat.one_shiftLeft] at hsh
  have HG0 := Lib.hid (Good.all (n := n) (bs := bs) l6 HU.out (L := List.replicate 64 0) (fun i => by rw [List.getElem?_replicate]; split <;> rfl))
  obtain ⟨N, hN⟩ : ∃ N, 2 ^ m = N := ⟨_, rfl⟩
  rw [hN] at hN64 hN2 hsh HG0
  have HNN := Lib.hid hN
  clear hN
  have HW0 := Lib.hid hW0
  have HR0 := Lib.hid r0
  have HR1 := Lib.hid r1
  have HB0 := Lib.hid hb0
  clear hW0 r0 r1 hb0
  have HL0 := Lib.hid (show (List.replicate 64 0).length = 64 by simp)
  go_enter Try.func92, Try.ntmps92
  go_wp2_with fail
  rw [HW0.out]
  rw [hH] at HR0 HR1 HB0
  have HH := Lib.hid hH
  clear hH
  generalize List.replicate 64 0 = Z at *
  go_loopw [9] (fun i wr => ∃ (T : Nat) (L : List Nat), T ≤ N - 1 ∧ i = .int .i64 ((T : Int) - 1) ∧ L.length = 64 ∧ Good n m us bs T L ∧ Row wr H 99 (ints Z) ∧ Row wr (H + 1) 99 (ints L) ∧ Below H w wr) (fun i _ => (intOf i + 1).toNat)
  case atStart => exact ⟨N - 1, Z, Nat.le_refl _, by rw [show ((N - 1 : Nat) : Int) = (N : Int) - 1 by omega], HL0.out, HG0.out, HR0.out, HR1.out, HB0.out⟩
  case round =>
    obtain ⟨T, L, hT, rfl, hL, hG, hr0, hr1, hb⟩ := hrel
    rcases T with _ | t
    · rw [show (((0 : Nat) : Int) - 1) = -1 from rfl]
      have HG := Lib.hid hG
      have HLL := Lib.hid hL
      have HBw := Lib.hid hb
      have R0 := Lib.hid hr0
      have R1 := Lib.hid hr1
      clear hL hG hr0 hr1 hb
      go_wp2_with (refine wpList_load_row rfl 99 (.tmp 7) rfl (H + 1) rfl 99 (ints L).toArray (0, 0) _ R1.out Try.underlying99 rfl (by rw [info_arr, ints_size, HLL.out]) ?_; refine wpList_store_row rfl 99 (.tmp 6) (.tmp 67) rfl H (ints L).toArray rfl rfl 99 (ints Z).toArray R0.out (by rw [info_arr, ints_size, HLL.out]) (by rw [ints_size, ints_size, HLL.out]; exact HL0.out) (ints_one L) ?_)
      refine bodyPost_ret (results_cell_row rfl _ _ H 99 (ints L).toArray (0, 0) _ rfl (setRow_heap _ _ _ _ _ _ R0.out) Try.underlying99 rfl (by rw [info_arr, ints_size, HLL.out])) rfl ?_
      exact ⟨L, rfl, HLL.out, HG.out, by rw [HH.out]; exact below_setRow HBw.out (Nat.le_refl _) _⟩
    · rw [show (((t + 1 : Nat) : Int) - 1) = (t : Int) by omega]
      have hp := pc_lt l6 (show t + 1 < 2 ^ m by rw [HNN.out]; omega)
      have ca := HA.out (pcN t) hp
      have HOt := Lib.hid (HO.out t (by omega))
      have ca' : wr.cell? ⟨b1, o1 + pcN t, none⟩ = some (.int .i64 ((us[pcN t]?.getD 0 : Nat) : Int)) := cell_later (by rw [HH.out]; exact hb) ca
      clear ca
      have HTr := Lib.hid (Tried.start hL hG)
      have R0 := Lib.hid hr0
      have R1 := Lib.hid hr1
      have HBw := Lib.hid hb
      have hx := HX.out (pcN t)
      have HSt := Lib.hid (HSl.out t)
      have HDn := Lib.hid (fun f L (h : Tried n m us bs t m f L) => h.done l6 HU.out HV.out (show t + 1 < 2 ^ m by rw [HNN.out]; omega))
      have ht63 : t ≤ 63 := by omega
      clear hL hG hr0 hr1 hb
      obtain ⟨pc, hpc⟩ : ∃ pc, pcN t = pc := ⟨_, rfl⟩
      rw [hpc] at hp HOt ca' hx
      have HPC := Lib.hid hpc
      clear hpc
      obtain ⟨x, hxx⟩ : ∃ x, us[pc]?.getD 0 = x := ⟨_, rfl⟩
      rw [hxx] at ca' hx
      have HXX := Lib.hid hxx
      clear hxx
      go_wp2_with fail
      refine (HOt.out _).mono ?_
      rintro e w1 ⟨rfl, rfl⟩
      go_wp2_with fail
      go_loopw [11, 34] (fun f i wq => ∃ (j : Nat) (fb : Bool) (L : List Nat), j ≤ m ∧ i = .int .i64 j ∧ f = .bool fb ∧ Tried n m us bs t j fb L ∧ Row wq H 99 (ints Z) ∧ Row wq (H + 1) 99 (ints L) ∧ Below H w wq) (fun _ i _ => m - (intOf i).toNat)
      case atStart => exact ⟨0, false, L, Nat.zero_le _, rfl, rfl, HTr.out, R0.out, R1.out, HBw.out⟩
      case round =>
        obtain ⟨j, fb, L, hj, rfl, rfl, hTr, hr0, hr1, hb⟩ := hrel
        by_cases hlj : j < m
        · have cb : wr.cell? ⟨b2, o2 + j, none⟩ = some (.int .i64 ((bs[j]?.getD 0 : Nat) : Int)) := cell_later (by rw [HH.out]; exact hb) (HB.out j hlj)
          have hy := HY.out j
          have hw2 := w64_pow (show j < 16 by omega)
          have he : 1 <<< j < 2 ^ 6 := by rw [Nat.one_shiftLeft]; exact Nat.pow_lt_pow_right (by omega) (by omega)
          have ht64 : t < 2 ^ 6 := by omega
          have hor := or_nat t (1 <<< j) (by omega) (by omega)
          have R0 := Lib.hid hr0
          have HBw := Lib.hid hb
          by_cases hbit : t.testBit j = true
          · rw [or_same hbit] at hor
            have HS := Lib.hid (hTr.skip hbit)
            have R1 := Lib.hid hr1
            generalize (1 <<< j : Nat) = e at *
            generalize bs[j]?.getD 0 = y at *
            clear hTr hr0 hr1 hb hbit
            go_wp2
            go_roundw
            case rel => exact ⟨j + 1, fb, L, by omega, by go_num, rfl, HS.out, R0.out, R1.out, HBw.out⟩
            case measure => simp only [intOf]; omega
          · have hbit' : t.testBit j = false := by simpa using hbit
            have hgt := or_gt hbit'
            have hnx : t ||| 1 <<< j < 2 ^ m := Nat.or_lt_two_pow (by rw [HNN.out]; omega) (by rw [Nat.one_shiftLeft]; exact Nat.pow_lt_pow_right (by omega) hlj)
            have hnx64 : t ||| 1 <<< j < 64 := by rw [HNN.out] at hnx; omega
            have hcn : L[t ||| 1 <<< j]?.getD 0 = costT n bs (us.drop (pcN t + 1)) (t ||| 1 <<< j) := by
              rw [hTr.good _ hgt hnx, pc_or l6 (show t < 2 ^ m by rw [HNN.out]; omega) hlj hbit']
            have cn : wr.cell? ⟨H + 1, t ||| 1 <<< j, none⟩ = some (.int .i64 ((costT n bs (us.drop (pcN t + 1)) (t ||| 1 <<< j) : Nat) : Int)) := by
              rw [hr1.cell, ints_at (by rw [hTr.len]; exact hnx64), hcn]
            have ct : wr.cell? ⟨H + 1, t, none⟩ = some (.int .i64 ((L[t]?.getD 0 : Nat) : Int)) := by
              rw [hr1.cell, ints_at (by rw [hTr.len]; omega)]
            have ft := hr1.frozen t
            obtain ⟨hs1, hs2⟩ := HSt.out j
            have HDj := Lib.hid (HD.out x (bs[j]?.getD 0) hx hy)
            have HSum := Lib.hid (show sumAt n us bs t j = dsN n x (bs[j]?.getD 0) + costT n bs (us.drop (pcN t + 1)) (t ||| 1 <<< j) by unfold sumAt; rw [HPC.out, HXX.out])
            rw [HPC.out, HXX.out] at hs1
            rw [HPC.out] at hs2 cn HSum
            have HPut := Lib.hid (fun h => hTr.put (by omega) hbit' h)
            have HKeep := Lib.hid (fun (e : fb = true) => (fun (h : Tried n m us bs t j true L) => h.keep hbit') (e ▸ hTr))
            have HSet := Lib.hid (fun v => ints_set L t v)
            have R1 := Lib.hid hr1
            clear hTr hr0 hr1 hb hbit hbit' hcn hnx
            generalize sumAt n us bs t j = s at *
            generalize costT n bs (us.drop (pc + 1)) (t ||| 1 <<< j) = c at *
            generalize (t ||| 1 <<< j : Nat) = nx at *
            generalize (1 <<< j : Nat) = e at *
            generalize bs[j]?.getD 0 = y at *
            generalize dsN n x y = d at *
            generalize L[t]?.getD 0 = lt at *
            have hs : s = d + c := HSum.out
            subst hs
            have q1 : ((nx : Int) == (t : Int)) = false := by rw [beq_eq_false_iff_ne]; omega
            cases fb
            · have HT1 := Lib.hid (HPut.out (.inl rfl))
              clear HPut HKeep
              go_wp2
              go_quiet ((go_at_call 82; exact Calls.quiet_of_same ((HDj.out _).mono fun e w' h => ⟨h.1, h.2.symm⟩)))
              go_wp2
              go_roundw
              case rel => exact ⟨j + 1, true, _, by omega, by go_num, rfl, HT1.out, (R0.out.drewN _).other (by omega) _, by rw [← HSet.out]; exact (R1.out.drewN _).set t _, (below_drewN HBw.out _).setCell (p := ⟨H + 1, t, none⟩) (show H ≤ H + 1 by omega) _⟩
              case measure => simp only [intOf]; omega
            · by_cases hlt : d + c < lt
              · have HT1 := Lib.hid (HPut.out (.inr hlt))
                clear HPut HKeep
                go_wp2
                go_quiet ((go_at_call 82; exact Calls.quiet_of_same ((HDj.out _).mono fun e w' h => ⟨h.1, h.2.symm⟩)))
                go_wp2
                go_roundw
                case rel => exact ⟨j + 1, true, _, by omega, by go_num, rfl, HT1.out, (R0.out.drewN _).other (by omega) _, by rw [← HSet.out]; exact (R1.out.drewN _).set t _, (below_drewN HBw.out _).setCell (p := ⟨H + 1, t, none⟩) (show H ≤ H + 1 by omega) _⟩
                case measure => simp only [intOf]; omega
              · have HT1 := Lib.hid (HKeep.out rfl hlt)
                clear HPut HKeep
                go_wp2
                go_quiet ((go_at_call 82; exact Calls.quiet_of_same ((HDj.out _).mono fun e w' h => ⟨h.1, h.2.symm⟩)))
                go_wp2
                go_roundw
                case rel => exact ⟨j + 1, true, L, by omega, by go_num, rfl, HT1.out, R0.out.drewN _, R1.out.drewN _, below_drewN HBw.out _⟩
                case measure => simp only [intOf]; omega
        · obtain rfl : j = m := by omega
          have HG := Lib.hid (HDn.out fb L hTr)
          have HLL := Lib.hid hTr.len
          have R0 := Lib.hid hr0
          have R1 := Lib.hid hr1
          have HBw := Lib.hid hb
          clear hTr hr0 hr1 hb
          go_wp2
          go_roundw
          case rel => exact ⟨t, L, by omega, by go_num, HLL.out, HG.out, R0.out, R1.out, HBw.out⟩
          case measure => simp only [intOf]; omega
end Go.Proofs.Ytkpiakoijkflmaa

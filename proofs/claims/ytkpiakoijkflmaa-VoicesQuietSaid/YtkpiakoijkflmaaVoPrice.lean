/-
  The price of a leading: the code's and the reference's.
-/
import Derived.Test.YtkpiakoijkflmaaVoLead
import Derived.Test.YtkpiakoijkflmaaRoundQ
namespace Go.Proofs.Ytkpiakoijkflmaa
open Go.ChangeShapes Go.WideShapes Go.ChangeAt Go.RowKit
set_option maxRecDepth 100000

/-- Two voicings on a circle. -/
structure Vc (n : Nat) (us bs : List Nat) : Prop where
  lo : 2 ≤ n
  hi : n ≤ 16
  len : us.length = bs.length
  l1 : 1 ≤ us.length
  l6 : us.length ≤ 6
  la : ∀ x ∈ us, x < n
  lb : ∀ x ∈ bs, x < n
theorem Vc.pos {n : Nat} {us bs : List Nat} (h : Vc n us bs) : 0 < n := by have := h.lo; omega
theorem Vc.symm {n : Nat} {us bs : List Nat} (h : Vc n us bs) : Vc n bs us := ⟨h.lo, h.hi, h.len.symm, by have := h.l1; have := h.len; omega, by have := h.l6; have := h.len; omega, h.lb, h.la⟩

theorem voic_nat {n : Nat} {xs : List Int} (h : voicB n xs = true) : ∃ us, xs = natI us ∧ 1 ≤ us.length ∧ us.length ≤ 6 ∧ ∀ x ∈ us, x < n := by
  unfold voicB inB at h
  rw [Bool.and_eq_true, decide_eq_true_eq, decide_eq_true_eq] at h
  obtain ⟨⟨h1, h2⟩, h3⟩ := h
  obtain ⟨us, rfl⟩ := natI_ex (fun x hx => (h3 x hx).1)
  rw [natI_length] at h1 h2
  refine ⟨us, rfl, h1, h2, fun x hx => ?_⟩
  have := (h3 x (natI_mem.2 hx)).2
  omega
theorem voic_of {n : Nat} {us : List Nat} (h1 : 1 ≤ us.length) (h2 : us.length ≤ 6) (h3 : ∀ x ∈ us, x < n) : voicB n (natI us) = true := by
  unfold voicB inB
  rw [Bool.and_eq_true, decide_eq_true_eq, decide_eq_true_eq, natI_length]
  refine ⟨⟨h1, h2⟩, fun x hx => ?_⟩
  obtain ⟨y, hy, rfl⟩ := List.mem_map.1 hx
  have := h3 y hy
  omega
theorem two_nat {n : Int} {xs zs : List Int} (h : twoB n xs zs = true) : ∃ (m : Nat) (us bs : List Nat), n = m ∧ xs = natI us ∧ zs = natI bs ∧ Vc m us bs := by
  unfold twoB circB at h
  simp only [Bool.and_eq_true, decide_eq_true_eq] at h
  obtain ⟨⟨⟨⟨h1, h2⟩, h3⟩, _, h4⟩, h5⟩ := h
  obtain ⟨m, rfl⟩ := Int.eq_ofNat_of_zero_le (show 0 ≤ n by omega)
  obtain ⟨us, rfl, a1, a2, a3⟩ := voic_nat h3
  obtain ⟨bs, rfl, b1, b2, b3⟩ := voic_nat h4
  rw [natI_length, natI_length] at h5
  exact ⟨m, us, bs, rfl, rfl, rfl, by omega, by omega, h5, a1, a2, a3, b3⟩
theorem two_of {n : Nat} {us bs : List Nat} (h : Vc n us bs) : twoB n (natI us) (natI bs) = true := by
  unfold twoB circB
  have := h.lo; have := h.hi
  rw [voic_of h.l1 h.l6 h.la, voic_of h.symm.l1 h.symm.l6 h.lb, natI_length, natI_length, decide_eq_true h.len, decide_eq_true ⟨by omega, by omega⟩]
  rfl
theorem ld_nat {k : Nat} {xs : List Int} (h : ldB k xs = true) : ∃ l, xs = natI l ∧ l.length = k ∧ Fits k 0 l := by
  unfold ldB at h
  rw [Bool.and_eq_true, decide_eq_true_eq] at h
  obtain ⟨l, rfl, h1, h2⟩ := part_nat h.2
  rw [natI_length] at h
  exact ⟨l, rfl, h.1, h2, fun p hp => ⟨h1 p hp, Nat.zero_testBit _⟩⟩
theorem ld_of {k : Nat} {l : List Nat} (h1 : l.length = k) (h : Fits k 0 l) : ldB k (natI l) = true := by
  unfold ldB
  rw [natI_length, decide_eq_true h1, Bool.true_and]
  exact part_of (fun p hp => (h.2 p hp).1) h.1
theorem ok_two (n : Int) (xs zs : List Int) : (circB n && okAll n [xs, zs]) = twoB n xs zs := by
  unfold twoB okAll
  rw [Bool.eq_iff_iff]
  simp only [Bool.and_eq_true, decide_eq_true_eq, List.mem_cons, List.not_mem_nil, or_false, forall_eq_or_imp, forall_eq, List.getElem?_cons_zero, Option.getD_some, and_true]
  constructor
  · rintro ⟨h1, h2, h3, h4⟩; exact ⟨⟨⟨h1, h2⟩, h1, h3⟩, h4.symm⟩
  · rintro ⟨⟨⟨h1, h2⟩, _, h3⟩, h4⟩; exact ⟨h1, h2, h3, h4.symm⟩

/-- valid, of two slices that are laid beside each other for the call. -/
theorem valid2_any (n : Int) (xs zs : List Int) (v u : Value) (w : World) (hl : xs.length ≤ maxLen) (hm : zs.length ≤ maxLen) (h : IntsV w v xs) (k : IntsV w u zs) :
    Calls Try.prog 60 #[.int .i64 n, .slice (some ⟨w.heap.size, 0, none⟩) 2 2] (w.alloc (.cells #[v, u] 22)) fun e w' => e = .returned (.bool (twoB n xs zs)) ∧ w.alloc (.cells #[v, u] 22) = w' := by
  have hb := (Below.refl w.heap.size w).alloc (Nat.le_refl _) (.cells #[v, u] 22)
  have hr := Row.new w 22 [v, u]
  refine (valid_any n [xs, zs] [v, u] _ _ (by simp [maxLen]) ⟨_, 2, rfl, by simp, fun _ => ⟨_, 0, rfl, fun i hi => ?_⟩⟩ ⟨⟨h.later hb, hl⟩, ⟨k.later hb, hm⟩, trivial⟩).mono ?_
  · rw [Nat.zero_add, hr.cell i]
    rcases i with _ | _ | i
    · rfl
    · rfl
    · simp at hi; omega
  · rintro e w' ⟨rfl, rfl⟩
    exact ⟨ret_bool (ok_two n xs zs), rfl⟩

theorem prT_snoc (n : Nat) (bs : List Nat) (x p : Nat) : ∀ {us l : List Nat}, us.length = l.length → prT n bs (us ++ [x]) (l ++ [p]) = prT n bs us l + dsN n x (bs[p]?.getD 0)
  | [], [], _ => by simp [prT]
  | [], _ :: _, h => by simp at h
  | _ :: _, [], h => by simp at h
  | a :: us, q :: l, h => by
    simp only [List.cons_append, prT]
    rw [prT_snoc n bs x p (by simpa using h)]; omega
theorem prT_take {n : Nat} {bs us l : List Nat} {k : Nat} (h : us.length = l.length) (hk : k < l.length) :
    prT n bs (us.take (k + 1)) (l.take (k + 1)) = prT n bs (us.take k) (l.take k) + dsN n (us[k]?.getD 0) (bs[l[k]?.getD 0]?.getD 0) := by
  rw [List.take_succ_eq_append_getElem hk, List.take_succ_eq_append_getElem (show k < us.length by omega), prT_snoc _ _ _ _ (by simp; omega), List.getElem?_eq_getElem hk, List.getElem?_eq_getElem (show k < us.length by omega)]
  rfl
theorem prT_le {n : Nat} (hn : 0 < n) (bs : List Nat) : ∀ us l : List Nat, prT n bs us l ≤ us.length * n
  | [], _ => by simp [prT]
  | _ :: _, [] => by simp [prT]
  | x :: us, p :: l => by
    have h1 := dsN_le hn x (bs[p]?.getD 0)
    have h2 := prT_le hn bs us l
    rw [prT, List.length_cons, Nat.succ_mul]; omega
theorem prT_100 {n : Nat} {us bs : List Nat} (h : Vc n us bs) (k : Nat) (l : List Nat) : prT n bs (us.take k) l ≤ 96 := by
  have h1 := prT_le h.pos bs (us.take k) l
  have h2 : (us.take k).length ≤ 6 := by rw [List.length_take]; have := h.l6; omega
  have h3 : (us.take k).length * n ≤ 6 * 16 := Nat.mul_le_mul h2 h.hi
  omega

theorem ints_nat {W : World} {v : Value} {ys : List Nat} (h : IntsV W v (natI ys)) (h0 : 0 < ys.length) : ∃ b off cap, v = .slice (some ⟨b, off, none⟩) ys.length cap ∧ ys.length ≤ cap ∧ ∀ i, i < ys.length → W.cell? ⟨b, off + i, none⟩ = some (.int .i64 ((ys[i]?.getD 0 : Nat) : Int)) := by
  obtain ⟨ao, cap, rfl, hc, hd⟩ := h
  rw [natI_length] at hc hd
  obtain ⟨b, off, rfl, hd2⟩ := hd h0
  exact ⟨b, off, cap, by rw [natI_length], hc, fun i hi => (hd2 i hi).trans (by rw [natI_at])⟩

set_option maxHeartbeats 1000000 in
theorem Price_ok (n : Nat) (us bs l : List Nat) (hv : Vc n us bs) (hll : l.length = us.length) (hf : Fits us.length 0 l) (v u t : Value) (w : World) (h : IntsV w v (natI us)) (k : IntsV w u (natI bs)) (q : IntsV w t (natI l)) :
    Calls Try.prog 39 #[.int .i64 n, v, u, t] w fun e w' => e = .returned (.tuple #[.int .i64 (prT n bs us l : Nat), .int .i64 0]) ∧ Below w.heap.size w w' := by
  have l1 := hv.l1
  have l6 := hv.l6
  have hlen := hv.len
  have hn := hv.hi
  have HV := Lib.hid (valid2_any n (natI us) (natI bs) v u w (by rw [natI_length]; unfold maxLen; omega) (by rw [natI_length]; unfold maxLen; omega) h k)
  rw [two_of hv] at HV
  obtain ⟨W1, hW1⟩ : ∃ W1, w.alloc (.cells #[v, u] 22) = W1 := ⟨_, rfl⟩
  have hb : Below w.heap.size w W1 := by rw [← hW1]; exact (Below.refl _ w).alloc (Nat.le_refl _) _
  have HL := Lib.hid (isLeading_any us.length l6 (natI l) t W1 (by rw [natI_length]; unfold maxLen; omega) (q.later hb))
  rw [ld_of hll hf] at HL
  obtain ⟨b1, o1, c1, rfl, _, ha⟩ := ints_nat (h.later hb) (by omega)
  obtain ⟨b2, o2, c2, rfl, _, hbs⟩ := ints_nat (k.later hb) (by omega)
  obtain ⟨b3, o3, c3, rfl, _, hls⟩ := ints_nat (q.later hb) (by omega)
  have HA := Lib.hid ha
  have HB := Lib.hid hbs
  have HQ := Lib.hid hls
  have HD := Lib.hid (fun x y hx hy => distance_any n x y hn hx hy)
  have HT := Lib.hid (fun j hj => prT_take (n := n) (bs := bs) (us := us) (l := l) (k := j) hll.symm hj)
  have HP := Lib.hid (fun j => prT_100 hv j (l.take j))
  have HX := Lib.hid (fun i => getD_lt hv.la hv.pos i)
  have HY := Lib.hid (fun i => getD_lt hv.lb hv.pos i)
  have HF := Lib.hid (fun j (hj : j < l.length) => show l[j]?.getD 0 < us.length from (hf.2 (l[j]?.getD 0) (by rw [List.getElem?_eq_getElem hj]; exact List.getElem_mem hj)).1)
  have HE := Lib.hid (show prT n bs (us.take l.length) (l.take l.length) = prT n bs us l by rw [List.take_length, hll, List.take_length])
  rw [hW1] at HV
  have HW := Lib.hid hW1
  have HBl := Lib.hid hb
  clear h k q ha hbs hls hv hf hb hW1
  obtain ⟨m, hm⟩ : ∃ m, us.length = m := ⟨_, rfl⟩
  have hm2 : bs.length = m := by omega
  have hm3 : l.length = m := by omega
  rw [hm, hm2] at HW
  rw [hm] at l1 l6 HL HA
  rw [hm2] at HB
  rw [hm3, hm] at HF
  rw [hm3] at HQ HT HE HL
  rw [hm, hm2, hm3]
  clear hm hm2 hm3 hlen hll
  go_enter Try.func39, Try.ntmps39
  go_wp2_with fail
  rw [HW.out]
  refine HV.out.mono ?_
  rintro e w1 ⟨rfl, rfl⟩
  go_wp2_with fail
  refine HL.out.mono ?_
  rintro e w1 ⟨rfl, rfl⟩
  go_wp2
  go_loopw [10, 11, 12, 28] (fun s _ _ i wr => ∃ (j d : Nat), j ≤ m ∧ i = .int .i64 j ∧ s = .int .i64 (prT n bs (us.take j) (l.take j) : Nat) ∧ wr = W1.drewN d) (fun _ _ _ i _ => m - (intOf i).toNat)
  case atStart => exact ⟨0, 0, Nat.zero_le _, rfl, by simp [prT], rfl⟩
  case round =>
    obtain ⟨j, d, hj, rfl, rfl, rfl⟩ := hrel
    by_cases hlk : j < m
    · obtain ⟨W, hWd⟩ : ∃ W, W1.drewN d = W := ⟨_, rfl⟩
      have HTj := Lib.hid (HT.out j hlk)
      have HFj := HF.out j hlk
      have ca : W.cell? ⟨b1, o1 + j, none⟩ = some (.int .i64 ((us[j]?.getD 0 : Nat) : Int)) := by rw [← hWd]; exact HA.out j (by omega)
      have cq : W.cell? ⟨b3, o3 + j, none⟩ = some (.int .i64 ((l[j]?.getD 0 : Nat) : Int)) := by rw [← hWd]; exact HQ.out j (by omega)
      have hx := HX.out j
      have hp := HP.out j
      generalize us[j]?.getD 0 = x at ca hx HTj
      generalize l[j]?.getD 0 = p at cq HFj HTj
      have cb : W.cell? ⟨b2, o2 + p, none⟩ = some (.int .i64 ((bs[p]?.getD 0 : Nat) : Int)) := by rw [← hWd]; exact HB.out p (by omega)
      have hy := HY.out p
      generalize bs[p]?.getD 0 = y at cb hy HTj
      have HDj := Lib.hid (HD.out x y hx hy)
      have hdl := dsN_le (show 0 < n by omega) x y
      generalize prT n bs (us.take j) (l.take j) = s at *
      generalize dsN n x y = ds at *
      have hp63 : p ≤ 6 := by omega
      rw [hWd]
      have HWd := Lib.hid hWd
      clear hWd
      go_wp2
      go_quiet ((go_at_call 82; exact Calls.quiet_of_same ((HDj.out _).mono fun e w' h => ⟨h.1, h.2.symm⟩)))
      go_wp2
      go_roundw
      case rel => exact ⟨j + 1, d + nq, by omega, by go_num, by rw [HTj.out]; go_num, by rw [← HWd.out, World.drewN_drewN]⟩
      case measure => simp only [intOf]; omega
    · obtain rfl : j = m := by omega
      rw [HE.out]
      go_wp2
      go_ret2
      exact ⟨rfl, below_drewN HBl.out d⟩

theorem voic_len {n : Int} {xs : List Int} (h : voicB n xs = true) : xs.length ≤ 6 := by
  unfold voicB at h
  rw [Bool.and_eq_true, decide_eq_true_eq] at h
  exact h.1.2
theorem two_len {n : Int} {xs zs : List Int} (h : twoB n xs zs = true) : xs.length ≤ 6 := by
  unfold twoB at h
  simp only [Bool.and_eq_true] at h
  exact voic_len h.1.1.2

theorem Price_bad (n : Int) (xs zs ls : List Int) (hl : xs.length ≤ maxLen) (hm : zs.length ≤ maxLen) (hk : ls.length ≤ maxLen) (hb : twoB n xs zs = false ∨ ldB xs.length ls = false) (v u t : Value) (w : World) (h : IntsV w v xs) (k : IntsV w u zs) (q : IntsV w t ls) :
    Calls Try.prog 39 #[.int .i64 n, v, u, t] w fun e w' => e = .returned (.tuple #[.int .i64 0, .int .i64 2]) ∧ Below w.heap.size w w' := by
  have HV := Lib.hid (valid2_any n xs zs v u w hl hm h k)
  obtain ⟨W1, hW1⟩ : ∃ W1, w.alloc (.cells #[v, u] 22) = W1 := ⟨_, rfl⟩
  have hbl : Below w.heap.size w W1 := by rw [← hW1]; exact (Below.refl _ w).alloc (Nat.le_refl _) _
  have HBl := Lib.hid hbl
  have Q1 := Lib.hid (q.later hbl)
  rw [hW1] at HV
  obtain ⟨ao, ca, rfl, _, _⟩ := h
  obtain ⟨bo, cb, rfl, _, _⟩ := k
  have HW := Lib.hid hW1
  clear hW1 hbl q
  cases ht : twoB n xs zs
  · rw [ht] at HV
    clear ht hb
    go_enter Try.func39, Try.ntmps39
    go_wp2_with fail
    rw [HW.out]
    refine HV.out.mono ?_
    rintro e w1 ⟨rfl, rfl⟩
    go_wp2
    go_ret2
    exact ⟨rfl, HBl.out⟩
  · have hld : ldB xs.length ls = false := by rcases hb with hb | hb; · rw [ht] at hb; cases hb
                                              · exact hb
    have HL := Lib.hid (isLeading_any xs.length (two_len ht) ls t W1 hk Q1.out)
    rw [ht] at HV
    rw [hld] at HL
    clear ht hb hld
    unfold maxLen at hl hm hk
    go_enter Try.func39, Try.ntmps39
    go_wp2_with fail
    rw [HW.out]
    refine HV.out.mono ?_
    rintro e w1 ⟨rfl, rfl⟩
    go_wp2_with fail
    refine HL.out.mono ?_
    rintro e w1 ⟨rfl, rfl⟩
    go_wp2
    go_ret2
    exact ⟨rfl, HBl.out⟩

set_option maxHeartbeats 1000000 in
theorem RPrice_any (n : Nat) (us bs l : List Nat) (hv : Vc n us bs) (hll : l.length = us.length) (hf : Fits us.length 0 l) (v u t : Value) (w : World) (h : IntsV w v (natI us)) (k : IntsV w u (natI bs)) (q : IntsV w t (natI l)) :
    Calls Try.prog 63 #[.int .i64 n, v, u, t] w fun e w' => e = .returned (.int .i64 (prT n bs us l : Nat)) ∧ ∃ d, w' = w.drewN d := by
  have l1 := hv.l1
  have l6 := hv.l6
  have hlen := hv.len
  have hn := hv.hi
  obtain ⟨b1, o1, c1, rfl, _, ha⟩ := ints_nat h (by omega)
  obtain ⟨b2, o2, c2, rfl, _, hbs⟩ := ints_nat k (by omega)
  obtain ⟨b3, o3, c3, rfl, _, hls⟩ := ints_nat q (by omega)
  have HA := Lib.hid ha
  have HB := Lib.hid hbs
  have HQ := Lib.hid hls
  have HD := Lib.hid (fun x y hx hy => RDist_any n x y hn hx hy)
  have HT := Lib.hid (fun j hj => prT_take (n := n) (bs := bs) (us := us) (l := l) (k := j) hll.symm hj)
  have HP := Lib.hid (fun j => prT_100 hv j (l.take j))
  have HX := Lib.hid (fun i => getD_lt hv.la hv.pos i)
  have HY := Lib.hid (fun i => getD_lt hv.lb hv.pos i)
  have HF := Lib.hid (fun j (hj : j < l.length) => show l[j]?.getD 0 < us.length from (hf.2 (l[j]?.getD 0) (by rw [List.getElem?_eq_getElem hj]; exact List.getElem_mem hj)).1)
  have HE := Lib.hid (show prT n bs (us.take l.length) (l.take l.length) = prT n bs us l by rw [List.take_length, hll, List.take_length])
  clear h k q ha hbs hls hv hf
  obtain ⟨m, hm⟩ : ∃ m, us.length = m := ⟨_, rfl⟩
  have hm2 : bs.length = m := by omega
  have hm3 : l.length = m := by omega
  rw [hm] at l1 l6 HA
  rw [hm2] at HB
  rw [hm3, hm] at HF
  rw [hm3] at HQ HT HE
  rw [hm, hm2, hm3]
  clear hm hm2 hm3 hlen hll
  go_enter Try.func63, Try.ntmps63
  go_wp2
  go_loopw [9, 10, 11, 14] (fun s _ _ i wr => ∃ (j d : Nat), j ≤ m ∧ i = .int .i64 j ∧ s = .int .i64 (prT n bs (us.take j) (l.take j) : Nat) ∧ wr = w.drewN d) (fun _ _ _ i _ => m - (intOf i).toNat)
  case atStart => exact ⟨0, 0, Nat.zero_le _, rfl, by simp [prT], rfl⟩
  case round =>
    obtain ⟨j, d, hj, rfl, rfl, rfl⟩ := hrel
    by_cases hlk : j < m
    · obtain ⟨W, hWd⟩ : ∃ W, w.drewN d = W := ⟨_, rfl⟩
      have HTj := Lib.hid (HT.out j hlk)
      have HFj := HF.out j hlk
      have ca : W.cell? ⟨b1, o1 + j, none⟩ = some (.int .i64 ((us[j]?.getD 0 : Nat) : Int)) := by rw [← hWd]; exact HA.out j (by omega)
      have cq : W.cell? ⟨b3, o3 + j, none⟩ = some (.int .i64 ((l[j]?.getD 0 : Nat) : Int)) := by rw [← hWd]; exact HQ.out j (by omega)
      have hx := HX.out j
      have hp := HP.out j
      generalize us[j]?.getD 0 = x at ca hx HTj
      generalize l[j]?.getD 0 = p at cq HFj HTj
      have cb : W.cell? ⟨b2, o2 + p, none⟩ = some (.int .i64 ((bs[p]?.getD 0 : Nat) : Int)) := by rw [← hWd]; exact HB.out p (by omega)
      have hy := HY.out p
      generalize bs[p]?.getD 0 = y at cb hy HTj
      have HDj := Lib.hid (HD.out x y hx hy)
      have hdl := dsN_le (show 0 < n by omega) x y
      generalize prT n bs (us.take j) (l.take j) = s at *
      generalize dsN n x y = ds at *
      have hp63 : p ≤ 6 := by omega
      rw [hWd]
      have HWd := Lib.hid hWd
      clear hWd
      go_wp2
      go_quiet ((go_at_call 72; exact Calls.quiet_of_same ((HDj.out _).mono fun e w' h => ⟨h.1, h.2.symm⟩)))
      go_wp2
      go_roundw
      case rel => exact ⟨j + 1, d + nq, by omega, by go_num, by rw [HTj.out]; go_num, by rw [← HWd.out, World.drewN_drewN]⟩
      case measure => simp only [intOf]; omega
    · obtain rfl : j = m := by omega
      rw [HE.out]
      go_wp2
      go_ret
      exact ⟨rfl, d, rfl⟩
end Go.Proofs.Ytkpiakoijkflmaa

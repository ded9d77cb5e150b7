/-
  The iterator over a beginning longer by one note: its contract.
-/
import Derived.Test.YtlmfmfbnbbooaaaDuFault
import Derived.Test.YtlmfmfbnbbooaaaSepX
import Derived.Test.YtlmfmfbnbbooaaaAppAny
import Derived.Test.YtlmfmfbnbbooaaaRoSteps
import Derived.RangeFuncBound
import Derived.LoopIn
import Derived.LoopNIn
import Derived.TacticsInMore
namespace Go.Proofs.Ytlmfmfbnbbooaaa
open Go.RowKit Go.Shelf Go.ChangeShapes Go.WideShapes Go.ChangeAt
attribute [local go_sem] Oper.semAt_some
set_option maxRecDepth 100000

/-- What is handed out: the notes, and the slice, which lies in the iterator's own memory. -/
abbrev DX : Type := List Int × Value
def encD (x : DX) : Array Value := #[x.2]
def VDP (P : List Int → Prop) (x : DX) (Z : Nat → Prop) (W : World) : Prop := IntsV W x.2 x.1 ∧ (∀ a m c, x.2 = .slice (some a) m c → Z a.block) ∧ P x.1
theorem IntsV.putD {W : World} {v : Value} {xs : List Int} (h : IntsV W v xs) {l : Nat} {o : Obj} (o' : Obj) (ho : W.heap[l]? = some o) (hc : o.isCells = false) : IntsV (W.putObj l o') v xs := by
  obtain ⟨ao, cap, rfl, hlc, hd⟩ := h
  refine ⟨ao, cap, rfl, hlc, fun h0 => ?_⟩
  obtain ⟨b, off, rfl, hd2⟩ := hd h0
  refine ⟨b, off, rfl, fun i hi => ?_⟩
  have hb : b ≠ l := by
    rintro rfl
    have := hd2 i hi
    unfold World.cell? at this
    rw [ho] at this
    cases o <;> simp_all [Obj.isCells]
  rw [World.cell?_of_block (w := W) (World.putObj_heap_other hb)]
  exact hd2 i hi
theorem VDP_put {P : List Int → Prop} (x : DX) (Z : Nat → Prop) (W : World) (l : Nat) (o o' : Obj) (h : VDP P x Z W) (ho : W.heap[l]? = some o) (hc : o.isCells = false) : VDP P x Z (W.putObj l o') :=
  ⟨h.1.putD o' ho hc, h.2⟩
theorem IntsV.keptZ {W W' : World} {v : Value} {xs : List Int} {Z : Nat → Prop} (h : IntsV W v xs) (hz : ∀ a m c, v = .slice (some a) m c → Z a.block) (hk : KeptOn Z W W') : IntsV W' v xs := by
  obtain ⟨ao, cap, rfl, hlc, hd⟩ := h
  refine ⟨ao, cap, rfl, hlc, fun h0 => ?_⟩
  obtain ⟨b, off, rfl, hd2⟩ := hd h0
  refine ⟨b, off, rfl, fun i hi => ?_⟩
  exact (hk.cell (p := ⟨b, off + i, none⟩) (show Z b from hz ⟨b, off, none⟩ _ _ rfl)).trans (hd2 i hi)

/-- All notes below k with which a beginning goes on, behind it. -/
def longL (gs bs : List Int) (k : Nat) : List (List Int) := ((List.range k).filter fun x => decide (faultN gs (bs ++ [((x : Nat) : Int)]) bs.length = 0)).map fun (x : Nat) => bs ++ [(x : Int)]
theorem longL_succ (gs bs : List Int) (k : Nat) : longL gs bs (k + 1) = longL gs bs k ++ if faultN gs (bs ++ [(k : Int)]) bs.length = 0 then [bs ++ [(k : Int)]] else [] := by
  unfold longL
  rw [List.range_succ, List.filter_append, List.map_append, List.filter_cons, List.filter_nil]
  by_cases h : faultN gs (bs ++ [(k : Int)]) bs.length = 0
  · rw [if_pos (decide_eq_true h), if_pos h]; rfl
  · rw [if_neg (by simpa using h), if_neg h]; rfl
theorem longL_pre (gs bs : List Int) (k : Nat) : ∀ m, k ≤ m → ∃ q, longL gs bs m = longL gs bs k ++ q
  | 0, h => ⟨[], by obtain rfl : k = 0 := by omega
                    rw [List.append_nil]⟩
  | m + 1, h => by
    by_cases e : k = m + 1
    · subst e; exact ⟨[], by rw [List.append_nil]⟩
    · obtain ⟨q, hq⟩ := longL_pre gs bs k m (by omega)
      exact ⟨q ++ _, by rw [longL_succ, hq, List.append_assoc]⟩
theorem longL_len (gs bs : List Int) (k : Nat) : (longL gs bs k).length ≤ k := by
  unfold longL
  rw [List.length_map]
  exact Nat.le_trans (List.length_filter_le _ _) (by rw [List.length_range]; exact Nat.le_refl _)
theorem longL_next (gs bs : List Int) : longL gs bs 21 = (nextL gs bs).map fun (x : Nat) => bs ++ [(x : Int)] := rfl

/-- The iterator's own blocks: those from one number to another. -/
def ZF (H N : Nat) : Nat → Prop := fun k => H ≤ k ∧ k < N
theorem pred_ext {A B : Nat → Prop} (h : ∀ k, A k ↔ B k) : A = B := funext fun k => propext (h k)

theorem own_formD {W : World} {lo n : Nat} {t : TypeId} {v : Value} {xs : List Value} (h : W.ownsRow lo t 1 v n xs) : ∃ ao c, v = .slice ao n c := by
  obtain ⟨_, ⟨rfl, rfl⟩ | ⟨g, cap, cur, rfl, _⟩⟩ := h
  · exact ⟨none, 0, rfl⟩
  · exact ⟨_, cap, rfl⟩
theorem Clone_own0 (xs : List Int) (v : Value) (w : World) (hl : xs.length ≤ 1000) (h : IntsV w v xs) :
    Calls Try.prog 32 #[v] w fun e w' => ∃ v', e = .returned v' ∧ w'.ownsRow w.heap.size 3 1 v' xs.length (ivals xs) ∧ Below w.heap.size w w' := by
  obtain ⟨ao, cap, rfl, _, hc⟩ := h
  by_cases h0 : 0 < xs.length
  · obtain ⟨b, off, rfl, hd⟩ := hc h0
    refine (Try.slices_Clone_int b off xs.length cap xs w (Nat.le_refl _) (by omega) (fun j hj => by rw [hd j hj, List.getD_eq_getElem?_getD])).mono ?_
    rintro e w' ⟨v', rfl, ho, _, hb⟩
    rw [List.take_length] at ho
    exact ⟨v', rfl, ho, hb⟩
  · obtain rfl := List.eq_nil_of_length_eq_zero (show xs.length = 0 by omega)
    cases ao with
    | none =>
      refine (Try.slices_Clone_int_nil 0 cap w).mono ?_
      rintro e w' ⟨rfl, rfl⟩
      exact ⟨_, rfl, World.ownsRow_nil _ _ _ _, Below.refl _ _⟩
    | some a =>
      refine (Try.slices_Clone_int_zero a cap w).mono ?_
      rintro e w' ⟨v', rfl, h1, _, h2⟩
      exact ⟨v', rfl, h1, h2⟩

theorem add_addrD (b off i : Nat) : (⟨b, off, none⟩ : Addr).add i = ⟨b, off + i, none⟩ := by
  unfold Addr.add
  split
  · rename_i e; subst e; rfl
  · rfl
/-- The row in which the last note stands. -/
def LongAt (bs : List Int) (g : Nat) (W : World) : Prop := ∃ vs, Row W g 3 vs ∧ bs.length < vs.length ∧ ∀ i, i < bs.length → vs[i]? = some (.int .i64 (nAt bs i))
theorem LongAt.kept {bs : List Int} {g : Nat} {W W' : World} (h : LongAt bs g W) (hk : W'.heap[g]? = W.heap[g]?) : LongAt bs g W' := by
  obtain ⟨vs, hr, h1, h2⟩ := h
  exact ⟨vs, hk.trans hr, h1, h2⟩
theorem LongAt.put {bs : List Int} {g : Nat} {W : World} (h : LongAt bs g W) (x : Int) : LongAt bs g (W.setCell ⟨g, bs.length, none⟩ (.int .i64 x)) ∧ ∀ cap, bs.length + 1 ≤ cap → IntsV (W.setCell ⟨g, bs.length, none⟩ (.int .i64 x)) (.slice (some ⟨g, 0, none⟩) (bs.length + 1) cap) (bs ++ [x]) := by
  obtain ⟨vs, hr, h1, h2⟩ := h
  have hr2 := hr.set bs.length (.int .i64 x)
  refine ⟨⟨_, hr2, by rw [List.length_set]; exact h1, fun i hi => by rw [List.getElem?_set_ne (by omega)]; exact h2 i hi⟩, fun cap hc => ⟨_, cap, by rw [List.length_append]; rfl, by rw [List.length_append]; exact hc, fun _ => ⟨g, 0, rfl, fun i hi => ?_⟩⟩⟩
  rw [List.length_append, List.length_singleton] at hi
  rw [Nat.zero_add, hr2.cell i]
  by_cases e : i = bs.length
  · subst e
    rw [List.getElem?_set_self h1]
    simp
  · rw [List.getElem?_set_ne (by omega), h2 i (by omega), List.getElem?_append_left (by omega)]
    rfl
theorem LongAt.cell {bs : List Int} {g : Nat} {W : World} (h : LongAt bs g W) : ∃ u, W.cell? ⟨g, bs.length, none⟩ = some u ∧ W.frozen? ⟨g, bs.length, none⟩ = false := by
  obtain ⟨vs, hr, h1, h2⟩ := h
  exact ⟨vs[bs.length], by rw [hr.cell]; exact List.getElem?_eq_getElem h1, hr.frozen _⟩
theorem notes_snoc {bs : List Int} (h : notesB bs = true) {k : Nat} (hk : k < 21) : notesB (bs ++ [(k : Int)]) = true := by
  unfold notesB at *
  rw [List.all_append, h, Bool.true_and, List.all_cons, List.all_nil, Bool.and_true]
  unfold noteB
  exact decide_eq_true (by omega)

theorem longer_any (ao bo : Option Addr) (m c m' c' : Nat) (w : World) :
    Calls Try.prog 93 #[.slice ao m c, .slice bo m' c'] w fun e w' => e = .returned (.func (.func 121) #[] #[.pointer (some ⟨w.heap.size + 1, 0, none⟩), .pointer (some ⟨w.heap.size, 0, none⟩)]) ∧
      (w.alloc (.cells #[.slice ao m c] 22)).alloc (.cells #[.slice bo m' c'] 22) = w' := by
  go_enter Try.func93, Try.ntmps93
  go_wp2
  go_ret
  exact ⟨rfl, rfl⟩
theorem info_intD : (Try.prog.info? 3).map (fun i => (i.zero, i.size, i.bytes)) = some (some (.int .i64 0), 1, 8) := by kernel_rfl
theorem info_partsD {P : Program} {t : TypeId} {z : Value} {s b : Nat} (h : (P.info? t).map (fun i => (i.zero, i.size, i.bytes)) = some (some z, s, b)) : ∃ i, P.info? t = some i ∧ i.zero = some z ∧ i.size = s ∧ i.bytes = b := by
  cases e : P.info? t with
  | none => rw [e] at h; cases h
  | some i => rw [e] at h; simp at h; exact ⟨i, rfl, h.1, h.2.1, h.2.2⟩

set_option maxHeartbeats 4000000 in
theorem longer1_seq (gs bs : List Int) (gB bB : Nat) (S : Nat → Prop) (P : List Int → Prop) (gv bv : Value) (w : World) (hg8 : gs.length ≤ 8) (hlt : bs.length < gs.length) (hgn : notesB gs = true) (hbn : notesB bs = true)
    (hg : IntsV w gv gs) (hb : IntsV w bv bs) (hcg : w.cell? ⟨gB, 0, none⟩ = some gv) (hcb : w.cell? ⟨bB, 0, none⟩ = some bv) (s1 : S gB) (s2 : ∀ a m c, gv = .slice (some a) m c → S a.block) (hS : ∀ k, S k → k < w.heap.size)
    (hP : ∀ x ∈ nextL gs bs, P (bs ++ [((x : Nat) : Int)])) :
    SeqSepX Try.prog 121 #[.pointer (some ⟨bB, 0, none⟩), .pointer (some ⟨gB, 0, none⟩)] encD (VDP P) (KeptOn S) (fun xs => xs.map Prod.fst = longL gs bs 21) (fun p => ∃ q, longL gs bs 21 = p.map Prod.fst ++ q) 21 w :=
  fun l J Jx W hbw hl hJ hJx hY hj => by
  obtain ⟨H, hH⟩ : ∃ H, W.heap.size = H := ⟨_, rfl⟩
  have hSW : ∀ k, S k → k < H := fun k hk => by have := hS k hk; have := hbw.size; omega
  have q1 := cell_later hbw hcg
  have q2 := cell_later hbw hcb
  have hgW := hg.later hbw
  have hbW := hb.later hbw
  have HCl := Lib.hid (Clone_own0 bs bv W (by omega) hbW)
  obtain ⟨i0, hi, hz0, hz1, hz2⟩ := info_partsD info_intD
  have HgW := Lib.hid hgW
  have HbW := Lib.hid hbW
  have HSW := Lib.hid hSW
  have HJ := Lib.hid hJ
  have HJx := Lib.hid hJx
  have HY := Lib.hid hY
  have HJ0 := Lib.hid hj
  have HGn := Lib.hid hgn
  have HBn := Lib.hid hbn
  have HPP := Lib.hid hP
  have HH := Lib.hid hH
  have HS2 := Lib.hid s2
  obtain ⟨n, hn⟩ : ∃ n, bs.length = n := ⟨_, rfl⟩
  have HN := Lib.hid hn
  obtain ⟨ga, gc, rfl, hgf⟩ := hgW
  obtain ⟨ba, bc, rfl, hbf⟩ := hbW
  rw [hn] at hlt q2 HCl HbW
  have hbBl : bB < H := by have := World.block_lt_of_cell? W _ q2; rw [← hH]; exact this
  clear hg hb hcg hcb hbw hJ hJx hY hj hgn hbn hP hS hSW hgf hbf s2
  show Calls Try.prog 121 #[.func (.yield l) #[] #[], .pointer (some ⟨bB, 0, none⟩), .pointer (some ⟨gB, 0, none⟩)] W _
  go_enter Try.func121, Try.ntmps121
  go_wp2_with (first
    | (go_at_call 32; refine HCl.out.mono ?_; rintro e w1 ⟨v1, rfl, o1, b1⟩; have HO1 : Hid (w1.ownsRow H 3 1 v1 n (ivals bs)) := Lib.hid (by rw [← HH.out]; exact o1); have HB1 : Hid (Below H W w1) := Lib.hid (by rw [← HH.out]; exact b1); have hsz1 : H ≤ w1.heap.size := (by rw [← HH.out]; exact b1.size); clear o1 b1)
    | (at_builtin; refine wpList_append_own_at _ rfl _ _ 22 rfl H 3 i0 (.int .i64 0) 1 8 Try.underlying22 hi hz0 hz1 hz2 rfl (by decide) _ _ _ rfl (HO1.out.alloc _) ⟨w1.heap.size, 0, none⟩ 1 1 [.int .i64 0] rfl rfl (cell_one_new _ _ _) (by simp [Value.oneCell']) (by unfold maxLen; omega) (by omega) (by simp; omega) ?_; intro v' w2 hown' hgrow _ hob; obtain ⟨g', cap', rfl⟩ := ownsRow_succ hown'; have HOW := Lib.hid hown'; have HGR := Lib.hid hgrow; have HB2 := Lib.hid ((HB1.out.alloc hsz1 _).grown hgrow (Nat.le_trans hsz1 (by rw [World.size_alloc]; exact Nat.le_succ _)) (fun k e => (HO1.out.lt k e).1)); have q3 : w2.cell? ⟨bB, 0, none⟩ = some (.slice ba n bc) := (HB2.out.cell (p := ⟨bB, 0, none⟩) hbBl).trans q2; clear hown' hgrow hob))
  have hs1 : H ≤ w1.heap.size := by have h1 := HB1.out.size; have h2 := HH.out; omega
  have hsz2 : w1.heap.size + 1 ≤ w2.heap.size := by have := HGR.out.size; rwa [World.size_alloc] at this
  have jA := HJ.out.own [] (fun _ => False) W w1 none (fun k => H ≤ k) HJ0.out ⟨HB1.out.os, HB1.out.tape, HB1.out.output, HB1.out.size, fun k hk _ => HB1.out.block k (by rw [← HH.out]; exact hk)⟩ (fun r e => by cases e) (fun k hk => by rw [HH.out]; exact hk)
  have jB := HJ.out.take [] _ w1 (.cells #[.int .i64 0] 3) jA
  have jC := HJ.out.own [] _ _ w2 v1.ownBlock (fun k => w1.heap.size + 1 ≤ k) jB HGR.out (fun r e => .inl (.inr (HO1.out.lt r e))) (fun k hk => by rw [World.size_alloc]; exact hk)
  obtain ⟨N3, hN3⟩ : ∃ N3, w2.heap.size = N3 := ⟨_, rfl⟩
  have ez : (fun k => ((False ∨ H ≤ k ∧ k < w1.heap.size) ∨ k = w1.heap.size) ∨ w1.heap.size + 1 ≤ k ∧ k < w2.heap.size) = ZF H N3 := pred_ext fun k => by unfold ZF; simp only [false_or]; omega
  have jD : J [] (ZF H N3) w2 := by rw [← ez]; exact jC
  have hzg : ZF H N3 g' := by
    have h1 := HOW.out.lt g' rfl
    unfold ZF
    omega
  have hlong : LongAt bs g' w2 := by
    obtain ⟨_, ⟨e, _⟩ | ⟨g2, cap2, cur, e, _, hh, hx⟩⟩ := id HOW.out
    · cases e
    · cases e
      have hr : Row w2 g' 3 cur.toList := by unfold Row; rw [hh]
      have hval : ∀ (j : Nat) u, (ivals bs ++ [Value.int .i64 0])[j]? = some u → cur.toList[j]? = some u := fun j u hu => by
        have h1 := HOW.out.cells (g := g') rfl j u hu
        rw [add_addrD, Nat.zero_add] at h1
        rw [← hr.cell j]; exact h1
      have hlb : (ivals bs).length = n := by unfold ivals; rw [List.length_map, HN.out]
      refine ⟨cur.toList, hr, ?_, fun i hi => hval i _ ?_⟩
      · have := hval n (.int .i64 0) (by rw [List.getElem?_append_right (by omega), hlb, Nat.sub_self]; rfl)
        rw [HN.out]
        exact (List.getElem?_eq_some_iff.1 this).1
      · rw [List.getElem?_append_left (by rw [hlb, ← HN.out]; exact hi)]
        unfold ivals nAt
        rw [List.getElem?_map, List.getElem?_eq_getElem hi]; rfl
  have hcapn : n + 1 ≤ cap' := by
    obtain ⟨_, ⟨e, _⟩ | ⟨g2, cap2, cur, e, _, _, hx⟩⟩ := id HOW.out
    · cases e
    · cases e; exact hx.1
  have hKS : KeptOn S W w2 := ⟨HB2.out.size, fun k hk => HB2.out.block k (HSW.out k hk)⟩
  have HJD := Lib.hid jD
  have HLong := Lib.hid hlong
  have HKS := Lib.hid hKS
  clear jA jB jC ez jD hlong hKS
  have HQ1 := Lib.hid (fun W' (hk : KeptOn S W W') => (hk.cell (p := ⟨gB, 0, none⟩) s1).trans q1)
  have HGI := Lib.hid (fun W' (hk : KeptOn S W W') => HgW.out.keptZ HS2.out hk)
  have HKW := Lib.hid (fun (V W' : World) (hk : KeptOn S W V) (hb : Below V.heap.size V W') => hk.below hb (fun k hk2 => Nat.lt_of_lt_of_le (by rw [HH.out]; exact HSW.out k hk2 : k < W.heap.size) hk.size))
  refine (wpIn_wide (n := 9)).1 ?_
  gi_loopw [13] (fun t wr => ∃ (k : Nat) (pre : List DX), k ≤ 21 ∧ t = .int .i64 k ∧ J pre (ZF H N3) wr ∧ KeptOn S W wr ∧ LongAt bs g' wr ∧ pre.map Prod.fst = longL gs bs k ∧ N3 ≤ wr.heap.size) (fun t _ => 21 - (intOf t).toNat)
  case atStart => exact ⟨0, [], Nat.zero_le _, rfl, HJD.out, HKS.out, HLong.out, rfl, by omega⟩
  case round =>
    obtain ⟨k, pre, hk, rfl, hJs, hK, hL, hx, hsz⟩ := hrel
    have HJs := Lib.hid hJs
    have HK := Lib.hid hK
    have HL := Lib.hid hL
    have HX := Lib.hid hx
    clear hJs hK hL hx
    by_cases hk21 : k < 21
    · obtain ⟨u, hu1, hu2⟩ := HL.out.cell
      rw [HN.out] at hu1 hu2
      have hne : gB ≠ g' := fun e => by have h1 := HSW.out gB s1; have h2 := hzg.1; omega
      have hSg : ¬ S g' := fun h => by have h1 := HSW.out g' h; have h2 := hzg.1; omega
      obtain ⟨w4, hw4⟩ : ∃ w4, wr.setCell ⟨g', n, none⟩ (.int .i64 (k : Int)) = w4 := ⟨_, rfl⟩
      have hK4 : KeptOn S W w4 := by rw [← hw4]; exact HK.out.setCell (p := ⟨g', n, none⟩) hSg _
      have hq4 := HQ1.out w4 hK4
      obtain ⟨hL4, hI4⟩ := HL.out.put (k : Int)
      rw [HN.out, hw4] at hL4 hI4
      have hI4 := hI4 cap' hcapn
      have hJ4 : J pre (ZF H N3) w4 := by rw [← hw4]; exact HJ.out.priv pre _ wr g' n _ HJs.out hzg
      have hsz4 : w4.heap.size = wr.heap.size := by rw [← hw4]; simp [World.setCell]
      have hPl : PlaceAt gs (bs ++ [(k : Int)]) (.slice ga gs.length gc) (.slice (some ⟨g', 0, none⟩) (n + 1) cap') n w4 := ⟨HGI.out w4 hK4, hI4, hlt, by rw [List.length_append, HN.out]; exact Nat.lt_succ_self n, HGn.out, notes_snoc HBn.out hk21, hg8⟩
      have HFt := Lib.hid (fault_any hPl)
      unfold plV at HFt
      have HSc := Lib.hid (longL_succ gs bs k)
      rw [HN.out] at HSc
      have HW4 := Lib.hid hw4
      have HI4 := Lib.hid hI4
      have HJ4 := Lib.hid hJ4
      have HK4 := Lib.hid hK4
      have HL4 := Lib.hid hL4
      have hlen : pre.length < 21 := by
        have e := congrArg List.length HX.out
        rw [List.length_map] at e
        have := longL_len gs bs k
        omega
      clear hPl hI4 hJ4 hK4 hL4
      by_cases hf : faultN gs (bs ++ [(k : Int)]) n = 0
      · rw [hf] at HFt
        rw [hf, if_pos rfl] at HSc
        have hPk := HPP.out k (by unfold nextL; rw [List.mem_filter, List.mem_range, HN.out]; exact ⟨hk21, decide_eq_true hf⟩)
        have hYY := Lib.hid (fun w5 (b5 : Below w4.heap.size w4 w5) => HY.out pre (bs ++ [(k : Int)], .slice (some ⟨g', 0, none⟩) (n + 1) cap') (ZF H N3) w5 (HJ.out.toSep.below HJ4.out b5) ⟨HI4.out.later b5, fun a m c e => by cases e; exact hzg, hPk⟩ hlen 8)
        clear hf hPk
        gi_wp2_with (refine ⟨trivial, ?_⟩; gi_at_call 113; (try rw [HW4.out]); refine (callsIn_wide.2 HFt.out).mono ?_; rintro e w5 ⟨rfl, b5⟩; have HB5 := Lib.hid b5; obtain ⟨fn, tmps, assign, body, hyy, hR⟩ := hYY.out w5 b5; have hR' := Lib.hid hR; clear hR b5; dsimp only [encD] at hyy)
        refine hR'.out.mono ?_
        rintro e W6 ⟨kb, kz, kp, (⟨rfl, hJ6⟩ | ⟨rfl, hJx6⟩)⟩
        · have HJ6 := Lib.hid hJ6
          have HK6 := Lib.hid ((HKW.out w4 w5 HK4.out HB5.out).trans kp)
          have HL6 := Lib.hid ((HL4.out.kept (HB5.out.block g' (by rw [hsz4]; have := hzg.2; omega))).kept (kz.block g' hzg))
          have hsz6 : N3 ≤ W6.heap.size := by have h1 := HB5.out.size; have h2 := kz.size; omega
          clear hJ6 kb kz kp hyy
          gi_wp2
          go_roundw
          case rel => exact ⟨k + 1, pre ++ [(bs ++ [(k : Int)], .slice (some ⟨g', 0, none⟩) (n + 1) cap')], by omega, by go_num, HJ6.out, HK6.out, HL6.out, by rw [List.map_append, HX.out, HSc.out]; rfl, hsz6⟩
          case measure => simp only [intOf]; omega
        · have HJ6 := Lib.hid hJx6
          clear hJx6 kb kz kp hyy
          gi_wp2
          refine bodyPost_ret (results_none rfl _ _ _) rfl ?_
          obtain ⟨q, hq⟩ := longL_pre gs bs (k + 1) 21 (by omega)
          exact ⟨⟨_, rfl⟩, .inr ⟨_, _, ⟨q, by rw [hq, HSc.out, List.map_append, HX.out]; rfl⟩, HJ6.out⟩⟩
      · rw [if_neg hf, List.append_nil] at HSc
        have hf' : ((faultN gs (bs ++ [(k : Int)]) n : Nat) : Int) ≠ 0 := by omega
        clear hf
        generalize ((faultN gs (bs ++ [(k : Int)]) n : Nat) : Int) = F at HFt hf'
        have qf : (F == 0) = false := by rw [beq_eq_false_iff_ne]; exact hf'
        clear hf'
        gi_wp2_with (refine ⟨trivial, ?_⟩; gi_at_call 113; (try rw [HW4.out]); refine (callsIn_wide.2 HFt.out).mono ?_; rintro e w5 ⟨rfl, b5⟩; have HB5 := Lib.hid b5; clear b5)
        refine ⟨fun _ h => (by cases h), ?_⟩
        gi_wp2
        have HJ5 := Lib.hid (HJ.out.toSep.below HJ4.out HB5.out)
        have HK5 := Lib.hid (HKW.out w4 w5 HK4.out HB5.out)
        have HL5 := Lib.hid (HL4.out.kept (HB5.out.block g' (by rw [hsz4]; have := hzg.2; omega)))
        have hsz5 : N3 ≤ w5.heap.size := by have h1 := HB5.out.size; omega
        go_roundw
        case rel => exact ⟨k + 1, pre, by omega, by go_num, HJ5.out, HK5.out, HL5.out, by rw [HX.out, HSc.out], hsz5⟩
        case measure => simp only [intOf]; omega
    · obtain rfl : k = 21 := by omega
      gi_wp2
      go_end0
      exact ⟨⟨_, rfl⟩, .inl ⟨pre, _, HX.out, HJs.out⟩⟩
end Go.Proofs.Ytlmfmfbnbbooaaa

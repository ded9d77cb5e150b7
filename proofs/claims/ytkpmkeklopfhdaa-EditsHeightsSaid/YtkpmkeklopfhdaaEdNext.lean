/-
  The iterator over the edits from a pair of indices on.
-/
import Derived.Test.YtkpmkeklopfhdaaEdPlaces
namespace Go.Proofs.Ytkpmkeklopfhdaa
open Go.ChangeShapes Go.WideShapes Go.ChangeAt Go.RowKit
attribute [local go_sem] Oper.semAt_some
set_option maxRecDepth 100000

abbrev PN (la lb : Nat) : Type := {x : Nx // x.k < 4 ∧ x.b < 256 ∧ x.i ≤ la ∧ x.j ≤ lb}
def encN {la lb : Nat} (x : PN la lb) : Array Value := #[.agg #[.int .i64 (x.val.k : Int), .int .i64 (x.val.b : Int)], .agg #[.int .i64 (x.val.i : Int), .int .i64 (x.val.j : Int)]]
def nextTo (A B : List Nat) (r c q : Nat) : List Nx := (List.range q).filterMap (nx A B r c)
theorem nextTo_four (A B : List Nat) (r c : Nat) : nextTo A B r c 4 = nextL A B r c := rfl
theorem nextTo_none {A B : List Nat} {r c q : Nat} (h : nx A B r c q = none) : nextTo A B r c (q + 1) = nextTo A B r c q := by
  have e : List.range (q + 1) = List.range q ++ [q] := List.range_succ
  unfold nextTo; rw [e, List.filterMap_append]; simp [h]
theorem nextTo_some {A B : List Nat} {r c q : Nat} {x : Nx} (h : nx A B r c q = some x) : nextTo A B r c (q + 1) = nextTo A B r c q ++ [x] := by
  have e : List.range (q + 1) = List.range q ++ [q] := List.range_succ
  unfold nextTo; rw [e, List.filterMap_append]; simp [h]
theorem nextTo_length (A B : List Nat) (r c q : Nat) : (nextTo A B r c q).length ≤ q := by
  unfold nextTo; have := List.length_filterMap_le (nx A B r c) (List.range q); simpa using this
theorem nextTo_pre (A B : List Nat) (r c q : Nat) : ∀ d, ∃ t, nextTo A B r c (q + d) = nextTo A B r c q ++ t
  | 0 => ⟨[], by simp⟩
  | d + 1 => by
    obtain ⟨t, ht⟩ := nextTo_pre A B r c q d
    rw [← Nat.add_assoc]
    cases h : nx A B r c (q + d) with
    | none => exact ⟨t, by rw [nextTo_none h, ht]⟩
    | some x => exact ⟨t ++ [x], by rw [nextTo_some h, ht, List.append_assoc]⟩
theorem nextTo_all (A B : List Nat) (r c q : Nat) (h : q ≤ 4) : ∃ t, nextL A B r c = nextTo A B r c q ++ t := by
  obtain ⟨t, ht⟩ := nextTo_pre A B r c q (4 - q)
  rw [show q + (4 - q) = 4 by omega, nextTo_four] at ht
  exact ⟨t, ht⟩

theorem wpIn_hide {F : Fence} {n : Nat} {P : Program} {c : Code} {Q : Exit → Act → World → Prop} {a : Act} {w : World} (h : ∀ Q' : Exit → Act → World → Prop, Hid (Q' = Q) → c.wpIn F n P Q' a w) : c.wpIn F n P Q a w := h Q (Lib.hid rfl)
theorem abides_b {α : Type} {B : Nat} {J : List α → World → Prop} {s : List α} {W W' : World} (hJ : AbidesFrom B J) (hj : J s W) (hb : Below W.heap.size W W') : J s W' :=
  hJ s W W' none hj ⟨hb.os, hb.tape, hb.output, hb.size, fun i hi _ => hb.block i hi⟩ (fun r e => by cases e)
theorem ix_str (s : ByteArray) (h : 0 < s.size) (w : World) : (Instr.index 9 (.string s) (.int .i64 0)).run Try.prog w = .ok (.int .u8 (atB (bsN s) 0 : Nat)) w := by
  simp [Instr.index, run_underlying Try.underlying9, asIntOf, go_sem, part]
  rw [bsN_at s 0 h, getElem?_pos s 0 h]
  rfl

set_option maxHeartbeats 4000000 in
theorem next1_stops (S : Nat → Prop) (k : Nat) (a b : ByteArray) (r c : Nat) (Bw Br Ba Bt : Nat) (hk : 1 ≤ k) (ha : a.size ≤ 12) (hb : b.size ≤ 12) (hr : r ≤ a.size) (hc : c ≤ b.size) (w : World)
    (sw : S Bw) (sr : S Br) (sa : S Ba) (st : S Bt) (cw : w.cell? ⟨Bw, 0, none⟩ = some (.string (b.extract c b.size))) (cr : w.cell? ⟨Br, 0, none⟩ = some (.string (a.extract r a.size)))
    (ca : w.cell? ⟨Ba, 0, none⟩ = some (.string a)) (ct : w.cell? ⟨Bt, 1, none⟩ = some (.int .i64 (c : Int))) (hlt : ∀ i, S i → i < w.heap.size) :
    SeqStopsK Fence.wide k Try.prog 108 #[.pointer (some ⟨Bw, 0, none⟩), .pointer (some ⟨Br, 0, none⟩), .pointer (some ⟨Ba, 0, none⟩), .pointer (some ⟨Bt, 0, none⟩)] (encN (la := a.size) (lb := b.size)) (KeptOn S)
      (fun ys => ys.map Subtype.val = nextL (bsN a) (bsN b) r c) (fun ys => ∃ t, nextL (bsN a) (bsN b) r c = ys.map Subtype.val ++ t) 8 w :=
  fun l J Jx W hW hJ hJx hY hj => by
  have c0 := cell_later hW cw
  have c1 := cell_later hW cr
  have c2 := cell_later hW ca
  have c3 := cell_later hW ct
  have H0 := Lib.hid (fun W' (hk : KeptOn S W W') => ((hk.cell (p := ⟨Bw, 0, none⟩) sw).trans c0))
  have H1 := Lib.hid (fun W' (hk : KeptOn S W W') => ((hk.cell (p := ⟨Br, 0, none⟩) sr).trans c1))
  have H2 := Lib.hid (fun W' (hk : KeptOn S W W') => ((hk.cell (p := ⟨Ba, 0, none⟩) sa).trans c2))
  have H3 := Lib.hid (fun W' (hk : KeptOn S W W') => ((hk.cell (p := ⟨Bt, 1, none⟩) st).trans c3))
  have HS := Lib.hid (fun i (h : S i) => Nat.lt_of_lt_of_le (hlt i h) hW.size)
  have HJ := Lib.hid hj
  have HWd := Lib.hid (fun W => words_any W)
  obtain ⟨rest, hrest⟩ : ∃ rest, a.extract r a.size = rest := ⟨_, rfl⟩
  obtain ⟨wanted, hwanted⟩ : ∃ wanted, b.extract c b.size = wanted := ⟨_, rfl⟩
  have e1 : rest.size = a.size - r := by rw [← hrest]; exact size_ext a r hr
  have e2 : wanted.size = b.size - c := by rw [← hwanted]; exact size_ext b c hc
  have e3 : atB (bsN rest) 0 = atB (bsN a) r := by rw [← hrest]; exact at_rest a r
  have e4 : atB (bsN wanted) 0 = atB (bsN b) c := by rw [← hwanted]; exact at_rest b c
  have hla := bsN_length a
  have hlb := bsN_length b
  obtain ⟨A, hA⟩ : ∃ A, bsN a = A := ⟨_, rfl⟩
  obtain ⟨B, hB⟩ : ∃ B, bsN b = B := ⟨_, rfl⟩
  have hx1 : atB B c < 256 := by rw [← hB]; exact bsN_lt b c
  rw [hrest] at c1 H1
  rw [hwanted] at c0 H0
  rw [hA] at hla e3 ⊢
  rw [hB] at hlb e4 ⊢
  clear cw cr ca ct hW hj sw sr sa st c0 c1 c2 c3 hlt hrest hwanted hA hB
  refine callsIn_of_wp Try.func108 rfl trivial ?_ rfl
  simp only [Try.ntmps108, List.size_toArray, List.length_cons, List.length_nil, Nat.reduceAdd, Nat.reduceSub, Array.replicate_succ, Array.replicate_zero, List.push_toArray, List.append_toArray, List.nil_append, List.cons_append]
  gi_wp2_with (refine ⟨trivial, ?_⟩; gi_at_call 96; refine (callsIn_wide.2 (HWd.out _)).mono ?_; rintro e w0 ⟨rfl, b0⟩)
  have hj0 : J [] w0 := abides_b hJ HJ.out b0
  have hk0 : KeptOn S W w0 := (KeptOn.refl S W).below b0 HS.out
  gi_loopw [6, 7, 8, 9, 10, 11, 13] (fun _ _ _ _ _ _ i wr => ∃ (q : Nat) (pre : List (PN a.size b.size)), q ≤ 4 ∧ i = .int .i64 q ∧ pre.map Subtype.val = nextTo A B r c q ∧ J pre wr ∧ KeptOn S W wr) (fun _ _ _ _ _ _ i _ => 4 - (intOf i).toNat)
  case atStart => exact ⟨0, [], by omega, rfl, rfl, hj0, hk0⟩
  case round =>
    obtain ⟨q, pre, hq, rfl, hpp, hJs, hK⟩ := hrel
    have HPP := Lib.hid hpp
    have hplen : pre.length < 8 := by have e := congrArg List.length hpp; rw [List.length_map] at e; have := nextTo_length A B r c q; omega
    clear hpp
    clear hj0 hk0
    by_cases hq4 : q < 4
    · refine wpIn_hide (fun Q' HQ => ?_)
      have HJB := Lib.hid (fun W' (hb : Below wr.heap.size wr W') => (⟨abides_b hJ hJs hb, hK.below hb (fun i hi => Nat.lt_of_lt_of_le (HS.out i hi) hK.size)⟩ : J pre W' ∧ KeptOn S W W'))
      have g0 := fun W' (hb : Below wr.heap.size wr W') => H0.out W' (HJB.out W' hb).2
      have g1 := fun W' (hb : Below wr.heap.size wr W') => H1.out W' (HJB.out W' hb).2
      have g2 := fun W' (hb : Below wr.heap.size wr W') => H2.out W' (HJB.out W' hb).2
      have g3 := fun W' (hb : Below wr.heap.size wr W') => H3.out W' (HJB.out W' hb).2
      have HYY := Lib.hid (fun W' (hb : Below wr.heap.size wr W') x => hY pre x W' (HJB.out W' hb).1 hplen)
      have HG2 := Lib.hid g2
      have HG3 := Lib.hid g3
      have HG1 := Lib.hid g1
      have HG0 := Lib.hid g0
      clear hJs hK g0 g1 g2 g3 HJ hplen
      rcases (show q = 0 ∨ q = 1 ∨ q = 2 ∨ q = 3 by omega) with rfl | rfl | rfl | rfl
      · have hx := wix0
        obtain ⟨V, hV⟩ : ∃ V, (wr.alloc (.cells #[.int .i64 1, .bool false, fnV 111, fnV 112] 151)).alloc (.cells #[.int .i64 0, .int .i64 0] 77) = V := ⟨_, rfl⟩
        have hbV : Below wr.heap.size wr V := by rw [← hV]; exact bl_al (bl_al (Below.refl _ _) _) _
        have p0 : V.cell? ⟨wr.heap.size + 1, 0, none⟩ = some (.int .i64 0) := by rw [← hV]; simp
        have p1 : V.cell? ⟨wr.heap.size + 1, 1, none⟩ = some (.int .i64 0) := by rw [← hV]; simp
        have q0 := HG0.out V hbV
        have q1 := HG1.out V hbV
        rw [← hV] at q0 q1 hbV p0 p1
        have HbV := Lib.hid hbV
        have HP0 := Lib.hid p0
        have HP1 := Lib.hid p1
        clear hbV hV p0 p1
        by_cases hre : rest.size = 0
        · have hdn : doneC 0 0 rest = (noS, noS, false) := by unfold doneC; rw [if_neg (by omega), if_pos hre]
          have HD := Lib.hid (fun W => (show Calls Try.prog 93 #[.agg #[.int .i64 0, .int .i64 (0)], .string rest] W fun e w' => e = .returned (.tuple #[.string noS, .string noS, .bool false]) ∧ Below W.heap.size W w' from by have h := done0_bad (0) rest hre W; rw [show doneC 0 (0) rest = (noS, noS, false) from hdn] at h; exact h))
          have hn : nx A B r c 0 = none := by unfold nx; rw [if_pos rfl, if_neg (by omega)]
          have HN := Lib.hid (nextTo_none hn)
          clear hn hdn e1 e2 e3 e4 hla hlb HG1 H0 H1 H2 H3 hY hJ hJx b0
          gi_wp2_with (first | (refine ⟨trivial, ?_⟩; gi_at_call 93; refine (callsIn_wide.2 (HD.out _)).mono ?_; rintro e w1 ⟨rfl, b1⟩; have q0 := HG0.out w1 (below_nx HbV.out b1); have q2 := HG2.out w1 (below_nx HbV.out b1); have q3 := HG3.out w1 (below_nx HbV.out b1); have p0 := cell_later b1 HP0.out; have p1 := cell_later b1 HP1.out) | (refine ⟨trivial, ?_⟩))
          rw [HQ.out]
          dsimp only [Exit.then]
          go_roundw
          case rel =>
            have hbb := HJB.out w1 (below_nx HbV.out b1)
            exact ⟨0+1, pre, by omega, by go_num, by rw [HN.out]; exact HPP.out, hbb.1, hbb.2⟩
          case measure => simp only [intOf]; omega
        · obtain ⟨left, hleft⟩ : ∃ left, rest.extract 1 rest.size = left := ⟨_, rfl⟩
          have hls : left.size = a.size - (r + 1) := by rw [← hleft, size_ext _ _ (by omega)]; omega
          obtain ⟨i', hi'⟩ : ∃ i', i' = r + 1 := ⟨_, rfl⟩
          have hq1 : (a.size : Int) - (left.size : Int) = (i' : Int) := by omega
          have hl12 : left.size ≤ 12 := by omega
          obtain ⟨came, hcame⟩ : ∃ came, rest.extract 0 1 = came := ⟨_, rfl⟩
          have hcl : bsN came = [atB (bsN rest) 0] := by rw [← hcame]; exact bsN_first rest (by omega)
          have hcs : (came.size : Int) = 1 := by rw [← bsN_length, hcl]; rfl
          obtain ⟨j', hj'⟩ : ∃ j', j' = c + 1 := ⟨_, rfl⟩
          skip
          have hq2 : (c : Int) + 1 = (j' : Int) := by omega
          have hhb := has_one (s := wanted) hcl
          rw [e3, e4, e2] at hhb
          have hdn : doneC 0 0 rest = (came, left, true) := by unfold doneC; rw [if_neg (by omega), if_neg hre, if_pos rfl, hcame, hleft]
          have HD := Lib.hid (fun W => (show Calls Try.prog 93 #[.agg #[.int .i64 0, .int .i64 (0)], .string rest] W fun e w' => e = .returned (.tuple #[.string came, .string left, .bool true]) ∧ Below W.heap.size W w' from by have h := done0_ok (0) rest hre W; rw [show doneC 0 (0) rest = (came, left, true) from hdn] at h; exact h))
          by_cases hw : c < B.length ∧ atB A r = atB B c
          · have HP := Lib.hid (fun W => HasPrefix_any wanted came W)
            rw [hhb, decide_eq_true (by rw [hw.2]; exact ⟨by omega, rfl⟩)] at HP
            have hn : nx A B r c 0 = some ⟨0, 0, i', j'⟩ := by unfold nx; rw [if_pos rfl, if_pos ⟨by omega, hw⟩, hi', hj']
            have HN := Lib.hid (nextTo_some hn)
            have HT0 := nextTo_all A B r c 1 (by omega)
            rw [HN.out] at HT0
            have HT := Lib.hid HT0
            have HXP := Lib.hid (show (⟨0, 0, i', j'⟩ : Nx).k < 4 ∧ (⟨0, 0, i', j'⟩ : Nx).b < 256 ∧ (⟨0, 0, i', j'⟩ : Nx).i ≤ a.size ∧ (⟨0, 0, i', j'⟩ : Nx).j ≤ b.size by dsimp only; omega)
            clear hn hdn e1 e2 e3 e4 hla hlb HG1 H0 H1 H2 H3 hY hJ hJx b0 hhb hw hcl hcame hleft hi' hj' HT0 hls
            gi_wp2_with (first | (refine ⟨trivial, ?_⟩; gi_at_call 93; refine (callsIn_wide.2 (HD.out _)).mono ?_; rintro e w1 ⟨rfl, b1⟩; have q0 := HG0.out w1 (below_nx HbV.out b1); have q2 := HG2.out w1 (below_nx HbV.out b1); have q3 := HG3.out w1 (below_nx HbV.out b1); have p0 := cell_later b1 HP0.out; have p1 := cell_later b1 HP1.out; obtain ⟨fn, tmps, assign, body, hy, hR⟩ := HYY.out w1 (below_nx HbV.out b1) ⟨⟨0, 0, i', j'⟩, HXP.out⟩; dsimp only [encN] at hy; change (Instr.yield l #[.agg #[.int .i64 0, .int .i64 0], .agg #[.int .i64 (i' : Int), .int .i64 (j' : Int)]]).run Try.prog w1 = _ at hy; have HR := Lib.hid hR; clear hR) | (refine ⟨trivial, ?_⟩; gi_at_call 109; refine (callsIn_wide.2 (HP.out _)).mono ?_; rintro e w2 ⟨rfl, rfl⟩) )
            refine HR.out.mono ?_
            rintro e W3 (⟨rfl, hJ3, hk3⟩ | ⟨rfl, hJx3⟩)
            · have hk4 := (HJB.out _ (below_nx HbV.out (by assumption))).2.trans hk3
              clear hy
              gi_wp2
              rw [HQ.out]
              dsimp only [Exit.then]
              go_roundw
              case rel => exact ⟨0+1, _, by omega, by go_num, by rw [HN.out, ← HPP.out, List.map_append]; rfl, hJ3, hk4⟩
              case measure => simp only [intOf]; omega
            · clear hy
              gi_wp2
              rw [HQ.out]
              dsimp only [Exit.then, Exit.inBlock]
              refine bodyPost_ret (results_none rfl _ _ _) rfl ?_
              exact ⟨⟨_, rfl⟩, .inr ⟨_, by rw [List.map_append, HPP.out]; exact HT.out, hJx3⟩⟩
          · have HP := Lib.hid (fun W => HasPrefix_any wanted came W)
            rw [hhb, decide_eq_false (fun h => hw ⟨by omega, h.2.symm⟩)] at HP
            have hn : nx A B r c 0 = none := by unfold nx; rw [if_pos rfl, if_neg (fun h => hw h.2)]
            have HN := Lib.hid (nextTo_none hn)
            clear hn hdn e1 e2 e3 e4 hla hlb HG1 H0 H1 H2 H3 hY hJ hJx b0 hhb hw hcl hcame hleft hi' hj' hls
            gi_wp2_with (first | (refine ⟨trivial, ?_⟩; gi_at_call 93; refine (callsIn_wide.2 (HD.out _)).mono ?_; rintro e w1 ⟨rfl, b1⟩; have q0 := HG0.out w1 (below_nx HbV.out b1); have q2 := HG2.out w1 (below_nx HbV.out b1); have q3 := HG3.out w1 (below_nx HbV.out b1); have p0 := cell_later b1 HP0.out; have p1 := cell_later b1 HP1.out) | (refine ⟨trivial, ?_⟩; gi_at_call 109; refine (callsIn_wide.2 (HP.out _)).mono ?_; rintro e w2 ⟨rfl, rfl⟩) )
            rw [HQ.out]
            dsimp only [Exit.then]
            go_roundw
            case rel =>
              have hbb := HJB.out w1 (below_nx HbV.out b1)
              exact ⟨0+1, pre, by omega, by go_num, by rw [HN.out]; exact HPP.out, hbb.1, hbb.2⟩
            case measure => simp only [intOf]; omega
      · have hx := wix1
        obtain ⟨bt, hbt⟩ : ∃ bt, atB B c = bt := ⟨_, rfl⟩
        have hbl : bt < 256 := by rw [← hbt]; exact hx1
        have hbw : IntKind.i64.wrap (bt : Int) = bt := IntWalk.i64_in _ (by rw [hbt] at hx1; omega)
        have hbw2 : wrap64 (bt : Int) = bt := by rw [hbt] at hx1; unfold wrap64; omega
        have hemp := str_eq wanted noS
        by_cases hwe : wanted.size = 0
        · have hwd : wanted = noS := bsN_inj (List.eq_nil_of_length_eq_zero (by rw [bsN_length]; exact hwe))
          have hn : nx A B r c 1 = none := by unfold nx; rw [if_neg (by omega), if_pos rfl, if_neg (by omega)]
          have HN := Lib.hid (nextTo_none hn)
          obtain ⟨V, hV⟩ : ∃ V, (wr.alloc (.cells #[.int .i64 1, .bool true, fnV 113, fnV 114] 151)).alloc (.cells #[.int .i64 1, .int .i64 0] 77) = V := ⟨_, rfl⟩
          have hbV : Below wr.heap.size wr V := by rw [← hV]; exact bl_al (bl_al (Below.refl _ _) _) _
          have q0 := HG0.out V hbV
          rw [← hV] at q0 hbV
          rw [hwd] at q0
          have HbV := Lib.hid hbV
          clear hbV hV hwe hwd hemp hbt hn e1 e2 e3 e4 hla hlb HG0 HG1 HG2 HG3 H0 H1 H2 H3 hY hJ hJx b0 HYY
          gi_wp2
          rw [HQ.out]
          dsimp only [Exit.then]
          go_roundw
          case rel =>
            have hbb := HJB.out _ HbV.out
            exact ⟨1+1, pre, by omega, by go_num, by rw [HN.out]; exact HPP.out, hbb.1, hbb.2⟩
          case measure => simp only [intOf]; omega
        · have hne : wanted.toList.isEmpty = false := by rw [toList_go, Bool.eq_false_iff]; intro h; rw [List.isEmpty_iff] at h; apply hwe; rw [← bsN_length]; unfold bsN; rw [h]; rfl
          have hix := fun W => ix_str wanted (by omega) W
          rw [e4, hbt] at hix
          obtain ⟨V, hV⟩ : ∃ V, (wr.alloc (.cells #[.int .i64 1, .bool true, fnV 113, fnV 114] 151)).alloc (.cells #[.int .i64 1, .int .i64 (bt : Int)] 77) = V := ⟨_, rfl⟩
          have hbV : Below wr.heap.size wr V := by rw [← hV]; exact bl_al (bl_al (Below.refl _ _) _) _
          obtain ⟨V1, hV1⟩ : ∃ V1, (wr.alloc (.cells #[.int .i64 1, .bool true, fnV 113, fnV 114] 151)).alloc (.cells #[.int .i64 1, .int .i64 0] 77) = V1 := ⟨_, rfl⟩
          have q0a := HG0.out V1 (by rw [← hV1]; exact bl_al (bl_al (Below.refl _ _) _) _)
          rw [← hV1] at q0a
          clear hV1
          have p0 : V.cell? ⟨wr.heap.size + 1, 0, none⟩ = some (.int .i64 1) := by rw [← hV]; simp
          have p1 : V.cell? ⟨wr.heap.size + 1, 1, none⟩ = some (.int .i64 (bt : Int)) := by rw [← hV]; simp
          have q0 := HG0.out V hbV
          have q1 := HG1.out V hbV
          rw [← hV] at q0 q1 hbV p0 p1
          have HbV := Lib.hid hbV
          have HP0 := Lib.hid p0
          have HP1 := Lib.hid p1
          clear hbV hV p0 p1
          by_cases hre : rest.size = 0
          · have hdn : doneC 1 (bt : Int) rest = (noS, noS, false) := by unfold doneC; rw [if_neg (by omega), if_pos hre]
            have HD := Lib.hid (fun W => (show Calls Try.prog 93 #[.agg #[.int .i64 1, .int .i64 (bt : Int)], .string rest] W fun e w' => e = .returned (.tuple #[.string noS, .string noS, .bool false]) ∧ Below W.heap.size W w' from by have h := done1_bad (bt : Int) rest hre W; rw [show doneC 1 (bt : Int) rest = (noS, noS, false) from hdn] at h; exact h))
            have hn : nx A B r c 1 = none := by unfold nx; rw [if_neg (by omega), if_pos rfl, if_neg (by omega)]
            have HN := Lib.hid (nextTo_none hn)
            clear hn hdn e1 e2 e3 e4 hla hlb HG1 H0 H1 H2 H3 hY hJ hJx b0 hbt hx1 hemp hwe HYY
            gi_wp2_with (first | (refine ⟨trivial, ?_⟩; gi_at_call 93; refine (callsIn_wide.2 (HD.out _)).mono ?_; rintro e w1 ⟨rfl, b1⟩; have q0 := HG0.out w1 (below_nx HbV.out b1); have q2 := HG2.out w1 (below_nx HbV.out b1); have q3 := HG3.out w1 (below_nx HbV.out b1); have p0 := cell_later b1 HP0.out; have p1 := cell_later b1 HP1.out) | (refine ⟨trivial, ?_⟩))
            rw [HQ.out]
            dsimp only [Exit.then]
            go_roundw
            case rel =>
              have hbb := HJB.out w1 (below_nx HbV.out b1)
              exact ⟨1+1, pre, by omega, by go_num, by rw [HN.out]; exact HPP.out, hbb.1, hbb.2⟩
            case measure => simp only [intOf]; omega
          · obtain ⟨left, hleft⟩ : ∃ left, rest.extract 1 rest.size = left := ⟨_, rfl⟩
            have hls : left.size = a.size - (r + 1) := by rw [← hleft, size_ext _ _ (by omega)]; omega
            obtain ⟨i', hi'⟩ : ∃ i', i' = r + 1 := ⟨_, rfl⟩
            have hle1 : i' ≤ a.size := by omega
            have hq1 : (a.size : Int) - (left.size : Int) = (i' : Int) := by omega
            have hl12 : left.size ≤ 12 := by omega
            obtain ⟨came, hcame⟩ : ∃ came, oneS (bt : Int) = came := ⟨_, rfl⟩
            have hcl : bsN came = [bt] := by rw [← hcame]; exact bsN_one bt (by rw [← hbt]; exact hx1)
            have hcs : (came.size : Int) = 1 := by rw [← bsN_length, hcl]; rfl
            obtain ⟨j', hj'⟩ : ∃ j', j' = c + 1 := ⟨_, rfl⟩
            have hle2 : j' ≤ b.size := by omega
            have hq2 : (c : Int) + 1 = (j' : Int) := by omega
            have hhb := has_one (s := wanted) hcl
            rw [e4, hbt, decide_eq_true ⟨by omega, rfl⟩] at hhb
            have hcan : (!((oneS (bt : Int)).toList == (rest.extract 0 1).toList)) = decide (atB A r ≠ bt) := by rw [str_eq, hcame, hcl, bsN_first rest (by omega), e3]; by_cases hz : bt = atB A r <;> simp [hz]; exact fun h => hz h.symm
            by_cases hw : atB A r = bt
            · have hdn : doneC 1 (bt : Int) rest = (came, left, false) := by unfold doneC; rw [if_neg (by omega), if_neg hre, if_neg (by omega), if_pos rfl, hcan, decide_eq_false (fun h => h hw), hcame, hleft]
              have HD := Lib.hid (fun W => (show Calls Try.prog 93 #[.agg #[.int .i64 1, .int .i64 (bt : Int)], .string rest] W fun e w' => e = .returned (.tuple #[.string came, .string left, .bool false]) ∧ Below W.heap.size W w' from by have h := done1_ok (bt : Int) rest hre W; rw [show doneC 1 (bt : Int) rest = (came, left, false) from hdn] at h; exact h))
              have hn : nx A B r c 1 = none := by unfold nx; rw [if_neg (by omega), if_pos rfl, if_neg (fun h => h.2.2 (by rw [hbt]; exact hw))]
              have HN := Lib.hid (nextTo_none hn)
              clear hn hdn e1 e2 e3 e4 hla hlb HG1 H0 H1 H2 H3 hY hJ hJx b0 hhb hw hcl hcame hleft hi' hj' hls hbt hx1 hemp hwe hcan HYY
              gi_wp2_with (first | (refine ⟨trivial, ?_⟩; gi_at_call 93; refine (callsIn_wide.2 (HD.out _)).mono ?_; rintro e w1 ⟨rfl, b1⟩; have q0 := HG0.out w1 (below_nx HbV.out b1); have q2 := HG2.out w1 (below_nx HbV.out b1); have q3 := HG3.out w1 (below_nx HbV.out b1); have p0 := cell_later b1 HP0.out; have p1 := cell_later b1 HP1.out) | (refine ⟨trivial, ?_⟩))
              rw [HQ.out]
              dsimp only [Exit.then]
              go_roundw
              case rel =>
                have hbb := HJB.out w1 (below_nx HbV.out b1)
                exact ⟨1+1, pre, by omega, by go_num, by rw [HN.out]; exact HPP.out, hbb.1, hbb.2⟩
              case measure => simp only [intOf]; omega
            · have hdn : doneC 1 (bt : Int) rest = (came, left, true) := by unfold doneC; rw [if_neg (by omega), if_neg hre, if_neg (by omega), if_pos rfl, hcan, decide_eq_true hw, hcame, hleft]
              have HD := Lib.hid (fun W => (show Calls Try.prog 93 #[.agg #[.int .i64 1, .int .i64 (bt : Int)], .string rest] W fun e w' => e = .returned (.tuple #[.string came, .string left, .bool true]) ∧ Below W.heap.size W w' from by have h := done1_ok (bt : Int) rest hre W; rw [show doneC 1 (bt : Int) rest = (came, left, true) from hdn] at h; exact h))
              have HP := Lib.hid (fun W => HasPrefix_any wanted came W)
              rw [hhb] at HP
              have hn : nx A B r c 1 = some ⟨1, bt, i', j'⟩ := by unfold nx; rw [if_neg (by omega), if_pos rfl, if_pos ⟨by omega, by omega, by rw [hbt]; exact hw⟩, hi', hj', hbt]
              have HN := Lib.hid (nextTo_some hn)
              have HT0 := nextTo_all A B r c 2 (by omega)
              rw [HN.out] at HT0
              have HT := Lib.hid HT0
              have HXP := Lib.hid (show (⟨1, bt, i', j'⟩ : Nx).k < 4 ∧ (⟨1, bt, i', j'⟩ : Nx).b < 256 ∧ (⟨1, bt, i', j'⟩ : Nx).i ≤ a.size ∧ (⟨1, bt, i', j'⟩ : Nx).j ≤ b.size from ⟨show 1 < 4 by decide, hbl, hle1, hle2⟩)
              clear hn hdn e1 e2 e3 e4 hla hlb HG1 H0 H1 H2 H3 hY hJ hJx b0 hhb hw hcl hcame hleft hi' hj' HT0 hls hbt hx1 hemp hwe hcan
              gi_wp2_with (first | (refine ⟨trivial, ?_⟩; gi_at_call 93; refine (callsIn_wide.2 (HD.out _)).mono ?_; rintro e w1 ⟨rfl, b1⟩; have q0 := HG0.out w1 (below_nx HbV.out b1); have q2 := HG2.out w1 (below_nx HbV.out b1); have q3 := HG3.out w1 (below_nx HbV.out b1); have p0 := cell_later b1 HP0.out; have p1 := cell_later b1 HP1.out; obtain ⟨fn, tmps, assign, body, hy, hR⟩ := HYY.out w1 (below_nx HbV.out b1) ⟨⟨1, bt, i', j'⟩, HXP.out⟩; dsimp only [encN] at hy; change (Instr.yield l #[.agg #[.int .i64 1, .int .i64 (bt : Int)], .agg #[.int .i64 (i' : Int), .int .i64 (j' : Int)]]).run Try.prog w1 = _ at hy; have HR := Lib.hid hR; clear hR) | (refine ⟨trivial, ?_⟩; gi_at_call 109; refine (callsIn_wide.2 (HP.out _)).mono ?_; rintro e w2 ⟨rfl, rfl⟩) )
              refine HR.out.mono ?_
              rintro e W3 (⟨rfl, hJ3, hk3⟩ | ⟨rfl, hJx3⟩)
              · have hk4 := (HJB.out _ (below_nx HbV.out (by assumption))).2.trans hk3
                clear hy
                gi_wp2
                rw [HQ.out]
                dsimp only [Exit.then]
                go_roundw
                case rel => exact ⟨1+1, _, by omega, by go_num, by rw [HN.out, ← HPP.out, List.map_append]; rfl, hJ3, hk4⟩
                case measure => simp only [intOf]; omega
              · clear hy
                gi_wp2
                rw [HQ.out]
                dsimp only [Exit.then, Exit.inBlock]
                refine bodyPost_ret (results_none rfl _ _ _) rfl ?_
                exact ⟨⟨_, rfl⟩, .inr ⟨_, by rw [List.map_append, HPP.out]; exact HT.out, hJx3⟩⟩
      · have hx := wix2
        obtain ⟨V, hV⟩ : ∃ V, (wr.alloc (.cells #[.int .i64 1, .bool false, fnV 115, fnV 116] 151)).alloc (.cells #[.int .i64 2, .int .i64 0] 77) = V := ⟨_, rfl⟩
        have hbV : Below wr.heap.size wr V := by rw [← hV]; exact bl_al (bl_al (Below.refl _ _) _) _
        have p0 : V.cell? ⟨wr.heap.size + 1, 0, none⟩ = some (.int .i64 2) := by rw [← hV]; simp
        have p1 : V.cell? ⟨wr.heap.size + 1, 1, none⟩ = some (.int .i64 0) := by rw [← hV]; simp
        have q0 := HG0.out V hbV
        have q1 := HG1.out V hbV
        rw [← hV] at q0 q1 hbV p0 p1
        have HbV := Lib.hid hbV
        have HP0 := Lib.hid p0
        have HP1 := Lib.hid p1
        clear hbV hV p0 p1
        by_cases hre : rest.size = 0
        · have hdn : doneC 2 0 rest = (noS, noS, false) := by unfold doneC; rw [if_neg (by omega), if_pos hre]
          have HD := Lib.hid (fun W => (show Calls Try.prog 93 #[.agg #[.int .i64 2, .int .i64 (0)], .string rest] W fun e w' => e = .returned (.tuple #[.string noS, .string noS, .bool false]) ∧ Below W.heap.size W w' from by have h := done2_bad (0) rest hre W; rw [show doneC 2 (0) rest = (noS, noS, false) from hdn] at h; exact h))
          have hn : nx A B r c 2 = none := by unfold nx; rw [if_neg (by omega), if_neg (by omega), if_pos rfl, if_neg (by omega)]
          have HN := Lib.hid (nextTo_none hn)
          clear hn hdn e1 e2 e3 e4 hla hlb HG1 H0 H1 H2 H3 hY hJ hJx b0
          gi_wp2_with (first | (refine ⟨trivial, ?_⟩; gi_at_call 93; refine (callsIn_wide.2 (HD.out _)).mono ?_; rintro e w1 ⟨rfl, b1⟩; have q0 := HG0.out w1 (below_nx HbV.out b1); have q2 := HG2.out w1 (below_nx HbV.out b1); have q3 := HG3.out w1 (below_nx HbV.out b1); have p0 := cell_later b1 HP0.out; have p1 := cell_later b1 HP1.out) | (refine ⟨trivial, ?_⟩))
          rw [HQ.out]
          dsimp only [Exit.then]
          go_roundw
          case rel =>
            have hbb := HJB.out w1 (below_nx HbV.out b1)
            exact ⟨2+1, pre, by omega, by go_num, by rw [HN.out]; exact HPP.out, hbb.1, hbb.2⟩
          case measure => simp only [intOf]; omega
        · obtain ⟨left, hleft⟩ : ∃ left, rest.extract 1 rest.size = left := ⟨_, rfl⟩
          have hls : left.size = a.size - (r + 1) := by rw [← hleft, size_ext _ _ (by omega)]; omega
          obtain ⟨i', hi'⟩ : ∃ i', i' = r + 1 := ⟨_, rfl⟩
          have hq1 : (a.size : Int) - (left.size : Int) = (i' : Int) := by omega
          have hl12 : left.size ≤ 12 := by omega
          have hdn : doneC 2 0 rest = (noS, left, true) := by unfold doneC; rw [if_neg (by omega), if_neg hre, if_neg (by omega), if_neg (by omega), hleft]
          have HD := Lib.hid (fun W => (show Calls Try.prog 93 #[.agg #[.int .i64 2, .int .i64 (0)], .string rest] W fun e w' => e = .returned (.tuple #[.string noS, .string left, .bool true]) ∧ Below W.heap.size W w' from by have h := done2_ok (0) rest hre W; rw [show doneC 2 (0) rest = (noS, left, true) from hdn] at h; exact h))
          have HP := Lib.hid (fun W => HasPrefix_any wanted noS W)
          rw [has_none] at HP
          have hn : nx A B r c 2 = some ⟨2, 0, i', c⟩ := by unfold nx; rw [if_neg (by omega), if_neg (by omega), if_pos rfl, if_pos (by omega), hi']
          have HN := Lib.hid (nextTo_some hn)
          have HT0 := nextTo_all A B r c 3 (by omega)
          rw [HN.out] at HT0
          have HT := Lib.hid HT0
          have HXP := Lib.hid (show (⟨2, 0, i', c⟩ : Nx).k < 4 ∧ (⟨2, 0, i', c⟩ : Nx).b < 256 ∧ (⟨2, 0, i', c⟩ : Nx).i ≤ a.size ∧ (⟨2, 0, i', c⟩ : Nx).j ≤ b.size by dsimp only; omega)
          clear hn hdn e1 e2 e3 e4 hla hlb HG1 H0 H1 H2 H3 hY hJ hJx b0 hleft hi' HT0 hls
          gi_wp2_with (first | (refine ⟨trivial, ?_⟩; gi_at_call 93; refine (callsIn_wide.2 (HD.out _)).mono ?_; rintro e w1 ⟨rfl, b1⟩; have q0 := HG0.out w1 (below_nx HbV.out b1); have q2 := HG2.out w1 (below_nx HbV.out b1); have q3 := HG3.out w1 (below_nx HbV.out b1); have p0 := cell_later b1 HP0.out; have p1 := cell_later b1 HP1.out; obtain ⟨fn, tmps, assign, body, hy, hR⟩ := HYY.out w1 (below_nx HbV.out b1) ⟨⟨2, 0, i', c⟩, HXP.out⟩; dsimp only [encN] at hy; change (Instr.yield l #[.agg #[.int .i64 2, .int .i64 0], .agg #[.int .i64 (i' : Int), .int .i64 (c : Int)]]).run Try.prog w1 = _ at hy; have HR := Lib.hid hR; clear hR) | (refine ⟨trivial, ?_⟩; gi_at_call 109; refine (callsIn_wide.2 (HP.out _)).mono ?_; rintro e w2 ⟨rfl, rfl⟩) )
          refine HR.out.mono ?_
          rintro e W3 (⟨rfl, hJ3, hk3⟩ | ⟨rfl, hJx3⟩)
          · have hk4 := (HJB.out _ (below_nx HbV.out (by assumption))).2.trans hk3
            clear hy
            gi_wp2
            rw [HQ.out]
            dsimp only [Exit.then]
            go_roundw
            case rel => exact ⟨2+1, _, by omega, by go_num, by rw [HN.out, ← HPP.out, List.map_append]; rfl, hJ3, hk4⟩
            case measure => simp only [intOf]; omega
          · clear hy
            gi_wp2
            rw [HQ.out]
            dsimp only [Exit.then, Exit.inBlock]
            refine bodyPost_ret (results_none rfl _ _ _) rfl ?_
            exact ⟨⟨_, rfl⟩, .inr ⟨_, by rw [List.map_append, HPP.out]; exact HT.out, hJx3⟩⟩
      · have hx := wix3
        obtain ⟨bt, hbt⟩ : ∃ bt, atB B c = bt := ⟨_, rfl⟩
        have hbl : bt < 256 := by rw [← hbt]; exact hx1
        have hbw : IntKind.i64.wrap (bt : Int) = bt := IntWalk.i64_in _ (by rw [hbt] at hx1; omega)
        have hbw2 : wrap64 (bt : Int) = bt := by rw [hbt] at hx1; unfold wrap64; omega
        have hemp := str_eq wanted noS
        by_cases hwe : wanted.size = 0
        · have hwd : wanted = noS := bsN_inj (List.eq_nil_of_length_eq_zero (by rw [bsN_length]; exact hwe))
          have hn : nx A B r c 3 = none := by unfold nx; rw [if_neg (by omega), if_neg (by omega), if_neg (by omega), if_neg (by omega)]
          have HN := Lib.hid (nextTo_none hn)
          obtain ⟨V, hV⟩ : ∃ V, (wr.alloc (.cells #[.int .i64 0, .bool true, fnV 117, fnV 118] 151)).alloc (.cells #[.int .i64 3, .int .i64 0] 77) = V := ⟨_, rfl⟩
          have hbV : Below wr.heap.size wr V := by rw [← hV]; exact bl_al (bl_al (Below.refl _ _) _) _
          have q0 := HG0.out V hbV
          rw [← hV] at q0 hbV
          rw [hwd] at q0
          have HbV := Lib.hid hbV
          clear hbV hV hwe hwd hemp hbt hn e1 e2 e3 e4 hla hlb HG0 HG1 HG2 HG3 H0 H1 H2 H3 hY hJ hJx b0 HYY
          gi_wp2
          rw [HQ.out]
          dsimp only [Exit.then]
          go_roundw
          case rel =>
            have hbb := HJB.out _ HbV.out
            exact ⟨3+1, pre, by omega, by go_num, by rw [HN.out]; exact HPP.out, hbb.1, hbb.2⟩
          case measure => simp only [intOf]; omega
        · have hne : wanted.toList.isEmpty = false := by rw [toList_go, Bool.eq_false_iff]; intro h; rw [List.isEmpty_iff] at h; apply hwe; rw [← bsN_length]; unfold bsN; rw [h]; rfl
          have hix := fun W => ix_str wanted (by omega) W
          rw [e4, hbt] at hix
          obtain ⟨V, hV⟩ : ∃ V, (wr.alloc (.cells #[.int .i64 0, .bool true, fnV 117, fnV 118] 151)).alloc (.cells #[.int .i64 3, .int .i64 (bt : Int)] 77) = V := ⟨_, rfl⟩
          have hbV : Below wr.heap.size wr V := by rw [← hV]; exact bl_al (bl_al (Below.refl _ _) _) _
          obtain ⟨V1, hV1⟩ : ∃ V1, (wr.alloc (.cells #[.int .i64 0, .bool true, fnV 117, fnV 118] 151)).alloc (.cells #[.int .i64 3, .int .i64 0] 77) = V1 := ⟨_, rfl⟩
          have q0a := HG0.out V1 (by rw [← hV1]; exact bl_al (bl_al (Below.refl _ _) _) _)
          rw [← hV1] at q0a
          clear hV1
          have p0 : V.cell? ⟨wr.heap.size + 1, 0, none⟩ = some (.int .i64 3) := by rw [← hV]; simp
          have p1 : V.cell? ⟨wr.heap.size + 1, 1, none⟩ = some (.int .i64 (bt : Int)) := by rw [← hV]; simp
          have q0 := HG0.out V hbV
          have q1 := HG1.out V hbV
          rw [← hV] at q0 q1 hbV p0 p1
          have HbV := Lib.hid hbV
          have HP0 := Lib.hid p0
          have HP1 := Lib.hid p1
          clear hbV hV p0 p1
          obtain ⟨came, hcame⟩ : ∃ came, oneS (bt : Int) = came := ⟨_, rfl⟩
          have hcl : bsN came = [bt] := by rw [← hcame]; exact bsN_one bt (by rw [← hbt]; exact hx1)
          have hcs : (came.size : Int) = 1 := by rw [← bsN_length, hcl]; rfl
          obtain ⟨j', hj'⟩ : ∃ j', j' = c + 1 := ⟨_, rfl⟩
          have hle2 : j' ≤ b.size := by omega
          have hq2 : (c : Int) + 1 = (j' : Int) := by omega
          have hhb := has_one (s := wanted) hcl
          rw [e4, hbt, decide_eq_true ⟨by omega, rfl⟩] at hhb
          have hdn : doneC 3 (bt : Int) rest = (came, rest, true) := by unfold doneC; rw [if_pos rfl, hcame]
          have HD := Lib.hid (fun W => (show Calls Try.prog 93 #[.agg #[.int .i64 3, .int .i64 (bt : Int)], .string rest] W fun e w' => e = .returned (.tuple #[.string came, .string rest, .bool true]) ∧ Below W.heap.size W w' from by have h := done3_ok (bt : Int) rest  W; rw [show doneC 3 (bt : Int) rest = (came, rest, true) from hdn] at h; exact h))
          have HP := Lib.hid (fun W => HasPrefix_any wanted came W)
          rw [hhb] at HP
          have hq1 : (a.size : Int) - (rest.size : Int) = (r : Int) := by omega
          have hl12 : rest.size ≤ 12 := by omega
          have hn : nx A B r c 3 = some ⟨3, bt, r, j'⟩ := by unfold nx; rw [if_neg (by omega), if_neg (by omega), if_neg (by omega), if_pos (by omega), hj', hbt]
          have HN := Lib.hid (nextTo_some hn)
          have HT0 := nextTo_all A B r c 4 (by omega)
          rw [HN.out] at HT0
          have HT := Lib.hid HT0
          have HXP := Lib.hid (show (⟨3, bt, r, j'⟩ : Nx).k < 4 ∧ (⟨3, bt, r, j'⟩ : Nx).b < 256 ∧ (⟨3, bt, r, j'⟩ : Nx).i ≤ a.size ∧ (⟨3, bt, r, j'⟩ : Nx).j ≤ b.size from ⟨show 3 < 4 by decide, hbl, hr, hle2⟩)
          clear hn hdn e1 e2 e3 e4 hla hlb HG1 H0 H1 H2 H3 hY hJ hJx b0 hcl hcame hj' HT0 hhb hbt hx1 hemp hwe
          gi_wp2_with (first | (refine ⟨trivial, ?_⟩; gi_at_call 93; refine (callsIn_wide.2 (HD.out _)).mono ?_; rintro e w1 ⟨rfl, b1⟩; have q0 := HG0.out w1 (below_nx HbV.out b1); have q2 := HG2.out w1 (below_nx HbV.out b1); have q3 := HG3.out w1 (below_nx HbV.out b1); have p0 := cell_later b1 HP0.out; have p1 := cell_later b1 HP1.out; obtain ⟨fn, tmps, assign, body, hy, hR⟩ := HYY.out w1 (below_nx HbV.out b1) ⟨⟨3, bt, r, j'⟩, HXP.out⟩; dsimp only [encN] at hy; change (Instr.yield l #[.agg #[.int .i64 3, .int .i64 (bt : Int)], .agg #[.int .i64 (r : Int), .int .i64 (j' : Int)]]).run Try.prog w1 = _ at hy; have HR := Lib.hid hR; clear hR) | (refine ⟨trivial, ?_⟩; gi_at_call 109; refine (callsIn_wide.2 (HP.out _)).mono ?_; rintro e w2 ⟨rfl, rfl⟩) )
          refine HR.out.mono ?_
          rintro e W3 (⟨rfl, hJ3, hk3⟩ | ⟨rfl, hJx3⟩)
          · have hk4 := (HJB.out _ (below_nx HbV.out (by assumption))).2.trans hk3
            clear hy
            gi_wp2
            rw [HQ.out]
            dsimp only [Exit.then]
            go_roundw
            case rel => exact ⟨3+1, _, by omega, by go_num, by rw [HN.out, ← HPP.out, List.map_append]; rfl, hJ3, hk4⟩
            case measure => simp only [intOf]; omega
          · clear hy
            gi_wp2
            rw [HQ.out]
            dsimp only [Exit.then, Exit.inBlock]
            refine bodyPost_ret (results_none rfl _ _ _) rfl ?_
            exact ⟨⟨_, rfl⟩, .inr ⟨_, by rw [List.map_append, HPP.out]; exact HT.out, hJx3⟩⟩
    · obtain rfl : q = 4 := by omega
      gi_wp2
      go_end0
      exact ⟨⟨_, rfl⟩, .inl ⟨_, HPP.out.trans (nextTo_four A B r c), hJs⟩⟩
end Go.Proofs.Ytkpmkeklopfhdaa

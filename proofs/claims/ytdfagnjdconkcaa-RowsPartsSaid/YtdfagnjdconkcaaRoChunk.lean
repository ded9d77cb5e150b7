/-
  slices.Chunk of a row: the pieces in their order.
-/
import Derived.Test.YtdfagnjdconkcaaRoWay
import Derived.Test.YtdfagnjdconkcaaRoMadeR
namespace Go.Proofs.Ytdfagnjdconkcaa
open Go.ChangeShapes Go.WideShapes Go.ChangeAt Go.RowKit Go.Shelf
attribute [local go_sem] Oper.semAt_some
set_option linter.unusedVariables false
set_option maxRecDepth 100000

/-- What is handed out: the number of the piece, and the slice. -/
abbrev CX : Type := Nat × Value
def encC (x : CX) : Array Value := #[x.2]
def okC (d q : Nat) (ys : List Nat) (x : CX) (W : World) : Prop := x.1 < q ∧ IntsV W x.2 (natI (pcL ys d (x.1 * d)))
theorem okC_put {d q : Nat} {ys : List Nat} : ∀ (x : CX) (W : World) (l : Nat) (o o' : Obj), okC d q ys x W → W.heap[l]? = some o → o.isCells = false → okC d q ys x (W.putObj l o') :=
  fun _ _ _ _ o' h ho hc => ⟨h.1, h.2.put o' ho hc⟩

theorem piece_at {W : World} {b off cap n d a : Nat} {ys : List Nat} (hl : ys.length = n) (h : IntsV W (.slice (some ⟨b, off, none⟩) n cap) (natI ys)) (hd : 0 < d) (ha : a + d ≤ n) : IntsV W (.slice (some ⟨b, off + a, none⟩) d d) (natI (pcL ys d a)) := by
  have hp := pcL_length (n := n) hl ha
  obtain ⟨ao, cap', e, hlc, hc⟩ := h
  cases e
  refine ⟨some ⟨b, off + a, none⟩, d, by rw [natI_length, hp], by rw [natI_length, hp]; exact Nat.le_refl _, fun _ => ⟨b, off + a, rfl, fun i hi => ?_⟩⟩
  rw [natI_length, hp] at hi
  obtain ⟨b', off', e, hd2⟩ := hc (by rw [natI_length]; omega)
  cases e
  have := hd2 (a + i) (by rw [natI_length]; omega)
  rw [Nat.add_assoc, this]
  congr 2
  unfold pcL natI
  simp only [List.getElem?_map, List.getElem?_drop, List.getElem?_take]
  rw [if_pos (by omega)]

set_option maxHeartbeats 1000000 in
theorem Chunk_any (ao : Option Addr) (len cap d : Nat) (hd : 1 ≤ d) (w : World) :
    Calls Try.prog 13 #[.slice ao len cap, .int .i64 (d : Int)] w fun e w' => e = .returned (.func (.func 24) #[] #[.pointer (some ⟨w.heap.size, 0, none⟩), .pointer (some ⟨w.heap.size + 1, 0, none⟩)]) ∧ (w.alloc (.cells #[.slice ao len cap] 22)).alloc (.cells #[.int .i64 (d : Int)] 3) = w' := by
  have h0 : ¬ (d : Int) < 1 := by omega
  go_enter Try.func13, Try.ntmps13
  go_wp2
  go_ret
  exact ⟨rfl, rfl⟩

set_option maxHeartbeats 2000000 in
theorem chunk1_seq (n d q : Nat) (ys : List Nat) (hn1 : n ≤ 10) (hd : 2 ≤ d) (hq : n = q * d) (hl : ys.length = n) (Bs Bd b off cap : Nat) (hcap : n ≤ cap) (S : Nat → Prop) (w : World)
    (hSw : ∀ i, S i → i < w.heap.size) (hSs : S Bs) (hSd : S Bd) (hkeep : ∀ W', KeptOn S w W' → IntsV W' (.slice (some ⟨b, off, none⟩) n cap) (natI ys)) (hBs : w.cell? ⟨Bs, 0, none⟩ = some (.slice (some ⟨b, off, none⟩) n cap)) (hBd : w.cell? ⟨Bd, 0, none⟩ = some (.int .i64 (d : Int))) :
    SeqSepV Try.prog 24 #[.pointer (some ⟨Bs, 0, none⟩), .pointer (some ⟨Bd, 0, none⟩)] encC (okC d q ys) (KeptOn S) (fun xs => xs.map Prod.fst = List.range q) (fun pre => ∃ m, m < q ∧ pre.map Prod.fst = List.range (m + 1)) 64 w :=
  fun l J Jx W hb hl' hJ hJx hY hj => by
  have hmx : Try.prog.follows .mixedOrders = true := by kernel_rfl
  have hK0 : KeptOn S w W := ⟨hb.size, fun k hk => hb.block k (hSw k hk)⟩
  have HN := Lib.hid (fun W' (hk : KeptOn S W W') => (((hK0.trans hk).cell (p := ⟨Bs, 0, none⟩) hSs).trans hBs))
  have HP := Lib.hid (fun W' (hk : KeptOn S W W') => (((hK0.trans hk).cell (p := ⟨Bd, 0, none⟩) hSd).trans hBd))
  have HI := Lib.hid (fun W' (hk : KeptOn S W W') => hkeep W' (hK0.trans hk))
  have HSW := Lib.hid (fun k (hk : S k) => Nat.lt_of_lt_of_le (hSw k hk) hb.size)
  have HJ := Lib.hid hj
  have Hq := Lib.hid hq
  clear hBs hBd hkeep hK0 hj hq
  refine (callsIn_wide (n := 9)).1 ?_
  show CallsIn Fence.wide 9 Try.prog 24 #[.func (.yield l) #[] #[], .pointer (some ⟨Bs, 0, none⟩), .pointer (some ⟨Bd, 0, none⟩)] W _
  refine callsIn_of_wp Try.func24 rfl trivial ?_ rfl
  simp only [Try.ntmps24, List.size_toArray, List.length_cons, List.length_nil, Nat.reduceAdd, Nat.reduceSub, Array.replicate_succ, Array.replicate_zero, List.push_toArray, List.append_toArray, List.nil_append, List.cons_append]
  gi_wp2_with fail
  gi_loopw [4] (fun i wr => ∃ (j a : Nat) (pre : List CX), j ≤ q ∧ a = j * d ∧ i = .int .i64 (a : Int) ∧ J pre (fun _ => False) wr ∧ KeptOn S W wr ∧ pre.map Prod.fst = List.range j) (fun i _ => n - (intOf i).toNat)
  case atStart => exact ⟨0, 0, [], by omega, by simp, rfl, HJ.out, KeptOn.refl _ _, rfl⟩
  case round =>
    obtain ⟨j, a, pre, hjq, ha, rfl, hJs, hK, hx⟩ := hrel
    have c1 := HN.out wr hK
    have c2 := HP.out wr hK
    have HJs := Lib.hid hJs
    have HK := Lib.hid hK
    have HX := Lib.hid hx
    have HA := Lib.hid ha
    clear hJs hK hx
    by_cases hj : j < q
    · have had : a + d ≤ n := by
        have h := Nat.mul_le_mul_right d (show j + 1 ≤ q by omega)
        rw [Nat.add_mul, Nat.one_mul, ← Hq.out, ← ha] at h
        exact h
      have hna : (a : Int) < (n : Int) := by omega
      have h1 : ((a : Int)).toNat = a := by omega
      have hlen : pre.length < 64 := by
        have e := congrArg List.length HX.out
        rw [List.length_map, List.length_range] at e
        have := Nat.le_mul_of_pos_right j (show 0 < d by omega)
        omega
      have hmin : min (d : Int) ((n - a : Nat) : Int) = d := by omega
      have htn : ((a : Int) + (d : Int)).toNat - a = d := by omega
      have ht0 : 0 ≤ (a : Int) + (d : Int) := by omega
      have ht1 : (a : Int) ≤ (a : Int) + (d : Int) := by omega
      have ht2 : (a : Int) + (d : Int) ≤ (cap : Int) := by omega
      have HE := Lib.hid (show a + d = (j + 1) * d by rw [HA.out, Nat.add_mul, Nat.one_mul])
      clear ha
      gi_wp2_with fail
      refine wpIn_wide.2 ?_
      go_quiet (fail)
      try dsimp only [Exit.then]
      have hb1 : Below wr.heap.size wr (wr.drewN nq) := below_drewN (Below.refl _ _) nq
      have hv : IntsV (wr.drewN nq) (.slice (some ⟨b, off + a, none⟩) d d) (natI (pcL ys d (j * d))) := by rw [← HA.out]; exact (piece_at hl (HI.out wr HK.out) (by omega) had).later hb1
      have HKd := Lib.hid (HK.out.below hb1 (fun k hk => Nat.lt_of_lt_of_le (HSW.out k hk) HK.out.size))
      obtain ⟨fn, tmps, assign, body, hyy, hR⟩ := hY pre (j, .slice (some ⟨b, off + a, none⟩) d d) (fun _ => False) _ (hJ.below HJs.out hb1) ⟨hj, hv⟩ hlen 8
      have hR' := Lib.hid hR
      clear hR hv hb1
      dsimp only [encC] at hyy
      gi_wp2_with fail
      refine hR'.out.mono ?_
      rintro e W3 ⟨hkb, hkz, hkp, (⟨rfl, hJ3⟩ | ⟨rfl, hJx3⟩)⟩
      · have hK3 := HKd.out.trans hkp
        have c2 := HP.out W3 hK3
        have HK3 := Lib.hid hK3
        have HJ3 := Lib.hid hJ3
        have HX3 := Lib.hid (show (pre ++ [((j, .slice (some ⟨b, off + a, none⟩) d d) : CX)]).map Prod.fst = List.range (j + 1) by rw [List.map_append, HX.out]; exact List.range_succ.symm)
        clear hK3 hJ3 hkb hkz hkp
        gi_wp2
        go_roundw
        case rel => first | exact ⟨j + 1, by omega, by rw [← Int.natCast_mul, ← HE.out]; rfl, _, HJ3.out, HK3.out, HX3.out⟩ | exact ⟨j + 1, a + d, _, by omega, HE.out, by go_num, HJ3.out, HK3.out, HX3.out⟩
        case measure => simp only [intOf]; omega
      · have HX3 := Lib.hid (show (pre ++ [((j, .slice (some ⟨b, off + a, none⟩) d d) : CX)]).map Prod.fst = List.range (j + 1) by rw [List.map_append, HX.out]; exact List.range_succ.symm)
        gi_wp2
        refine bodyPost_ret (results_none rfl _ _ _) rfl ?_
        exact ⟨⟨_, rfl⟩, .inr ⟨_, _, ⟨_, hj, HX3.out⟩, hJx3⟩⟩
    · obtain rfl : j = q := by omega
      have han : a = n := by rw [HA.out, ← Hq.out]
      subst han
      gi_wp2
      go_end0
      exact ⟨⟨_, rfl⟩, .inl ⟨pre, _, HX.out, HJs.out⟩⟩
end Go.Proofs.Ytdfagnjdconkcaa

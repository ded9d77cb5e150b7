/-
  The iterator over all forms of a row, or of a part of one, with their names.
-/
import Derived.Test.YtdfagnjdconkcaaRoForms
import Derived.Test.YtdfagnjdconkcaaSepV
namespace Go.Proofs.Ytdfagnjdconkcaa
open Go.ChangeShapes Go.WideShapes Go.ChangeAt Go.RowKit Go.Shelf
attribute [local go_sem] Oper.semAt_some
set_option maxRecDepth 100000

/-- The name of form number t. -/
def nmT (n t : Nat) : Nat × Nat := (t / n, t % n)
def namesL (n m : Nat) : List (Nat × Nat) := (List.range m).map (nmT n)
theorem namesL_length (n m : Nat) : (namesL n m).length = m := by simp [namesL]
theorem namesL_succ (n m : Nat) : namesL n (m + 1) = namesL n m ++ [nmT n m] := by unfold namesL; rw [List.range_succ, List.map_append]; rfl
theorem nmT_at {n u y : Nat} (h : y < n) : nmT n (u * n + y) = (u, y) := by
  unfold nmT
  rw [Nat.mul_comm u n, Nat.mul_add_div (by omega), Nat.div_eq_of_lt h, Nat.mul_add_mod, Nat.mod_eq_of_lt h, Nat.add_zero]

/-- What is handed out: kind, move, and the slice. -/
abbrev FX : Type := Nat × Nat × Value
def nm (x : FX) : Nat × Nat := (x.1, x.2.1)
def encF (x : FX) : Array Value := #[.agg #[.int .i64 (x.1 : Int), .int .i64 (x.2.1 : Int)], x.2.2]
def okF (n : Nat) (ys : List Nat) (x : FX) (W : World) : Prop := x.1 < 4 ∧ x.2.1 < n ∧ IntsV W x.2.2 (natI (formL n x.1 x.2.1 ys))

theorem IntsV.put {W : World} {v : Value} {xs : List Int} (h : IntsV W v xs) {l : Nat} {o : Obj} (o' : Obj) (ho : W.heap[l]? = some o) (hc : o.isCells = false) : IntsV (W.putObj l o') v xs := by
  obtain ⟨ao, cap, rfl, hlc, hd⟩ := h
  refine ⟨ao, cap, rfl, hlc, fun h0 => ?_⟩
  obtain ⟨b, off, rfl, hd2⟩ := hd h0
  refine ⟨b, off, rfl, fun i hi => ?_⟩
  have hb : b ≠ l := by
    rintro rfl
    have := hd2 i hi
    unfold World.cell? at this
    rw [ho] at this
    cases o <;> simp_all [Obj.isCells]
  rw [World.cell?_of_block (w := W) (World.putObj_heap_other hb)]
  exact hd2 i hi
theorem okF_put {n : Nat} {ys : List Nat} : ∀ (x : FX) (W : World) (l : Nat) (o o' : Obj), okF n ys x W → W.heap[l]? = some o → o.isCells = false → okF n ys x (W.putObj l o') :=
  fun _ _ _ _ o' h ho hc => ⟨h.1, h.2.1, h.2.2.put o' ho hc⟩

theorem IntsV.kept {W W' : World} {v : Value} {xs : List Int} {S : Nat → Prop} (h : IntsV W v xs) (hk : KeptOn S W W') (hS : ∀ k, k < W.heap.size → S k) : IntsV W' v xs := by
  obtain ⟨ao, cap, rfl, hlc, hd⟩ := h
  refine ⟨ao, cap, rfl, hlc, fun h0 => ?_⟩
  obtain ⟨b, off, rfl, hd2⟩ := hd h0
  refine ⟨b, off, rfl, fun i hi => ?_⟩
  have hc := hd2 i hi
  exact (hk.cell (p := ⟨b, off + i, none⟩) (hS b (World.block_lt_of_cell? _ _ hc))).trans hc

theorem forms_any (n : Int) (ao : Option Addr) (len cap : Nat) (w : World) :
    Calls Try.prog 25 #[.int .i64 n, .slice ao len cap] w fun e w' => e = .returned (.func (.func 31) #[] #[.pointer (some ⟨w.heap.size, 0, none⟩), .pointer (some ⟨w.heap.size + 1, 0, none⟩)]) ∧ (w.alloc (.cells #[.int .i64 n] 3)).alloc (.cells #[.slice ao len cap] 22) = w' := by
  go_enter Try.func25, Try.ntmps25
  go_wp2
  go_ret
  exact ⟨rfl, rfl⟩

set_option maxHeartbeats 2000000 in
theorem forms1_seq (n : Nat) (ys : List Nat) (hn0 : 2 ≤ n) (hn1 : n ≤ 10) (hlt : ∀ y ∈ ys, y < n) (hl : ys.length ≤ 10) (hp : 0 < ys.length) (Bn Bp : Nat) (pv : Value) (S : Nat → Prop) (w : World)
    (hSw : ∀ i, S i → i < w.heap.size) (hSn : S Bn) (hSp : S Bp) (hkeep : ∀ W', KeptOn S w W' → IntsV W' pv (natI ys)) (hBn : w.cell? ⟨Bn, 0, none⟩ = some (.int .i64 n)) (hBp : w.cell? ⟨Bp, 0, none⟩ = some pv) :
    SeqSepV Try.prog 31 #[.pointer (some ⟨Bn, 0, none⟩), .pointer (some ⟨Bp, 0, none⟩)] encF (okF n ys) (KeptOn S) (fun xs => xs.map nm = namesL n (4 * n)) (fun pre => ∃ m, m < 4 * n ∧ pre.map nm = namesL n (m + 1)) 64 w :=
  fun l J Jx W hb hl' hJ hJx hY hj => by
  have hK0 : KeptOn S w W := ⟨hb.size, fun k hk => hb.block k (hSw k hk)⟩
  have HN := Lib.hid (fun W' (hk : KeptOn S W W') => (((hK0.trans hk).cell (p := ⟨Bn, 0, none⟩) hSn).trans hBn))
  have HP := Lib.hid (fun W' (hk : KeptOn S W W') => (((hK0.trans hk).cell (p := ⟨Bp, 0, none⟩) hSp).trans hBp))
  have HI := Lib.hid (fun W' (hk : KeptOn S W W') => hkeep W' (hK0.trans hk))
  have HSW := Lib.hid (fun k (hk : S k) => Nat.lt_of_lt_of_le (hSw k hk) hb.size)
  have HJ := Lib.hid hj
  have HF := Lib.hid (fun u (hu : u < 4) (k : Int) V (hV : IntsV V pv (natI ys)) => form_any n ys hn0 hn1 hlt hl hp u hu k pv V hV)
  clear hBn hBp hkeep hK0 hj hlt
  refine (callsIn_wide (n := 9)).1 ?_
  show CallsIn Fence.wide 9 Try.prog 31 #[.func (.yield l) #[] #[], .pointer (some ⟨Bn, 0, none⟩), .pointer (some ⟨Bp, 0, none⟩)] W _
  refine callsIn_of_wp Try.func31 rfl trivial ?_ rfl
  simp only [Try.ntmps31, List.size_toArray, List.length_cons, List.length_nil, Nat.reduceAdd, Nat.reduceSub, Array.replicate_succ, Array.replicate_zero, List.push_toArray, List.append_toArray, List.nil_append, List.cons_append]
  gi_wp2_with fail
  gi_loopw [4, 5, 6] (fun _ _ i wr => ∃ (u : Nat) (pre : List FX), u ≤ 4 ∧ i = .int .i64 u ∧ J pre (fun _ => False) wr ∧ KeptOn S W wr ∧ pre.map nm = namesL n (u * n)) (fun _ _ i _ => 4 - (intOf i).toNat)
  case atStart => exact ⟨0, [], by omega, rfl, HJ.out, KeptOn.refl _ _, by simp [namesL]⟩
  case round =>
    obtain ⟨u, pre, hu, rfl, hJs, hK, hx⟩ := hrel
    have hnr := HN.out wr hK
    have HJs := Lib.hid hJs
    have HK := Lib.hid hK
    have HX := Lib.hid hx
    clear hJs hK hx
    by_cases hu4 : u < 4
    · gi_wp2_with fail
      try rw [show decide ((u : Int) < 4) = true from decide_eq_true (by omega)]
      gi_loopw [5, 10] (fun _ j wr => ∃ (y : Nat) (pre : List FX), y ≤ n ∧ j = .int .i64 y ∧ J pre (fun _ => False) wr ∧ KeptOn S W wr ∧ pre.map nm = namesL n (u * n + y)) (fun _ j _ => n - (intOf j).toNat)
      case atStart => exact ⟨0, pre, Nat.zero_le _, rfl, HJs.out, HK.out, by rw [HX.out]; rfl⟩
      case round =>
        obtain ⟨y, pre, hy, rfl, hJs, hK, hx⟩ := hrel
        have hnr := HN.out wr hK
        have hpr := HP.out wr hK
        by_cases hyn : y < n
        · have hlen : pre.length < 64 := by
            have e := congrArg List.length hx
            rw [List.length_map, namesL_length] at e
            have : u * n ≤ 3 * 10 := Nat.mul_le_mul (by omega) hn1
            omega
          have HFy := Lib.hid (HF.out u hu4 (y : Int) wr (HI.out wr hK))
          have ey : ((y : Int) % (n : Int)).toNat = y := by rw [Int.emod_eq_of_lt (by omega) (by omega)]; simp
          rw [ey] at HFy
          have hYY := Lib.hid (fun W1 v' (hv : IntsV W1 v' (natI (formL n u y ys))) (hb1 : Below wr.heap.size wr W1) => hY pre (u, y, v') (fun _ => False) W1 (hJ.below hJs hb1) ⟨hu4, hyn, hv⟩ hlen 8)
          have HKw := Lib.hid (fun W1 (hb1 : Below wr.heap.size wr W1) => hK.below hb1 (fun k hk => Nat.lt_of_lt_of_le (HSW.out k hk) hK.size))
          have HNx := Lib.hid (fun v' : Value => show (pre ++ [((u, y, v') : FX)]).map nm = namesL n (u * n + (y + 1)) by
            rw [List.map_append, hx, ← Nat.add_assoc, namesL_succ, nmT_at hyn]; rfl)
          have HBd := Lib.hid (show u * n + y < 4 * n by
            have : u * n ≤ 3 * n := Nat.mul_le_mul_right n (by omega)
            omega)
          clear hJs hK hx ey
          gi_wp2_with (refine ⟨trivial, ?_⟩; gi_at_call 21; refine (callsIn_wide.2 HFy.out).mono ?_; rintro e w' ⟨v', rfl, hv, hb1⟩; have HKw1 := Lib.hid (HKw.out w' hb1); obtain ⟨fn, tmps, assign, body, hyy, hR⟩ := hYY.out w' v' hv hb1; have hR' := Lib.hid hR; clear hR hv; dsimp only [encF] at hyy)
          refine hR'.out.mono ?_
          rintro e W3 ⟨hkb, hkz, hkp, (⟨rfl, hJ3⟩ | ⟨rfl, hJx3⟩)⟩
          · gi_wp2
            go_roundw
            case rel => exact ⟨y + 1, _, by omega, by go_num, hJ3, HKw1.out.trans hkp, HNx.out _⟩
            case measure => simp only [intOf]; omega
          · gi_wp2
            refine bodyPost_ret (results_none rfl _ _ _) rfl ?_
            exact ⟨⟨_, rfl⟩, .inr ⟨_, _, ⟨_, HBd.out, HNx.out _⟩, hJx3⟩⟩
        · obtain rfl : y = n := by omega
          have HJ2 := Lib.hid hJs
          have HK2 := Lib.hid hK
          have HX2 := Lib.hid (show pre.map nm = namesL y ((u + 1) * y) by rw [hx, Nat.add_mul, Nat.one_mul])
          clear hJs hK hx
          gi_wp2
          first
            | (refine ⟨⟨_, _, .int .i64 ((u : Int) + 1), ⟨u + 1, by omega, by simp, pre, HJ2.out, HK2.out, HX2.out⟩, rfl, rfl, rfl⟩, ?_⟩; simp only [intOf]; omega)
            | (refine ⟨⟨u + 1, by omega, by simp, pre, HJ2.out, HK2.out, HX2.out⟩, ?_⟩; simp only [intOf]; omega)
            | (refine ⟨⟨u + 1, pre, by omega, by simp, HJ2.out, HK2.out, HX2.out⟩, ?_⟩; simp only [intOf]; omega)
    · obtain rfl : u = 4 := by omega
      gi_wp2
      go_end0
      exact ⟨⟨_, rfl⟩, .inl ⟨pre, _, HX.out, HJs.out⟩⟩
end Go.Proofs.Ytdfagnjdconkcaa

/-
  Tours of package triads: the queue has all walks of up to six steps in their order.
-/
import Derived.Test.YtibkhjbcagihbaaTrTours
namespace Go.Proofs.Ytibkhjbcagihbaa
open Go.ChangeShapes Go.WideShapes Go.ChangeAt Go.RowKit Go.Shelf
set_option maxRecDepth 100000

def idxN (c : Nat) : Nat := if c = 76 then 0 else if c = 80 then 1 else 2
def numW (l : List Nat) : Nat := l.foldl (fun m c => 3 * m + 1 + idxN c) 0
theorem num_node (m : Nat) : numW (nodeW m) = m := by
  induction m using Nat.strongRecOn with
  | _ m ih =>
    by_cases h0 : m = 0
    · subst h0; rw [nodeW_zero]; rfl
    · have e := ih ((m - 1) / 3) (by omega)
      rw [nodeW_pos h0]
      unfold numW at e ⊢
      rw [List.foldl_append, e]
      show 3 * ((m - 1) / 3) + 1 + idxN (letN ((m - 1) % 3)) = m
      have : idxN (letN ((m - 1) % 3)) = (m - 1) % 3 := by
        rcases (show (m - 1) % 3 = 0 ∨ (m - 1) % 3 = 1 ∨ (m - 1) % 3 = 2 by omega) with h | h | h <;> rw [h] <;> rfl
      omega

def nodeV (m : Nat) : Value := .string (strOf (nodeW m))
/-- The queue when i walks have been taken. -/
def queL (i : Nat) : List Value := (List.range' i (min (3 * i + 1) 1093 - i)).map nodeV
def queT (i : Nat) : List Value := (List.range' (i + 1) (min (3 * i + 1) 1093 - (i + 1))).map nodeV
theorem queL_head {i : Nat} (h : i < 1093) : queL i = nodeV i :: queT i := by
  unfold queL queT
  obtain ⟨k, hk⟩ : ∃ k, min (3 * i + 1) 1093 - i = k + 1 := ⟨min (3 * i + 1) 1093 - i - 1, by omega⟩
  rw [hk, show min (3 * i + 1) 1093 - (i + 1) = k by omega, List.range'_succ]
  rfl
theorem queT_length (i : Nat) : (queT i).length = min (3 * i + 1) 1093 - (i + 1) := by unfold queT; simp
theorem long_node (i : Nat) : longL (strOf (nodeW i)) 3 = (List.range' (3 * i + 1) 3).map nodeV := by
  have e : ∀ c, c < 3 → Value.string (strOf (nodeW i) ++ strOf [letN c]) = nodeV (3 * i + 1 + c) := fun c hc => by
    unfold nodeV; rw [nodeW_child i c hc, strOf_append]
  show [Value.string (strOf (nodeW i) ++ strOf [letN 0]), Value.string (strOf (nodeW i) ++ strOf [letN 1]), Value.string (strOf (nodeW i) ++ strOf [letN 2])] = _
  rw [e 0 (by omega), e 1 (by omega), e 2 (by omega)]
  rfl
theorem queT_grow {i : Nat} (h : i < 364) : queT i ++ longL (strOf (nodeW i)) 3 = queL (i + 1) := by
  rw [long_node]
  unfold queT queL
  rw [← List.map_append]
  congr 1
  have e := List.range'_append_1 (s := i + 1) (m := min (3 * i + 1) 1093 - (i + 1)) (n := 3)
  rw [show i + 1 + (min (3 * i + 1) 1093 - (i + 1)) = 3 * i + 1 by omega] at e
  rw [e, show min (3 * i + 1) 1093 - (i + 1) + 3 = min (3 * (i + 1) + 1) 1093 - (i + 1) by omega]
theorem queT_stay {i : Nat} (h : 364 ≤ i) : queT i = queL (i + 1) := by
  unfold queT queL
  rw [show min (3 * i + 1) 1093 - (i + 1) = min (3 * (i + 1) + 1) 1093 - (i + 1) by omega]
theorem queL_end : queL 1093 = [] := rfl

/-- The number of the walk in front. -/
def headN (v : Value) (w : World) : Nat := match v with
  | .slice (some a) (_ + 1) _ => (match w.cell? a with | some (.string s) => numW (bsN s) | _ => 0)
  | _ => 1093
theorem headN_eq {w : World} {lo i : Nat} {v : Value} (hi : i ≤ 1093) (h : QueAt w lo 9 v (queL i)) : headN v w = i := by
  by_cases hlt : i < 1093
  · rw [queL_head hlt] at h
    obtain ⟨g, o, cap, cur, rfl, -, -, -⟩ := id h
    obtain ⟨h1, h2, h3, h4⟩ := h.head
    show (match w.cell? ⟨g, o, none⟩ with | some (.string s) => numW (bsN s) | _ => 0) = i
    rw [h3]
    show numW (bsN (strOf (nodeW i))) = i
    rw [node_str, num_node]
  · obtain rfl : i = 1093 := by omega
    rw [queL_end] at h
    obtain ⟨g, o, cap, cur, rfl, -, -, -⟩ := id h
    rfl

/-- The queue without its first. -/
theorem que_tail {w : World} {lo g o len cap : Nat} {x : Value} {xs : List Value} (h : QueAt w lo 9 (.slice (some ⟨g, o, none⟩) len cap) (x :: xs)) : QueAt w lo 9 (.slice (if cap = 1 then some ⟨g, o, none⟩ else some ⟨g, o + 1, none⟩) (len - 1) (cap - 1)) xs := by
  obtain ⟨h1, h2, h3, h4⟩ := h.head
  have e : len - 1 = xs.length := by omega
  rw [e]
  by_cases hc : cap = 1
  · rw [if_pos hc]
    obtain ⟨g', o', cap', cur', hv, r1, r2, r3, r4, r5, r6⟩ := h4
    simp only [Value.slice.injEq, Option.some.injEq, Addr.mk.injEq, and_true] at hv
    obtain ⟨⟨rfl, rfl⟩, -, rfl⟩ := hv
    have hl0 : xs.length = 0 := by omega
    have hnil := List.eq_nil_of_length_eq_zero hl0
    subst hnil
    exact ⟨g, o, cap - 1, cur', rfl, r1, r2, by simp, r4, by omega, rfl⟩
  · rw [if_neg hc]; exact h4

theorem Tours_bad (n a b : Int) (h : kindB n a b = false) (w : World) :
    Calls Try.prog 41 #[kv n a b] w fun e w' => e = .returned (.tuple #[.string ⟨#[]⟩, .int .i64 2]) ∧ Below w.heap.size w w' := by
  have HV := Lib.hid (valid0 n a b (laid0 w n a b))
  rw [h] at HV
  have HA := Lib.hid (below_laid0 w n a b)
  clear h
  go_enter Try.func41, Try.ntmps41
  go_wp2_with fail
  refine HV.out.mono ?_
  rintro e w1 ⟨rfl, b1⟩
  go_wp2
  go_ret2
  exact ⟨rfl, below_nx HA.out b1⟩

theorem Tours_big (n a b : Nat) (hk : KOk n a b) (h : 12 < n) (w : World) :
    Calls Try.prog 41 #[kv n a b] w fun e w' => e = .returned (.tuple #[.string ⟨#[]⟩, .int .i64 2]) ∧ Below w.heap.size w w' := by
  have HV := Lib.hid (valid0 n a b (laid0 w n a b))
  rw [kindB_of_nat hk] at HV
  have HA := Lib.hid (below_laid0 w n a b)
  have k0 : (laid0 w n a b).cell? ⟨w.heap.size, 0, none⟩ = some (.int .i64 n) := by simp
  have hb : ((12 : Int) < (n : Int)) := by omega
  go_enter Try.func41, Try.ntmps41
  go_wp2_with fail
  refine HV.out.mono ?_
  rintro e w1 ⟨rfl, b1⟩
  have k0 := cell_later b1 k0
  go_wp2
  go_ret2
  exact ⟨rfl, below_nx HA.out b1⟩

set_option maxHeartbeats 4000000 in
theorem Tours_ok (n a b : Nat) (hk : KOk n a b) (hn : n ≤ 12) (w : World) :
    Calls Try.prog 41 #[kv n a b] w fun e w' => ∃ v, e = .returned v ∧ ToursV n a b v ∧ Below w.heap.size w w' := by
  have h16 := hk.h16
  obtain ⟨i0, hi, hz0, hz1, hz2⟩ := info_parts info_str
  have HV := Lib.hid (valid0 n a b (laid0 w n a b))
  rw [kindB_of_nat hk] at HV
  have HA := Lib.hid (below_laid0 w n a b)
  have k0 : (laid0 w n a b).cell? ⟨w.heap.size, 0, none⟩ = some (.int .i64 n) := by simp
  have hbx : (laid0 w n a b).heap[w.heap.size]? = some (kcells n a b) := heap_alloc_new w _
  have hb : ¬ ((12 : Int) < (n : Int)) := by omega
  have HTour : Hid (∀ i, i < 1093 → ∀ w, Calls Try.prog 63 #[kv n a b, .string (strOf (nodeW i))] w fun e w' => e = .returned (.bool (tourB n a b (nodeW i))) ∧ Below w.heap.size w w') := Lib.hid (fun i hi w => by
    have := isTour_any n a b hk (strOf (nodeW i)) (by rw [strOf_size]; have := (node_short hi).2; unfold maxLen; omega) (by rw [node_str]; exact nodeW_let i) w
    rwa [node_str] at this)
  go_enter Try.func41, Try.ntmps41
  go_wp2_with fail
  refine HV.out.mono ?_
  rintro e w1 ⟨rfl, b1⟩
  have k0 := cell_later b1 k0
  have hbx1 := (b1.block _ (Array.getElem?_eq_some_iff.1 hbx).1).trans hbx
  have HA1 := Lib.hid (below_nx HA.out b1)
  have hlH : w.heap.size < w1.heap.size := (Array.getElem?_eq_some_iff.1 hbx1).1
  obtain ⟨H, hH⟩ : ∃ H, w.heap.size = H := ⟨_, rfl⟩
  obtain ⟨lo, hlo⟩ : ∃ lo, w1.heap.size = lo := ⟨_, rfl⟩
  obtain ⟨W0, hW0⟩ : ∃ W0, w1.alloc (.cells #[.string ⟨#[]⟩] 9) = W0 := ⟨_, rfl⟩
  have hq0 : QueAt W0 lo 9 (.slice (some ⟨lo, 0, none⟩) 1 1) (queL 0) := by
    have := QueAt.one w1 lo 9 (.string ⟨#[]⟩) (by omega)
    rw [hlo, hW0] at this
    have e : queL 0 = [.string ⟨#[]⟩] := by
      show [nodeV 0] = _
      unfold nodeV; rw [nodeW_zero]; rfl
    rw [e]; exact this
  have HQ0 := Lib.hid hq0
  have HB0 : Hid (Below H w W0) := Lib.hid (by rw [← hW0, ← hH]; exact HA1.out.alloc HA1.out.size _)
  have HX0 : Hid (W0.heap[H]? = some (kcells n a b)) := Lib.hid (by rw [← hW0, ← hH]; exact (Below.heap_alloc _ _ _ hlH).trans hbx1)
  have HL0 : Hid (lo ≤ W0.heap.size) := Lib.hid (by rw [← hW0, World.size_alloc]; omega)
  have HHlo : H < lo := by omega
  have HH := Lib.hid hH
  have HLo := Lib.hid hlo
  have HW0 := Lib.hid hW0
  clear hq0 hW0 hlo hH hbx hbx1 b1 hlH
  go_wp2
  rw [HW0.out, HLo.out, HH.out]
  clear k0
  go_loopw [4] (fun v wr => ∃ i : Nat, i ≤ 1093 ∧ noTour n a b i ∧ QueAt wr lo 9 v (queL i) ∧ wr.heap[H]? = some (kcells n a b) ∧ Below H w wr ∧ lo ≤ wr.heap.size) (fun v wr => 1094 - headN v wr)
  case atStart => exact ⟨0, Nat.zero_le _, noTour_zero n a b, HQ0.out, HX0.out, HB0.out, HL0.out⟩
  case round =>
    obtain ⟨i, hi93, hno, hq, hbx, hB, hlo⟩ := hrel
    have HHd := Lib.hid (headN_eq hi93 hq)
    by_cases hlt : i < 1093
    · have hqh := hq
      rw [queL_head hlt] at hqh
      obtain ⟨g, o, cap, cur, rfl, -, -, -⟩ := id hqh
      obtain ⟨e1, e2, e3, -⟩ := hqh.head
      have e3' : wr.cell? ⟨g, o, none⟩ = some (.string (strOf (nodeW i))) := e3
      have hlen : (nodeV i :: queT i).length ≤ 1093 := by rw [List.length_cons, queT_length]; omega
      have hNp : 0 < (nodeV i :: queT i).length := by simp
      have hcap : 0 < cap := by omega
      obtain ⟨c0, c1, c2⟩ : wr.cell? ⟨H, 0, none⟩ = some (.int .i64 n) ∧ wr.cell? ⟨H, 1, none⟩ = some (.int .i64 a) ∧ wr.cell? ⟨H, 2, none⟩ = some (.int .i64 b) := by
        refine ⟨?_, ?_, ?_⟩ <;> simp [World.cell?, hbx]
      have hsz := strOf_size (nodeW i)
      obtain ⟨hs1, hs2⟩ := node_short hlt
      have HT := Lib.hid (HTour.out i hlt)
      have HQ := Lib.hid hqh
      have HNo := Lib.hid hno
      have HBx := Lib.hid hbx
      have HB := Lib.hid hB
      have HSt := Lib.hid (fun h => queT_stay (i := i) h)
      have HGr := Lib.hid (fun h => queT_grow (i := i) h)
      clear hq hqh hno hbx hB e1 e2 e3
      generalize (nodeV i :: queT i).length = M at hlen hNp HQ HHd
      cases htb : tourB n a b (nodeW i)
      · rw [htb] at HT
        have HNo2 := Lib.hid (noTour_succ HNo.out htb)
        by_cases h364 : i < 364
        · have h6i : ((strOf (nodeW i)).size : Int) < 6 := by have := hs1.2 h364; omega
          have HLg := Lib.hid (longer_any (strOf (nodeW i)) (by omega))
          have HG := HGr.out h364
          generalize hll : longL (strOf (nodeW i)) 3 = ll at HLg HG
          have hll3 : ll.length = 3 := by rw [← hll, longL_length]
          have hllc : ∀ u ∈ ll, u.oneCell' = true := by
            intro u hu
            rw [← hll] at hu
            obtain ⟨c, _, rfl⟩ := List.mem_map.1 hu
            rfl
          generalize strOf (nodeW i) = sw at *
          clear hll htb
          go_wp2_with fail
          refine (HT.out _).mono ?_
          rintro e w2 ⟨rfl, b2⟩
          have HQ2 := Lib.hid (HQ.out.later b2)
          have hs2' := b2.size
          go_wp2_with fail
          refine (HLg.out _).mono ?_
          rintro e w3 ⟨g3, cap3, rfl, hc3, b3⟩
          have hs3 := b3.size
          obtain ⟨v5, w5, hap, hq5, hg5, hob5⟩ := run_append_queN (P := Try.prog) w3 lo 64 64 9 i0 (.string ⟨#[]⟩) Try.underlying64 hi hz0 hz1 (by omega) rfl _ _ (HQ2.out.later b3) ⟨g3, 0, none⟩ 3 cap3 ll hll3 hc3 hllc (by omega) (by rw [List.length_cons, queT_length]; omega) (by omega)
          rw [List.cons_append, HG] at hq5
          have hB3 : Below H w w3 := by
            have h1 := HB.out.size
            have h2 := HH.out
            exact (HB.out.trans (b2.mono (by omega))).trans (b3.mono (by omega))
          have hlh := (Array.getElem?_eq_some_iff.1 HBx.out).1
          have HBx5 : Hid (w5.heap[H]? = some (kcells n a b)) := Lib.hid (by
            refine (hg5.block H (by omega) (fun e => ?_)).trans ((b3.block H (by omega)).trans ((b2.block H hlh).trans HBx.out))
            obtain ⟨gq, q1, q2, -⟩ := HQ.out.lt
            have := Option.some.inj (e.trans q1)
            omega)
          have HB5 : Hid (Below H w w5) := Lib.hid (hB3.grown hg5 (by have := HH.out; have := hB3.size; omega) (fun q e => by
            obtain ⟨gq, q1, q2, -⟩ := HQ.out.lt
            have := Option.some.inj (e.symm.trans q1)
            omega))
          have HL5 : Hid (lo ≤ w5.heap.size) := Lib.hid (by have := hg5.size; omega)
          obtain ⟨g5, o5, cap5, cur5, rfl, -, -, -⟩ := id hq5
          obtain ⟨t1, t2, -, -⟩ := hq5.head
          have HT5 := Lib.hid (que_tail hq5)
          have h1c : 1 ≤ (nodeV i :: queL (i + 1)).length := by simp
          clear hq5 hg5 hob5 t1 b2 b3 hB3 hc3
          generalize (nodeV i :: queL (i + 1)).length = M5 at *
          go_wp2_with (first | (at_builtin; refine Lib.wpList_append_run _ rfl _ _ _ _ rfl _ _ rfl rfl _ _ hap ?_) | fail)
          have HHd2 := Lib.hid (headN_eq (by omega) HT5.out)
          refine ⟨⟨i + 1, by omega, HNo2.out, HT5.out, HBx5.out, HB5.out, HL5.out⟩, ?_⟩
          rw [HHd2.out, HHd.out]
          omega
        · have h6i : ¬ ((strOf (nodeW i)).size : Int) < 6 := by
            intro h
            exact h364 (hs1.1 (by omega))
          have hst := HSt.out (by omega)
          have HT5 := Lib.hid (show QueAt wr lo 9 _ (queL (i + 1)) by rw [← hst]; exact que_tail HQ.out)
          obtain ⟨t1, t2, -, -⟩ := HQ.out.head
          generalize strOf (nodeW i) = sw at *
          clear htb hst t1
          go_wp2_with fail
          refine (HT.out _).mono ?_
          rintro e w2 ⟨rfl, b2⟩
          have HQ2 := Lib.hid (HT5.out.later b2)
          have hs2' := b2.size
          have hlh := (Array.getElem?_eq_some_iff.1 HBx.out).1
          have HBx5 : Hid (w2.heap[H]? = some (kcells n a b)) := Lib.hid ((b2.block H hlh).trans HBx.out)
          have HB5 : Hid (Below H w w2) := Lib.hid (HB.out.trans (b2.mono (by have := HB.out.size; have := HH.out; omega)))
          clear b2
          go_wp2
          have HHd2 := Lib.hid (headN_eq (by omega) HQ2.out)
          refine ⟨⟨i + 1, by omega, HNo2.out, HQ2.out, HBx5.out, HB5.out, by omega⟩, ?_⟩
          rw [HHd2.out, HHd.out]
          omega
      · rw [htb] at HT
        have HV2 : Hid (ToursV n a b (.tuple #[.string (strOf (nodeW i)), .int .i64 0])) := Lib.hid (Or.inl ⟨i, hlt, HNo.out, htb, rfl⟩)
        generalize strOf (nodeW i) = sw at *
        clear htb
        go_wp2_with fail
        refine (HT.out _).mono ?_
        rintro e w2 ⟨rfl, b2⟩
        have HB5 : Hid (Below H w w2) := Lib.hid (HB.out.trans (b2.mono (by have := HB.out.size; have := HH.out; omega)))
        clear b2
        go_wp2
        go_ret2
        exact ⟨_, rfl, HV2.out, by rw [HH.out]; exact HB5.out⟩
    · obtain rfl : i = 1093 := by omega
      rw [queL_end] at hq
      obtain ⟨g, o, cap, cur, rfl, -, -, -⟩ := id hq
      have HV2 : Hid (ToursV n a b (.tuple #[.string ⟨#[]⟩, .int .i64 4])) := Lib.hid (Or.inr ⟨hno, rfl⟩)
      have HB5 := Lib.hid hB
      clear hq hno hB hbx
      go_wp2
      go_ret2
      exact ⟨_, rfl, HV2.out, by rw [HH.out]; exact HB5.out⟩
end Go.Proofs.Ytibkhjbcagihbaa

/-
  Plain: it finds none.
-/
import Derived.Test.YtehjdhegnpmfaabDoorCaRhythms
import Derived.Lib.SlKeysI
import Derived.LoopIn
namespace Go.Proofs.YtehjdhegnpmfaabDoor
open Go.RowKit Go.Shelf Go.Sort Go.Maps
attribute [local go_sem] Oper.semAt_some
set_option maxRecDepth 100000

/-- What Sorted hands back, all of it. -/
def SortedAll (xs : List Nat) (v : Value) (W : World) : Prop :=
  (xs = [] ∧ ∃ (ad : Option Addr) (cap : Nat), v = .slice ad 0 cap) ∨ ∃ g cap : Nat, v = .slice (some ⟨g, 0, none⟩) xs.length cap ∧ ∀ i, i < xs.length → ∃ b, b ∈ xs ∧ W.cell? ⟨g, i, none⟩ = some (.int .i64 (b : Nat))

set_option maxHeartbeats 1000000 in
theorem sortedP_all (n a nB aB : Nat) (hn : 2 ≤ n) (hn2 : n ≤ 24) (ha : a < 2 ^ n) (ha1 : a % 2 = 1) (w : World) (hT : Tab w) (hcn : w.cell? ⟨nB, 0, none⟩ = some (.int .i64 n)) (hca : w.cell? ⟨aB, 0, none⟩ = some (.int .i64 a)) :
    Calls Tryd.prog 52 #[.func (.func 74) #[] #[.pointer (some ⟨nB, 0, none⟩), .pointer (some ⟨aB, 0, none⟩)]] w fun e w' => ∃ v, e = .returned v ∧ SortedAll (partners n a) v w' ∧ Below w.heap.size w w' := by
  have H := Lib.hid (collectP_any n a nB aB hn hn2 ha ha1 w hT hcn hca)
  have hpl : (partners n a).length ≤ 2 ^ n := nodup_length (partners_nodup (by omega) (by omega) ha) (fun x hx => ((mem_partners (by omega) (by omega) ha ha1).1 hx).1)
  have hp24 : 2 ^ n ≤ 2 ^ 24 := Nat.pow_le_pow_right (by omega) hn2
  clear hT hcn hca
  generalize partners n a = xs at H hpl
  rw [ints_enc] at H
  have HF : Hid (∀ z, z ∈ ((xs.map fun (x : Nat) => (x : Int)).mergeSort fun x y => decide (x ≤ y)) → ∃ b, b ∈ xs ∧ (b : Int) = z) := Lib.hid (fun z hz => by
    obtain ⟨b, hb, e⟩ := List.mem_map.1 (List.mem_mergeSort.1 hz)
    exact ⟨b, hb, e⟩)
  have hzl : (xs.map fun (x : Nat) => (x : Int)).length = xs.length := by simp
  have hzs : ((xs.map fun (x : Nat) => (x : Int)).mergeSort fun x y => decide (x ≤ y)).length = xs.length := by simp
  have HS := Lib.hid (fun blk cap W h1 h2 => Tryd.slices_Sort_int blk 0 cap (xs.map fun (x : Nat) => (x : Int)) W h1 h2 (by rw [hzl]; omega))
  have HS0 := Lib.hid (fun p cap W => Tryd.slices_Sort_int_none p cap W)
  have HZL := Lib.hid hzl
  have HZS := Lib.hid hzs
  clear hzl hzs
  generalize ((xs.map fun (x : Nat) => (x : Int)).mergeSort fun x y => decide (x ≤ y)) = zt at HS HF HZS
  generalize (xs.map fun (x : Nat) => (x : Int)) = zs at H HS HZL
  go_enter Tryd.func52, Tryd.ntmps52
  go_wp2_with fail
  refine H.out.mono ?_
  rintro e w1 ⟨v, rfl, ho, hb⟩
  obtain ⟨_, ⟨hv, h0⟩ | ⟨g, cap, cur, hv, hg, hh, h1, h2, h3, h4⟩⟩ := ho
  · subst hv
    have hx0 : xs = [] := List.eq_nil_of_length_eq_zero h0
    subst hx0
    clear h0
    go_wp2_with fail
    refine (HS0.out _ _ _).mono ?_
    rintro e w2 ⟨rfl, rfl⟩
    go_wp2
    go_ret
    exact ⟨_, rfl, Or.inl ⟨rfl, none, 0, rfl⟩, hb⟩
  · subst hv
    have hH : Holds (Value.int .i64) w1 g 0 zs.toArray := holds_of_block_i hh (by rw [HZL.out]; rw [Nat.mul_one] at h4; exact h4)
    have hgl : g < w1.heap.size := (Array.getElem?_eq_some_iff.1 hh).1
    have hS := HS.out g cap w1 hH hgl
    rw [HZL.out] at hS
    have hS' := Lib.hid hS
    have hH' := Lib.hid hH
    clear hH h4 h3 hS
    go_wp2_with fail
    refine hS'.out.mono ?_
    rintro e w2 ⟨rfl, m, os, rfl⟩
    have hgr := grownBy_sorted_i (w := w1) (g := g) (n := m) (os := os) zt.toArray
    have hb2 := hb.grown hgr hb.size (fun j hj => by cases hj; exact hg)
    have hz : Holds (Value.int .i64) (grow (putRow (Value.int .i64) (Sort.ahead w1 m) g 0 zt.toArray) os) g 0 zt.toArray :=
      holds_grow (holds_putRow _ _ g 0 zs.toArray zt.toArray (fun j hj => hH'.out j hj) (by simp [HZL.out, HZS.out])) (by simpa [putRow, mapBlock, Sort.ahead] using hgl)
    have hz' := Lib.hid hz
    have hb2' : Below w.heap.size w (grow (putRow (Value.int .i64) (Sort.ahead w1 m) g 0 zt.toArray) os) := hb2
    clear hz hgr hb2 hH' hS' hb hh
    generalize grow (putRow (Value.int .i64) (Sort.ahead w1 m) g 0 zt.toArray) os = w2 at *
    go_wp2
    go_ret
    refine ⟨_, rfl, ?_, hb2'⟩
    refine Or.inr ⟨g, cap, rfl, fun i hi => ?_⟩
    have h1 := (hz'.out i (by simp [HZS.out]; omega)).1
    rw [Nat.zero_add] at h1
    have hlt : i < zt.length := by rw [HZS.out]; exact hi
    obtain ⟨b, hb1, hb2⟩ := HF.out zt[i] (List.getElem_mem hlt)
    refine ⟨b, hb1, ?_⟩
    rw [h1]
    simp only [List.getElem!_toArray]
    rw [getElem!_pos _ i hlt, ← hb2]

theorem Plain_bad (n : Int) (h : vldN n = false ∨ 16 < n) (w : World) :
    Calls Tryd.prog 39 #[.int .i64 n] w fun e w' => e = .returned (.tuple #[.slice none 0 0, .int .i64 2]) ∧ Below w.heap.size w w' := by
  have HV := Lib.hid (valid0 n)
  have hB := below_two w (.cells #[.int .i64 n] 3)
  have hc : (w.alloc (.cells #[.int .i64 n] 3)).cell? ⟨w.heap.size, 0, none⟩ = some (.int .i64 n) := cell_at rfl
  cases hv : vldN n
  · rw [hv] at HV
    clear h hv
    go_enter Tryd.func39, Tryd.ntmps39
    go_wp2_with (go_at_call 46; refine (HV.out _).mono ?_; rintro e w' ⟨rfl, rfl⟩)
    go_ret2
    exact ⟨rfl, hB⟩
  · have h16 : (16 : Int) < n := h.resolve_left (by rw [hv]; decide)
    rw [hv] at HV
    clear h hv
    go_enter Tryd.func39, Tryd.ntmps39
    go_wp2_with (go_at_call 46; refine (HV.out _).mono ?_; rintro e w' ⟨rfl, rfl⟩)
    go_ret2
    exact ⟨rfl, hB⟩

set_option maxHeartbeats 2000000 in
theorem Plain_ok (n : Nat) (hn : 2 ≤ n) (hn2 : n ≤ 16) (w : World) (hT : Tab w) :
    Calls Tryd.prog 39 #[.int .i64 n] w fun e w' => e = .returned (.tuple #[.slice none 0 0, .int .i64 0]) ∧ Below w.heap.size w w' := by
  have hTs := hT.size
  have HV := Lib.hid (valid0 n)
  rw [show vldN n = true by unfold vldN; rw [decide_eq_true_eq]; omega] at HV
  have HR := Lib.hid (rhythms_any (n : Int))
  have q16 : decide ((16 : Int) < (n : Int)) = false := by rw [decide_eq_false_iff_not]; omega
  have hc0 : (w.alloc (.cells #[.int .i64 n] 3)).cell? ⟨w.heap.size, 0, none⟩ = some (.int .i64 n) := cell_at rfl
  refine (callsIn_wide (n := 9)).1 ?_
  refine callsIn_of_wp_marks Tryd.func39 rfl trivial ?_ rfl
  simp only [Tryd.ntmps39, List.size_toArray, List.length_cons, List.length_nil, Nat.reduceAdd, Nat.reduceSub, Array.replicate_succ, Array.replicate_zero, List.push_toArray, List.append_toArray, List.nil_append, List.cons_append]
  gi_wp2_with (refine ⟨trivial, ?_⟩; first | (gi_at_call 46; refine (callsIn_wide.2 (HV.out _)).mono ?_; rintro e w' ⟨rfl, rfl⟩) | (gi_at_call 64; refine (callsIn_wide.2 (HR.out _)).mono ?_; rintro e w' ⟨rfl, rfl⟩))
  clear q16 hc0
  obtain ⟨H, hH⟩ : ∃ H, w.heap.size = H := ⟨_, rfl⟩
  have hH' := Lib.hid hH
  have hHle : H ≤ w.heap.size := by omega
  have hHl1 : 1 < H := by omega
  obtain ⟨W0, hW0⟩ : ∃ W0, (((w.alloc (Obj.cells #[Value.int IntKind.i64 ↑n] 3)).alloc (Obj.cells #[Value.slice none 0 0] 41)).alloc (Obj.cells #[Value.int IntKind.i64 ↑n] 3)) = W0 := ⟨_, rfl⟩
  have c0 : W0.cell? ⟨H, 0, none⟩ = some (.int .i64 n) := by rw [← hW0]; exact cell_up (cell_up (cell_at (by omega)))
  have c1 : W0.cell? ⟨H + 1, 0, none⟩ = some (.slice none 0 0) := by rw [← hW0]; exact cell_up (cell_at (by simp; omega))
  have c2 : W0.cell? ⟨H + 1 + 1, 0, none⟩ = some (.int .i64 n) := by rw [← hW0]; exact cell_at (by simp; omega)
  have hB0 : Below H w W0 := by rw [← hW0, ← hH]; exact (((Below.refl _ w).alloc (Nat.le_refl _) _).alloc (by simp) _).alloc (by simp; omega) _
  have hS0 : W0.heap.size = H + 3 := by rw [← hW0, ← hH]; simp
  have hT0 : Tab W0 := hT.below hB0 (by omega)
  have hSS : ∀ i, i < H + 3 → i < W0.heap.size := fun i h => by omega
  rw [hW0, hH]
  clear hW0 hH
  refine wpIn_rangeFunc_ownF rfl (by omega) (gf := 82) (lb := #[.pointer (some ⟨H + 1 + 1, 0, none⟩)]) rfl trivial (enters_of Tryd.func82 (by kernel_rfl) rfl)
    (rhythms1_stops (fun i => i < H + 3) (9 - 1) n (H + 1 + 1) (by omega) hn hn2 W0 hSS (show H + 1 + 1 < H + 3 by omega) c2) keptOn_t (keptOn_b hSS) (Below.refl _ _) (fun _ => rfl)
    (fun _ W => (W.cell? ⟨H + 1, 0, none⟩ = some (.slice none 0 0) ∧ W.cell? ⟨H, 0, none⟩ = some (.int .i64 n)) ∧ (Below H w W ∧ H + 3 ≤ W.heap.size))
    (fun _ _ _ => False)
    (OwnFrom.and (Own.from (fun s A B row hs hg hr => ⟨cell_kept hs.1 hg hr, cell_kept hs.2 hg hr⟩) _) (OwnFrom.and (ownFrom_below hHle (by omega)) (Own.from (fun s A B row hs hg hr => Nat.le_trans hs hg.size) _)))
    (fun _ _ _ _ _ hs _ _ => hs)
    ⟨⟨c1, c0⟩, hB0, by omega⟩
    (fun x => { tmps := #[.int .i64 n, .pointer (some ⟨H, 0, none⟩), .slice none 0 0, .int .i64 0, .pointer (some ⟨H + 1, 0, none⟩), .int .i64 x.val, undef, undef, .int .i64 n, .bool true, .bool false, .bool false, .int .i64 n, .bool false, .bool false, .int .i64 n, .func (.func 82) #[] #[.pointer (some ⟨H + 1 + 1, 0, none⟩)], .int .i64 x.val, undef, undef, undef, undef, undef, undef, undef, undef, undef, undef, undef, undef, undef, undef, undef, undef, undef, undef, undef, undef, undef, undef, undef, undef], defers := [] }) ?assign ?body ?done ?stop
  case assign =>
    intro l x W K hK
    gi_wp2
    exact hK
  case body =>
    rintro l pre x W ⟨⟨hc1, hc0⟩, hB, hsz⟩ _
    have hx1 := x.property.1
    have hx2 := x.property.2
    have hTW : Tab W := hT.below hB (by omega)
    have HB := Lib.hid hB
    have fin : ∀ W', Below W.heap.size W W' → KeepsOthers W W' ∧ KeptOn (fun i => i < H + 3) W W' ∧ (W'.cell? ⟨H + 1, 0, none⟩ = some (.slice none 0 0) ∧ W'.cell? ⟨H, 0, none⟩ = some (.int .i64 n)) ∧ Below H w W' ∧ H + 3 ≤ W'.heap.size := fun W' hb =>
      ⟨⟨hb.size, fun k o hk _ => (hb.block k (Array.getElem?_eq_some_iff.1 hk).1).trans hk⟩, (KeptOn.refl _ W).below hb (fun i hi => by omega), ⟨cell_later hb hc1, cell_later hb hc0⟩, HB.out.trans (hb.mono (by omega)), Nat.le_trans hsz hb.size⟩
    have FIN := Lib.hid fin
    have hc0' := Lib.hid hc0
    clear fin hB hc1
    cases hq : decide (perN n x.val = n)
    · have HP := Lib.hid (plain_any n x.val hn (by omega) hx1 false hq)
      clear hq
      gi_wp2_with fail
      refine ⟨trivial, ?_⟩
      refine (CallsIn.inRound l (callsIn_wide.2 (HP.out _))).mono ?_
      rintro e w1 ⟨rfl, m, rfl⟩
      gi_wp2
      exact FIN.out _ (below_drewN (Below.refl _ _) m)
    · have HP := Lib.hid (plain_any n x.val hn (by omega) hx1 true hq)
      have hpx : perN n x.val = n := of_decide_eq_true hq
      have HPA := Lib.hid (fun V => partners_any (n : Int) (x.val : Int) V)
      have HN : Hid (∀ b ∈ partners n x.val, b < 2 ^ n ∧ decide (perN n b = n) = false) := Lib.hid (fun b hb => by
        obtain ⟨h1, _, h3⟩ := (mem_partners (by omega) (by omega) hx1 hx2).1 hb
        refine ⟨h1, decide_eq_false fun e => ?_⟩
        rcases hajos hn (by omega) hx1 h1 h3 with h | h <;> omega)
      have HSo := Lib.hid (fun nB aB V h1 h2 h3 => sortedP_all n x.val nB aB hn (by omega) hx1 hx2 V h1 h2 h3)
      have HLn := Lib.hid (show (partners n x.val).length ≤ 2 ^ n from nodup_length (partners_nodup (by omega) (by omega) hx1) (fun y hy => ((mem_partners (by omega) (by omega) hx1 hx2).1 hy).1))
      have hp24 : 2 ^ n ≤ 2 ^ 24 := Nat.pow_le_pow_right (by omega) (by omega)
      generalize partners n x.val = xs at HN HSo HLn
      clear hq hpx
      gi_wp2_with fail
      refine ⟨trivial, ?_⟩
      refine (CallsIn.inRound l (callsIn_wide.2 (HP.out _))).mono ?_
      rintro e w1 ⟨rfl, m, rfl⟩
      have b1 := below_drewN (Below.refl W.heap.size W) m
      have hc01 : (W.drewN m).cell? ⟨H, 0, none⟩ = some (.int .i64 n) := hc0
      have hsz1 : W.heap.size ≤ (W.drewN m).heap.size := Nat.le_refl _
      have hT1 := hTW.same b1
      generalize W.drewN m = w1 at b1 hc01 hsz1 hT1 ⊢
      clear hc0
      gi_wp2_with fail
      refine ⟨trivial, ?_⟩
      refine (CallsIn.inRound l (callsIn_wide.2 (HPA.out _))).mono ?_
      rintro e w2 ⟨rfl, hw2⟩
      have b2 : Below w1.heap.size w1 w2 := by rw [← hw2]; exact ((Below.refl _ w1).alloc (Nat.le_refl _) _).alloc (by simp) _
      have d1 : w2.cell? ⟨w1.heap.size, 0, none⟩ = some (.int .i64 n) := by rw [← hw2]; exact cell_up (cell_at rfl)
      have d2 : w2.cell? ⟨w1.heap.size + 1, 0, none⟩ = some (.int .i64 x.val) := by rw [← hw2]; exact cell_at (by simp)
      have hT2 := hT1.same b2
      have e2 := below_next b1 b2
      have hc02 := cell_later b2 hc01
      clear hw2 hc01
      gi_wp2_with fail
      refine ⟨trivial, ?_⟩
      refine (CallsIn.inRound l (callsIn_wide.2 (HSo.out _ _ w2 hT2 d1 d2))).mono ?_
      rintro e w3 ⟨v, rfl, hso, b3⟩
      have e3 := below_next e2 b3
      have hc03 := cell_later b3 hc02
      clear d1 d2 b3 hc02 b2 e2
      have hll := HLn.out
      rcases hso with ⟨rfl, ad, cap, rfl⟩ | ⟨g, cap, rfl, hel⟩
      · gi_wp2
        gi_loopw [7, 27] (fun _ i wr => i = .int .i64 0 ∧ wr = w3) (fun _ _ _ => 0)
        case atStart => exact ⟨rfl, rfl⟩
        case round =>
          obtain ⟨rfl, rfl⟩ := hrel
          gi_wp2
          exact FIN.out _ e3
      · have HEl := Lib.hid hel
        clear hel
        generalize hL : xs.length = L at hll HEl
        gi_wp2
        gi_loopw [7, 27] (fun _ i wr => ∃ k m : Nat, k ≤ L ∧ i = .int .i64 k ∧ wr = w3.drewN m) (fun _ i _ => L - (intOf i).toNat)
        case atStart => exact ⟨0, 0, Nat.zero_le _, rfl, rfl⟩
        case round =>
          obtain ⟨k, m, hk, rfl, rfl⟩ := hrel
          by_cases hlt : k < L
          · obtain ⟨b, hb, hcb⟩ := HEl.out k hlt
            obtain ⟨n1, n2⟩ := HN.out b hb
            have HPb := Lib.hid (plain_any n b hn (by omega) n1 false n2)
            clear hb
            gi_wp2_with fail
            refine ⟨trivial, ?_⟩
            refine (CallsIn.inRound l (callsIn_wide.2 (HPb.out _))).mono ?_
            rintro e w4 ⟨rfl, m4, rfl⟩
            gi_wp2
            go_roundw
            case rel => exact ⟨k + 1, m + m4, by omega, by go_num, rfl⟩
            case measure => simp only [intOf]; omega
          · gi_wp2
            exact FIN.out _ (below_drewN e3 m)
  case done =>
    rintro D ys W hD hys ⟨⟨hc1, hc0⟩, hB, _⟩ hK
    have hys' := Lib.hid hys; clear hys
    have HB1 := Lib.hid hB
    clear hB
    gi_wp2
    refine ⟨by simp, .inl ⟨_, _, rfl, run_takeDeferred hK, ?_⟩⟩
    refine ⟨.tuple #[.slice none 0 0, .int .i64 0], by simp [results, Tryd.f39, go_sem], rfl, by rw [hH'.out]; exact HB1.out.trans (belowK_b (n₀ := H) (w := W0) (by omega) W D _ _ (by omega) hK rfl rfl)⟩
  case stop =>
    rintro D c pre W _ _ h _
    exact h.elim

end Go.Proofs.YtehjdhegnpmfaabDoor

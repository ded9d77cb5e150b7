/-
  second of package canon.
-/
import Derived.Test.YtmcdelabcmnfiaaDoorCaKeepApp
namespace Go.Proofs.YtmcdelabcmnfiaaDoor
open Go.RowKit Go.Shelf
attribute [local go_sem] Oper.semAt_some
set_option maxRecDepth 100000

/-- A slice that is read lies in another block than one that grows. -/
def RdA (P : Option Addr) (L : List Nat) (W : World) (v : Value) : Prop := ∀ i, i < L.length → ∃ g, P = some ⟨g, 0, none⟩ ∧ v.ownBlock ≠ some g ∧ W.cell? ⟨g, i, none⟩ = some (.int .i64 ((L[i]?.getD 0 : Nat) : Int))
theorem RdA.later {P : Option Addr} {L : List Nat} {W W' : World} {v : Value} (h : RdA P L W v) (hb : Below W.heap.size W W') : RdA P L W' v :=
  fun i hi => by obtain ⟨g, a, b, c⟩ := h i hi; exact ⟨g, a, b, cell_later hb c⟩
theorem RdA.app {P : Option Addr} {L : List Nat} {W W' : World} {v v' : Value} (h : RdA P L W v) (hg : W.grownBy W' v.ownBlock) (hb : v'.ownBlock = v.ownBlock ∨ v'.ownBlock = some W.heap.size) : RdA P L W' v' :=
  fun i hi => by
    obtain ⟨g, a, b, c⟩ := h i hi
    refine ⟨g, a, fun e => ?_, hg.cell c (fun e => b e.symm)⟩
    rcases hb with e1 | e1
    · exact b (e1 ▸ e)
    · rw [e1] at e; cases e
      exact Nat.lt_irrefl _ (World.block_lt_of_cell? W _ c)
theorem IntsAt.apart {W : World} {lo : Nat} {v u : Value} {xs : List Nat} (h : IntsAt W lo v xs) (hu : ∀ k, u.ownBlock = some k → k < lo) : ∃ (P : Option Addr) (cap : Nat), v = .slice P xs.length cap ∧ RdA P xs W u := by
  obtain ⟨P, cap, hv, hc⟩ := h.as
  exact ⟨P, cap, hv, fun i hi => by
    obtain ⟨g, a, b, c⟩ := hc i hi
    exact ⟨g, a, fun e => by have := hu g e; omega, c⟩⟩

/-- The state of second's loops. -/
structure SnS (w : World) (H : Nat) (P1 : Option Addr) (L1 : List Nat) (P2 : Option Addr) (L2 : List Nat) (g0 : Nat) (E L : List Nat) (v : Value) (W : World) : Prop where
  own : W.ownsRow H 3 1 v L.length (ints L)
  r1 : RdA P1 L1 W v
  r2 : RdA P2 L2 W v
  er : ∀ i, i < E.length → W.cell? ⟨g0, i, none⟩ = some (.int .i64 ((E[i]?.getD 0 : Nat) : Int))
  pre : ∃ T, L = E ++ T
  form : ∃ g cap, v = .slice (some ⟨g, 0, none⟩) L.length cap
  bel : Below H w W
theorem SnS.later {w : World} {H : Nat} {P1 P2 : Option Addr} {L1 L2 E L : List Nat} {g0 : Nat} {v : Value} {W W' : World} (h : SnS w H P1 L1 P2 L2 g0 E L v W) (hb : Below W.heap.size W W') (hH : H ≤ W.heap.size) : SnS w H P1 L1 P2 L2 g0 E L v W' :=
  ⟨owns_later h.own hb, h.r1.later hb, h.r2.later hb, fun i hi => cell_later hb (h.er i hi), h.pre, h.form, h.bel.trans (hb.mono hH)⟩
theorem SnS.append {w : World} {H : Nat} {P1 P2 : Option Addr} {L1 L2 E L : List Nat} {g0 : Nat} {v : Value} {W : World} (h : SnS w H P1 L1 P2 L2 g0 E L v W) (hH : H ≤ W.heap.size) (hL : L.length ≤ 100) (a : Addr) (c x : Nat) (hx : W.cell? a = some (.int .i64 x)) :
    ∃ v' w', (Builtin.append_ #[22, 22] 22 #[v, .slice (some a) 1 c]).run Tryd.prog W = .ok v' w' ∧ SnS w H P1 L1 P2 L2 g0 E (L ++ [x]) v' w' := by
  obtain ⟨i0, hi, hz0, hz1, hz2⟩ := info_parts info_intR
  obtain ⟨g, cap, rfl⟩ := h.form
  obtain ⟨v', w', hr, h2, h3, h5, h6⟩ := run_append_keep (P := Tryd.prog) W H 22 22 3 i0 (.int .i64 0) 8 Tryd.underlying22 hi hz0 hz1 hz2 rfl g L.length cap (ints L) h.own a c (.int .i64 x) hx rfl (by unfold maxLen; omega) (by omega) hH
  have e1 : ints (L ++ [x]) = ints L ++ [.int .i64 x] := by simp [ints]
  refine ⟨v', w', hr, ⟨?_, h.r1.app h3 h5, h.r2.app h3 h5, fun i hi => ?_, ?_, ?_, ?_⟩⟩
  · rw [e1, List.length_append, List.length_singleton]; exact h2
  · have hc := h.er i hi
    by_cases hg : g0 = g
    · subst hg
      obtain ⟨T, hT⟩ := h.pre
      refine h6 i _ ?_
      rw [ints_at (by rw [hT, List.length_append]; omega), hT, List.getElem?_append_left hi]
    · exact h3.cell hc (fun e => hg (by cases e; rfl))
  · obtain ⟨T, hT⟩ := h.pre
    exact ⟨T ++ [x], by rw [hT, List.append_assoc]⟩
  · obtain ⟨h0, h1 | ⟨g', cap', cur, hv, rest⟩⟩ := h2
    · exact absurd h1.2 (by omega)
    · exact ⟨g', cap', by rw [hv, List.length_append, List.length_singleton]⟩
  · exact h.bel.grown h3 hH (fun k e => by cases e; exact (h.own.lt g rfl).1)

theorem block_of_form {v : Value} {g m cap : Nat} (h : v = .slice (some ⟨g, 0, none⟩) m cap) : v.ownBlock = some g := by subst h; rfl

set_option maxHeartbeats 2000000 in
theorem second_any (n a : Nat) (h1 : 2 ≤ n) (h2 : n ≤ 24) (ha : a < 2 ^ 24) (w : World) (hT : Tab w) :
    Calls Tryd.prog 51 #[.int .i64 n, .int .i64 a] w fun e w' => e = .returned (.bool (secondB n a)) ∧ Below w.heap.size w w' := by
  have HPr := Lib.hid (fun W => primes_any n (by omega) h2 W)
  have HPl := Lib.hid (primes_len (n := n) (by omega) h2)
  have HPm := Lib.hid (fun p hp => primes_mem (n := n) (p := p) (by omega) h2 hp)
  have HPw := Lib.hid (fun p (h3 : 2 ≤ p) (h4 : p ≤ 24) W (h : Tab W) => powers_any n a p (by omega) h2 h3 h4 ha W h)
  have HR := Lib.hid (fun s (hs : 2 ≤ s) (hs2 : s ≤ 24) W (h : Tab W) => isRoot_any a s ha hs hs2 W h)
  have HTb : Hid (∀ W, Below w.heap.size w W → Tab W) := Lib.hid (fun W h => hT.same h)
  have HSs := Lib.hid (fun ps p => sndTo_snoc n a ps p)
  have HAl := Lib.hid (fun j e r (hj : j < 4) he => snd_all (n := n) (a := a) (j := j) (e := e) (r := r) (by omega) h2 hj he)
  have HLn := Lib.hid (fun j (hj : j < 4) => snd_len (n := n) (a := a) (j := j) (by omega) h2 hj)
  have HMo := Lib.hid (fun x ps qs h => snd_mono (n := n) (a := a) (x := x) ps qs h)
  have HSB : Hid (secondB n a = (sndTo n a (primesL n)).all fun x => x == 1 || rootB a x) := Lib.hid rfl
  obtain ⟨H, hH⟩ : ∃ H, w.heap.size = H := ⟨_, rfl⟩
  obtain ⟨W1, hW1⟩ : ∃ W1, w.alloc (.cells #[.int .i64 1] 3) = W1 := ⟨_, rfl⟩
  have hsz1 : W1.heap.size = H + 1 := by rw [← hW1, ← hH]; simp
  have hB1 : Below H w W1 := by rw [← hW1, ← hH]; exact (Below.refl _ w).alloc (Nat.le_refl _) _
  have ho1 : W1.ownsRow H 3 1 (.slice (some ⟨H, 0, none⟩) 1 1) 1 (ints [1]) :=
    ⟨rfl, .inr ⟨H, 1, #[.int .i64 1], rfl, Nat.le_refl _, by rw [← hW1, ← hH]; exact World.alloc_heap_new w _, Nat.le_refl _, by unfold maxLen; omega, rfl, by simp [ints]⟩⟩
  have HW1 := Lib.hid hW1

  have hHle : H ≤ w.heap.size := by omega
  rw [hH] at HTb ⊢
  clear hT hW1
  go_enter Tryd.func51, Tryd.ntmps51
  go_wp2_with fail
  rw [HW1.out]
  refine (HPr.out _).mono ?_
  rintro e w2 ⟨v, rfl, hv, b2⟩
  obtain ⟨P, cap, rfl, hps⟩ := hv.apart (u := .slice (some ⟨H, 0, none⟩) 1 1) (fun k e => by have : H = k := Option.some.inj e; omega)
  have hS0 : SnS w H P (primesL n) none [] 0 [] (sndTo n a ((primesL n).take 0)) (.slice (some ⟨H, 0, none⟩) 1 1) w2 :=
    ⟨owns_later ho1 b2, hps, fun i hi => by simp at hi, fun i hi => by simp at hi, ⟨_, rfl⟩, ⟨H, 1, rfl⟩, hB1.trans (b2.mono (by omega))⟩
  have HS0 := Lib.hid hS0
  clear hv hps hS0 b2 ho1 hB1 hH
  go_wp2
  go_loopw [5, 19] (fun v i wr => ∃ j : Nat, j ≤ (primesL n).length ∧ i = .int .i64 j ∧ SnS w H P (primesL n) none [] 0 [] (sndTo n a ((primesL n).take j)) v wr ∧ ∀ x, x ∈ sndTo n a ((primesL n).take j) → x = 1 ∨ rootB a x = true) (fun _ i _ => (primesL n).length - (intOf i).toNat)
  case atStart => exact ⟨0, Nat.zero_le _, rfl, HS0.out, fun x hx => .inl (by simpa [sndTo] using hx)⟩
  case round =>
    obtain ⟨j, hj, rfl, hst, hok⟩ := hrel
    have hl3 : (primesL n).length ≤ 3 := HPl.out
    by_cases hjl : j < (primesL n).length
    · obtain ⟨gP, rfl, _, hgc⟩ := hst.r1 j hjl
      obtain ⟨p, hp, HpT⟩ : ∃ p, (primesL n)[j]?.getD 0 = p ∧ Hid ((primesL n).take (j + 1) = (primesL n).take j ++ [p]) := by
        refine ⟨_, rfl, Lib.hid ?_⟩
        rw [List.take_succ_eq_append_getElem hjl, List.getElem?_eq_getElem hjl]; rfl
      have hp' : (primesL n)[j]?.getD 2 = p := by rw [← hp, List.getElem?_eq_getElem hjl]; rfl
      have hpm : p ∈ primesL n := by rw [← hp, List.getElem?_eq_getElem hjl]; exact List.getElem_mem hjl
      obtain ⟨hp1, hp2, hp3⟩ := HPm.out p hpm
      rw [hp] at hgc
      have hss := HSs.out ((primesL n).take j) p
      rw [← HpT.out] at hss
      have Hss := Lib.hid hss
      have hlen1 := HLn.out (j + 1) (by omega)
      rw [hss] at hlen1
      have HAj := Lib.hid (fun e r (he : e ∈ sndTo n a ((primesL n).take j)) (hr : r ∈ rootsP n a p) => (HAl.out j e r (by omega) he).2.2 hjl (by rw [hp']; exact hr))
      have HEb := Lib.hid (fun e (he : e ∈ sndTo n a ((primesL n).take j)) => (HAl.out j e 1 (by omega) he).2.1)
      have HMem : Hid (∀ x, x ∈ sndTo n a ((primesL n).take (j + 1)) → x ∈ sndTo n a (primesL n)) := Lib.hid (fun x hx => by
        have := HMo.out x ((primesL n).take (j + 1)) ((primesL n).drop (j + 1)) hx
        rwa [List.take_append_drop] at this)
      have hszr : H ≤ wr.heap.size := Nat.le_trans hHle hst.bel.size
      have HPp := Lib.hid (HPw.out p hp1 (by omega) _ (HTb.out _ hst.bel))
      have HOk := Lib.hid hok
      have HSt := Lib.hid hst
      obtain ⟨g0, cap0, hform⟩ := hst.form
      have hE1 : (sndTo n a ((primesL n).take j)).length ≤ 24 := HLn.out j (by omega)
      clear hst hok hss hp hp' hpm HpT
      obtain ⟨E, hE⟩ : ∃ E, sndTo n a ((primesL n).take j) = E := ⟨_, rfl⟩
      rw [hE] at hlen1 HAj HEb HOk HSt hform hE1 Hss
      have HE := Lib.hid hE
      subst hform
      clear hE
      go_wp2_with fail
      refine HPp.out.mono ?_
      rintro e w3 ⟨v1, u1, rfl, hv1, _, b3⟩
      obtain ⟨P2, cap2, rfl, hrd⟩ := hv1.apart (u := .slice (some ⟨g0, 0, none⟩) E.length cap0) (fun k e => (HSt.out.own.lt k e).2)
      have hS3 := HSt.out.later b3 hszr
      obtain ⟨R, hR⟩ : ∃ R, rootsP n a p = R := ⟨_, rfl⟩
      rw [hR] at hrd HAj Hss hlen1 ⊢
      have hS4 : SnS w H (some ⟨gP, 0, none⟩) (primesL n) P2 R g0 E (partS E R 0 0) (.slice (some ⟨g0, 0, none⟩) E.length cap0) w3 := by
        rw [partS_zero]
        exact ⟨hS3.own, hS3.r1, hrd, fun i hi => by
          have := hS3.own.cells (g := g0) rfl i _ (ints_at hi)
          rwa [addr_add] at this, ⟨[], by simp⟩, ⟨g0, cap0, rfl⟩, hS3.bel⟩
      have HS4 := Lib.hid hS4
      clear hS3 hS4 hv1 hrd b3 HSt hR hgc
      go_wp2
      go_loopw [5, 33] (fun v i wv => ∃ q : Nat, q ≤ R.length ∧ i = .int .i64 q ∧ SnS w H (some ⟨gP, 0, none⟩) (primesL n) P2 R g0 E (partS E R q 0) v wv ∧ ∀ x, x ∈ partS E R q 0 → x = 1 ∨ rootB a x = true) (fun _ i _ => R.length - (intOf i).toNat)
      case atStart => exact ⟨0, Nat.zero_le _, rfl, HS4.out, fun x hx => HOk.out x (by rwa [partS_zero] at hx)⟩
      case round =>
        obtain ⟨q, hq, rfl, hst, hok⟩ := hrel
        have hRl : R.length ≤ 24 := by
          have := growL_length E R
          have hE0 : 0 < E.length := by
            have : 1 ∈ E := by rw [← HE.out]; exact (HMo.out 1 [] _ (by simp [sndTo]))
            exact List.length_pos_of_mem this
          have h5 := Nat.mul_le_mul_left R.length hE0
          omega
        by_cases hql : q < R.length
        · obtain ⟨gR, rfl, _, hrc⟩ := hst.r2 q hql
          obtain ⟨r, hr⟩ : ∃ r, R[q]?.getD 0 = r := ⟨_, rfl⟩
          have hr1 : R[q]?.getD 1 = r := by rw [← hr, List.getElem?_eq_getElem hql]; rfl
          have hrm : r ∈ R := by rw [← hr, List.getElem?_eq_getElem hql]; exact List.getElem_mem hql
          rw [hr] at hrc
          have hrb : r ≤ 24 := by
            have h1E : 1 ∈ E := by rw [← HE.out]; exact (HMo.out 1 [] _ (by simp [sndTo]))
            have := (HAj.out 1 r h1E hrm).2
            omega
          have HSt := Lib.hid hst
          have HOk2 := Lib.hid hok
          have HAr := Lib.hid (fun e (he : e ∈ E) => HAj.out e r he hrm)
          have Hr1 := Lib.hid hr1
          have HrM := Lib.hid hrm
          clear hst hok hr hr1 hrm
          go_wp2
          go_loopw [5, 39] (fun v i wx => ∃ m : Nat, m ≤ E.length ∧ i = .int .i64 m ∧ SnS w H (some ⟨gP, 0, none⟩) (primesL n) (some ⟨gR, 0, none⟩) R g0 E (partS E R q m) v wx ∧ ∀ x, x ∈ partS E R q m → x = 1 ∨ rootB a x = true) (fun _ i _ => E.length - (intOf i).toNat)
          case atStart => exact ⟨0, Nat.zero_le _, rfl, HSt.out, HOk2.out⟩
          case round =>
            obtain ⟨m, hm, rfl, hst, hok⟩ := hrel
            by_cases hml : m < E.length
            · have hec := hst.er m hml
              obtain ⟨e, he⟩ : ∃ e, E[m]?.getD 0 = e := ⟨_, rfl⟩
              have hem : e ∈ E := by rw [← he, List.getElem?_eq_getElem hml]; exact List.getElem_mem hml
              rw [he] at hec
              obtain ⟨x1, x2⟩ := HAr.out e hem
              have heb := HEb.out e hem
              have hps := partS_succ (R := R) (q := q) hml
              rw [he, Hr1.out] at hps
              have HPs := Lib.hid hps
              have hpl := partS_len (m := m) hql hm
              have hszx : H ≤ wr.heap.size := Nat.le_trans hHle hst.bel.size
              have hmul : (e : Int) * (r : Int) = ((e * r : Nat) : Int) := by simp
              have HGr : Hid (e * r ∈ growL E R) := Lib.hid (mem_growL.2 (.inr ⟨r, HrM.out, e, hem, rfl⟩))
              obtain ⟨X, hX⟩ : ∃ X, e * r = X := ⟨_, rfl⟩
              rw [hX] at x1 x2 hmul HPs HGr
              have HRx := Lib.hid (HR.out X x1 x2 _ (HTb.out _ hst.bel))
              have HSt3 := Lib.hid hst
              have HOk3 := Lib.hid hok
              clear hst hok hps hX hem he
              cases hrb2 : rootB a X
              · rw [hrb2] at HRx
                have HNo : Hid (secondB n a = false) := Lib.hid (by
                  rw [HSB.out, List.all_eq_false]
                  refine ⟨X, HMem.out X (by rw [Hss.out]; exact HGr.out), ?_⟩
                  rw [hrb2]; simp; omega)
                clear hrb2
                go_wp2_with fail
                refine HRx.out.mono ?_
                rintro ee w5 ⟨rfl, b5⟩
                go_wp2
                go_ret
                exact ⟨ret_bool HNo.out.symm, HSt3.out.bel.trans (b5.mono hszx)⟩
              · rw [hrb2] at HRx
                go_wp2_with fail
                refine HRx.out.mono ?_
                rintro ee w5 ⟨rfl, b5⟩
                have hS5 := HSt3.out.later b5 hszx
                have hsz5 : H ≤ w5.heap.size := Nat.le_trans hHle hS5.bel.size
                have hS5' := hS5.later ((Below.refl w5.heap.size w5).alloc (Nat.le_refl _) (.cells #[.int .i64 X] 3)) hsz5
                obtain ⟨v6, w6, hr6, hS6⟩ := hS5'.append (by simp; omega) (by omega) ⟨w5.heap.size, 0, none⟩ 1 X (by simp)
                rw [← HPs.out] at hS6
                have HS6 := Lib.hid hS6
                have HOk6 : Hid (∀ x, x ∈ partS E R q (m + 1) → x = 1 ∨ rootB a x = true) := Lib.hid (fun x hx => by
                  rw [HPs.out, List.mem_append, List.mem_singleton] at hx
                  rcases hx with hx | rfl
                  · exact HOk3.out x hx
                  · exact .inr hrb2)
                clear hS5 hS5' hS6 b5 hrb2
                go_wp2_with (first | (at_builtin; refine Lib.wpList_append_run _ rfl _ _ 22 22 rfl _ _ rfl rfl v6 w6 hr6 ?_))
                go_roundw
                case rel => exact ⟨m + 1, by omega, by go_num, HS6.out, HOk6.out⟩
                case measure => simp only [intOf]; omega
            · obtain rfl : m = E.length := by omega
              have HF := Lib.hid (partS_full (E := E) hql)
              have HS7 : Hid (SnS w H (some ⟨gP, 0, none⟩) (primesL n) (some ⟨gR, 0, none⟩) R g0 E (partS E R (q + 1) 0) _ wr) := Lib.hid (by rw [← HF.out]; exact hst)
              have HOk7 : Hid (∀ x, x ∈ partS E R (q + 1) 0 → x = 1 ∨ rootB a x = true) := Lib.hid (by rw [← HF.out]; exact hok)
              clear hst hok
              go_wp2
              go_roundw
              case rel => exact ⟨q + 1, by omega, by go_num, HS7.out, HOk7.out⟩
              case measure => simp only [intOf]; omega
        · obtain rfl : q = R.length := by omega
          have HS8 : Hid (SnS w H (some ⟨gP, 0, none⟩) (primesL n) none [] 0 [] (sndTo n a ((primesL n).take (j + 1))) _ wr) := Lib.hid (by
            rw [Hss.out, ← partS_end]
            exact ⟨hst.own, hst.r1, fun i hi => by simp at hi, fun i hi => by simp at hi, ⟨_, rfl⟩, hst.form, hst.bel⟩)
          have HOk8 : Hid (∀ x, x ∈ sndTo n a ((primesL n).take (j + 1)) → x = 1 ∨ rootB a x = true) := Lib.hid (by rw [Hss.out, ← partS_end]; exact hok)
          clear hst hok
          go_wp2
          go_roundw
          case rel => exact ⟨j + 1, by omega, by go_num, HS8.out, HOk8.out⟩
          case measure => simp only [intOf]; omega
    · have hjL : (primesL n).take j = primesL n := List.take_of_length_le (by omega)
      rw [hjL] at hok
      have HB := Lib.hid hst.bel
      have HYes : Hid (secondB n a = true) := Lib.hid (by
        rw [HSB.out, List.all_eq_true]
        intro x hx
        rcases hok x hx with rfl | h
        · rfl
        · rw [h]; simp)
      clear hst hok hjL
      go_wp2
      go_ret
      exact ⟨ret_bool HYes.out.symm, HB.out⟩
end Go.Proofs.YtmcdelabcmnfiaaDoor

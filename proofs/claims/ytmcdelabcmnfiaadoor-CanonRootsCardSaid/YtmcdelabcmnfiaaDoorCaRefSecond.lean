/-
  The reference's Second.
-/
import Derived.Test.YtmcdelabcmnfiaaDoorCaRefFirst2
namespace Go.Proofs.YtmcdelabcmnfiaaDoor
open Go.RowKit Go.Shelf
attribute [local go_sem] Oper.semAt_some
set_option maxRecDepth 100000

theorem filter_one_pos {P : Nat → Bool} {r : Nat} (h : P r = true) : List.filter P [r] = [r] := by simp [List.filter_cons, h]
theorem filter_one_neg {P : Nat → Bool} {r : Nat} (h : ¬ P r = true) : List.filter P [r] = [] := by simp [List.filter_cons, h]

set_option maxHeartbeats 2000000 in
theorem RSecond_any (n a : Nat) (h1 : 2 ≤ n) (h2 : n ≤ 24) (ha : a < 2 ^ n) (w : World) :
    Calls Tryd.prog 29 #[.int .i64 n, .int .i64 a] w fun e w' => e = .returned (.bool (secondB n a)) ∧ Below w.heap.size w w' := by
  have HRo := Lib.hid (fun W => RRoots_any n a h1 h2 ha W)
  have HBa := Lib.hid (fun s (x : 2 ≤ s) (y : s ≤ 24) V => base_any s x y V)
  have HIr := Lib.hid (fun s (x : 2 ≤ s) (y : s ≤ n) W => RIsRoot_any n a s x h2 y ha W)
  have HMem := Lib.hid (fun s (h : s ∈ rootsL n a) => rootsL_mem h)
  have HLn := Lib.hid (fun k (hk : k ≤ n + 1) => sndR_len (a := a) h1 h2 hk)
  have HBd := Lib.hid (fun k x (hk : k ≤ n + 1) hx => sndR_bd (a := a) (x := x) h1 h2 hk hx)
  have HSu := Lib.hid (fun k (hk : 2 ≤ k) => sndR_succ (n := n) (a := a) hk)
  have HSB : Hid (secondB n a = (sndR n a (n + 1)).all fun x => x == 1 || rootB a x) := Lib.hid (by rw [sndR_end h1 h2]; rfl)
  have HLl := Lib.hid (rootsL_len n a)
  obtain ⟨Lr, hLr⟩ : ∃ L, rootsL n a = L := ⟨_, rfl⟩
  have HRp : Hid (∀ p, rpN n a p = Lr.filter fun s => baseN s == p) := Lib.hid (fun p => by rw [← hLr]; rfl)
  rw [hLr] at HRo HMem HLl
  obtain ⟨H, hH⟩ : ∃ H, w.heap.size = H := ⟨_, rfl⟩
  obtain ⟨W1, hW1⟩ : ∃ W1, w.alloc (.cells #[.int .i64 1] 3) = W1 := ⟨_, rfl⟩
  have hsz1 : W1.heap.size = H + 1 := by rw [← hW1, ← hH]; simp
  have hB1 : Below H w W1 := by rw [← hW1, ← hH]; exact (Below.refl _ w).alloc (Nat.le_refl _) _
  have ho1 : W1.ownsRow H 3 1 (.slice (some ⟨H, 0, none⟩) 1 1) 1 (ints [1]) :=
    ⟨rfl, .inr ⟨H, 1, #[.int .i64 1], rfl, Nat.le_refl _, by rw [← hW1, ← hH]; exact World.alloc_heap_new w _, Nat.le_refl _, by unfold maxLen; omega, rfl, by simp [ints]⟩⟩
  have hS0 : SnS w H none [] none [] 0 [] (sndR n a 2) (.slice (some ⟨H, 0, none⟩) 1 1) W1 :=
    ⟨ho1, fun i hi => by simp at hi, fun i hi => by simp at hi, fun i hi => by simp at hi, ⟨_, rfl⟩, ⟨H, 1, rfl⟩, hB1⟩
  have HS0 := Lib.hid hS0
  have HW1 := Lib.hid hW1
  have hHle : H ≤ w.heap.size := by omega
  rw [hH]
  clear hW1 hS0 ho1 hB1 hsz1 hLr ha
  go_enter Tryd.func29, Tryd.ntmps29
  go_wp2
  rw [HW1.out]
  clear hH
  go_loopw [5, 6] (fun v i wr => ∃ k : Nat, 2 ≤ k ∧ k ≤ n + 1 ∧ i = .int .i64 k ∧ SnS w H none [] none [] 0 [] (sndR n a k) v wr) (fun _ i _ => n + 1 - (intOf i).toNat)
  case atStart => exact ⟨2, Nat.le_refl _, by omega, rfl, HS0.out⟩
  case round =>
    obtain ⟨k, hk2, hk, rfl, hst⟩ := hrel
    have hszr : H ≤ wr.heap.size := Nat.le_trans hHle hst.bel.size
    by_cases hkl : k < n + 1
    · have hss := HSu.out k hk2
      rw [HRp.out] at hss
      have Hss := Lib.hid hss
      have hlen1 := HLn.out (k + 1) (by omega)
      rw [hss] at hlen1
      have HEb := Lib.hid (fun e (he : e ∈ sndR n a k) => HBd.out k e hk he)
      obtain ⟨g0, cap0, hform⟩ := hst.form
      have hE1 : (sndR n a k).length ≤ 24 := HLn.out k hk
      have HSt := Lib.hid hst
      have HRk := Lib.hid (HRo.out wr)
      clear hst hss
      obtain ⟨E, hE⟩ : ∃ E, sndR n a k = E := ⟨_, rfl⟩
      rw [hE] at hlen1 HEb HSt hform hE1 Hss
      subst hform
      have HLen1 := Lib.hid hlen1
      clear hE hlen1
      have hle : ((k : Int) ≤ (n : Int)) := by omega
      go_wp2_with fail
      refine HRk.out.mono ?_
      rintro e w3 ⟨v1, rfl, hv1, b3⟩
      obtain ⟨P2, cap2, rfl, hrd⟩ := hv1.apart (u := .slice (some ⟨g0, 0, none⟩) E.length cap0) (fun q e => (HSt.out.own.lt q e).2)
      have hS3 := HSt.out.later b3 hszr
      have hS4 : SnS w H none [] P2 Lr g0 E (growL E ((Lr.take 0).filter fun s => baseN s == k)) (.slice (some ⟨g0, 0, none⟩) E.length cap0) w3 := by
        rw [List.take_zero, List.filter_nil, growL_nil]
        exact ⟨hS3.own, hS3.r1, hrd, fun i hi => by
          have := hS3.own.cells (g := g0) rfl i _ (ints_at hi)
          rwa [addr_add] at this, ⟨[], by simp⟩, ⟨g0, cap0, rfl⟩, hS3.bel⟩
      have HS4 := Lib.hid hS4
      clear hS3 hS4 hv1 hrd b3 HSt
      go_wp2
      go_loopw [5, 25] (fun v i wv => ∃ q : Nat, q ≤ Lr.length ∧ i = .int .i64 q ∧ SnS w H none [] P2 Lr g0 E (growL E ((Lr.take q).filter fun s => baseN s == k)) v wv) (fun _ i _ => Lr.length - (intOf i).toNat)
      case atStart => exact ⟨0, Nat.zero_le _, rfl, HS4.out⟩
      case round =>
        obtain ⟨q, hq, rfl, hst⟩ := hrel
        have hll : Lr.length ≤ 25 := by have := HLl.out; omega
        by_cases hql : q < Lr.length
        · obtain ⟨gR, rfl, _, hrc⟩ := hst.r2 q hql
          obtain ⟨r, hr, HrT⟩ : ∃ r, Lr[q]?.getD 0 = r ∧ Hid (Lr.take (q + 1) = Lr.take q ++ [r]) := by
            refine ⟨_, rfl, Lib.hid ?_⟩
            rw [List.take_succ_eq_append_getElem hql, List.getElem?_eq_getElem hql]; rfl
          have hrm : r ∈ Lr := by rw [← hr, List.getElem?_eq_getElem hql]; exact List.getElem_mem hql
          obtain ⟨r1, r2, _, _⟩ := HMem.out r hrm
          rw [hr] at hrc
          have HBr := Lib.hid (HBa.out r r1 (by omega))
          have HSt := Lib.hid hst
          clear hst hr hrm
          by_cases hbk : baseN r = k
          · have t0 : (((baseN r : Nat) : Int) != (k : Int)) = false := by rw [bne_eq_false_iff_eq]; omega
            have HFi : Hid ((Lr.take (q + 1)).filter (fun s => baseN s == k) = (Lr.take q).filter (fun s => baseN s == k) ++ [r]) := Lib.hid (by
              have e1 : List.filter (fun s => baseN s == k) [r] = [r] := filter_one_pos (by simpa using hbk)
              rw [HrT.out, List.filter_append, e1])
            have hgl : (growL E ((Lr.take q).filter (fun s => baseN s == k) ++ [r])).length ≤ 24 := by
              have hlen1 := HLen1.out
              rw [← HFi.out]
              have e : Lr.filter (fun s => baseN s == k) = (Lr.take (q + 1)).filter (fun s => baseN s == k) ++ (Lr.drop (q + 1)).filter (fun s => baseN s == k) := by rw [← List.filter_append, List.take_append_drop]
              rw [e] at hlen1
              exact Nat.le_trans (growL_sub E _ _) hlen1
            obtain ⟨Rq, hRq⟩ : ∃ R, (Lr.take q).filter (fun s => baseN s == k) = R := ⟨_, rfl⟩
            rw [hRq] at HFi HSt hgl
            generalize baseN r = br at *
            clear hRq hbk
            go_wp2_with fail
            refine (HBr.out _).mono ?_
            rintro e w5 ⟨rfl, rfl⟩
            go_wp2
            go_loopw [5, 35] (fun v i wx => ∃ m : Nat, m ≤ E.length ∧ i = .int .i64 m ∧ SnS w H none [] (some ⟨gR, 0, none⟩) Lr g0 E (midL E Rq m r) v wx) (fun _ i _ => E.length - (intOf i).toNat)
            case atStart => exact ⟨0, Nat.zero_le _, rfl, by rw [midL_zero]; exact HSt.out⟩
            case round =>
              obtain ⟨m, hm, rfl, hst⟩ := hrel
              by_cases hml : m < E.length
              · have hec := hst.er m hml
                obtain ⟨e, he⟩ : ∃ e, E[m]?.getD 0 = e := ⟨_, rfl⟩
                have hem : e ∈ E := by rw [← he, List.getElem?_eq_getElem hml]; exact List.getElem_mem hml
                rw [he] at hec
                obtain ⟨e1, e2⟩ := HEb.out e hem
                have hps := midL_succ (R := Rq) (r := r) hml
                rw [he] at hps
                have HPs := Lib.hid hps
                have hpl := Nat.le_trans (midL_len E Rq m r) hgl
                have hszx : H ≤ wr.heap.size := Nat.le_trans hHle hst.bel.size
                have hmul : (e : Int) * (r : Int) = ((e * r : Nat) : Int) := by simp
                have hxb : e * r ≤ 24 * 24 := Nat.mul_le_mul (by omega) (by omega)
                obtain ⟨X, hX⟩ : ∃ X, e * r = X := ⟨_, rfl⟩
                rw [hX] at hxb hmul HPs
                have hS5' := hst.later ((Below.refl wr.heap.size wr).alloc (Nat.le_refl _) (.cells #[.int .i64 X] 3)) hszx
                obtain ⟨v6, w6, hr6, hS6⟩ := hS5'.append (by simp; omega) (by omega) ⟨wr.heap.size, 0, none⟩ 1 X (by simp)
                rw [← HPs.out] at hS6
                have HS6 := Lib.hid hS6
                clear hS5' hS6 hst hps hX hem he
                go_wp2_with (first | (at_builtin; refine Lib.wpList_append_run _ rfl _ _ 22 22 rfl _ _ rfl rfl v6 w6 hr6 ?_))
                go_roundw
                case rel => exact ⟨m + 1, by omega, by go_num, HS6.out⟩
                case measure => simp only [intOf]; omega
              · obtain rfl : m = E.length := by omega
                have HS7 : Hid (SnS w H none [] (some ⟨gR, 0, none⟩) Lr g0 E (growL E ((Lr.take (q + 1)).filter fun s => baseN s == k)) _ wr) := Lib.hid (by rw [HFi.out, ← midL_full]; exact hst)
                clear hst
                go_wp2
                go_roundw
                case rel => exact ⟨q + 1, by omega, by go_num, HS7.out⟩
                case measure => simp only [intOf]; omega
          · have t0 : (((baseN r : Nat) : Int) != (k : Int)) = true := by rw [bne_iff_ne]; omega
            have HFi : Hid ((Lr.take (q + 1)).filter (fun s => baseN s == k) = (Lr.take q).filter (fun s => baseN s == k)) := Lib.hid (by
              rw [HrT.out, List.filter_append]
              have : List.filter (fun s => baseN s == k) [r] = [] := filter_one_neg (by simpa using hbk)
              rw [this, List.append_nil])
            generalize baseN r = br at *
            clear hbk
            go_wp2_with fail
            refine (HBr.out _).mono ?_
            rintro e w5 ⟨rfl, rfl⟩
            go_wp2
            go_roundw
            case rel => exact ⟨q + 1, by omega, by go_num, by rw [HFi.out]; exact HSt.out⟩
            case measure => simp only [intOf]; omega
        · obtain rfl : q = Lr.length := by omega
          have HS8 : Hid (SnS w H none [] none [] 0 [] (sndR n a (k + 1)) _ wr) := Lib.hid (by
            rw [Hss.out]
            rw [List.take_of_length_le (Nat.le_refl _)] at hst
            exact ⟨hst.own, hst.r1, fun i hi => by simp at hi, fun i hi => by simp at hi, ⟨_, rfl⟩, hst.form, hst.bel⟩)
          clear hst
          go_wp2
          go_roundw
          case rel => exact ⟨k + 1, by omega, by omega, by go_num, HS8.out⟩
          case measure => simp only [intOf]; omega
    · have hke : k = n + 1 := by omega
      have hle : ¬ ((k : Int) ≤ (n : Int)) := by omega
      rw [hke] at hst
      clear hke
      obtain ⟨g0, cap0, hform⟩ := hst.form
      have HEb := Lib.hid (fun e (he : e ∈ sndR n a (n + 1)) => HBd.out (n + 1) e (Nat.le_refl _) he)
      have hE1 : (sndR n a (n + 1)).length ≤ 24 := HLn.out (n + 1) (Nat.le_refl _)
      obtain ⟨E, hE⟩ : ∃ E, sndR n a (n + 1) = E := ⟨_, rfl⟩
      rw [hE] at hst hform HEb hE1 HSB
      subst hform
      have HEr : Hid (∀ i, i < E.length → wr.cell? ⟨g0, i, none⟩ = some (.int .i64 ((E[i]?.getD 0 : Nat) : Int))) := Lib.hid (fun i hi => by
        have := hst.own.cells (g := g0) rfl i _ (ints_at hi)
        rwa [addr_add] at this)
      have HB := Lib.hid hst.bel
      clear hst hE
      go_wp2
      go_loopw [49] (fun i wv => ∃ m : Nat, m ≤ E.length ∧ i = .int .i64 m ∧ (∀ x, x ∈ E.take m → x = 1 ∨ rootB a x = true) ∧ Below wr.heap.size wr wv) (fun i _ => E.length - (intOf i).toNat)
      case atStart => exact ⟨0, Nat.zero_le _, rfl, fun x hx => by simp at hx, Below.refl _ _⟩
      case round =>
        obtain ⟨m, hm, rfl, hok, hV⟩ := hrel
        have HOk := Lib.hid hok
        have HV := Lib.hid hV
        by_cases hml : m < E.length
        · have hec := cell_later hV (HEr.out m hml)
          obtain ⟨x, hx, HxT⟩ : ∃ x, E[m]?.getD 0 = x ∧ Hid (E.take (m + 1) = E.take m ++ [x]) := by
            refine ⟨_, rfl, Lib.hid ?_⟩
            rw [List.take_succ_eq_append_getElem hml, List.getElem?_eq_getElem hml]; rfl
          have hxm : x ∈ E := by rw [← hx, List.getElem?_eq_getElem hml]; exact List.getElem_mem hml
          obtain ⟨x1, x2⟩ := HEb.out x hxm
          rw [hx] at hec
          have HXm := Lib.hid hxm
          clear hok hV hx hxm
          by_cases hx1 : x = 1
          · have hg : ¬ ((1 : Int) < (x : Int)) := by omega
            have HO2 : Hid (∀ y, y ∈ E.take (m + 1) → y = 1 ∨ rootB a y = true) := Lib.hid (fun y hy => by
              rw [HxT.out, List.mem_append, List.mem_singleton] at hy
              rcases hy with hy | rfl
              · exact HOk.out y hy
              · exact .inl hx1)
            clear hx1
            go_wp2
            go_roundw
            case rel => exact ⟨m + 1, by omega, by go_num, HO2.out, HV.out⟩
            case measure => simp only [intOf]; omega
          · have hg : ((1 : Int) < (x : Int)) := by omega
            have HIx := Lib.hid (HIr.out x (by omega) x2)
            cases hrb : rootB a x
            · rw [hrb] at HIx
              have HNo : Hid (secondB n a = false) := Lib.hid (by
                rw [HSB.out, List.all_eq_false]
                exact ⟨x, HXm.out, by rw [hrb]; simpa using hx1⟩)
              clear hrb hx1
              go_wp2_with fail
              refine (HIx.out _).mono ?_
              rintro e w5 ⟨rfl, b5⟩
              go_wp2
              go_ret
              exact ⟨ret_bool HNo.out.symm, HB.out.trans ((HV.out.trans (b5.mono HV.out.size)).mono hszr)⟩
            · rw [hrb] at HIx
              have HO2 : Hid (∀ y, y ∈ E.take (m + 1) → y = 1 ∨ rootB a y = true) := Lib.hid (fun y hy => by
                rw [HxT.out, List.mem_append, List.mem_singleton] at hy
                rcases hy with hy | rfl
                · exact HOk.out y hy
                · exact .inr hrb)
              clear hrb hx1
              go_wp2_with fail
              refine (HIx.out _).mono ?_
              rintro e w5 ⟨rfl, b5⟩
              go_wp2
              go_roundw
              case rel => exact ⟨m + 1, by omega, by go_num, HO2.out, HV.out.trans (b5.mono HV.out.size)⟩
              case measure => simp only [intOf]; omega
        · have HYes : Hid (secondB n a = true) := Lib.hid (by
            rw [HSB.out, List.all_eq_true]
            intro x hx
            rw [List.take_of_length_le (by omega)] at hok
            rcases hok x hx with rfl | h
            · rfl
            · rw [h]; simp)
          clear hok hV
          go_wp2
          go_ret
          exact ⟨ret_bool HYes.out.symm, HB.out.trans (HV.out.mono hszr)⟩
end Go.Proofs.YtmcdelabcmnfiaaDoor

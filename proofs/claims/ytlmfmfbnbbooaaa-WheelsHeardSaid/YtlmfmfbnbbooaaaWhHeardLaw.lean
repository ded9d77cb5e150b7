/-
  The statement on chords that are heard alike.
-/
import Derived.Test.YtlmfmfbnbbooaaaWhHeardMath
import Derived.Test.YtlmfmfbnbbooaaaRoCut
namespace Go.Proofs.Ytlmfmfbnbbooaaa
open Go.ChangeShapes Go.WideShapes Go.ChangeAt Go.RowKit
set_option maxRecDepth 100000

theorem goodC2 {n a b : Int} (h : (circB n && chordsB n.toNat [a, b]) = true) : ∃ m k l : Nat, n = (m : Int) ∧ a = (k : Int) ∧ b = (l : Int) ∧ Circ m ∧ k < 2 ^ m ∧ l < 2 ^ m := by
  rw [Bool.and_eq_true] at h
  obtain ⟨m, rfl, hm⟩ := circB_true h.1
  rw [Int.toNat_natCast] at h
  have h2 : (0 ≤ a ∧ a < ((2 ^ m : Nat) : Int)) ∧ (0 ≤ b ∧ b < ((2 ^ m : Nat) : Int)) := by
    have := h.2
    unfold chordsB at this
    simpa using this
  exact ⟨m, a.toNat, b.toNat, rfl, by omega, by omega, hm, by omega, by omega⟩
theorem ints_iv {W : World} {b : Nat} {xs : List Nat} (h : Row W b 3 (ints xs)) : IntsV W (.slice (some ⟨b, 0, none⟩) xs.length xs.length) (natI xs) := by
  refine ⟨_, xs.length, by rw [natI_len], by rw [natI_len]; exact Nat.le_refl _, fun _ => ⟨b, 0, rfl, fun i hi => ?_⟩⟩
  rw [natI_len] at hi
  rw [Nat.zero_add, h.cell i, ints_at hi]
  unfold natI
  rw [List.getElem?_map]
  cases e : xs[i]? with
  | none => rw [List.getElem?_eq_none_iff] at e; omega
  | some x => rfl
theorem natI_beq (xs ys : List Nat) : (natI xs == natI ys) = decide (xs = ys) := by
  by_cases h : xs = ys
  · rw [h, decide_eq_true rfl]; exact beq_self_eq_true _
  · rw [decide_eq_false h, beq_eq_false_iff_ne]
    intro e
    apply h
    unfold natI at e
    exact (List.map_inj_right (fun a b hab => Int.ofNat_inj.1 hab)).1 e
/-- The numbers of differences, as a list. -/
def htL (n c X Y : Nat) : List Nat := (List.range n).map (htN n c X Y)
theorem htL_len (n c X Y : Nat) : (htL n c X Y).length = n := by unfold htL; simp
theorem htL_at {n c X Y d : Nat} (hd : d < n) : (htL n c X Y)[d]?.getD 0 = htN n c X Y d := by
  unfold htL; rw [List.getElem?_map, List.getElem?_range hd]; rfl
theorem htL_row (n c X : Nat) : htL n c X n = htL n c (X + 1) 0 := by
  unfold htL; exact List.map_congr_left fun d _ => htN_row n c X d
theorem htL_zero (n c : Nat) : htL n c 0 0 = List.replicate n 0 := by
  unfold htL
  apply List.ext_getElem
  · simp
  · intro i h1 h2; simp [htN_zero]
theorem htL_hit {n c X Y : Nat} (hne : X ≠ Y) (h1 : bI c X = 1) (h2 : bI c Y = 1) (hn : 0 < n) : (htL n c X Y).set ((X + n - Y) % n) (htN n c X Y ((X + n - Y) % n) + 1) = htL n c X (Y + 1) := by
  refine list_ext_nat (by rw [List.length_set, htL_len, htL_len]) fun i hi => ?_
  rw [List.length_set, htL_len] at hi
  rw [htL_at hi, htN_step, List.getElem?_set, htL_len]
  have hid : (X + n - Y) % n < n := Nat.mod_lt _ hn
  by_cases e : (X + n - Y) % n = i
  · rw [if_pos e, if_pos (by omega)]
    unfold htB
    rw [if_pos ⟨hne, h1, h2, e⟩, e]
    rfl
  · rw [if_neg e, htL_at hi]
    unfold htB
    rw [if_neg (fun h => e h.2.2.2)]
    rfl
theorem htL_miss {n c X Y : Nat} (h : ¬ (X ≠ Y ∧ bI c X = 1 ∧ bI c Y = 1)) : htL n c X Y = htL n c X (Y + 1) := by
  unfold htL
  refine List.map_congr_left fun d _ => ?_
  rw [htN_step]
  unfold htB
  rw [if_neg (fun e => h ⟨e.1, e.2.1, e.2.2.1⟩)]; rfl
/-- Whether the first differences occur as often as that by one. -/
def evB (n c j : Nat) : Bool := (List.range j).all fun i => autN n c (i + 1) == autN n c 1
theorem evB_succ (n c j : Nat) : evB n c (j + 1) = (evB n c j && (autN n c (j + 1) == autN n c 1)) := by
  unfold evB; rw [List.range_succ, List.all_append]; simp
theorem sub_facts {n X Y : Nat} (hX : X < n) (hY : Y < n) (hn : n < 17) : ((X : Int) - (Y : Int) + (n : Int)) = ((X + n - Y : Nat) : Int) ∧ (((X + n - Y : Nat) : Int).tmod (n : Int)) = (((X + n - Y) % n : Nat) : Int) ∧ ((X + n - Y : Nat) : Int) % (n : Int) = (((X + n - Y) % n : Nat) : Int) := by
  refine ⟨by omega, ?_, ?_⟩
  · rw [Int.tmod_eq_emod_of_nonneg (Int.natCast_nonneg _)]; rfl
  · rfl

set_option maxHeartbeats 4000000 in
theorem WheelsHeard_walk (n a b : Int) (w : World) (_wf : (Lit.int .i64 n).wf = true) (_wa : (Lit.int .i64 a).wf = true) (_wb : (Lit.int .i64 b).wf = true) :
    Calls Try.prog 5 #[.int .i64 n, .int .i64 a, .int .i64 b] w fun e w' => e = .returned (.bool true) ∧ Below w.heap.size w w' := by
  have HAw := Lib.hid (fun W => wawake_any W)
  have HRa := Lib.hid (fun W => RValid_any n a W)
  have HRb := Lib.hid (fun W => RValid_any n b W)
  cases hb : (circB n && chordsB n.toNat [a, b])
  · have HC := Lib.hid (fun W => Alike_bad n a b hb W)
    clear hb
    go_enter Try.func5, Try.ntmps5
    go_wp2_with fail
    refine (HC.out _).mono ?_
    rintro e w1 ⟨rfl, b1⟩
    have B1 := Lib.hid b1
    clear b1
    go_wp2_with fail
    refine (HAw.out _).mono ?_
    rintro e w5 ⟨rfl, b5⟩
    go_wp2
    go_ret
    exact ⟨rfl, below_nx B1.out b5⟩
  · have hb' := hb
    rw [chB_two, Bool.and_eq_true, Bool.and_eq_true] at hb'
    rw [show (circB n && chordsB n.toNat [a]) = true by rw [hb'.1, hb'.2.1]; rfl] at HRa
    rw [show (circB n && chordsB n.toNat [b]) = true by rw [hb'.1, hb'.2.2]; rfl] at HRb
    obtain ⟨m, k, l, rfl, rfl, rfl, hm, hk, hl⟩ := goodC2 hb
    have hm0 := hm.pos
    have hm2 := hm.1
    have hm17 := hm.2
    have h16 : 2 ^ m ≤ 2 ^ 16 := Nat.pow_le_pow_right (by omega) (by omega)
    have HC := Lib.hid (fun W => Alike_ok m hm k l hk hl W)
    rw [heard_iff hm hk hl] at HC
    have HF := Lib.hid (fun W => Flat_ok m hm k hk W)
    rw [flat_iff hm] at HF
    have HSa := Lib.hid (fun W => by have := SizeW_any k (by omega) W; rw [tonesL_eq k (show m ≤ 64 by omega) hk, card_sum] at this; exact this)
    have HSb := Lib.hid (fun W => by have := SizeW_any l (by omega) W; rw [tonesL_eq l (show m ≤ 64 by omega) hl, card_sum] at this; exact this)
    have HVa := Lib.hid (fun W => refVector_any m k hm2 (by omega) hk W)
    have HVb := Lib.hid (fun W => refVector_any m l hm2 (by omega) hl W)
    have HEq := Lib.hid (fun x y W hx hy => by have := Equal_any (natI (vecN m k)) (natI (vecN m l)) x y W (by rw [natI_len, vecN_length]; unfold maxLen; omega) (by rw [natI_len, vecN_length]; unfold maxLen; omega) hx hy; rw [natI_beq] at this; exact this)
    have HIv := Lib.hid (fun W x (h : Row W x 3 (ints (vecN m k))) => show IntsV W (.slice (some ⟨x, 0, none⟩) (m / 2) (m / 2)) (natI (vecN m k)) by have := ints_iv h; rw [vecN_length] at this; exact this)
    have HIv2 := Lib.hid (fun W x (h : Row W x 3 (ints (vecN m l))) => show IntsV W (.slice (some ⟨x, 0, none⟩) (m / 2) (m / 2)) (natI (vecN m l)) by have := ints_iv h; rw [vecN_length] at this; exact this)
    have HBit := Lib.hid (fun x => shr1 k x (by omega))
    have HEv0 := Lib.hid (show (List.range (m - 1)).all (fun i => autN m k (i + 1) == autN m k 1) = evB m k (m - 1) from rfl)
    rw [HEv0.out] at HF
    clear HEv0
    have HEvs := Lib.hid (fun j => evB_succ m k j)
    have HEvz := Lib.hid (show evB m k 0 = true from rfl)
    have HAll := Lib.hid (fun d (h0 : 0 < d) (hd : d < m) => htN_all (c := k) h0 hd)
    have HL0 := Lib.hid (htL_zero m k)
    have HLr := Lib.hid (fun X => htL_row m k X)
    have HLh := Lib.hid (fun X Y (h : X ≠ Y) h1 h2 => htL_hit (n := m) (c := k) (X := X) (Y := Y) h h1 h2 hm0)
    have HLm := Lib.hid (fun X Y h => htL_miss (n := m) (c := k) (X := X) (Y := Y) h)
    have HLa := Lib.hid (fun X Y d (h : d < m) => htL_at (n := m) (c := k) (X := X) (Y := Y) h)
    have HLl := Lib.hid (fun X Y => htL_len m k X Y)
    have HLe := Lib.hid (fun X Y d (hX : X ≤ m) (hY : Y ≤ m) => htN_le (c := k) (d := d) hX hY hm17)
    have HbI := Lib.hid (fun x => bI_le k x)
    have hmk := run_make_ints m (by omega)
    clear hb hb' hm hk hl
    generalize vecN m k = va at *
    generalize vecN m l = vb at *
    generalize evB m k = ev at *
    generalize autN m k = au at *
    generalize htN m k = ht at *
    generalize htL m k = hL at *
    generalize decide (va = vb) = dv at *
    generalize sumN m (bI k) = sk at *
    generalize sumN m (bI l) = sl at *
    generalize bI k = bk at *
    go_enter Try.func5, Try.ntmps5
    go_wp2_with fail
    refine (HC.out _).mono ?_
    rintro e w1 ⟨rfl, b1⟩
    have B1 := Lib.hid b1
    clear b1
    go_wp2_with fail
    refine (HRa.out _).mono ?_
    rintro e w2 ⟨rfl, rfl⟩
    go_wp2_with fail
    refine (HRb.out _).mono ?_
    rintro e w2 ⟨rfl, rfl⟩
    go_wp2_with fail
    refine (HF.out _).mono ?_
    rintro e w2 ⟨rfl, b2⟩
    have B2 := Lib.hid (below_nx B1.out b2)
    clear b2
    go_upto_region 8 with fail
    obtain ⟨H, hH⟩ : ∃ H, w2.heap.size = H := ⟨_, rfl⟩
    have HH := Lib.hid hH
    have r0 := Row.new w2 3 (ints (List.replicate m 0))
    have B3 := Lib.hid ((Below.refl w2.heap.size w2).alloc (Nat.le_refl _) (.cells (ints (List.replicate m 0)).toArray 3))
    rw [← HL0.out] at r0 B3 ⊢
    rw [hH] at r0 ⊢
    have R0 := Lib.hid r0
    generalize w2.alloc (.cells (ints (hL 0 0)).toArray 3) = W0 at *
    rw [hH] at B3
    clear hmk hH r0
    go_wp2_with fail
    go_loopw [53] (fun i wr => ∃ X : Nat, X ≤ m ∧ i = .int .i64 (X : Int) ∧ Row wr H 3 (ints (hL X 0)) ∧ Below H w2 wr) (fun i _ => m - (intOf i).toNat)
    case atStart => exact ⟨0, Nat.zero_le _, rfl, R0.out, B3.out⟩
    case round =>
      obtain ⟨X, hX, rfl, hr, hB⟩ := hrel
      by_cases hlt : X < m
      · have HR := Lib.hid hr
        have HBw := Lib.hid hB
        clear hr hB
        go_wp2_with fail
        go_loopw [57] (fun j wi => ∃ Y : Nat, Y ≤ m ∧ j = .int .i64 (Y : Int) ∧ Row wi H 3 (ints (hL X Y)) ∧ Below H w2 wi) (fun j _ => m - (intOf j).toNat)
        case atStart => exact ⟨0, Nat.zero_le _, rfl, HR.out, HBw.out⟩
        case round =>
          obtain ⟨Y, hY, rfl, hri, hBi⟩ := hrel
          have HRi := Lib.hid hri
          have HBi := Lib.hid hBi
          clear hri hBi
          by_cases hly : Y < m
          · have hbx := HBit.out X
            have hby := HBit.out Y
            have hb1 := HbI.out X
            have hb2 := HbI.out Y
            by_cases hne : X = Y
            · have HM := Lib.hid (HLm.out X Y (fun h => h.1 hne))
              have q1 : ((X : Int) != (Y : Int)) = false := by rw [bne_eq_false_iff_eq]; omega
              clear hne hbx hby
              go_wp2
              go_roundw
              case rel => exact ⟨Y + 1, by omega, by go_num, by rw [← HM.out]; exact HRi.out, HBi.out⟩
              case measure => simp only [intOf]; omega
            · have q1 : ((X : Int) != (Y : Int)) = true := by rw [bne_iff_ne]; omega
              by_cases hx1 : bk X = 1
              · have q2 : (bits .and .i64 ((k : Int) / 2 ^ X) 1 == 1) = true := by rw [hbx, hx1]; rfl
                by_cases hy1 : bk Y = 1
                · have q3 : (bits .and .i64 ((k : Int) / 2 ^ Y) 1 == 1) = true := by rw [hby, hy1]; rfl
                  obtain ⟨f1, f2, f3⟩ := sub_facts hlt hly hm17
                  have HHit := Lib.hid (HLh.out X Y hne hx1 hy1)
                  have hid : (X + m - Y) % m < m := Nat.mod_lt _ hm0
                  have hat := HLa.out X Y _ hid
                  have hle := HLe.out X Y ((X + m - Y) % m) (by omega) (by omega)
                  have hlen := HLl.out X Y
                  have hsum : X + m - Y ≤ 40 := by omega
                  generalize (X + m - Y) % m = d at *
                  generalize X + m - Y = s at *
                  generalize ht X Y d = v at *
                  have hcl := (HRi.out.cell d).trans (ints_at (xs := hL X Y) (i := d) (by omega))
                  rw [hat] at hcl
                  have hfr := HRi.out.frozen d
                  have hset := Lib.hid (ints_set (hL X Y) d (v + 1))
                  clear hat hlen hbx hby hb1 hb2 hx1 hy1 hne
                  go_wp2
                  go_roundw
                  case rel => exact ⟨Y + 1, by omega, by go_num, by rw [← HHit.out, ← hset.out]; exact HRi.out.set _ _, HBi.out.setCell (p := ⟨H, d, none⟩) (Nat.le_refl _) _⟩
                  case measure => simp only [intOf]; omega
                · have q3 : (bits .and .i64 ((k : Int) / 2 ^ Y) 1 == 1) = false := by rw [hby, show bk Y = 0 by omega]; rfl
                  have HM := Lib.hid (HLm.out X Y (fun h => hy1 h.2.2))
                  clear hbx hby hb1 hb2 hx1 hy1 hne
                  go_wp2
                  go_roundw
                  case rel => exact ⟨Y + 1, by omega, by go_num, by rw [← HM.out]; exact HRi.out, HBi.out⟩
                  case measure => simp only [intOf]; omega
              · have q2 : (bits .and .i64 ((k : Int) / 2 ^ X) 1 == 1) = false := by rw [hbx, show bk X = 0 by omega]; rfl
                have HM := Lib.hid (HLm.out X Y (fun h => hx1 h.2.1))
                clear hbx hby hb1 hb2 hx1 hne
                go_wp2
                go_roundw
                case rel => exact ⟨Y + 1, by omega, by go_num, by rw [← HM.out]; exact HRi.out, HBi.out⟩
                case measure => simp only [intOf]; omega
          · obtain rfl : Y = m := by omega
            go_wp2
            go_roundw
            case rel => exact ⟨X + 1, by omega, by go_num, by rw [← HLr.out]; exact HRi.out, HBi.out⟩
            case measure => simp only [intOf]; omega
      · obtain rfl : X = m := by omega
        have HCell := Lib.hid (fun d (h0 : 0 < d) (hd : d < X) => show wr.cell? ⟨H, d, none⟩ = some (.int .i64 ((au d : Nat) : Int)) by
          have h1 := (hr.cell d).trans (ints_at (xs := hL X 0) (i := d) (by rw [HLl.out]; exact hd))
          rw [HLa.out X 0 d hd, HAll.out d h0 hd] at h1
          exact h1)
        have HB9 := Lib.hid (below_nx B2.out (show Below w2.heap.size w2 wr by rw [HH.out]; exact hB))
        have hcut := fun W => run_from (some ⟨H, 0, none⟩) X X 1 (by omega) (by omega) W
        have hsl : sliced (some ⟨H, 0, none⟩) (Int.toNat 1) X X 1 = .slice (some ⟨H, 1, none⟩) (X - 1) (X - 1) := by
          unfold sliced
          simp [Addr.add]
          omega
        rw [hsl] at hcut
        have c1 := HCell.out 1 (by omega) (by omega)
        clear hr hB hsl
        have hX1 : 2 ≤ X := hm2
        go_wp2_with fail
        go_loopw [94, 13] (fun i v xr => ∃ j : Nat, j ≤ X - 1 ∧ i = .int .i64 (j : Int) ∧ v = .bool (ev j) ∧ wr = xr) (fun i _ _ => X - (intOf i).toNat)
        case atStart => exact ⟨0, Nat.zero_le _, rfl, by rw [HEvz.out], rfl⟩
        case round =>
          obtain ⟨j, hj, rfl, rfl, rfl⟩ := hrel
          by_cases hlj : j < X - 1
          · have cj := HCell.out (1 + j) (by omega) (by omega)
            have HS := Lib.hid (HEvs.out j)
            rw [Nat.add_comm 1 j] at cj
            have cj' : wr.cell? ⟨H, 1 + j, none⟩ = some (.int .i64 ((au (j + 1) : Nat) : Int)) := by rw [Nat.add_comm 1 j]; exact cj
            have c1' := HCell.out 1 (by omega) (by omega)
            cases he : ev j
            · rw [he] at HS
              have HS2 := Lib.hid (show ev (j + 1) = false by rw [HS.out]; rfl)
              clear HS he
              go_wp2
              go_roundw
              case rel => exact ⟨j + 1, by omega, by go_num, by rw [HS2.out], trivial⟩
              case measure => simp only [intOf]; omega
            · rw [he] at HS
              by_cases hq : au (j + 1) = au 1
              · have q1 : (((au (j + 1) : Nat) : Int) == ((au 1 : Nat) : Int)) = true := by rw [hq]; exact beq_self_eq_true _
                have HS2 := Lib.hid (show ev (j + 1) = true by rw [HS.out, hq, beq_self_eq_true]; rfl)
                clear HS he hq
                generalize au (j + 1) = x at *
                generalize au 1 = y at *
                go_wp2
                go_roundw
                case rel => exact ⟨j + 1, by omega, by go_num, by rw [HS2.out], trivial⟩
                case measure => simp only [intOf]; omega
              · have q1 : (((au (j + 1) : Nat) : Int) == ((au 1 : Nat) : Int)) = false := by rw [beq_eq_false_iff_ne]; omega
                have HS2 := Lib.hid (show ev (j + 1) = false by rw [HS.out, beq_eq_false_iff_ne.2 hq]; rfl)
                clear HS he hq
                generalize au (j + 1) = x at *
                generalize au 1 = y at *
                go_wp2
                go_roundw
                case rel => exact ⟨j + 1, by omega, by go_num, by rw [HS2.out], trivial⟩
                case measure => simp only [intOf]; omega
          · obtain rfl : j = X - 1 := by omega
            have hee : (ev (X - 1) == ev (X - 1)) = true := by cases ev (X - 1) <;> rfl
            by_cases hs : sk = sl
            · have q1 : (((sk : Nat) : Int) == ((sl : Nat) : Int)) = true := by rw [hs]; exact beq_self_eq_true _
              have q2 : decide (sk = sl) = true := decide_eq_true hs
              have q3 : (dv == dv) = true := by cases dv <;> rfl
              clear hs
              generalize ev (X - 1) = eb at *
              go_wp2_with fail
              refine (HSa.out _).mono ?_
              rintro e x1 ⟨rfl, rfl⟩
              go_wp2_with fail
              refine (HSb.out _).mono ?_
              rintro e x1 ⟨rfl, rfl⟩
              go_wp2_with fail
              refine (HVa.out _).mono ?_
              rintro e x1 ⟨b1, rfl, hb1, hr1, hbl1⟩
              have I1 := Lib.hid (hr1)
              have X1 := Lib.hid (below_nx HB9.out hbl1)
              clear hr1 hbl1
              go_wp2_with fail
              refine (HVb.out _).mono ?_
              rintro e x2 ⟨b2, rfl, hb2, hr2, hbl2⟩
              have J1 := Lib.hid (HIv.out _ _ (I1.out.later hbl2))
              have J2 := Lib.hid (HIv2.out _ _ hr2)
              have X2 := Lib.hid (below_nx X1.out hbl2)
              clear hr2 hbl2
              go_wp2_with fail
              refine (HEq.out _ _ _ J1.out J2.out).mono ?_
              rintro e x3 ⟨rfl, q, rfl⟩
              have X3 := Lib.hid (bl_drewN X2.out q)
              generalize x2.drewN q = x3 at *
              go_wp2_with fail
              refine (HAw.out _).mono ?_
              rintro e x4 ⟨rfl, bx4⟩
              go_wp2
              go_ret
              exact ⟨rfl, below_nx X3.out bx4⟩
            · have q1 : (((sk : Nat) : Int) == ((sl : Nat) : Int)) = false := by rw [beq_eq_false_iff_ne]; omega
              have q2 : decide (sk = sl) = false := decide_eq_false hs
              clear hs
              generalize ev (X - 1) = eb at *
              go_wp2_with fail
              refine (HSa.out _).mono ?_
              rintro e x1 ⟨rfl, rfl⟩
              go_wp2_with fail
              refine (HSb.out _).mono ?_
              rintro e x1 ⟨rfl, rfl⟩
              go_wp2_with fail
              refine (HAw.out _).mono ?_
              rintro e x4 ⟨rfl, bx4⟩
              go_wp2
              go_ret
              exact ⟨rfl, below_nx HB9.out bx4⟩
end Go.Proofs.Ytlmfmfbnbbooaaa

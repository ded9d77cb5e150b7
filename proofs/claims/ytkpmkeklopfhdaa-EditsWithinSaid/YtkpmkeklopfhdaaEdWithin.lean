/-
  Within: the lines that are near.
-/
import Derived.Test.YtkpmkeklopfhdaaEdTriLaw
import Derived.OwnWalk
import Derived.Maps.AppendAt
import Derived.Lib.OwnBridge
namespace Go.Proofs.Ytkpmkeklopfhdaa
open Go.ChangeShapes Go.WideShapes Go.ChangeAt Go.RowKit
attribute [local go_sem] Oper.semAt_some
set_option maxRecDepth 100000

theorem info_intE : (Try.prog.info? 3).map (fun i => (i.zero, i.size, i.bytes)) = some (some (.int .i64 0), 1, 8) := by kernel_rfl
theorem cell_one_newE (W : World) (v : Value) (t : TypeId) : ∀ (j : Nat) (u : Value), [v][j]? = some u → (W.alloc (.cells #[v] t)).cell? ((⟨W.heap.size, 0, none⟩ : Addr).add j) = some u := by
  intro j u h
  rcases j with _ | j
  · simp at h; subst h; simp [Addr.add]
  · simp at h

def strAt (ss : List ByteArray) (i : Nat) : ByteArray := ss[i]?.getD ⟨#[]⟩
def nearB (a : ByteArray) (pi po ps : Nat) (most : Int) (ss : List ByteArray) (i : Nat) : Bool := decide (cst a (strAt ss i) pi po ps ≤ most)
/-- The numbers of the lines that are near, of the first ones. -/
def nearL (a : ByteArray) (pi po ps : Nat) (most : Int) (ss : List ByteArray) (k : Nat) : List Nat := (List.range k).filter (nearB a pi po ps most ss)
theorem near_yes {a : ByteArray} {pi po ps : Nat} {most : Int} {ss : List ByteArray} {k : Nat} (h : nearB a pi po ps most ss k = true) : nearL a pi po ps most ss (k + 1) = nearL a pi po ps most ss k ++ [k] := by
  have e : List.range (k + 1) = List.range k ++ [k] := List.range_succ
  unfold nearL; rw [e, List.filter_append]; simp [h]
theorem near_no {a : ByteArray} {pi po ps : Nat} {most : Int} {ss : List ByteArray} {k : Nat} (h : nearB a pi po ps most ss k = false) : nearL a pi po ps most ss (k + 1) = nearL a pi po ps most ss k := by
  have e : List.range (k + 1) = List.range k ++ [k] := List.range_succ
  unfold nearL; rw [e, List.filter_append]; simp [h]
theorem near_length (a : ByteArray) (pi po ps : Nat) (most : Int) (ss : List ByteArray) (k : Nat) : (nearL a pi po ps most ss k).length ≤ k := by
  unfold nearL; have := List.length_filter_le (nearB a pi po ps most ss) (List.range k); simpa using this

theorem own_weak {A : World} {lo lo' : Nat} {t : TypeId} {u : Value} {j : Nat} {zs : List Value} (h : A.ownsRow lo t 1 u j zs) (hl : lo' ≤ lo) : A.ownsRow lo' t 1 u j zs := by
  obtain ⟨h0, h | ⟨g, cap, cur, h1, h2, h3⟩⟩ := h
  · exact ⟨h0, Or.inl h⟩
  · exact ⟨h0, Or.inr ⟨g, cap, cur, h1, by omega, h3⟩⟩

set_option maxHeartbeats 4000000 in
theorem Within_ok (a : ByteArray) (pi po ps : Nat) (most : Int) (ss : List ByteArray) (v : Value) (ha : lineB a = true) (hp : pricedB pi po ps = true) (hm0 : 0 ≤ most) (hm1 : most ≤ 100) (hn : ss.length ≤ 20) (hl : ss.all lineB = true) (w : World) (hv : StrsV w v ss) :
    Calls Try.prog 48 #[.string a, pv pi po ps, .int .i64 most, v] w fun e w' => ∃ v', e = .returned (.tuple #[v', .int .i64 0]) ∧ w'.ownsRow w.heap.size 3 1 v' (nearL a pi po ps most ss ss.length).length (ints (nearL a pi po ps most ss ss.length)) ∧ Below w.heap.size w w' := by
  obtain ⟨i0, hi, hz0, hz1, hz2⟩ := info_parts info_intE
  have ha' : a.size ≤ 12 := of_decide_eq_true ha
  have hq := (priced_iff _ _ _).1 hp
  have HI := Lib.hid (fun W => isLine_any a W)
  rw [ha] at HI
  have HP := Lib.hid (fun W => isPriced_any pi po ps W)
  rw [hp] at HP
  have HA := Lib.hid (fun W hV => all_line ss (by unfold maxLen; omega) v W hV)
  rw [hl] at HA
  have HC := Lib.hid (fun k (hk : k < ss.length) W => leastCost_any a (strAt ss k) pi po ps ha' (by
    rw [List.all_eq_true] at hl
    have := of_decide_eq_true (hl _ (List.getElem_mem hk))
    unfold strAt; rw [List.getElem?_eq_getElem hk]; exact this) (by omega) (by omega) (by omega) W)
  have HV := Lib.hid hv
  have hv' := hv
  obtain ⟨ao, cap, rfl, hlc, hd⟩ := hv'
  obtain ⟨W0, hW0⟩ : ∃ W0, w.alloc (.cells #[.int .i64 (pi : Int), .int .i64 (po : Int), .int .i64 (ps : Int)] 28) = W0 := ⟨_, rfl⟩
  have hB0 : Below w.heap.size w W0 := by rw [← hW0]; exact bl_al (Below.refl _ w) _
  have p0 : W0.cell? ⟨w.heap.size, 0, none⟩ = some (.int .i64 (pi : Int)) := by rw [← hW0]; simp
  have p1 : W0.cell? ⟨w.heap.size, 1, none⟩ = some (.int .i64 (po : Int)) := by rw [← hW0]; simp
  have p2 : W0.cell? ⟨w.heap.size, 2, none⟩ = some (.int .i64 (ps : Int)) := by rw [← hW0]; simp
  have HB0 := Lib.hid hB0
  have h100 : ¬ (most < 0) := by omega
  have h101 : ¬ (100 < most) := by omega
  have hn20 : ¬ ((20 : Int) < (ss.length : Int)) := by omega
  clear hB0 hv hl hp ha hq ha'
  have HD := Lib.hid hd
  clear hd
  go_enter Try.func48, Try.ntmps48
  go_wp2_with fail
  try rw [hW0]
  refine (HI.out _).mono ?_
  rintro e u0 ⟨rfl, rfl⟩
  go_wp2_with fail
  refine (HP.out _).mono ?_
  rintro e W1 ⟨rfl, b1⟩
  replace p0 := cell_later b1 p0
  replace p1 := cell_later b1 p1
  replace p2 := cell_later b1 p2
  have B1 := Lib.hid (below_nx HB0.out b1)
  have HV1 := Lib.hid (HV.out.later (below_nx HB0.out b1))
  clear b1 hW0
  go_wp2_with fail
  refine (HA.out _ HV1.out).mono ?_
  rintro e u2 ⟨rfl, rfl⟩
  obtain ⟨L, hL⟩ : ∃ L, W1.heap.size = L := ⟨_, rfl⟩
  have HL := Lib.hid hL
  have hbL : Below L W1 W1 := Below.refl _ _
  have hLL : L ≤ W1.heap.size := by omega
  have hown0 : W1.ownsRow L 3 1 (.slice none 0 0) (nearL a pi po ps most ss 0).length (ints (nearL a pi po ps most ss 0)) := ⟨rfl, Or.inl ⟨rfl, rfl⟩⟩
  clear hL
  go_wp2_with fail
  go_loopw [10, 11, 12, 41] (fun nv _ _ i wr => ∃ k : Nat, k ≤ ss.length ∧ i = .int .i64 k ∧ wr.ownsRow L 3 1 nv (nearL a pi po ps most ss k).length (ints (nearL a pi po ps most ss k)) ∧ Below L W1 wr) (fun _ _ _ i _ => ss.length - (intOf i).toNat)
  case atStart => exact ⟨0, Nat.zero_le _, rfl, hown0, hbL⟩
  case round =>
    obtain ⟨k, hk, rfl, hown, hB⟩ := hrel
    by_cases hkl : k < ss.length
    · obtain ⟨b, off, rfl, hdd⟩ := HD.out (by omega)
      have c0 := hdd k hkl
      have hlt := World.block_lt_of_cell? _ _ c0
      have hBw := Lib.hid (B1.out.trans (hB.mono (by have := B1.out.size; have := HL.out; omega)) : Below w.heap.size w wr)
      have ck := cell_later hBw.out c0
      rw [show ss[k]?.getD { data := #[] } = strAt ss k from rfl] at ck
      replace p0 := cell_later (show Below W1.heap.size W1 wr by rw [HL.out]; exact hB) p0
      replace p1 := cell_later (show Below W1.heap.size W1 wr by rw [HL.out]; exact hB) p1
      replace p2 := cell_later (show Below W1.heap.size W1 wr by rw [HL.out]; exact hB) p2
      have HCk := Lib.hid (HC.out k hkl)
      have hks : k < 20 := by omega
      have HY := Lib.hid (fun h => near_yes (a := a) (pi := pi) (po := po) (ps := ps) (most := most) (ss := ss) (k := k) h)
      have HN := Lib.hid (fun h => near_no (a := a) (pi := pi) (po := po) (ps := ps) (most := most) (ss := ss) (k := k) h)
      have hnl := near_length a pi po ps most ss k
      have hsz : L ≤ wr.heap.size := by have := hB.size; have := HL.out; omega
      have hnb : nearB a pi po ps most ss k = decide (cst a (strAt ss k) pi po ps ≤ most) := rfl
      generalize strAt ss k = sk at ck HCk hnb
      obtain ⟨C, hC⟩ : ∃ C, cst a sk pi po ps = C := ⟨_, rfl⟩
      rw [hC] at HCk hnb
      clear hC hdd c0 hlt
      by_cases hle : C ≤ most
      · have HYk := Lib.hid (HY.out (by rw [hnb]; exact decide_eq_true hle))
        have hd1 : decide (C ≤ most) = true := decide_eq_true hle
        clear hnb HY HN
        go_wp2_with fail
        refine (HCk.out _).mono ?_
        rintro e w2 ⟨rfl, b2⟩
        have ho' := Lib.hid (owns_later hown b2)
        have hB2 := Lib.hid (hB.trans (b2.mono hsz |> fun h => h))
        have hs2 := b2.size
        clear hown hB b2
        go_wp2_with (at_builtin; refine wpList_append_own _ rfl _ _ 53 rfl L 3 i0 (.int .i64 0) 1 8 Try.underlying53 hi hz0 hz1 hz2 rfl (by decide) _ _ _ rfl (ho'.out.alloc _) ⟨w2.heap.size, 0, none⟩ 1 1 [.int .i64 (k : Int)] rfl rfl (cell_one_newE _ _ _) (by simp [Value.oneCell']) (by unfold maxLen; omega) (by omega) (by simp; omega) ?_; intro v' w1 hown1 hgrow1 hnil1)
        go_wp2
        go_roundw
        case rel => exact ⟨k + 1, by omega, by go_num, by rw [HYk.out]; simp only [List.length_append, List.length_singleton]; unfold ints at hown1 ⊢; rw [List.map_append]; exact hown1, ((hB2.out).alloc (by omega) _).grown hgrow1 (by simp; omega) (fun q e => (ho'.out.lt q e).1)⟩
        case measure => simp only [intOf]; omega
      · have HNk := Lib.hid (HN.out (by rw [hnb]; exact decide_eq_false hle))
        have hd1 : decide (C ≤ most) = false := decide_eq_false hle
        clear hnb HY HN
        go_wp2_with fail
        refine (HCk.out _).mono ?_
        rintro e w2 ⟨rfl, b2⟩
        have ho' := Lib.hid (owns_later hown b2)
        have hB2 := Lib.hid (hB.trans (b2.mono hsz |> fun h => h))
        clear hown hB b2
        go_wp2
        go_roundw
        case rel => exact ⟨k + 1, by omega, by go_num, by rw [HNk.out]; exact ho'.out, hB2.out⟩
        case measure => simp only [intOf]; omega
    · obtain rfl : k = ss.length := by omega
      have Ho := Lib.hid (own_weak hown (by have := B1.out.size; have := HL.out; omega : w.heap.size ≤ L))
      have hBw := Lib.hid (B1.out.trans (hB.mono (by have := B1.out.size; have := HL.out; omega)) : Below w.heap.size w wr)
      clear hown hB
      go_wp2
      go_ret2
      exact ⟨_, rfl, Ho.out, hBw.out⟩
end Go.Proofs.Ytkpmkeklopfhdaa

/-
  The reference's Tours: length after length.
-/
import Derived.Test.YtibkhjbcagihbaaTrTours2
namespace Go.Proofs.Ytibkhjbcagihbaa
open Go.ChangeShapes Go.WideShapes Go.ChangeAt Go.RowKit Go.Shelf
set_option maxRecDepth 100000

/-- The first walk of each length, and how many there are. -/
def sN : Nat → Nat
  | 0 => 0
  | k + 1 => 3 * sN k + 1
def cN (k : Nat) : Nat := 2 * sN k + 1
theorem sN_succ (k : Nat) : sN (k + 1) = 3 * sN k + 1 := rfl
theorem sN_small {k : Nat} (h : k ≤ 5) : sN (k + 2) ≤ 1093 := by
  rcases (show k = 0 ∨ k = 1 ∨ k = 2 ∨ k = 3 ∨ k = 4 ∨ k = 5 by omega) with rfl | rfl | rfl | rfl | rfl | rfl <;> decide
def rowN (base cnt : Nat) : List Value := (List.range cnt).map (fun d => nodeV (base + d))
theorem rowN_at {base cnt d : Nat} (h : d < cnt) : (rowN base cnt)[d]? = some (nodeV (base + d)) := by
  unfold rowN; rw [List.getElem?_map, List.getElem?_range h]; rfl
theorem rowN_succ (base cnt : Nat) : rowN base (cnt + 1) = rowN base cnt ++ [nodeV (base + cnt)] := by
  unfold rowN; rw [List.range_succ, List.map_append]; rfl

/-- The letters as strings. -/
def letS : Obj := .cells #[.string ⟨#[76]⟩, .string ⟨#[80]⟩, .string ⟨#[82]⟩] 9
theorem letS_cell {w : World} {G j : Nat} (h : w.heap[G]? = some letS) (hj : j < 3) : w.cell? ⟨G, j, none⟩ = some (.string (strOf [letN j])) := by
  rcases (show j = 0 ∨ j = 1 ∨ j = 2 by omega) with rfl | rfl | rfl <;> simp [World.cell?, h, letS] <;> rfl

/-- The walks of a length, and those that are a step longer, as far as they are laid. -/
structure GSt (n a b : Nat) (w wr : World) (H lo : Nat) (vw vn : Value) (k cnt : Nat) : Prop where
  box : wr.heap[H]? = some (rcells n a b)
  walks : wr.ownsRow (H + 1) 9 1 vw (cN k) (rowN (sN k) (cN k))
  next : wr.ownsRow lo 9 1 vn cnt (rowN (sN (k + 1)) cnt)
  below : Below H w wr
  h1 : H < lo
  h2 : lo ≤ wr.heap.size
  h3 : ∀ q, vw.ownBlock = some q → q < lo
  h4 : w.heap.size = H

theorem GSt.later {n a b : Nat} {w wr w' : World} {H lo : Nat} {vw vn : Value} {k cnt : Nat} (h : GSt n a b w wr H lo vw vn k cnt) (hb : Below wr.heap.size wr w') : GSt n a b w w' H lo vw vn k cnt :=
  { h with
    box := (hb.block _ (Array.getElem?_eq_some_iff.1 h.box).1).trans h.box
    walks := h.walks.kept (row := none) ⟨hb.os, hb.tape, hb.output, hb.size, fun i hi _ => hb.block i hi⟩ (by cases vw.ownBlock <;> simp)
    next := h.next.kept (row := none) ⟨hb.os, hb.tape, hb.output, hb.size, fun i hi _ => hb.block i hi⟩ (by cases vn.ownBlock <;> simp)
    below := h.below.trans (hb.mono (by rw [← h.h4]; exact h.below.size))
    h2 := Nat.le_trans h.h2 hb.size }
theorem GSt.push {n a b : Nat} {w wr w' : World} {H lo : Nat} {vw vn vn' : Value} {k cnt : Nat} (h : GSt n a b w wr H lo vw vn k cnt) (o : Obj)
    (hown : w'.ownsRow lo 9 1 vn' (cnt + 1) (rowN (sN (k + 1)) cnt ++ [nodeV (sN (k + 1) + cnt)])) (hg : (wr.alloc o).grownBy w' vn.ownBlock) : GSt n a b w w' H lo vw vn' k (cnt + 1) := by
  have hlt : ∀ q, vn.ownBlock = some q → lo ≤ q := fun q e => (h.next.lt q e).1
  have k1 := h.h1
  have k2 := h.h2
  have k4 := h.h4
  refine ⟨?_, ?_, by rw [rowN_succ]; exact hown, ?_, k1, ?_, h.h3, k4⟩
  · refine (hg.block H (by rw [World.size_alloc]; omega) (fun e => by have := hlt _ e.symm; omega)).trans ?_
    exact (Below.heap_alloc _ _ H (by omega)).trans h.box
  · refine (h.walks.alloc o).kept hg ?_
    cases hv : vw.ownBlock with
    | none => left; rfl
    | some q => right; intro e; have := hlt _ e.symm; have := h.h3 q hv; omega
  · exact (h.below.alloc (by omega) o).grown hg (by rw [World.size_alloc]; omega) (fun q e => by have := hlt q e; omega)
  · have := hg.size; rw [World.size_alloc] at this; omega

theorem own_le {w : World} {lo lo' m : Nat} {t : TypeId} {v : Value} {xs : List Value} (h : w.ownsRow lo t 1 v m xs) (hb : lo' ≤ lo) : w.ownsRow lo' t 1 v m xs :=
  ⟨h.1, h.2.elim Or.inl (fun ⟨g, cap, cur, hv, hg, r⟩ => Or.inr ⟨g, cap, cur, hv, Nat.le_trans hb hg, r⟩)⟩

set_option maxHeartbeats 8000000 in
theorem RTours_any (n a b : Nat) (hk : KOk n a b) (w : World) :
    Calls Try.prog 42 #[kv n a b] w fun e w' => ∃ v, e = .returned v ∧ ToursV n a b v ∧ Below w.heap.size w w' := by
  have h16 := hk.h16
  obtain ⟨i0, hi, hz0, hz1', hz2'⟩ := info_parts info_str
  obtain ⟨H, hH⟩ : ∃ H, w.heap.size = H := ⟨_, rfl⟩
  obtain ⟨W0, hW0⟩ : ∃ W0, (w.alloc (rcells n a b)).alloc (.cells #[.string ⟨#[]⟩] 9) = W0 := ⟨_, rfl⟩
  have HX0 : Hid (W0.heap[H]? = some (rcells n a b)) := Lib.hid (by rw [← hW0, ← hH]; exact (Below.heap_alloc _ _ _ (by simp)).trans (heap_alloc_new w _))
  have HQ0 : Hid (W0.ownsRow (H + 1) 9 1 (.slice (some ⟨H + 1, 0, none⟩) 1 1) (cN 0) (rowN (sN 0) (cN 0))) := Lib.hid (by
    have := World.ownsRow_lit (base := H + 1) (e := 9) (size := 1) (w.alloc (rcells n a b)) #[.string ⟨#[]⟩] 1 (by rw [World.size_alloc]; omega) (by unfold maxLen; omega) rfl
    rw [hW0, World.size_alloc, hH] at this
    have e : rowN (sN 0) (cN 0) = [.string ⟨#[]⟩] := by
      show [nodeV 0] = _
      unfold nodeV; rw [nodeW_zero]; rfl
    rw [e]; exact this)
  have HB0 : Hid (Below H w W0) := Lib.hid (by rw [← hW0, ← hH]; exact ((Below.refl _ w).alloc (Nat.le_refl _) _).alloc (by simp) _)
  have HTour : Hid (∀ i, i < 1093 → ∀ w, Calls Try.prog 43 #[kv n a b, .string (strOf (nodeW i))] w fun e w' => e = .returned (.bool (tourB n a b (nodeW i))) ∧ Below w.heap.size w w') := Lib.hid (fun i hi w => by
    have := RTour_any n a b hk (strOf (nodeW i)) (by rw [strOf_size]; have := (node_short hi).2; omega) w
    rwa [node_str] at this)
  have HH := Lib.hid hH
  have HW0 := Lib.hid hW0
  clear hW0 hH hk
  go_enter Try.func42, Try.ntmps42
  go_wp2
  rw [HW0.out, HH.out]
  go_loopw [4, 13] (fun v i wr => ∃ (k g cap : Nat), k ≤ 6 ∧ i = .int .i64 k ∧ v = .slice (some ⟨g, 0, none⟩) (cN k) cap ∧ noTour n a b (sN (k + 1)) ∧ wr.ownsRow (H + 1) 9 1 v (cN k) (rowN (sN k) (cN k)) ∧ wr.heap[H]? = some (rcells n a b) ∧ Below H w wr) (fun _ i _ => 6 - (intOf i).toNat)
  case atStart => exact ⟨0, H + 1, 1, by omega, rfl, rfl, noTour_one n a b, HQ0.out, HX0.out, HB0.out⟩
  case round =>
    obtain ⟨k, g, cap, hk6, rfl, rfl, hno, hown, hbx, hB⟩ := hrel
    have HNo := Lib.hid hno
    by_cases hlt : k < 6
    · have hkI : (k : Int) < 6 := by omega
      have HBd : Hid (sN (k + 1) = 3 * sN k + 1 ∧ sN (k + 2) = 3 * sN (k + 1) + 1 ∧ sN (k + 2) ≤ 1093) := Lib.hid ⟨rfl, rfl, sN_small (show k ≤ 5 by omega)⟩
      obtain ⟨lo, hlo⟩ : ∃ lo, wr.heap.size = lo := ⟨_, rfl⟩
      have HG0 : Hid (GSt n a b w wr H lo (.slice (some ⟨g, 0, none⟩) (cN k) cap) (.slice none 0 0) k 0) := Lib.hid (by
        have hlh := (Array.getElem?_eq_some_iff.1 hbx).1
        exact ⟨hbx, hown, World.ownsRow_nil _ _ _ _, hB, by omega, by omega, fun q e => by rw [← hlo]; exact (hown.lt q e).2, HH.out⟩)
      have hcN : cN k = 2 * sN k + 1 := rfl
      have hcN1 : cN (k + 1) = 2 * sN (k + 1) + 1 := rfl
      have HcN := Lib.hid hcN
      have HcN1 := Lib.hid hcN1
      clear hcN hcN1 hno hown hbx hB hlo
      generalize hC : cN k = C at *
      have HC := Lib.hid hC
      have hCs : C ≤ 1093 := by have := HcN.out; obtain ⟨q1, q2, q3⟩ := HBd.out; omega
      clear hC
      go_wp2
      go_loopw [5, 17] (fun vn i wq => ∃ u : Nat, u ≤ C ∧ i = .int .i64 u ∧ GSt n a b w wq H lo (.slice (some ⟨g, 0, none⟩) C cap) vn k (3 * u)) (fun _ i _ => C - (intOf i).toNat)
      case atStart => exact ⟨0, Nat.zero_le _, rfl, HG0.out⟩
      case round =>
        obtain ⟨u, hu, rfl, hst⟩ := hrel
        by_cases hul : u < C
        · have hwk := hst.walks
          rw [HC.out] at hwk
          have hwc : wr.cell? ⟨g, u, none⟩ = some (.string (strOf (nodeW (sN k + u)))) := (hwk.cellAt u (by omega)).trans (rowN_at hul)
          obtain ⟨G, hG⟩ : ∃ G, wr.heap.size = G := ⟨_, rfl⟩
          obtain ⟨W3, hW3⟩ : ∃ W3, wr.alloc letS = W3 := ⟨_, rfl⟩
          have HS1 : Hid (GSt n a b w W3 H lo (.slice (some ⟨g, 0, none⟩) C cap) _ k (3 * u)) := Lib.hid (by rw [← hW3]; exact hst.later ((Below.refl _ wr).alloc (Nat.le_refl _) _))
          have HGc : Hid (W3.heap[G]? = some letS) := Lib.hid (by rw [← hW3, ← hG]; exact heap_alloc_new wr _)
          have HvG : Hid (Value.ownBlock _ ≠ some G) := Lib.hid (fun e => by have := (hst.next.lt G e).2; omega)
          have HloG : Hid (lo ≤ G) := Lib.hid (by have := hst.h2; omega)
          have hsz := strOf_size (nodeW (sN k + u))
          have hsh := (node_short (show sN k + u < 1093 by have := HcN.out; obtain ⟨q1, q2, q3⟩ := HBd.out; omega)).2
          have HNode : Hid (∀ c, c < 3 → nodeV (sN (k + 1) + (3 * u + c)) = .string (strOf (nodeW (sN k + u)) ++ strOf [letN c])) := Lib.hid (fun c hc => by
            unfold nodeV
            rw [show sN (k + 1) + (3 * u + c) = 3 * (sN k + u) + 1 + c by obtain ⟨q1, q2, q3⟩ := HBd.out; omega, nodeW_child _ _ hc, strOf_append])
          have HG := Lib.hid hG
          have HW3 := Lib.hid (show wr.alloc (.cells #[.string ⟨#[76]⟩, .string ⟨#[80]⟩, .string ⟨#[82]⟩] 9) = W3 from hW3)
          clear hst hwk hG hW3
          generalize strOf (nodeW (sN k + u)) = sw at *
          go_wp2
          rw [HW3.out, HG.out]
          clear hwc
          go_loopw [5, 23] (fun vn i wv => ∃ c : Nat, c ≤ 3 ∧ i = .int .i64 c ∧ GSt n a b w wv H lo (.slice (some ⟨g, 0, none⟩) C cap) vn k (3 * u + c) ∧ wv.heap[G]? = some letS ∧ vn.ownBlock ≠ some G) (fun _ i _ => 3 - (intOf i).toNat)
          case atStart => exact ⟨0, Nat.zero_le _, rfl, HS1.out, HGc.out, HvG.out⟩
          case round =>
            obtain ⟨c, hc3, rfl, hst, hlet, hvG⟩ := hrel
            by_cases hcl : c < 3
            · have hlc := letS_cell hlet hcl
              have hz3 : (strOf [letN c]).size = 1 := strOf_size _
              have HNd := Lib.hid (HNode.out c hcl)
              have HS2 := Lib.hid hst
              have HO := Lib.hid hst.next
              have HLt := Lib.hid hlet
              have HvG2 := Lib.hid hvG
              have hlG := (Array.getElem?_eq_some_iff.1 hlet).1
              have hlo2 := hst.h2
              have hcnt : 3 * u + c ≤ 2000 := by have := HcN.out; obtain ⟨q1, q2, q3⟩ := HBd.out; omega
              clear hst hlet hvG
              generalize letN c = cc at *
              go_wp2_with (at_builtin; refine wpList_append_own_at _ rfl _ _ 64 rfl lo 9 i0 (.string ⟨#[]⟩) 1 16 Try.underlying64 hi hz0 hz1' hz2' rfl (by decide) _ _ _ rfl (HO.out.alloc _) ⟨wr.heap.size, 0, none⟩ 1 1 [.string (sw ++ strOf [cc])] rfl rfl (cell_one_new _ _ _) (by simp [Value.oneCell']) (by unfold maxLen; omega) (by omega) (by rw [World.size_alloc]; omega) ?_; intro v' w4 hown4 hgrow4 hnil4 hob4)
              have hown5 := hown4
              rw [← HNd.out] at hown5
              have HP := Lib.hid (HS2.out.push _ hown5 hgrow4)
              have HG4 : Hid (w4.heap[G]? = some letS) := Lib.hid ((hgrow4.block G (by rw [World.size_alloc]; omega) (fun e => HvG2.out e.symm)).trans ((Below.heap_alloc _ _ G hlG).trans HLt.out))
              have HvG4 : Hid (v'.ownBlock ≠ some G) := Lib.hid (by
                rcases hob4 with e | e
                · rw [e]; exact HvG2.out
                · rw [e, World.size_alloc]; intro e2; have := Option.some.inj e2; omega)
              clear hown4 hown5 hgrow4 hob4 hnil4
              go_roundw
              case rel => exact ⟨c + 1, by omega, by go_num, HP.out, HG4.out, HvG4.out⟩
              case measure => simp only [intOf]; omega
            · obtain rfl : c = 3 := by omega
              have HS2 := Lib.hid (show GSt n a b w wr H lo (.slice (some ⟨g, 0, none⟩) C cap) _ k (3 * (u + 1)) from hst)
              clear hst hlet hvG
              go_wp2
              go_roundw
              case rel => exact ⟨u + 1, by omega, by go_num, HS2.out⟩
              case measure => simp only [intOf]; omega
        · obtain rfl : u = C := by omega
          have hnx := hst.next
          have hC3 : 3 * u = cN (k + 1) := by have := HcN.out; have := HcN1.out; obtain ⟨q1, q2, q3⟩ := HBd.out; omega
          obtain ⟨_, ⟨_, h2⟩ | ⟨g2, cap2, cur2, rfl, _⟩⟩ := id hnx
          · have := HcN.out; obtain ⟨q1, q2, q3⟩ := HBd.out; omega
          · have HS2 : Hid (GSt n a b w wr H lo (.slice (some ⟨g, 0, none⟩) u cap) (.slice (some ⟨g2, 0, none⟩) (cN (k + 1)) cap2) k (cN (k + 1))) := Lib.hid (by rw [← hC3]; exact hst)
            rw [hC3]
            have HC3 := Lib.hid hC3
            have hc1 : cN (k + 1) ≤ 1093 := by have := HcN1.out; obtain ⟨q1, q2, q3⟩ := HBd.out; omega
            clear hst hnx hC3
            generalize hD : cN (k + 1) = D at *
            have HD := Lib.hid hD
            clear hD
            go_wp2
            go_loopw [37] (fun i wv => ∃ j : Nat, j ≤ D ∧ i = .int .i64 j ∧ noTour n a b (sN (k + 1) + j) ∧ GSt n a b w wv H lo (.slice (some ⟨g, 0, none⟩) u cap) (.slice (some ⟨g2, 0, none⟩) D cap2) k D) (fun i _ => D - (intOf i).toNat)
            case atStart => exact ⟨0, Nat.zero_le _, rfl, HNo.out, HS2.out⟩
            case round =>
              obtain ⟨j, hj, rfl, hno, hst⟩ := hrel
              by_cases hjl : j < D
              · have hcj : wr.cell? ⟨g2, j, none⟩ = some (.string (strOf (nodeW (sN (k + 1) + j)))) := (hst.next.cellAt j (by omega)).trans (rowN_at hjl)
                have hm : sN (k + 1) + j < 1093 := by have := HcN1.out; obtain ⟨q1, q2, q3⟩ := HBd.out; omega
                have HT := Lib.hid (HTour.out _ hm)
                obtain ⟨c0, c1, c2⟩ : wr.cell? ⟨H, 0, none⟩ = some (.int .i64 n) ∧ wr.cell? ⟨H, 1, none⟩ = some (.int .i64 a) ∧ wr.cell? ⟨H, 2, none⟩ = some (.int .i64 b) := by
                  refine ⟨?_, ?_, ?_⟩ <;> simp [World.cell?, hst.box]
                have HS3 := Lib.hid hst
                have HNo2 := Lib.hid hno
                clear hst hno
                cases htb : tourB n a b (nodeW (sN (k + 1) + j))
                · rw [htb] at HT
                  have HNo3 := Lib.hid (noTour_succ HNo2.out htb)
                  clear htb
                  generalize strOf (nodeW (sN (k + 1) + j)) = sw at *
                  go_wp2_with fail
                  refine (HT.out _).mono ?_
                  rintro e w2 ⟨rfl, b2⟩
                  have HS4 := Lib.hid (HS3.out.later b2)
                  clear b2
                  go_wp2
                  go_roundw
                  case rel => exact ⟨j + 1, by omega, by go_num, HNo3.out, HS4.out⟩
                  case measure => simp only [intOf]; omega
                · rw [htb] at HT
                  have HV2 : Hid (ToursV n a b (.tuple #[.string (strOf (nodeW (sN (k + 1) + j))), .int .i64 0])) := Lib.hid (Or.inl ⟨_, hm, HNo2.out, htb, rfl⟩)
                  clear htb
                  generalize strOf (nodeW (sN (k + 1) + j)) = sw at *
                  go_wp2_with fail
                  refine (HT.out _).mono ?_
                  rintro e w2 ⟨rfl, b2⟩
                  have HB5 := Lib.hid (HS3.out.later b2).below
                  clear b2
                  go_wp2
                  go_ret2
                  exact ⟨_, rfl, HV2.out, by rw [HH.out]; exact HB5.out⟩
              · obtain rfl : j = D := by omega
                have HNo3 : Hid (noTour n a b (sN (k + 1 + 1))) := Lib.hid (by
                  rw [show sN (k + 1 + 1) = sN (k + 1) + j by have := HcN1.out; obtain ⟨q1, q2, q3⟩ := HBd.out; show sN (k + 2) = _; omega]; exact hno)
                have hnx := hst.next
                have HN3 : Hid (wr.ownsRow (H + 1) 9 1 (.slice (some ⟨g2, 0, none⟩) j cap2) (cN (k + 1)) (rowN (sN (k + 1)) (cN (k + 1)))) := Lib.hid (by
                  rw [HD.out]; exact own_le hnx (by have := hst.h1; omega))
                have HX3 := Lib.hid hst.box
                have HB3 := Lib.hid hst.below
                clear hst hno hnx
                go_wp2
                go_roundw
                case rel => exact ⟨k + 1, g2, cap2, by omega, by go_num, by rw [HD.out], HNo3.out, HN3.out, HX3.out, HB3.out⟩
                case measure => simp only [intOf]; omega
    · obtain rfl : k = 6 := by omega
      have HV2 : Hid (ToursV n a b (.tuple #[.string ⟨#[]⟩, .int .i64 4])) := Lib.hid (Or.inr ⟨HNo.out, rfl⟩)
      have HB5 := Lib.hid hB
      clear hown hno hB hbx
      go_wp2
      go_ret2
      exact ⟨_, rfl, HV2.out, by rw [HH.out]; exact HB5.out⟩
end Go.Proofs.Ytibkhjbcagihbaa

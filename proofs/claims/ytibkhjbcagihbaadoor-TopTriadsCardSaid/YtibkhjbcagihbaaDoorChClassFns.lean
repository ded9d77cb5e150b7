/-
  Class, and the reference's Class.
-/
import Derived.Test.YtibkhjbcagihbaaDoorChLeafA
import Derived.Test.YtibkhjbcagihbaaDoorChSortFns
import Derived.Test.YtibkhjbcagihbaaDoorSortMath
namespace Go.Proofs.YtibkhjbcagihbaaDoor.Ch
open Go.RowKit Go.Shelf Go.Sort Go.Maps
attribute [local go_sem] Oper.semAt_some
set_option maxRecDepth 100000

/-- The images, rising, each once. -/
def clsN (n c : Nat) : List Nat := (List.range (2 ^ n)).filter fun x => decide (x ∈ imgs n c)

theorem imgs_lt {n c x : Nat} (h : x ∈ imgs n c) : x < 2 ^ n := by
  unfold imgs imgOf at h
  rcases List.mem_append.1 h with h | h <;> (obtain ⟨y, _, rfl⟩ := List.mem_map.1 h; exact mv_lt)
theorem zClass_eq (n c : Nat) : zClass n c = (clsN n c).map fun (x : Nat) => (x : Int) := class_list (2 ^ n) (imgs n c) (fun _ h => imgs_lt h)

theorem Class_bad (n c : Int) (h : vldB n c = false) (w : World) :
    Calls Tryd.prog 16 #[.int .i64 n, .int .i64 c] w fun e w' => e = .returned (.tuple #[.slice none 0 0, .int .i64 2]) ∧ Below w.heap.size w w' := by
  have HV := Lib.hid (valid_of n c _ h)
  clear h
  go_enter Tryd.func16, Tryd.ntmps16
  go_wp2_with (go_at_call 26; refine (HV.out _ _ (cell_at rfl)).mono ?_; rintro e w' ⟨rfl, rfl⟩)
  go_ret2
  exact ⟨rfl, (Below.refl _ w).alloc (Nat.le_refl _) _⟩

theorem compact_any (zs : List Int) (k g cap lo : Nat) (hk : zs.length = k) (hk2 : k ≤ 4096) (hcap : k ≤ cap) (V w : World) (h : ZRow lo w g zs) (hlo : V.heap.size ≤ lo) (hV : Below V.heap.size V w) :
    Calls Tryd.prog 27 #[.slice (some ⟨g, 0, none⟩) k cap] w fun e w' => e = .returned (.slice (some ⟨g, 0, none⟩) (Lib.compact zs).length cap) ∧
      (∀ i, i < (Lib.compact zs).length → w'.cell? ⟨g, i, none⟩ = some (.int .i64 ((Lib.compact zs)[i]?.getD 0))) ∧ Below V.heap.size V w' := by
  have H := Tryd.slices_Compact_int g 0 cap zs w h.holds (by omega) (by omega)
  rw [hk] at H
  refine H.mono ?_
  rintro e w' ⟨rfl, q, rfl⟩
  have hc := compact_length zs
  have hlen : (Lib.compact zs ++ List.replicate (k - (Lib.compact zs).length) (0 : Int)).toArray.size = zs.toArray.size := by simp; omega
  refine ⟨rfl, fun i hi => ?_, ?_⟩
  · have := cell?_putRow (Value.int .i64) (Sort.ahead w q) g 0 zs.toArray _ (fun j hj => h.holds j hj) hlen i (by rw [hlen]; simp; omega)
    rw [Nat.zero_add] at this
    rw [this]
    congr 2
    simp only [List.getElem!_toArray]
    rw [getElem!_pos _ i (by simp; omega), List.getElem_append_left hi, List.getElem?_eq_getElem hi]
    rfl
  · have hg : w.grownBy (putRow (Value.int .i64) (Sort.ahead w q) g 0 (Lib.compact zs ++ List.replicate (k - (Lib.compact zs).length) (0 : Int)).toArray) (some g) := by
      have := grownBy_sorted_i (w := w) (g := g) (n := q) (os := #[]) (Lib.compact zs ++ List.replicate (k - (Lib.compact zs).length) (0 : Int)).toArray
      rwa [grow_empty] at this
    exact hV.grown hg hV.size (fun j hj => by cases hj; have := h.lo; omega)

theorem Class_ok (n c : Nat) (h1 : 2 ≤ n) (h2 : n ≤ 16) (h3 : c < 2 ^ n) (w : World) (hT : Tab w) :
    Calls Tryd.prog 16 #[.int .i64 n, .int .i64 c] w fun e w' => ∃ g cap : Nat, e = .returned (.tuple #[.slice (some ⟨g, 0, none⟩) (clsN n c).length cap, .int .i64 0]) ∧ w.heap.size ≤ g ∧
      (∀ i, i < (clsN n c).length → w'.cell? ⟨g, i, none⟩ = some (.int .i64 (((clsN n c)[i]?.getD 0 : Nat) : Int))) ∧ Below w.heap.size w w' := by
  have HV := Lib.hid (valid_of n c _ (vldB_of_nat h1 h2 h3))
  have HI := Lib.hid (images_any (n : Int) (c : Int))
  obtain ⟨W, hW⟩ : ∃ W, ((w.alloc (.cells #[.int .i64 c] 3)).alloc (.cells #[.int .i64 n] 3)).alloc (.cells #[.int .i64 c] 3) = W := ⟨_, rfl⟩
  have hBW : Below w.heap.size w W := by rw [← hW]; exact (((Below.refl _ w).alloc (Nat.le_refl _) _).alloc (by simp) _).alloc (by simp; omega) _
  have c0 : W.cell? ⟨w.heap.size + 1 + 1, 0, none⟩ = some (.int .i64 c) := by rw [← hW]; exact cell_at (by simp)
  have c1 : W.cell? ⟨w.heap.size + 1, 0, none⟩ = some (.int .i64 n) := by rw [← hW]; exact cell_up (cell_at (by simp))
  have HS := Lib.hid (sorted_any n c (w.heap.size + 1 + 1) (w.heap.size + 1) h1 h2 h3 W (hT.same hBW) c0 c1)
  have HZ := Lib.hid (zSort_length n c)
  have hzc : Lib.compact (zSort n c) = (clsN n c).map fun (x : Nat) => (x : Int) := zClass_eq n c
  have HC := Lib.hid (fun g cap U V k1 k2 k3 k4 => compact_any (zSort n c) (n + n) g cap W.heap.size HZ.out (by omega) k1 V U k2 k3 k4)
  have HW := Lib.hid hW
  have HZC := Lib.hid hzc
  clear h3 hT c0 c1 hW hzc
  generalize zSort n c = zs at HS HC HZ HZC
  generalize clsN n c = K at HZC
  go_enter Tryd.func16, Tryd.ntmps16
  go_wp2_with (go_at_call 26; refine (HV.out _ _ (cell_at rfl)).mono ?_; rintro e w' ⟨rfl, rfl⟩)
  refine (HI.out _).mono ?_
  rintro e w1 ⟨rfl, hw1⟩
  rw [World.size_alloc]
  obtain rfl : W = w1 := by rw [← hw1, ← HW.out]
  clear hw1
  go_wp2_with fail
  refine HS.out.mono ?_
  rintro e w2 ⟨g, cap, rfl, hcap, hz, hb⟩
  have hC := Lib.hid (HC.out g cap w2 W hcap hz (Nat.le_refl _) hb)
  have hg := hz.lo
  clear hz hb
  go_wp2_with fail
  refine hC.out.mono ?_
  rintro e w3 ⟨rfl, hcell, hb3⟩
  rw [HZC.out] at hcell ⊢
  rw [List.length_map] at hcell ⊢
  have hcl := Lib.hid hcell
  clear hcell
  go_wp2
  go_ret2
  refine ⟨g, cap, rfl, by have := hBW.size; omega, fun i hi => ?_, hBW.trans (hb3.mono hBW.size)⟩
  have := hcl.out i hi
  rw [this, List.getElem?_map, List.getElem?_eq_getElem hi]
  rfl

end Go.Proofs.YtibkhjbcagihbaaDoor.Ch

/-
  slices.Collect, Sorted at the images, and Class.
-/
import Derived.Test.YtibkhjbcagihbaaDoorChLeafA
import Derived.Test.YtibkhjbcagihbaaDoorChSorted
import Derived.Test.YtibkhjbcagihbaaDoorShelf
import Derived.Lib.SlKeysI
namespace Go.Proofs.YtibkhjbcagihbaaDoor.Ch
open Go.RowKit Go.Shelf Go.Sort Go.Maps
attribute [local go_sem] Oper.semAt_some
set_option maxRecDepth 100000

/-- The images as integers, rising, and each once. -/
def zImgs (n c : Nat) : List Int := (imgs n c).map (fun (x : Nat) => (x : Int))
def zSort (n c : Nat) : List Int := (zImgs n c).mergeSort fun x y => decide (x ≤ y)
def zClass (n c : Nat) : List Int := Lib.compact (zSort n c)

theorem zImgs_length (n c : Nat) : (zImgs n c).length = n + n := by simp [zImgs, imgs_length]
theorem zSort_length (n c : Nat) : (zSort n c).length = n + n := by unfold zSort; rw [List.length_mergeSort, zImgs_length]
theorem ints_z (n c : Nat) : ints (imgs n c) = (zImgs n c).map encZ := by
  unfold ints zImgs
  rw [List.map_map]
  rfl

theorem collect_any (n c Bc Bn : Nat) (hn : 2 ≤ n) (hn2 : n ≤ 16) (hc : c < 2 ^ n) (w : World) (hT : Tab w) (hBc : w.cell? ⟨Bc, 0, none⟩ = some (.int .i64 c)) (hBn : w.cell? ⟨Bn, 0, none⟩ = some (.int .i64 n)) :
    Calls Tryd.prog 41 #[.func (.func 43) #[] #[.pointer (some ⟨Bc, 0, none⟩), .pointer (some ⟨Bn, 0, none⟩)]] w fun e w' => ∃ v, e = .returned v ∧ w'.ownsRow w.heap.size 3 1 v (imgs n c).length (ints (imgs n c)) ∧ Below w.heap.size w w' := by
  have H := Lib.hid (appendSeq_any n c Bc Bn hn hn2 hc w hT hBc hBn)
  clear hT hBc hBn
  generalize imgs n c = xs at H
  go_enter Tryd.func41, Tryd.ntmps41
  go_wp2_with (go_at_call 50; refine H.out.mono ?_; rintro e w' ⟨v, rfl, ho, hb⟩; replace ho := Lib.hid ho)
  go_ret
  exact ⟨_, rfl, (by assumption : Hid _).out, by assumption⟩

theorem holds_grow {W : World} {g : Nat} {d : Array Int} {os : Array Obj} (h : Holds (Value.int .i64) W g 0 d) (hg : g < W.heap.size) : Holds (Value.int .i64) (grow W os) g 0 d := fun j hj =>
  ⟨(World.cell?_of_block (w := W) (heap_grow_old _ _ hg)).trans (h j hj).1, (World.frozen?_of_block (w := W) (heap_grow_old _ _ hg)).trans (h j hj).2⟩

/-- A row of integers that the call has made, in use whole. -/
structure ZRow (lo : Nat) (W : World) (g : Nat) (zs : List Int) : Prop where
  lo : lo ≤ g
  lt : g < W.heap.size
  holds : Holds (Value.int .i64) W g 0 zs.toArray

theorem sorted_any (n c Bc Bn : Nat) (hn : 2 ≤ n) (hn2 : n ≤ 16) (hc : c < 2 ^ n) (w : World) (hT : Tab w) (hBc : w.cell? ⟨Bc, 0, none⟩ = some (.int .i64 c)) (hBn : w.cell? ⟨Bn, 0, none⟩ = some (.int .i64 n)) :
    Calls Tryd.prog 28 #[.func (.func 43) #[] #[.pointer (some ⟨Bc, 0, none⟩), .pointer (some ⟨Bn, 0, none⟩)]] w fun e w' => ∃ g cap : Nat, e = .returned (.slice (some ⟨g, 0, none⟩) (n + n) cap) ∧ n + n ≤ cap ∧ ZRow w.heap.size w' g (zSort n c) ∧ Below w.heap.size w w' := by
  have H := Lib.hid (collect_any n c Bc Bn hn hn2 hc w hT hBc hBn)
  have HS := Lib.hid (fun blk cap W h1 h2 => Tryd.slices_Sort_int blk 0 cap (zImgs n c) W h1 h2 (by rw [zImgs_length]; omega))
  rw [ints_z, imgs_length] at H
  have HL := Lib.hid (zImgs_length n c)
  have HL2 := Lib.hid (zSort_length n c)
  have hz : zSort n c = (zImgs n c).mergeSort fun x y => decide (x ≤ y) := rfl
  rw [← hz] at HS
  rw [HL.out] at HS
  clear hT hBc hBn hz
  generalize zSort n c = zt at HS HL2
  generalize zImgs n c = zs at H HS HL
  go_enter Tryd.func28, Tryd.ntmps28
  go_wp2_with fail
  refine H.out.mono ?_
  rintro e w1 ⟨v, rfl, ho, hb⟩
  obtain ⟨_, ⟨_, h0⟩ | ⟨g, cap, cur, rfl, hg, hh, h1, h2, h3, h4⟩⟩ := ho
  · omega
  · have hH : Holds (Value.int .i64) w1 g 0 zs.toArray := holds_of_block_i hh (by rw [HL.out]; rw [Nat.mul_one] at h4; exact h4)
    have hgl : g < w1.heap.size := (Array.getElem?_eq_some_iff.1 hh).1
    have hS := Lib.hid (HS.out g cap w1 hH hgl)
    have hH' := Lib.hid hH
    clear hH h4 h3
    go_wp2_with fail
    refine hS.out.mono ?_
    rintro e w2 ⟨rfl, m, os, rfl⟩
    have hgr := grownBy_sorted_i (w := w1) (g := g) (n := m) (os := os) zt.toArray
    have hb2 := hb.grown hgr hb.size (fun j hj => by cases hj; exact hg)
    have hz : Holds (Value.int .i64) (grow (putRow (Value.int .i64) (Sort.ahead w1 m) g 0 zt.toArray) os) g 0 zt.toArray :=
      holds_grow (holds_putRow _ _ g 0 zs.toArray zt.toArray (fun j hj => hH'.out j hj) (by simp [HL.out, HL2.out])) (by simpa [putRow, mapBlock, Sort.ahead] using hgl)
    have hz' := Lib.hid hz
    have hsz : g < (grow (putRow (Value.int .i64) (Sort.ahead w1 m) g 0 zt.toArray) os).heap.size := Nat.lt_of_lt_of_le hgl hgr.size
    have hb2' : Below w.heap.size w (grow (putRow (Value.int .i64) (Sort.ahead w1 m) g 0 zt.toArray) os) := hb2
    clear hz hgr hb2 hH' hS hb hh
    generalize grow (putRow (Value.int .i64) (Sort.ahead w1 m) g 0 zt.toArray) os = w2 at *
    go_wp2
    go_ret
    exact ⟨g, cap, rfl, h1, ⟨hg, hsz, hz'.out⟩, hb2'⟩

end Go.Proofs.YtibkhjbcagihbaaDoor.Ch

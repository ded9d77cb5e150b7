/-
  slices.Collect, Sorted at the partners; Partner and Partners.
-/
import Derived.Test.YtbdmljakdjdjkaaDoorZaLeafA
import Derived.Test.YtbdmljakdjdjkaaDoorZaCaAppend
import Derived.Test.YtbdmljakdjdjkaaDoorShelf
import Derived.Lib.SlKeysI
namespace Go.Proofs.YtbdmljakdjdjkaaDoor.Za
open Go.RowKit Go.Shelf Go.Sort Go.Maps
attribute [local go_sem] Oper.semAt_some
set_option maxRecDepth 100000

theorem collectP_any (n a nB aB : Nat) (hn : 2 ≤ n) (hn2 : n ≤ 24) (ha : a < 2 ^ n) (ha1 : a % 2 = 1) (w : World) (hT : Tab w) (hcn : w.cell? ⟨nB, 0, none⟩ = some (.int .i64 n)) (hca : w.cell? ⟨aB, 0, none⟩ = some (.int .i64 a)) :
    Calls Tryd.prog 34 #[.func (.func 36) #[] #[.pointer (some ⟨nB, 0, none⟩), .pointer (some ⟨aB, 0, none⟩)]] w fun e w' => ∃ v, e = .returned v ∧ w'.ownsRow w.heap.size 3 1 v (partners n a).length (ints (partners n a)) ∧ Below w.heap.size w w' := by
  have H := Lib.hid (appendP_any n a nB aB hn hn2 ha ha1 w hT hcn hca)
  clear hT hcn hca
  generalize partners n a = xs at H
  go_enter Tryd.func34, Tryd.ntmps34
  go_wp2_with (go_at_call 49; refine H.out.mono ?_; rintro e w' ⟨v, rfl, ho, hb⟩; replace ho := Lib.hid ho)
  go_ret
  exact ⟨_, rfl, (by assumption : Hid _).out, by assumption⟩

theorem holds_grow {W : World} {g : Nat} {d : Array Int} {os : Array Obj} (h : Holds (Value.int .i64) W g 0 d) (hg : g < W.heap.size) : Holds (Value.int .i64) (grow W os) g 0 d := fun j hj =>
  ⟨(World.cell?_of_block (w := W) (heap_grow_old _ _ hg)).trans (h j hj).1, (World.frozen?_of_block (w := W) (heap_grow_old _ _ hg)).trans (h j hj).2⟩

theorem ints_enc (xs : List Nat) : ints xs = (xs.map fun (x : Nat) => (x : Int)).map encZ := by
  unfold ints
  rw [List.map_map]
  rfl

/-- The first of a sorted list is the least. -/
theorem sorted_first (xs : List Nat) (h : 0 < xs.length) : ∃ b, b ∈ xs ∧ (∀ x ∈ xs, b ≤ x) ∧ ((xs.map fun (x : Nat) => (x : Int)).mergeSort fun x y => decide (x ≤ y))[0]?.getD 0 = (b : Int) := by
  have hl : ((xs.map fun (x : Nat) => (x : Int)).mergeSort fun x y => decide (x ≤ y)).length = xs.length := by simp
  have hs : ((xs.map fun (x : Nat) => (x : Int)).mergeSort fun x y => decide (x ≤ y)).Pairwise (fun x y => decide (x ≤ y) = true) :=
    List.pairwise_mergeSort (fun a b c h1 h2 => by simp at *; omega) (fun a b => by simp; omega) _
  have hm : ∀ z, z ∈ ((xs.map fun (x : Nat) => (x : Int)).mergeSort fun x y => decide (x ≤ y)) ↔ z ∈ xs.map fun (x : Nat) => (x : Int) := fun z => List.mem_mergeSort
  generalize ((xs.map fun (x : Nat) => (x : Int)).mergeSort fun x y => decide (x ≤ y)) = zs at hl hs hm ⊢
  cases zs with
  | nil => simp at hl; omega
  | cons z zs =>
    have hz := (hm z).1 (List.mem_cons_self ..)
    obtain ⟨b, hb, rfl⟩ := List.mem_map.1 hz
    refine ⟨b, hb, fun x hx => ?_, rfl⟩
    have hx2 := (hm (x : Int)).2 (List.mem_map.2 ⟨x, hx, rfl⟩)
    rcases List.mem_cons.1 hx2 with h | h
    · omega
    · have := (List.pairwise_cons.1 hs).1 _ h
      simp at this
      omega

/-- What Sorted hands back. -/
def SortedAt (xs : List Nat) (v : Value) (W : World) : Prop :=
  (xs = [] ∧ ∃ (ad : Option Addr) (cap : Nat), v = .slice ad 0 cap) ∨ ∃ g cap b : Nat, v = .slice (some ⟨g, 0, none⟩) xs.length cap ∧ 0 < xs.length ∧ W.cell? ⟨g, 0, none⟩ = some (.int .i64 b) ∧ b ∈ xs ∧ ∀ x ∈ xs, b ≤ x

set_option maxHeartbeats 1000000 in
theorem sortedP_any (n a nB aB : Nat) (hn : 2 ≤ n) (hn2 : n ≤ 24) (ha : a < 2 ^ n) (ha1 : a % 2 = 1) (w : World) (hT : Tab w) (hcn : w.cell? ⟨nB, 0, none⟩ = some (.int .i64 n)) (hca : w.cell? ⟨aB, 0, none⟩ = some (.int .i64 a)) :
    Calls Tryd.prog 18 #[.func (.func 36) #[] #[.pointer (some ⟨nB, 0, none⟩), .pointer (some ⟨aB, 0, none⟩)]] w fun e w' => ∃ v, e = .returned v ∧ SortedAt (partners n a) v w' ∧ Below w.heap.size w w' := by
  have H := Lib.hid (collectP_any n a nB aB hn hn2 ha ha1 w hT hcn hca)
  have hpl : (partners n a).length ≤ 2 ^ n := nodup_length (partners_nodup (by omega) (by omega) ha) (fun x hx => ((mem_partners (by omega) (by omega) ha ha1).1 hx).1)
  have hp24 : 2 ^ n ≤ 2 ^ 24 := Nat.pow_le_pow_right (by omega) hn2
  clear hT hcn hca
  generalize partners n a = xs at H hpl
  rw [ints_enc] at H
  have HF := Lib.hid (sorted_first xs)
  have hzl : (xs.map fun (x : Nat) => (x : Int)).length = xs.length := by simp
  have hzs : ((xs.map fun (x : Nat) => (x : Int)).mergeSort fun x y => decide (x ≤ y)).length = xs.length := by simp
  have HS := Lib.hid (fun blk cap W h1 h2 => Tryd.slices_Sort_int blk 0 cap (xs.map fun (x : Nat) => (x : Int)) W h1 h2 (by rw [hzl]; omega))
  have HS0 := Lib.hid (fun p cap W => Tryd.slices_Sort_int_none p cap W)
  have HZL := Lib.hid hzl
  have HZS := Lib.hid hzs
  clear hzl hzs
  generalize ((xs.map fun (x : Nat) => (x : Int)).mergeSort fun x y => decide (x ≤ y)) = zt at HS HF HZS
  generalize (xs.map fun (x : Nat) => (x : Int)) = zs at H HS HZL
  go_enter Tryd.func18, Tryd.ntmps18
  go_wp2_with fail
  refine H.out.mono ?_
  rintro e w1 ⟨v, rfl, ho, hb⟩
  obtain ⟨_, ⟨hv, h0⟩ | ⟨g, cap, cur, hv, hg, hh, h1, h2, h3, h4⟩⟩ := ho
  · subst hv
    have hx0 : xs = [] := List.eq_nil_of_length_eq_zero h0
    subst hx0
    clear h0
    go_wp2_with fail
    refine (HS0.out _ _ _).mono ?_
    rintro e w2 ⟨rfl, rfl⟩
    go_wp2
    go_ret
    exact ⟨_, rfl, Or.inl ⟨rfl, none, 0, rfl⟩, hb⟩
  · subst hv
    have hH : Holds (Value.int .i64) w1 g 0 zs.toArray := holds_of_block_i hh (by rw [HZL.out]; rw [Nat.mul_one] at h4; exact h4)
    have hgl : g < w1.heap.size := (Array.getElem?_eq_some_iff.1 hh).1
    have hS := HS.out g cap w1 hH hgl
    rw [HZL.out] at hS
    have hS' := Lib.hid hS
    have hH' := Lib.hid hH
    clear hH h4 h3 hS
    go_wp2_with fail
    refine hS'.out.mono ?_
    rintro e w2 ⟨rfl, m, os, rfl⟩
    have hgr := grownBy_sorted_i (w := w1) (g := g) (n := m) (os := os) zt.toArray
    have hb2 := hb.grown hgr hb.size (fun j hj => by cases hj; exact hg)
    have hz : Holds (Value.int .i64) (grow (putRow (Value.int .i64) (Sort.ahead w1 m) g 0 zt.toArray) os) g 0 zt.toArray :=
      holds_grow (holds_putRow _ _ g 0 zs.toArray zt.toArray (fun j hj => hH'.out j hj) (by simp [HZL.out, HZS.out])) (by simpa [putRow, mapBlock, Sort.ahead] using hgl)
    have hz' := Lib.hid hz
    have hb2' : Below w.heap.size w (grow (putRow (Value.int .i64) (Sort.ahead w1 m) g 0 zt.toArray) os) := hb2
    clear hz hgr hb2 hH' hS' hb hh
    generalize grow (putRow (Value.int .i64) (Sort.ahead w1 m) g 0 zt.toArray) os = w2 at *
    go_wp2
    go_ret
    refine ⟨_, rfl, ?_, hb2'⟩
    by_cases hx0 : 0 < xs.length
    · obtain ⟨b, hb1, hb2, hb3⟩ := HF.out hx0
      refine Or.inr ⟨g, cap, b, rfl, hx0, ?_, hb1, hb2⟩
      have := (hz'.out 0 (by simp [HZS.out]; omega)).1
      rw [Nat.zero_add] at this
      rw [this]
      simp only [List.getElem!_toArray]
      rw [getElem!_pos _ 0 (by rw [HZS.out]; omega)]
      rw [List.getElem?_eq_getElem (by rw [HZS.out]; omega)] at hb3
      simp at hb3
      rw [hb3]
    · have h0 : xs = [] := List.eq_nil_of_length_eq_zero (by omega)
      subst h0
      exact Or.inl ⟨rfl, _, _, rfl⟩

theorem Partner_bad (n a : Int) (h : vldB n a = false) (w : World) :
    Calls Tryd.prog 10 #[.int .i64 n, .int .i64 a] w fun e w' => e = .returned (.tuple #[.int .i64 0, .int .i64 2]) ∧ Below w.heap.size w w' := by
  have HV := Lib.hid (valid1 n a _ h)
  clear h
  go_enter Tryd.func10, Tryd.ntmps10
  go_wp2_with (go_at_call 15; refine (HV.out _ _ _ (cell_at rfl)).mono ?_; rintro e w' ⟨rfl, rfl⟩)
  go_ret2
  exact ⟨rfl, below_two _ _⟩

/-- What Partner returns, out of the list of the partners. -/
def PartnerIs (xs : List Nat) (e : Ending) : Prop :=
  (xs = [] ∧ e = .returned (.tuple #[.int .i64 0, .int .i64 4])) ∨ ∃ b : Nat, b ∈ xs ∧ (∀ x ∈ xs, b ≤ x) ∧ e = .returned (.tuple #[.int .i64 b, .int .i64 0])

theorem Partner_ok (n a : Nat) (hn : 2 ≤ n) (hn2 : n ≤ 24) (ha : a < 2 ^ n) (ha1 : a % 2 = 1) (w : World) (hT : Tab w) :
    Calls Tryd.prog 10 #[.int .i64 n, .int .i64 a] w fun e w' => PartnerIs (partners n a) e ∧ Below w.heap.size w w' := by
  have HV := Lib.hid (valid1 n a true (vldB_of_nat hn hn2 ha ha1))
  have HI := Lib.hid (partners_any (n : Int) (a : Int))
  obtain ⟨W, hW⟩ : ∃ W, ((w.alloc (.cells #[.int .i64 a] 3)).alloc (.cells #[.int .i64 n] 3)).alloc (.cells #[.int .i64 a] 3) = W := ⟨_, rfl⟩
  have hBW : Below w.heap.size w W := by rw [← hW]; exact (((Below.refl _ w).alloc (Nat.le_refl _) _).alloc (by simp) _).alloc (by simp; omega) _
  have c0 : W.cell? ⟨w.heap.size + 1 + 1, 0, none⟩ = some (.int .i64 a) := by rw [← hW]; exact cell_at (by simp)
  have c1 : W.cell? ⟨w.heap.size + 1, 0, none⟩ = some (.int .i64 n) := by rw [← hW]; exact cell_up (cell_at (by simp))
  have HS := Lib.hid (sortedP_any n a (w.heap.size + 1) (w.heap.size + 1 + 1) hn hn2 ha ha1 W (hT.same hBW) c1 c0)
  have HW := Lib.hid hW
  clear hT c0 c1 hW ha
  generalize partners n a = xs at HS
  go_enter Tryd.func10, Tryd.ntmps10
  go_wp2_with (go_at_call 15; refine (HV.out _ _ _ (cell_at rfl)).mono ?_; rintro e w' ⟨rfl, rfl⟩)
  refine (HI.out _).mono ?_
  rintro e w1 ⟨rfl, hw1⟩
  rw [World.size_alloc]
  obtain rfl : W = w1 := by rw [← hw1, ← HW.out]
  clear hw1
  go_wp2_with fail
  refine HS.out.mono ?_
  rintro e w2 ⟨v, rfl, (⟨rfl, ad, cap, rfl⟩ | ⟨g, cap, b, rfl, hl, hc, hb1, hb2⟩), hb⟩
  · have hbb := hBW.trans (hb.mono hBW.size)
    go_wp2
    go_ret2
    exact ⟨Or.inl ⟨rfl, rfl⟩, hbb⟩
  · have hbb := hBW.trans (hb.mono hBW.size)
    have HB1 := Lib.hid hb1
    have HB2 := Lib.hid hb2
    clear hb1 hb2
    generalize xs.length = L at hl
    go_wp2
    go_ret2
    exact ⟨Or.inr ⟨b, HB1.out, HB2.out, rfl⟩, hbb⟩

end Go.Proofs.YtbdmljakdjdjkaaDoor.Za

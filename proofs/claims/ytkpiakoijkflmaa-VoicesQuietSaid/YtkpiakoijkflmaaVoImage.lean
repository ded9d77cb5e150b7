/-
  The reference's images.
-/
import Derived.Test.YtkpiakoijkflmaaVoRise
namespace Go.Proofs.Ytkpiakoijkflmaa
open Go.ChangeShapes Go.WideShapes Go.ChangeAt Go.RowKit
set_option maxRecDepth 100000

def imK (n k : Nat) (t : Bool) (us : List Nat) (j : Nat) : List Int := natI ((us.take j).map (imN n k t))
theorem imK_succ (n k : Nat) (t : Bool) {us : List Nat} {j : Nat} (h : j < us.length) : imK n k t us (j + 1) = imK n k t us j ++ [((imN n k t (us[j]?.getD 0) : Nat) : Int)] := by
  unfold imK
  rw [List.take_succ_eq_append_getElem h, List.map_append, natI_append, List.getElem?_eq_getElem h]; rfl
theorem im_plain {n k x : Nat} : ((x : Int) + (k : Int)) % (n : Int) = ((imN n k false x : Nat) : Int) := by
  unfold imN; simp
theorem im_turned {n k x : Nat} (hx : x < n) : (-(x : Int) + (k : Int)) % (n : Int) = ((imN n k true x : Nat) : Int) := by
  unfold imN
  rw [if_pos rfl]
  have e : (-(x : Int) + (k : Int)) = ((n - x + k : Nat) : Int) - n := by omega
  rw [e, Int.sub_emod_right]; exact_mod_cast rfl
theorem imL_lt {n : Nat} (h : 0 < n) (k : Nat) (t : Bool) (us : List Nat) : ∀ x ∈ us.map (imN n k t), x < n := by
  intro x hx
  obtain ⟨y, _, rfl⟩ := List.mem_map.1 hx
  exact imN_lt h k t y

set_option maxHeartbeats 2000000 in
theorem RImage_any (n k : Nat) (t : Bool) (us : List Nat) (hn0 : 1 ≤ n) (hn : n ≤ 16) (hk : k < n) (hl : us.length ≤ 6) (hu : ∀ x ∈ us, x < n) (v : Value) (w : World) (h : IntsV w v (natI us)) :
    Calls Try.prog 45 #[.int .i64 n, v, .int .i64 k, .bool t] w fun e w' => ∃ v', e = .returned v' ∧ IntsV w' v' (natI (riseT (us.map (imN n k t)))) ∧ Below w.heap.size w w' := by
  obtain ⟨i0, hi, hz0, hz1, hz2⟩ := info_parts info_intV
  have H0 := Lib.hid h
  have HRi := Lib.hid (fun u W (hW : IntsV W u (natI (us.map (imN n k t)))) => RRising_any (us.map (imN n k t)) (by simp; omega) (fun x hx => by have := imL_lt (show 0 < n by omega) k t us x hx; omega) u W hW)
  have HS := Lib.hid (fun j hj => imK_succ n k t (us := us) (j := j) hj)
  have HE := Lib.hid (show imK n k t us us.length = natI (us.map (imN n k t)) by unfold imK; rw [List.take_length])
  have HM := Lib.hid (fun x => vrefmod_any x n (by omega) (by omega))
  have HX := Lib.hid (fun j => getD_lt hu (show 0 < n by omega) j)
  have HP := Lib.hid (fun x => im_plain (n := n) (k := k) (x := x))
  have HTu := Lib.hid (fun x hx => im_turned (n := n) (k := k) (x := x) hx)
  have HLk := Lib.hid (fun j (hj : j ≤ us.length) => show (imK n k t us j).length = j by unfold imK; rw [natI_length, List.length_map, List.length_take]; omega)
  obtain ⟨ao, cap, rfl, hlc, hc⟩ := h
  simp only [natI_length] at *
  have HC := Lib.hid (fun (j : Nat) (hj : j < us.length) W (hW : Below w.heap.size w W) => show ∃ b off, ao = some ⟨b, off, none⟩ ∧ W.cell? ⟨b, off + j, none⟩ = some (.int .i64 ((us[j]?.getD 0 : Nat) : Int)) from by
    obtain ⟨b, off, e, hd⟩ := hc (by omega)
    exact ⟨b, off, e, cell_later hW ((hd j hj).trans (by rw [natI_at]))⟩)
  clear hc hu H0
  generalize natI (riseT (us.map (imN n k t))) = res at *
  generalize us.length = m at *
  obtain ⟨H, hH⟩ : ∃ H, w.heap.size = H := ⟨_, rfl⟩
  rw [hH] at HC
  rw [hH]
  have HH := Lib.hid hH
  clear hH
  go_enter Try.func45, Try.ntmps45
  go_wp2
  go_loopw [9, 14] (fun o i wr => ∃ (j : Nat), j ≤ m ∧ i = .int .i64 j ∧ wr.ownsRow H 3 1 o j (ivals (imK n k t us j)) ∧ Below H w wr) (fun _ i _ => m - (intOf i).toNat)
  case atStart => exact ⟨0, Nat.zero_le _, rfl, World.ownsRow_nil _ _ _ _, by rw [← HH.out]; exact Below.refl _ _⟩
  case round =>
    obtain ⟨j, hj, rfl, hown, hb⟩ := hrel
    have HBw := Lib.hid hb
    have HO := Lib.hid hown
    have hle : H ≤ wr.heap.size := by have := HH.out; have := hb.size; omega
    clear hb hown
    by_cases hlk : j < m
    · obtain ⟨b, off, rfl, cj⟩ := HC.out j hlk wr HBw.out
      have hx := HX.out j
      have HSj := Lib.hid (HS.out j hlk)
      have hll := HLk.out j hj
      generalize us[j]?.getD 0 = x at cj hx HSj
      cases t
      · have HMj := Lib.hid (HM.out ((x : Int) + (k : Int)))
        rw [HP.out] at HMj
        generalize imN n k false x = y at HMj HSj
        clear hll
        go_wp2_with fail
        refine (HMj.out _).mono ?_
        rintro e w1 ⟨rfl, rfl⟩
        go_wp2_with (at_builtin; refine wpList_append_own _ rfl _ _ 22 rfl H 3 i0 (.int .i64 0) 1 8 Try.underlying22 hi hz0 hz1 hz2 rfl (by decide) _ _ _ rfl (HO.out.alloc _) ⟨wr.heap.size, 0, none⟩ 1 1 [.int .i64 y] rfl rfl (cell_one_new _ _ _) (by simp [Value.oneCell']) (by unfold maxLen; omega) (by omega) (by simp; omega) ?_; intro v' w2 hown1 hgrow1 hnil1)
        go_roundw
        case rel => exact ⟨j + 1, by omega, by go_num, by rw [HSj.out]; unfold ivals at hown1 ⊢; rw [List.map_append]; exact hown1, (HBw.out.alloc (by omega) _).grown hgrow1 (by simp; omega) (fun q e => (HO.out.lt q e).1)⟩
        case measure => simp only [intOf]; omega
      · have HMj := Lib.hid (HM.out (-(x : Int) + (k : Int)))
        rw [HTu.out x hx] at HMj
        generalize imN n k true x = y at HMj HSj
        clear hll
        go_wp2_with fail
        refine (HMj.out _).mono ?_
        rintro e w1 ⟨rfl, rfl⟩
        go_wp2_with (at_builtin; refine wpList_append_own _ rfl _ _ 22 rfl H 3 i0 (.int .i64 0) 1 8 Try.underlying22 hi hz0 hz1 hz2 rfl (by decide) _ _ _ rfl (HO.out.alloc _) ⟨wr.heap.size, 0, none⟩ 1 1 [.int .i64 y] rfl rfl (cell_one_new _ _ _) (by simp [Value.oneCell']) (by unfold maxLen; omega) (by omega) (by simp; omega) ?_; intro v' w2 hown1 hgrow1 hnil1)
        go_roundw
        case rel => exact ⟨j + 1, by omega, by go_num, by rw [HSj.out]; unfold ivals at hown1 ⊢; rw [List.map_append]; exact hown1, (HBw.out.alloc (by omega) _).grown hgrow1 (by simp; omega) (fun q e => (HO.out.lt q e).1)⟩
        case measure => simp only [intOf]; omega
    · obtain rfl : j = m := by omega
      rw [HE.out] at HO
      have HRj := Lib.hid (HRi.out _ wr (IntsV.of_vals HO.out))
      go_wp2_with fail
      refine HRj.out.mono ?_
      rintro e w2 ⟨v', rfl, i2, b2⟩
      have I2 := Lib.hid i2
      clear i2
      go_wp2
      go_ret
      exact ⟨_, rfl, I2.out, HBw.out.trans (b2.mono hle)⟩
end Go.Proofs.Ytkpiakoijkflmaa

/-
  powers of package canon.
-/
import Derived.Test.YtmcdelabcmnfiaaDoorCaIsRoot
namespace Go.Proofs.YtmcdelabcmnfiaaDoor
open Go.RowKit Go.Shelf
attribute [local go_sem] Oper.semAt_some
set_option maxRecDepth 100000

theorem owns_later {W W' : World} {lo k : Nat} {e : TypeId} {v : Value} {xs : List Value} (h : W.ownsRow lo e 1 v k xs) (hb : Below W.heap.size W W') : W'.ownsRow lo e 1 v k xs := by
  refine ⟨h.1, ?_⟩
  rcases h.2 with hn | ⟨g, cap, cur, hv, hg, hh, rest⟩
  · exact .inl hn
  · exact .inr ⟨g, cap, cur, hv, hg, (hb.block g (Array.getElem?_eq_some_iff.1 hh).1).trans hh, rest⟩

/-- Two slices that lie in blocks of their own. -/
def Sepv (v u : Value) : Prop := ∀ b, v.ownBlock = some b → u.ownBlock ≠ some b
theorem Sepv.symm {v u : Value} (h : Sepv v u) : Sepv u v := fun b hb hv => h b hv hb
theorem Sepv.ne {v u : Value} (h : Sepv v u) : u.ownBlock = none ∨ u.ownBlock ≠ v.ownBlock := by
  cases hu : u.ownBlock with
  | none => exact .inl rfl
  | some b => exact .inr (fun e => h b e.symm hu)
theorem Sepv.new {v u v' : Value} {m : Nat} (h : Sepv v u) (hb : v'.ownBlock = v.ownBlock ∨ v'.ownBlock = some m) (hu : ∀ k, u.ownBlock = some k → k < m) : Sepv v' u := by
  intro b hb'
  rcases hb with e | e
  · exact h b (e ▸ hb')
  · rw [e] at hb'; cases hb'
    intro hc; have := hu _ hc; omega

set_option maxHeartbeats 1000000 in
theorem powers_any (n a p : Nat) (h1 : 1 ≤ n) (h2 : n ≤ 24) (h3 : 2 ≤ p) (h4 : p ≤ 24) (ha : a < 2 ^ 24) (w : World) (hT : Tab w) :
    Calls Tryd.prog 76 #[.int .i64 n, .int .i64 a, .int .i64 p] w fun e w' => ∃ v u, e = .returned (.tuple #[v, u]) ∧ IntsAt w' w.heap.size v (rootsP n a p) ∧ IntsAt w' w.heap.size u (othersP n a p) ∧ Below w.heap.size w w' := by
  obtain ⟨i0, hi, hz0, hz1, hz2⟩ := info_parts info_intR
  have HR := Lib.hid (fun s (hs : 2 ≤ s) (hs2 : s ≤ 24) W (h : Tab W) => isRoot_any a s ha hs hs2 W h)
  have HP := Lib.hid (fun k hk h => pow_all (k := k) h1 h2 h3 h4 hk h)
  have HTl := Lib.hid hT
  obtain ⟨H, hH⟩ : ∃ H, w.heap.size = H := ⟨_, rfl⟩
  have hHle : H ≤ w.heap.size := by omega
  have hTs := hT.size
  have HTb : Hid (∀ W, Below H w W → Tab W) := Lib.hid (fun W h => hT.below h (by omega))
  rw [hH]
  clear hH hT
  go_enter Tryd.func76, Tryd.ntmps76
  go_wp2
  go_loopw [6, 7, 8] (fun v u s wr => ∃ k : Nat, k < 5 ∧ s = .int .i64 (p ^ (k + 1) : Nat) ∧ ((powTo p k).all fun s => n % s == 0) = true ∧ wr.ownsRow H 3 1 v ((powTo p k).filter (rootB a)).length (ints ((powTo p k).filter (rootB a))) ∧ wr.ownsRow H 3 1 u ((powTo p k).filter fun s => !rootB a s).length (ints ((powTo p k).filter fun s => !rootB a s)) ∧ Sepv v u ∧ Below H w wr) (fun _ _ s _ => 1000 - (intOf s).toNat)
  case atStart => exact ⟨0, by omega, by simp, rfl, World.ownsRow_nil _ _ _ _, World.ownsRow_nil _ _ _ _, fun b hb => by simp [Value.ownBlock] at hb, Below.refl _ _⟩
  case round =>
    obtain ⟨k, hk, rfl, hall, hv, hu, hsep, hB⟩ := hrel
    obtain ⟨q1, q2, q3, q4⟩ := HP.out k hk hall
    have hsn := powTo_succ p k
    have hlen : (powTo p k).length = k := by unfold powTo; simp
    have hl1 : ((powTo p k).filter (rootB a)).length ≤ 5 := Nat.le_trans (List.length_filter_le _ _) (by omega)
    have hl2 : ((powTo p k).filter fun s => !rootB a s).length ≤ 5 := Nat.le_trans (List.length_filter_le _ _) (by omega)
    have hpw : p ^ (k + 1 + 1) = p ^ (k + 1) * p := Nat.pow_succ ..
    have HV := Lib.hid hv
    have HU := Lib.hid hu
    have HS := Lib.hid hsep
    have HA := Lib.hid hall
    have HSn := Lib.hid hsn
    have HB := Lib.hid hB
    have hsz : H ≤ wr.heap.size := Nat.le_trans hHle hB.size
    clear hv hu hsep hall hsn hB hlen
    obtain ⟨S, hS⟩ : ∃ S, p ^ (k + 1) = S := ⟨_, rfl⟩
    rw [hS] at q1 q2 q3 q4 HSn hpw ⊢
    have hSz : ((S : Int) == 0) = false := by rw [beq_eq_false_iff_ne]; omega
    by_cases h0 : n % S = 0
    · obtain ⟨r1, r2⟩ := q3 h0
      have HRs := Lib.hid (HR.out S q2 r2 _ (HTb.out _ HB.out))
      have qq : ((n : Int) % (S : Int) == 0) = true := by rw [beq_iff_eq]; omega
      have hmul : (S : Int) * (p : Int) = ((p ^ (k + 1 + 1) : Nat) : Int) := by rw [hpw]; simp
      have hSp : p ^ (k + 1 + 1) ≤ 576 ∧ S < p ^ (k + 1 + 1) := by
        rw [hpw]
        have := Nat.mul_le_mul r2 h4
        have h5 := Nat.mul_le_mul (Nat.le_refl S) h3
        omega
      have HA2 : Hid (((powTo p (k + 1)).all fun s => n % s == 0) = true) := Lib.hid (by
        rw [HSn.out, List.all_append, HA.out]; simp [h0])
      obtain ⟨S2, hS2⟩ : ∃ S2, p ^ (k + 1 + 1) = S2 := ⟨_, rfl⟩
      rw [hS2] at hmul hSp
      have HS2 := Lib.hid hS2
      clear q3 q4 h0 hpw hS2
      cases hrb : rootB a S
      · rw [hrb] at HRs
        have e1 := Lib.hid (show (powTo p (k + 1)).filter (rootB a) = (powTo p k).filter (rootB a) by rw [HSn.out, List.filter_append]; simp [hrb])
        have e2 := Lib.hid (show ((powTo p (k + 1)).filter fun s => !rootB a s) = ((powTo p k).filter fun s => !rootB a s) ++ [S] by rw [HSn.out, List.filter_append]; simp [hrb])
        clear hrb
        go_wp2_with fail
        refine HRs.out.mono ?_
        rintro e w1 ⟨rfl, b1⟩
        have hV1 := Lib.hid (owns_later HV.out b1)
        have hU1 := Lib.hid (owns_later HU.out b1)
        have hB1 := Lib.hid (HB.out.trans (b1.mono hsz))
        have hsz1 := b1.size
        clear b1 HRs
        go_wp2_with (first | (at_builtin; refine wpList_append_own_at _ rfl _ _ 22 rfl H 3 i0 (.int .i64 0) 1 8 Tryd.underlying22 hi hz0 hz1 hz2 rfl (by decide) _ _ _ rfl (hU1.out.alloc _) ⟨w1.heap.size, 0, none⟩ 1 1 [.int .i64 S] rfl rfl (cell_one_new _ _ _) (by simp [Value.oneCell']) (by unfold maxLen; omega) (by omega) (by simp; omega) ?_; intro v' w2 hown1 hgrow1 hnil1 hblk))
        go_roundw
        case rel => exact ⟨k + 1, by omega, by rw [HS2.out], HA2.out, by rw [e1.out]; exact (hV1.out.alloc _).kept hgrow1 HS.out.symm.ne, by rw [e2.out]; simp only [List.length_append, List.length_singleton]; unfold ints at hown1 ⊢; rw [List.map_append]; exact hown1,
          (Sepv.new HS.out.symm hblk (fun q e => by have := (hV1.out.lt q e).2; simp; omega)).symm, (hB1.out.alloc (by omega) _).grown hgrow1 (by simp; omega) (fun q e => (hU1.out.lt q e).1)⟩
        case measure => simp only [intOf]; omega
      · rw [hrb] at HRs
        have e1 := Lib.hid (show (powTo p (k + 1)).filter (rootB a) = (powTo p k).filter (rootB a) ++ [S] by rw [HSn.out, List.filter_append]; simp [hrb])
        have e2 := Lib.hid (show ((powTo p (k + 1)).filter fun s => !rootB a s) = ((powTo p k).filter fun s => !rootB a s) by rw [HSn.out, List.filter_append]; simp [hrb])
        clear hrb
        go_wp2_with fail
        refine HRs.out.mono ?_
        rintro e w1 ⟨rfl, b1⟩
        have hV1 := Lib.hid (owns_later HV.out b1)
        have hU1 := Lib.hid (owns_later HU.out b1)
        have hB1 := Lib.hid (HB.out.trans (b1.mono hsz))
        have hsz1 := b1.size
        clear b1 HRs
        go_wp2_with (first | (at_builtin; refine wpList_append_own_at _ rfl _ _ 22 rfl H 3 i0 (.int .i64 0) 1 8 Tryd.underlying22 hi hz0 hz1 hz2 rfl (by decide) _ _ _ rfl (hV1.out.alloc _) ⟨w1.heap.size, 0, none⟩ 1 1 [.int .i64 S] rfl rfl (cell_one_new _ _ _) (by simp [Value.oneCell']) (by unfold maxLen; omega) (by omega) (by simp; omega) ?_; intro v' w2 hown1 hgrow1 hnil1 hblk))
        go_roundw
        case rel => exact ⟨k + 1, by omega, by rw [HS2.out], HA2.out, by rw [e1.out]; simp only [List.length_append, List.length_singleton]; unfold ints at hown1 ⊢; rw [List.map_append]; exact hown1, by rw [e2.out]; exact (hU1.out.alloc _).kept hgrow1 HS.out.ne,
          Sepv.new HS.out hblk (fun q e => by have := (hU1.out.lt q e).2; simp; omega), (hB1.out.alloc (by omega) _).grown hgrow1 (by simp; omega) (fun q e => (hV1.out.lt q e).1)⟩
        case measure => simp only [intOf]; omega
    · have qq : ((n : Int) % (S : Int) == 0) = false := by rw [beq_eq_false_iff_ne]; omega
      have hE := Lib.hid (q4 h0)
      have o1 := Lib.hid (IntsAt.of_own HV.out)
      have o2 := Lib.hid (IntsAt.of_own HU.out)
      clear q3 q4 h0 hpw
      go_wp2
      go_ret2
      refine ⟨_, _, rfl, ?_, ?_, HB.out⟩
      · unfold rootsP; rw [← hE.out]; exact o1.out
      · unfold othersP; rw [← hE.out]; exact o2.out
end Go.Proofs.YtmcdelabcmnfiaaDoor

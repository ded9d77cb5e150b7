/-
  Contracts of the small functions of package triads and of its reference that only reckon.
-/
import Derived.Test.YtibkhjbcagihbaaDoorRows
import Derived.Test.YtibkhjbcagihbaaDoorBits
import Derived.Test.YtibkhjbcagihbaaDoorTrMath
import Derived.WalkKit
import Derived.ProofKit
import Derived.OpenShut
import Derived.Deep.QuietTactic
import Derived.BigQuiet
import Derived.IntWalk
import Derived.Lib.Hide
import Derived.WalkLawsBesides
import Derived.WalkSpells
namespace Go.Proofs.YtibkhjbcagihbaaDoor
open Go.ChangeShapes Go.WideShapes Go.ChangeAt Go.RowKit
set_option maxRecDepth 100000

theorem ret_int {k : IntKind} {a b : Int} (h : a = b) : Ending.returned (.int k a) = .returned (.int k b) := by rw [h]
theorem ret_bool {a b : Bool} (h : a = b) : Ending.returned (.bool a) = .returned (.bool b) := by rw [h]

/-- Go's remainder, made not negative. -/
theorem mod_fix (x n : Int) : (x.tmod n + n) % n = x % n := by
  rw [Int.add_emod_right]
  have : x.tmod n = x - n * (x.tdiv n) := by have := Int.mul_tdiv_add_tmod x n; omega
  rw [this, Int.sub_mul_emod_self_left]

theorem modulo_any (x n : Int) (h0 : 1 ≤ n) (h1 : n ≤ 4294967296) (w : World) :
    Calls Tryd.prog 31 #[.int .i64 x, .int .i64 n] w fun e w' => e = .returned (.int .i64 (x % n)) ∧ w = w' := by
  have h2 : x.tmod n < n := Int.tmod_lt_of_pos x (by omega)
  have h3 : -n < x.tmod n := Int.lt_tmod_of_pos x (by omega)
  have H := Lib.hid (mod_fix x n)
  go_enter Tryd.func31, Tryd.ntmps31
  go_wp2
  go_ret
  exact ⟨ret_int H.out, rfl⟩

theorem refmod_any (x n : Int) (h0 : 1 ≤ n) (h1 : n ≤ 4294967296) (w : World) :
    Calls Tryd.prog 24 #[.int .i64 x, .int .i64 n] w fun e w' => e = .returned (.int .i64 (x % n)) ∧ w = w' := by
  have h2 : x.tmod n < n := Int.tmod_lt_of_pos x (by omega)
  have h3 : -n < x.tmod n := Int.lt_tmod_of_pos x (by omega)
  have H := Lib.hid (mod_fix x n)
  go_enter Tryd.func24, Tryd.ntmps24
  go_wp2
  go_ret
  exact ⟨ret_int H.out, rfl⟩

/-! ### Kinds -/
/-- A Kind as a value. -/
abbrev kv (n a b : Int) : Value := .agg #[.int .i64 n, .int .i64 a, .int .i64 b]

/-- What a Kind is. -/
def kindB (n a b : Int) : Bool := decide (6 ≤ n ∧ n ≤ 16 ∧ 0 < a ∧ a < b ∧ b < n ∧ a ≠ b - a ∧ b - a ≠ n - b ∧ n - b ≠ a)

set_option maxHeartbeats 2000000 in
theorem isKind_any (n a b : Int) (w : World) :
    Calls Tryd.prog 37 #[kv n a b] w fun e w' => e = .returned (.bool (kindB n a b)) ∧ Below w.heap.size w w' := by
  have hal := Lib.hid ((Below.refl w.heap.size w).alloc (Nat.le_refl _) (.cells #[.int .i64 n, .int .i64 a, .int .i64 b] 27))
  have no : ¬ (6 ≤ n ∧ n ≤ 16 ∧ 0 < a ∧ a < b ∧ b < n) → Hid (kindB n a b = false) := fun h => Lib.hid (by unfold kindB; exact decide_eq_false (fun h' => h ⟨h'.1, h'.2.1, h'.2.2.1, h'.2.2.2.1, h'.2.2.2.2.1⟩))
  by_cases h1 : 6 ≤ n
  · by_cases h2 : n ≤ 16
    · by_cases h3 : 0 < a
      · by_cases h4 : a < b
        · by_cases h5 : b < n
          · clear no
            obtain ⟨r, hr⟩ : ∃ r, kindB n a b = r := ⟨_, rfl⟩
            have HR := Lib.hid (show (((a != b - a) && (b - a != n - b)) && (n - b != a)) = r by
              rw [← hr]; unfold kindB
              rw [Bool.eq_iff_iff, Bool.and_eq_true, Bool.and_eq_true, bne_iff_ne, bne_iff_ne, bne_iff_ne, decide_eq_true_eq]
              constructor
              · rintro ⟨⟨e1, e2⟩, e3⟩; exact ⟨h1, h2, h3, h4, h5, e1, e2, e3⟩
              · rintro ⟨_, _, _, _, _, e1, e2, e3⟩; exact ⟨⟨e1, e2⟩, e3⟩)
            rw [hr]
            clear hr
            by_cases e1 : a = b - a
            · have q1 : (a != b - a) = false := by rw [bne_eq_false_iff_eq]; exact e1
              have HR' := Lib.hid (show r = false by rw [← HR.out, q1]; rfl)
              clear HR e1
              go_enter Tryd.func37, Tryd.ntmps37
              go_wp2
              go_quiet (fail)
              go_wp2
              go_ret
              exact ⟨ret_bool HR'.out.symm, below_drewN hal.out _⟩
            · have q1 : (a != b - a) = true := by rw [bne_iff_ne]; exact e1
              by_cases e2 : b - a = n - b
              · have q2 : (b - a != n - b) = false := by rw [bne_eq_false_iff_eq]; exact e2
                have HR' := Lib.hid (show r = false by rw [← HR.out, q1, q2]; rfl)
                clear HR e1 e2
                go_enter Tryd.func37, Tryd.ntmps37
                go_wp2
                go_quiet (fail)
                go_wp2
                go_ret
                exact ⟨ret_bool HR'.out.symm, below_drewN hal.out _⟩
              · have q2 : (b - a != n - b) = true := by rw [bne_iff_ne]; exact e2
                by_cases e3 : n - b = a
                · have q3 : (n - b != a) = false := by rw [bne_eq_false_iff_eq]; exact e3
                  have HR' := Lib.hid (show r = false by rw [← HR.out, q1, q2, q3]; rfl)
                  clear HR e1 e2 e3
                  go_enter Tryd.func37, Tryd.ntmps37
                  go_wp2
                  go_quiet (fail)
                  go_wp2
                  go_ret
                  exact ⟨ret_bool HR'.out.symm, below_drewN hal.out _⟩
                · have q3 : (n - b != a) = true := by rw [bne_iff_ne]; exact e3
                  have HR' := Lib.hid (show r = true by rw [← HR.out, q1, q2, q3]; rfl)
                  clear HR e1 e2 e3
                  go_enter Tryd.func37, Tryd.ntmps37
                  go_wp2
                  go_quiet (fail)
                  go_wp2
                  go_ret
                  exact ⟨ret_bool HR'.out.symm, below_drewN hal.out _⟩
          · have H := no (by omega)
            clear no
            go_enter Tryd.func37, Tryd.ntmps37
            go_wp2
            go_ret
            exact ⟨ret_bool H.out.symm, hal.out⟩
        · have H := no (by omega)
          clear no
          go_enter Tryd.func37, Tryd.ntmps37
          go_wp2
          go_ret
          exact ⟨ret_bool H.out.symm, hal.out⟩
      · have H := no (by omega)
        clear no
        go_enter Tryd.func37, Tryd.ntmps37
        go_wp2
        go_ret
        exact ⟨ret_bool H.out.symm, hal.out⟩
    · have H := no (by omega)
      clear no
      go_enter Tryd.func37, Tryd.ntmps37
      go_wp2
      go_ret
      exact ⟨ret_bool H.out.symm, hal.out⟩
  · have H := no (by omega)
    clear no
    go_enter Tryd.func37, Tryd.ntmps37
    go_wp2
    go_ret
    exact ⟨ret_bool H.out.symm, hal.out⟩

theorem kindB_nat {n a b : Int} (h : kindB n a b = true) : ∃ n' a' b' : Nat, n = n' ∧ a = a' ∧ b = b' ∧ KOk n' a' b' := by
  unfold kindB at h
  have h' := of_decide_eq_true h
  obtain ⟨n', rfl⟩ := Int.eq_ofNat_of_zero_le (show 0 ≤ n by omega)
  obtain ⟨a', rfl⟩ := Int.eq_ofNat_of_zero_le (show 0 ≤ a by omega)
  obtain ⟨b', rfl⟩ := Int.eq_ofNat_of_zero_le (show 0 ≤ b by omega)
  exact ⟨n', a', b', rfl, rfl, rfl, by omega, by omega, by omega, by omega, by omega, by omega, by omega, by omega⟩
theorem kindB_of_nat {n a b : Nat} (h : KOk n a b) : kindB n a b = true := by
  obtain ⟨h1, h2, h3, h4, h5, h6, h7, h8⟩ := h
  unfold kindB
  exact decide_eq_true (by omega)

/-! ### valid -/
def triB (n t : Int) : Bool := decide (0 ≤ t ∧ t < 2 * n)
theorem cell_lat {w w' : World} {p : Addr} {v : Value} (hb : Below w.heap.size w w') (h : w.cell? p = some v) : w'.cell? p = some v := cell_later hb h
theorem below_nx {w w1 w2 : World} (h : Below w.heap.size w w1) (k : Below w1.heap.size w1 w2) : Below w.heap.size w w2 := h.trans (k.mono h.size)

theorem all_false {α : Type} {f : α → Bool} {ts : List α} {c : α} (h : c ∈ ts) (hv : f c = false) : false = ts.all f := by
  rw [eq_comm, List.all_eq_false]; exact ⟨c, h, by rw [hv]; simp⟩

set_option maxHeartbeats 2000000 in
theorem valid_any (n a b : Int) (ts : List Int) (bk cap : Nat) (w : World) (hl : ts.length < 2 ^ 40) (hc : ∀ i, i < ts.length → w.cell? ⟨bk, i, none⟩ = some (.int .i64 (ts[i]?.getD 0))) :
    Calls Tryd.prog 21 #[kv n a b, .slice (some ⟨bk, 0, none⟩) ts.length cap] w fun e w' => e = .returned (.bool (kindB n a b && ts.all (triB n))) ∧ Below w.heap.size w w' := by
  obtain ⟨W0, hW0⟩ : ∃ W0, w.alloc (.cells #[.int .i64 n, .int .i64 a, .int .i64 b] 27) = W0 := ⟨_, rfl⟩
  have b0 : Below w.heap.size w W0 := by rw [← hW0]; exact (Below.refl _ w).alloc (Nat.le_refl _) _
  have k0 : W0.cell? ⟨w.heap.size, 0, none⟩ = some (.int .i64 n) := by rw [← hW0]; simp
  have k1 : W0.cell? ⟨w.heap.size, 1, none⟩ = some (.int .i64 a) := by rw [← hW0]; simp
  have k2 : W0.cell? ⟨w.heap.size, 2, none⟩ = some (.int .i64 b) := by rw [← hW0]; simp
  have HW := Lib.hid hW0
  have HK := Lib.hid (isKind_any n a b W0)
  clear hW0
  cases hk : kindB n a b
  · rw [hk] at HK
    clear hc
    go_enter Tryd.func21, Tryd.ntmps21
    go_wp2_with fail
    rw [HW.out]
    refine HK.out.mono ?_
    rintro e w1 ⟨rfl, b1⟩
    go_wp2
    go_ret
    exact ⟨rfl, below_nx b0 b1⟩
  · rw [hk] at HK
    have hn : 6 ≤ n ∧ n ≤ 16 := by unfold kindB at hk; have := of_decide_eq_true hk; omega
    obtain ⟨hn1, hn2⟩ := hn
    clear hk
    go_enter Tryd.func21, Tryd.ntmps21
    go_wp2_with fail
    rw [HW.out]
    refine HK.out.mono ?_
    rintro e w1 ⟨rfl, b1⟩
    have HC := Lib.hid (fun i hi => cell_lat b1 (cell_lat b0 (hc i hi)))
    have k0 := cell_lat b1 k0
    clear hc
    have c1 := below_nx b0 b1
    go_wp2
    go_loop [6, 12] (fun _ i => ∃ k : Nat, k ≤ ts.length ∧ i = .int .i64 k ∧ (ts.take k).all (triB n) = true) (fun _ i => ts.length - (intOf i).toNat)
    case atStart => exact ⟨0, Nat.zero_le _, rfl, by simp⟩
    case round =>
      obtain ⟨k, hk, rfl, hall⟩ := hrel
      have HA := Lib.hid hall; clear hall
      by_cases hlt : k < ts.length
      · have hck := HC.out k hlt
        have HS : Hid (ts.take (k + 1) = ts.take k ++ [ts[k]?.getD 0]) := by
          rw [List.take_succ_eq_append_getElem hlt, List.getElem?_eq_getElem hlt]; rfl
        have HM : Hid (ts[k]?.getD 0 ∈ ts) := by
          rw [List.getElem?_eq_getElem hlt]; exact List.getElem_mem hlt
        generalize ts[k]?.getD 0 = c at hck HS HM
        by_cases h3 : c < 0
        · have HV := Lib.hid (show triB n c = false by unfold triB; exact decide_eq_false (fun h => by omega))
          go_wp2
          go_ret
          exact ⟨ret_bool (all_false HM.out HV.out), c1⟩
        · by_cases h4 : 2 * n ≤ c
          · have HV := Lib.hid (show triB n c = false by unfold triB; exact decide_eq_false (fun h => by omega))
            go_wp2
            go_ret
            exact ⟨ret_bool (all_false HM.out HV.out), c1⟩
          · have HV := Lib.hid (show triB n c = true by unfold triB; exact decide_eq_true ⟨by omega, by omega⟩)
            go_wp2
            go_round
            case rel => exact ⟨k + 1, by omega, by go_num, by rw [HS.out, List.all_append, HA.out]; simp [HV.out]⟩
            case measure => simp [intOf]; omega
      · go_wp2
        go_ret
        exact ⟨ret_bool (by have := HA.out; rw [List.take_of_length_le (by omega)] at this; exact this.symm), c1⟩

set_option maxHeartbeats 1000000 in
theorem valid0 (n a b : Int) (w : World) :
    Calls Tryd.prog 21 #[kv n a b, .slice none 0 0] w fun e w' => e = .returned (.bool (kindB n a b)) ∧ Below w.heap.size w w' := by
  obtain ⟨W0, hW0⟩ : ∃ W0, w.alloc (.cells #[.int .i64 n, .int .i64 a, .int .i64 b] 27) = W0 := ⟨_, rfl⟩
  have b0 : Below w.heap.size w W0 := by rw [← hW0]; exact (Below.refl _ w).alloc (Nat.le_refl _) _
  have k0 : W0.cell? ⟨w.heap.size, 0, none⟩ = some (.int .i64 n) := by rw [← hW0]; simp
  have k1 : W0.cell? ⟨w.heap.size, 1, none⟩ = some (.int .i64 a) := by rw [← hW0]; simp
  have k2 : W0.cell? ⟨w.heap.size, 2, none⟩ = some (.int .i64 b) := by rw [← hW0]; simp
  have HW := Lib.hid hW0
  have HK := Lib.hid (isKind_any n a b W0)
  clear hW0
  cases hk : kindB n a b
  · rw [hk] at HK
    go_enter Tryd.func21, Tryd.ntmps21
    go_wp2_with fail
    rw [HW.out]
    refine HK.out.mono ?_
    rintro e w1 ⟨rfl, b1⟩
    go_wp2
    go_ret
    exact ⟨rfl, below_nx b0 b1⟩
  · rw [hk] at HK
    clear hk
    go_enter Tryd.func21, Tryd.ntmps21
    go_wp2_with fail
    rw [HW.out]
    refine HK.out.mono ?_
    rintro e w1 ⟨rfl, b1⟩
    go_wp2
    go_loop [6, 12] (fun _ i => i = .int .i64 0) (fun _ _ => 0)
    case atStart => rfl
    case round =>
      obtain rfl := hrel
      go_wp2
      go_ret
      exact ⟨rfl, below_nx b0 b1⟩

theorem valid1 (n a b t : Int) (v : Bool) (h : (kindB n a b && triB n t) = v) (bk cap : Nat) (w : World) (hc : w.cell? ⟨bk, 0, none⟩ = some (.int .i64 t)) :
    Calls Tryd.prog 21 #[kv n a b, .slice (some ⟨bk, 0, none⟩) 1 cap] w fun e w' => e = .returned (.bool v) ∧ Below w.heap.size w w' := by
  refine (valid_any n a b [t] bk cap w (by simp) (fun i hi => ?_)).mono ?_
  · obtain rfl : i = 0 := by simpa using hi
    exact hc
  · rintro e w' ⟨rfl, hb⟩
    exact ⟨ret_bool (by rw [← h]; simp), hb⟩

theorem valid2 (n a b t u : Int) (v : Bool) (h : (kindB n a b && (triB n t && triB n u)) = v) (bk cap : Nat) (w : World) (hc : w.cell? ⟨bk, 0, none⟩ = some (.int .i64 t)) (hd : w.cell? ⟨bk, 1, none⟩ = some (.int .i64 u)) :
    Calls Tryd.prog 21 #[kv n a b, .slice (some ⟨bk, 0, none⟩) 2 cap] w fun e w' => e = .returned (.bool v) ∧ Below w.heap.size w w' := by
  refine (valid_any n a b [t, u] bk cap w (by simp) (fun i hi => ?_)).mono ?_
  · have : i = 0 ∨ i = 1 := by simp at hi; omega
    rcases this with rfl | rfl
    · exact hc
    · exact hd
  · rintro e w' ⟨rfl, hb⟩
    exact ⟨ret_bool (by rw [← h]; simp), hb⟩
end Go.Proofs.YtibkhjbcagihbaaDoor

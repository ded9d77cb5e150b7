/-
  Find of package triads.
-/
import Derived.Test.YtibkhjbcagihbaaDoorTrTonesRef
import Derived.Test.YtibkhjbcagihbaaDoorTrTonesFns
namespace Go.Proofs.YtibkhjbcagihbaaDoor
open Go.ChangeShapes Go.WideShapes Go.ChangeAt Go.RowKit Go.Shelf
set_option maxRecDepth 100000

abbrev laidK (w : World) (n a b : Int) : World := w.alloc (kcells n a b)
theorem below_laidK (w : World) (n a b : Int) : Below w.heap.size w (laidK w n a b) := (Below.refl w.heap.size w).alloc (Nat.le_refl _) _
theorem pow_nat (n : Nat) : (2 : Int) ^ n = ((2 ^ n : Nat) : Int) := by simp

theorem Find_kind (n a b s : Int) (h : kindB n a b = false) (w : World) :
    Calls Tryd.prog 7 #[kv n a b, .int .i64 s] w fun e w' => e = .returned (.tuple #[.int .i64 0, .int .i64 2]) ∧ Below w.heap.size w w' := by
  have HV := Lib.hid (valid0 n a b (laidK w n a b))
  rw [h] at HV
  have HA := Lib.hid (below_laidK w n a b)
  clear h
  go_enter Tryd.func7, Tryd.ntmps7
  go_wp2_with fail
  refine HV.out.mono ?_
  rintro e w1 ⟨rfl, b1⟩
  go_wp2
  go_ret2
  exact ⟨rfl, below_nx HA.out b1⟩

theorem Find_neg (n a b : Nat) (s : Int) (hk : KOk n a b) (hs : s < 0) (w : World) :
    Calls Tryd.prog 7 #[kv n a b, .int .i64 s] w fun e w' => e = .returned (.tuple #[.int .i64 0, .int .i64 2]) ∧ Below w.heap.size w w' := by
  have HV := Lib.hid (valid0 n a b (laidK w n a b))
  rw [kindB_of_nat hk] at HV
  have HA := Lib.hid (below_laidK w n a b)
  clear hk
  go_enter Tryd.func7, Tryd.ntmps7
  go_wp2_with fail
  refine HV.out.mono ?_
  rintro e w1 ⟨rfl, b1⟩
  go_wp2
  go_ret2
  exact ⟨rfl, below_nx HA.out b1⟩

theorem Find_high (n a b : Nat) (s : Int) (hk : KOk n a b) (hs : 0 ≤ s) (hs2 : (2 : Int) ^ n ≤ s) (w : World) :
    Calls Tryd.prog 7 #[kv n a b, .int .i64 s] w fun e w' => e = .returned (.tuple #[.int .i64 0, .int .i64 2]) ∧ Below w.heap.size w w' := by
  have HV := Lib.hid (valid0 n a b (laidK w n a b))
  rw [kindB_of_nat hk] at HV
  have HA := Lib.hid (below_laidK w n a b)
  have h16 := hk.h16
  have hp := pow_bd (n : Int) (by omega) (by omega)
  rw [Int.toNat_natCast] at hp
  have hs3 : ¬ s < 0 := by omega
  have k0 : (laidK w n a b).cell? ⟨w.heap.size, 0, none⟩ = some (.int .i64 n) := by simp
  clear hk
  go_enter Tryd.func7, Tryd.ntmps7
  go_wp2_with fail
  refine HV.out.mono ?_
  rintro e w1 ⟨rfl, b1⟩
  have k0 := cell_later b1 k0
  go_wp2
  go_ret2
  exact ⟨rfl, below_nx HA.out b1⟩

theorem Find_ok (n a b s : Nat) (hk : KOk n a b) (hs : s < 2 ^ n) (w : World) (hT : Tab w) :
    Calls Tryd.prog 7 #[kv n a b, .int .i64 s] w fun e w' => (∃ r x : Nat, FindIs n a b s r x ∧ e = .returned (.tuple #[.int .i64 r, .int .i64 x])) ∧ Below w.heap.size w w' := by
  have HV := Lib.hid (valid0 n a b (laidK w n a b))
  rw [kindB_of_nat hk] at HV
  have HA := Lib.hid (below_laidK w n a b)
  have h16 := hk.h16
  have hp := pow_bd (n : Int) (by omega) (by omega)
  rw [Int.toNat_natCast] at hp
  have hs3 : ¬ (s : Int) < 0 := by omega
  have hs4 : ¬ (2 : Int) ^ n ≤ (s : Int) := by rw [pow_nat]; omega
  have hTL := Lib.hid (hT.same (below_laidK w n a b))
  have HF := Lib.hid (fun W h => find_any n a b s hk hs W h)
  have k0 : (laidK w n a b).cell? ⟨w.heap.size, 0, none⟩ = some (.int .i64 n) := by simp
  have k1 : (laidK w n a b).cell? ⟨w.heap.size, 1, none⟩ = some (.int .i64 a) := by simp
  have k2 : (laidK w n a b).cell? ⟨w.heap.size, 2, none⟩ = some (.int .i64 b) := by simp
  clear hk hs hT
  go_enter Tryd.func7, Tryd.ntmps7
  go_wp2_with fail
  refine HV.out.mono ?_
  rintro e w1 ⟨rfl, b1⟩
  have k0 := cell_later b1 k0
  have k1 := cell_later b1 k1
  have k2 := cell_later b1 k2
  have HT1 := Lib.hid (hTL.out.same b1)
  have HA1 := Lib.hid (below_nx HA.out b1)
  go_wp2_with fail
  refine (HF.out _ HT1.out).mono ?_
  rintro e w2 ⟨⟨r, x, hF, rfl⟩, b2⟩
  have HFi := Lib.hid hF
  clear hF
  go_wp2
  go_ret2
  exact ⟨⟨r, x, HFi.out, rfl⟩, below_nx HA1.out b2⟩
end Go.Proofs.YtibkhjbcagihbaaDoor

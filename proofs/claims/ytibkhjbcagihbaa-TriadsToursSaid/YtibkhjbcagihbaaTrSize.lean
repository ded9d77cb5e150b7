/-
  Size and Way of package triads.
-/
import Derived.Test.YtibkhjbcagihbaaTrWays
namespace Go.Proofs.Ytibkhjbcagihbaa
open Go.ChangeShapes Go.WideShapes Go.ChangeAt Go.RowKit
set_option maxRecDepth 100000

abbrev lprL : List Nat := [76, 80, 82]
theorem bsN_lpr : bsN ⟨#[76, 80, 82]⟩ = lprL := rfl
theorem lpr_let : (bsN ⟨#[76, 80, 82]⟩).all isLetN = true := by decide +kernel
/-- All shortest walks from a triad. -/
def bfsA (n a b s : Nat) : St := bfs n a b s lprL

theorem walks_lpr (n a b s : Nat) (hk : KOk n a b) (hs : s < 2 * n) (w : World) :
    Calls Try.prog 58 #[kv n a b, .int .i64 s, .string ⟨#[76, 80, 82]⟩] w fun e w' => ∃ B, e = .returned (.map (some B)) ∧ w.heap.size ≤ B ∧ Found w' B (bfsA n a b s) ∧ Below w.heap.size w w' :=
  walks_any n a b s hk hs ⟨#[76, 80, 82]⟩ lpr_let w

theorem Size_ok (n a b : Nat) (hk : KOk n a b) (w : World) :
    Calls Try.prog 32 #[kv n a b] w fun e w' => e = .returned (.tuple #[.int .i64 ((bfsA n a b 0).length : Nat), .int .i64 0]) ∧ Below w.heap.size w w' := by
  have h0 := hk.h6
  have HV := Lib.hid (valid0 n a b (laid0 w n a b))
  rw [kindB_of_nat hk] at HV
  have HA := Lib.hid (below_laid0 w n a b)
  have HWk := Lib.hid (walks_lpr n a b 0 hk (by omega))
  have k0 : (laid0 w n a b).cell? ⟨w.heap.size, 0, none⟩ = some (.int .i64 n) := by simp
  have k1 : (laid0 w n a b).cell? ⟨w.heap.size, 1, none⟩ = some (.int .i64 a) := by simp
  have k2 : (laid0 w n a b).cell? ⟨w.heap.size, 2, none⟩ = some (.int .i64 b) := by simp
  go_enter Try.func32, Try.ntmps32
  go_wp2_with fail
  refine HV.out.mono ?_
  rintro e w1 ⟨rfl, b1⟩
  have k0 := cell_later b1 k0
  have k1 := cell_later b1 k1
  have k2 := cell_later b1 k2
  have HA1 := Lib.hid (below_nx HA.out b1)
  go_wp2_with fail
  refine (HWk.out _).mono ?_
  rintro e w2 ⟨B, rfl, hB, hF, b2⟩
  have hlen := hF.len 3
  have HA2 := Lib.hid (below_nx HA1.out b2)
  clear hF
  go_wp2
  go_ret2
  exact ⟨rfl, HA2.out⟩

theorem Size_bad (n a b : Int) (h : kindB n a b = false) (w : World) :
    Calls Try.prog 32 #[kv n a b] w fun e w' => e = .returned (.tuple #[.int .i64 0, .int .i64 2]) ∧ Below w.heap.size w w' := by
  have HV := Lib.hid (valid0 n a b (laid0 w n a b))
  rw [h] at HV
  have HA := Lib.hid (below_laid0 w n a b)
  clear h
  go_enter Try.func32, Try.ntmps32
  go_wp2_with fail
  refine HV.out.mono ?_
  rintro e w1 ⟨rfl, b1⟩
  go_wp2
  go_ret2
  exact ⟨rfl, below_nx HA.out b1⟩

/-- A Kind's block, and two triads' behind it. -/
abbrev laid2 (w : World) (n a b t u : Int) : World := (w.alloc (kcells n a b)).alloc (.cells #[.int .i64 t, .int .i64 u] 3)
theorem below_laid2 (w : World) (n a b t u : Int) : Below w.heap.size w (laid2 w n a b t u) := ((Below.refl w.heap.size w).alloc (Nat.le_refl _) _).alloc (by simp) _

theorem Way_bad (n a b t u : Int) (h : (kindB n a b && (triB n t && triB n u)) = false) (w : World) :
    Calls Try.prog 24 #[kv n a b, .int .i64 t, .int .i64 u] w fun e w' => e = .returned (.tuple #[.string ⟨#[]⟩, .int .i64 2]) ∧ Below w.heap.size w w' := by
  have HV := Lib.hid (valid2 n a b t u false h (w.heap.size + 1) 2 (laid2 w n a b t u) (by simp) (by simp))
  have HA := Lib.hid (below_laid2 w n a b t u)
  clear h
  go_enter Try.func24, Try.ntmps24
  go_wp2_with fail
  refine HV.out.mono ?_
  rintro e w1 ⟨rfl, b1⟩
  go_wp2
  go_ret2
  exact ⟨rfl, below_nx HA.out b1⟩

/-- What Way returns. -/
def wayV (o : Option (List Nat)) : Value := match o with | none => .tuple #[.string ⟨#[]⟩, .int .i64 4] | some l => .tuple #[.string (strOf l), .int .i64 0]

theorem Way_ok (n a b t u : Nat) (hk : KOk n a b) (ht : t < 2 * n) (hu : u < 2 * n) (w : World) :
    Calls Try.prog 24 #[kv n a b, .int .i64 t, .int .i64 u] w fun e w' => e = .returned (wayV (lookL (bfsA n a b t) u)) ∧ Below w.heap.size w w' := by
  have h16 := hk.h16
  have HV := Lib.hid (valid2 n a b t u true (by rw [kindB_of_nat hk, triB_nat ht, triB_nat hu]; rfl) (w.heap.size + 1) 2 (laid2 w n a b t u) (by simp) (by simp))
  have HA := Lib.hid (below_laid2 w n a b t u)
  have HWk := Lib.hid (walks_lpr n a b t hk ht)
  have HI := Lib.hid (bfs_inv hk ht lprL).1
  have k0 : (laid2 w n a b t u).cell? ⟨w.heap.size, 0, none⟩ = some (.int .i64 n) := by simp
  have k1 : (laid2 w n a b t u).cell? ⟨w.heap.size, 1, none⟩ = some (.int .i64 a) := by simp
  have k2 : (laid2 w n a b t u).cell? ⟨w.heap.size, 2, none⟩ = some (.int .i64 b) := by simp
  go_enter Try.func24, Try.ntmps24
  go_wp2_with fail
  refine HV.out.mono ?_
  rintro e w1 ⟨rfl, b1⟩
  have k0 := cell_later b1 k0
  have k1 := cell_later b1 k1
  have k2 := cell_later b1 k2
  have HA1 := Lib.hid (below_nx HA.out b1)
  go_wp2_with fail
  refine (HWk.out _).mono ?_
  rintro e w2 ⟨B, rfl, hB, hF, b2⟩
  have HA2 := Lib.hid (below_nx HA1.out b2)
  have HB2 := Lib.hid (HA2.out)
  obtain ⟨lk, _⟩ := hF.look HI.out.nodup (t := u) (by omega)
  have hs := lookL_isSome (bfsA n a b t) u
  clear hF
  cases hl : lookL (bfsA n a b t) u with
  | none =>
    rw [hl] at lk hs
    rw [← hs] at lk
    have lk' : (Instr.lookup 80 (.map (some B)) (.int .i64 (u : Int)) true).run Try.prog w2 = .ok (.tuple #[.string ⟨#[]⟩, .bool false]) w2 := lk
    have HL := Lib.hid hl
    clear hl lk hs
    go_wp2
    go_ret2
    exact ⟨by rw [HL.out]; rfl, HA2.out⟩
  | some l =>
    rw [hl] at lk hs
    rw [← hs] at lk
    have lk' : (Instr.lookup 80 (.map (some B)) (.int .i64 (u : Int)) true).run Try.prog w2 = .ok (.tuple #[.string (strOf l), .bool true]) w2 := lk
    have HL := Lib.hid hl
    clear hl lk hs
    go_wp2
    go_ret2
    exact ⟨by rw [HL.out]; rfl, HA2.out⟩
end Go.Proofs.Ytibkhjbcagihbaa

/-
  The worth of a second part; Worth.
-/
import Derived.Test.YtlmfmfbnbbooaaaDuTurnedLaw
namespace Go.Proofs.Ytlmfmfbnbbooaaa
open Go.RowKit Go.Shelf Go.ChangeShapes Go.WideShapes Go.ChangeAt
set_option maxRecDepth 100000

/-- What a place adds to the worth. -/
def worthAt (gs ss : List Int) (i : Nat) : Int := (if mvA gs i * mvA ss i < 0 then 3 else 0) + (if mvA ss i = 1 ∨ mvA ss i = -1 then 1 else 0) - (if mvA ss i = 0 then 1 else 0)
def worthT (gs ss : List Int) : Nat → Int
  | 0 => 0
  | n + 1 => if n = 0 then 0 else worthT gs ss n + worthAt gs ss n
theorem worthT_succ {gs ss : List Int} {n : Nat} (h : 1 ≤ n) : worthT gs ss (n + 1) = worthT gs ss n + worthAt gs ss n := by
  rw [worthT, if_neg (by omega)]
theorem worthAt_le (gs ss : List Int) (i : Nat) : -1 ≤ worthAt gs ss i ∧ worthAt gs ss i ≤ 4 := by
  unfold worthAt
  by_cases h1 : mvA gs i * mvA ss i < 0
  · by_cases h2 : mvA ss i = 1 ∨ mvA ss i = -1
    · by_cases h3 : mvA ss i = 0
      · rw [if_pos h1, if_pos h2, if_pos h3]; omega
      · rw [if_pos h1, if_pos h2, if_neg h3]; omega
    · by_cases h3 : mvA ss i = 0
      · rw [if_pos h1, if_neg h2, if_pos h3]; omega
      · rw [if_pos h1, if_neg h2, if_neg h3]; omega
  · by_cases h2 : mvA ss i = 1 ∨ mvA ss i = -1
    · by_cases h3 : mvA ss i = 0
      · rw [if_neg h1, if_pos h2, if_pos h3]; omega
      · rw [if_neg h1, if_pos h2, if_neg h3]; omega
    · by_cases h3 : mvA ss i = 0
      · rw [if_neg h1, if_neg h2, if_pos h3]; omega
      · rw [if_neg h1, if_neg h2, if_neg h3]; omega
theorem worthT_le (gs ss : List Int) : ∀ n : Nat, -(n : Int) ≤ worthT gs ss n ∧ worthT gs ss n ≤ 4 * n
  | 0 => by simp [worthT]
  | n + 1 => by
    by_cases h : n = 0
    · subst h; simp [worthT]
    · rw [worthT_succ (by omega)]
      have h1 := worthT_le gs ss n
      have h2 := worthAt_le gs ss n
      omega

set_option maxHeartbeats 4000000 in
theorem worth_any (gs ss : List Int) (g s : Value) (w : World) (g8 : gs.length ≤ 8) (hgn : notesB gs = true) (hsn : notesB ss = true) (hle : ss.length ≤ gs.length) (h1 : 1 ≤ ss.length) (h : IntsV w g gs) (k : IntsV w s ss) :
    Calls Try.prog 90 #[g, s] w fun e w' => e = .returned (.int .i64 (worthT gs ss ss.length)) ∧ Below w.heap.size w w' := by
  have HM := Lib.hid (fun i (hi : i < ss.length) (h1 : 1 ≤ i) W (hb : Below w.heap.size w W) => secondMove_any (i := i) (w := W) (⟨h.later hb, k.later hb, by omega, hi, hgn, hsn, g8⟩ : PlaceAt gs ss g s i W) h1)
  have HG := Lib.hid (fun i (hi : i < ss.length) (h1 : 1 ≤ i) W (hb : Below w.heap.size w W) => givenMove_any (i := i) (w := W) (⟨h.later hb, k.later hb, by omega, hi, hgn, hsn, g8⟩ : PlaceAt gs ss g s i W) h1)
  have HSt := Lib.hid (fun x W => isStep_any x W)
  have HBd := Lib.hid (fun i (hi : i < ss.length) => And.intro (mv_le hsn hi) (mul_400 (mv_le hgn (show i < gs.length by omega)) (mv_le hsn hi)))
  have HT := Lib.hid (fun n (hn : 1 ≤ n) => worthT_succ (gs := gs) (ss := ss) hn)
  have HTl := Lib.hid (fun n => worthT_le gs ss n)
  have HT1 := Lib.hid (show worthT gs ss 1 = 0 from rfl)
  have hmx : Try.prog.follows .mixedOrders = true := by kernel_rfl
  obtain ⟨ao, ac, rfl, -⟩ := h
  obtain ⟨bo, bc, rfl, -⟩ := k
  have hs8 : ss.length ≤ 8 := by omega
  obtain ⟨L, hL⟩ : ∃ L, ss.length = L := ⟨_, rfl⟩
  rw [hL] at HM HG HBd h1 hs8 ⊢
  unfold plV at HM HG
  clear hle hL hgn hsn
  go_enter Try.func90, Try.ntmps90
  go_wp2
  go_loopw [5, 6, 8] (fun u t _ wr => ∃ j : Nat, 1 ≤ j ∧ j ≤ L ∧ t = .int .i64 j ∧ u = .int .i64 (worthT gs ss j) ∧ Below w.heap.size w wr) (fun _ t _ _ => L - (intOf t).toNat)
  case atStart => exact ⟨1, Nat.le_refl _, h1, rfl, rfl, Below.refl _ _⟩
  case round =>
    obtain ⟨j, hj1, hj, rfl, rfl, hb⟩ := hrel
    by_cases hlt : j < L
    · have HB := Lib.hid hb
      have HTj := Lib.hid (HT.out j hj1)
      have hsl := HTl.out j
      have HMj := Lib.hid (HM.out j hlt hj1)
      have HGj := Lib.hid (HG.out j hlt hj1)
      have hbd := HBd.out j hlt
      have hj8 : j < 8 := by omega
      clear hb
      generalize worthT gs ss j = sm at *
      obtain ⟨dl, hdl⟩ : ∃ dl, worthAt gs ss j = dl := ⟨_, rfl⟩
      rw [hdl] at HTj
      unfold worthAt at hdl
      generalize mvA gs j = mg at *
      generalize mvA ss j = ms at *
      have HX0 := Lib.hid (BoxAt.new (.slice ao gs.length ac) (.slice bo L bc) (j : Int) wr)
      have hp : ∃ p, mg * ms = p := ⟨_, rfl⟩
      obtain ⟨b1, b2, b3, hd1, hd2, hd3, hD⟩ : ∃ b1 b2 b3 : Bool, decide (mg * ms < 0) = b1 ∧ decide (ms = 1 ∨ ms = -1) = b2 ∧ (ms == 0) = b3 ∧ dl = (if b1 then 3 else 0) + (if b2 then 1 else 0) - (if b3 then 1 else 0) := by
        refine ⟨_, _, _, rfl, rfl, rfl, ?_⟩
        rw [← hdl]
        simp
      have hno : ¬ (b2 = true ∧ b3 = true) := by
        rintro ⟨rfl, rfl⟩
        have e1 := of_decide_eq_true hd2
        have e2 := eq_of_beq hd3
        omega
      clear hdl hp
      have HD := Lib.hid hD
      have HS2 := Lib.hid (fun W => (HSt.out ms W))
      rw [hd2] at HS2
      clear hD hd2
      generalize hpe : mg * ms = p at *
      have HPE := Lib.hid hpe
      clear hpe
      generalize gs.length = G at *
      obtain ⟨⟨hm1, hm2⟩, hp1, hp2⟩ := hbd
      have hw : wrap64 p = p := IntWalk.wrap64_in _ (by omega)
      cases b1 <;> cases b2 <;> cases b3
      all_goals first
        | (exact absurd ⟨rfl, rfl⟩ hno)
        | skip
      all_goals clear hno
      all_goals
        go_wp2_with fail
        refine region_calm hmx (by kernel_rfl) ?_
        intro S hSn f hS1 hS2
        have hxx : ∀ z, BoxAt wr wr.heap.size _ _ (j : Int) (f z) := fun z => HX0.out.later (hS1 z)
        have l0 := fun z => (hxx z).cell.1
        have l1 := fun z => (hxx z).cell.2.1
        have l2 := fun z => (hxx z).cell.2.2
        have qHM1 := Lib.hid (calm_call hS1 hS2 (fun z => HMj.out (f z) (HB.out.trans ((hxx z).hb.mono HB.out.size))))
        have qHG1 := Lib.hid (calm_call hS1 hS2 (fun z => HGj.out (f z) (HB.out.trans ((hxx z).hb.mono HB.out.size))))
        repeat (go_big_quiet_step (first | with_reducible exact qHM1.out _ | with_reducible exact qHG1.out _))
        refine wpQuiet_nil ?_
        rintro _ ⟨z, rfl⟩
        have HX2 := Lib.hid (hxx z)
        generalize f z = w2 at HX2 ⊢
        clear l0 l1 l2 hxx hS1 hS2 qHM1 qHG1
        try dsimp only [Exit.then]
        obtain ⟨k0, k1, k2⟩ := HX2.out.cell
        try rw [HPE.out]
        try rw [hw]
        try rw [hd1]
        go_wp2_with fail
        refine (HMj.out w2 (HB.out.trans (HX2.out.hb.mono HB.out.size))).mono ?_
        rintro e w3 ⟨rfl, b9⟩
        have HX3 := Lib.hid (HX2.out.later b9)
        clear b9 k0 k1 k2
        go_wp2_with fail
        refine (HS2.out _).mono ?_
        rintro e w9 ⟨rfl, rfl⟩
        obtain ⟨k0, k1, k2⟩ := HX3.out.cell
        go_wp2_with fail
        refine (HMj.out w3 (HB.out.trans (HX3.out.hb.mono HB.out.size))).mono ?_
        rintro e w4 ⟨rfl, b9⟩
        have HX4 := Lib.hid (HX3.out.later b9)
        clear b9 k0 k1 k2
        go_wp2
        go_roundw
        case rel => exact ⟨j + 1, by omega, by omega, by go_num, congrArg (Value.int .i64) (by rw [HTj.out, HD.out]; simp; try omega), HB.out.trans (HX4.out.hb.mono HB.out.size)⟩
        case measure => simp only [intOf]; omega
    · obtain rfl : j = L := by omega
      have HB := Lib.hid hb
      clear hb
      go_wp2
      go_ret
      exact ⟨rfl, HB.out⟩
end Go.Proofs.Ytlmfmfbnbbooaaa

/-
  The reference's Check; the statement on it.
-/
import Derived.Test.YtlmfmfbnbbooaaaDuBrk3
import Derived.Test.YtlmfmfbnbbooaaaDuAlong
namespace Go.Proofs.Ytlmfmfbnbbooaaa
open Go.ChangeShapes Go.WideShapes Go.ChangeAt Go.RowKit
set_option maxRecDepth 100000

/-- The number in a value. -/
def valK : Value → Int
  | .int _ x => x
  | _ => 0
/-- Where two parts first break a rule, in the reference's words. -/
theorem check_cases (gs ss : List Int) : ((∀ i, i < ss.length → brokenN gs ss i = 0) ∧ keptB gs ss = true ∧ checkV gs ss = .tuple #[.int .i64 0, .int .i64 0, .int .i64 4]) ∨
    ∃ i0 : Nat, i0 < ss.length ∧ (∀ i, i < i0 → brokenN gs ss i = 0) ∧ brokenN gs ss i0 ≠ 0 ∧ keptB gs ss = false ∧ checkV gs ss = .tuple #[.int .i64 (i0 : Nat), .int .i64 (brokenN gs ss i0 : Nat), .int .i64 0] := by
  rcases first_at (faultN gs ss) ss.length with h | ⟨k, h1, h2, h3⟩
  · have hk := (kept_iff gs ss).2 h
    exact .inl ⟨fun i hi => by rw [← fault_eq]; exact h i hi, hk, by unfold checkV; rw [hk, faultP_kept hk]; rfl⟩
  · have hf := firstF_some h1 h2 h3
    have hk : keptB gs ss = false := by unfold keptB; rw [hf]; rfl
    have hp : faultP gs ss = (k, faultN gs ss k) := by unfold faultP; rw [hf]; rfl
    exact .inr ⟨k, h1, fun i hi => by rw [← fault_eq]; exact h2 i hi, by rw [← fault_eq]; exact h3, hk, by unfold checkV; rw [hk, hp, fault_eq]; rfl⟩
theorem broken_le (gs ss : List Int) (i : Nat) : brokenN gs ss i ≤ 8 := by rw [← fault_eq]; exact fault_le gs ss i

set_option maxHeartbeats 2000000 in
theorem RCheck_any (gs ss : List Int) (g s : Value) (w : World) (hp : pairB gs ss = true) (h : IntsV w g gs) (k : IntsV w s ss) :
    Calls Try.prog 42 #[g, s] w fun e w' => e = .returned (checkV gs ss) ∧ ∃ q, w' = w.drewN q := by
  obtain ⟨hg, hs, hlen⟩ := pair_parts hp
  have g1 := dpart_len hg
  have s1 := dpart_len hs
  have HB := Lib.hid (fun i (hi : i < ss.length) W hW hV => RBroken_any gs ss g s i W g1.2.1 g1.2.2 s1.2.2 hi (by omega) hW hV)
  have H := Lib.hid h
  have K := Lib.hid k
  have HLe := Lib.hid (fun i => broken_le gs ss i)
  obtain ⟨ao, cap, hv, _⟩ := h
  obtain ⟨bo, cap', hu, _⟩ := k
  subst hv hu
  rcases check_cases gs ss with ⟨hz, _, hc⟩ | ⟨i0, hi0, hz, hn, _, hc⟩
  · have HC := Lib.hid hc
    have HZ := Lib.hid hz
    have hlg : gs.length = ss.length := hlen
    have g8 := g1.2.1
    clear hp hg hs hc hz g1 s1 hlen
    generalize gs.length = G at *
    generalize ss.length = L' at *
    subst hlg
    go_enter Try.func42, Try.ntmps42
    go_wp2_with fail
    go_loopw [11] (fun i wr => ∃ j q : Nat, j ≤ G ∧ i = .int .i64 (j : Int) ∧ wr = w.drewN q) (fun i _ => G - (valK i).toNat)
    case atStart => exact ⟨0, 0, Nat.zero_le _, rfl, rfl⟩
    case round =>
      obtain ⟨j, q, hj, rfl, rfl⟩ := hrel
      by_cases hlt : j < G
      · have C := Lib.hid (HB.out j hlt (w.drewN q) (H.out.drewN q) (K.out.drewN q))
        rw [HZ.out j hlt] at C
        go_wp2_with fail
        refine C.out.mono ?_
        rintro e w1 ⟨rfl, q1, rfl⟩
        go_wp2
        go_roundw
        case rel => exact ⟨j + 1, q + q1, by omega, by go_num, by first | rfl | simp only [World.drewN_drewN]⟩
        case measure => simp only [valK]; omega
      · obtain rfl : j = G := by omega
        go_wp2
        go_ret3
        exact ⟨by rw [HC.out]; rfl, q, rfl⟩
  · have HC := Lib.hid hc
    have HZ := Lib.hid hz
    have hlg : gs.length = ss.length := hlen
    have g8 := g1.2.1
    have hpos : 0 < brokenN gs ss i0 := by omega
    have HI := Lib.hid (HB.out i0 hi0)
    have hle := HLe.out i0
    have HZ := Lib.hid (fun j (hj : j < i0) => show (brokenN gs ss j = 0) from HZ.out j hj)
    clear hp hg hs hc hz g1 s1 hlen hn
    generalize hR : brokenN gs ss i0 = R at *
    clear hR
    generalize gs.length = G at *
    generalize ss.length = L' at *
    subst hlg
    have q1 : decide ((0 : Int) < (R : Int)) = true := decide_eq_true (by omega)
    go_enter Try.func42, Try.ntmps42
    go_wp2_with fail
    go_loopw [11] (fun i wr => ∃ j q : Nat, j ≤ i0 ∧ i = .int .i64 (j : Int) ∧ wr = w.drewN q) (fun i _ => G - (valK i).toNat)
    case atStart => exact ⟨0, 0, Nat.zero_le _, rfl, rfl⟩
    case round =>
      obtain ⟨j, q, hj, rfl, rfl⟩ := hrel
      have hjG : j < G := by omega
      by_cases hlt : j < i0
      · have C := Lib.hid (HB.out j (by omega) (w.drewN q) (H.out.drewN q) (K.out.drewN q))
        rw [HZ.out j hlt] at C
        go_wp2_with fail
        refine C.out.mono ?_
        rintro e w1 ⟨rfl, q1, rfl⟩
        go_wp2
        go_roundw
        case rel => exact ⟨j + 1, q + q1, by omega, by go_num, by first | rfl | simp only [World.drewN_drewN]⟩
        case measure => simp only [valK]; omega
      · obtain rfl : j = i0 := by omega
        have C := Lib.hid (HI.out (w.drewN q) (H.out.drewN q) (K.out.drewN q))
        go_wp2_with fail
        refine C.out.mono ?_
        rintro e w1 ⟨rfl, q1, rfl⟩
        go_wp2
        go_ret3
        exact ⟨by rw [HC.out]; try rfl, q + q1, by first | rfl | simp only [World.drewN_drewN]⟩

set_option maxHeartbeats 2000000 in
theorem DuetsChecks_walk (gs ss : List Int) (g s : Value) (w : World) (hl : gs.length ≤ maxLen) (h : IntsV w g gs) (hm : ss.length ≤ maxLen) (k : IntsV w s ss) :
    Calls Try.prog 8 #[g, s] w fun e w' => e = .returned (.bool true) ∧ Below w.heap.size w w' := by
  have HAw := Lib.hid (fun W => dawake_any W)
  have HLg := Lib.hid (fun W hW => dlist_any gs g W hl hW)
  have HLs := Lib.hid (fun W hW => dlist_any ss s W hm hW)
  have HPr := Lib.hid (fun W a b => lpair_any gs ss g s W hl hm a b)
  have H := Lib.hid h
  have K := Lib.hid k
  cases hp : pairB gs ss
  · have hpt : pairB (gs.take 11) (ss.take 11) = false := by rw [pair_take]; exact hp
    have HB := Lib.hid (fun a b W ha hb => Check_bad (gs.take 11) (ss.take 11) a b W take11 take11 hpt ha hb)
    rw [hp] at HPr
    obtain ⟨ao, cap, hv, _⟩ := h
    obtain ⟨bo, cap', hu, _⟩ := k
    subst hv hu
    clear hp hpt hl hm
    go_enter Try.func8, Try.ntmps8
    go_wp2_with fail
    refine (HLg.out _ H.out).mono ?_
    rintro e w1 ⟨v1, rfl, i1, b1⟩
    have B1 := Lib.hid b1
    have I1 := Lib.hid i1
    clear i1 b1
    go_wp2_with fail
    refine (HLs.out _ (K.out.later B1.out)).mono ?_
    rintro e w2 ⟨v2, rfl, i2, b2⟩
    have B2 := Lib.hid (below_nx B1.out b2)
    have C2 := Lib.hid (HB.out v1 v2 w2 (I1.out.later b2) i2)
    clear i2 b2
    go_wp2_with fail
    refine C2.out.mono ?_
    rintro e w3 ⟨rfl, rfl⟩
    go_wp2_with fail
    refine (HPr.out _ (H.out.later B2.out) (K.out.later B2.out)).mono ?_
    rintro e w4 ⟨rfl, rfl⟩
    go_wp2_with fail
    refine (HAw.out _).mono ?_
    rintro e w5 ⟨rfl, b5⟩
    go_wp2
    go_ret
    exact ⟨rfl, below_nx B2.out b5⟩
  · obtain ⟨hg, hs, hlen⟩ := pair_parts hp
    rw [dtake hg] at HLg
    rw [dtake hs] at HLs
    rw [hp] at HPr
    have HC := Lib.hid (fun a b W ha hb => Check_ok gs ss a b W hp ha hb)
    have HR := Lib.hid (fun W ha hb => RCheck_any gs ss g s W hp ha hb)
    obtain ⟨f1, f2, f3, hcv⟩ : ∃ f1 f2 f3 : Int, checkV gs ss = .tuple #[.int .i64 f1, .int .i64 f2, .int .i64 f3] := ⟨_, _, _, rfl⟩
    rw [hcv] at HC HR
    obtain ⟨ao, cap, hv, _⟩ := h
    obtain ⟨bo, cap', hu, _⟩ := k
    subst hv hu
    have e1 : (f1 == f1) = true := beq_self_eq_true _
    have e2 : (f2 == f2) = true := beq_self_eq_true _
    have e3 : (f3 == f3) = true := beq_self_eq_true _
    clear hp hl hm hg hs hlen hcv
    go_enter Try.func8, Try.ntmps8
    go_wp2_with fail
    refine (HLg.out _ H.out).mono ?_
    rintro e w1 ⟨v1, rfl, i1, b1⟩
    have B1 := Lib.hid b1
    have I1 := Lib.hid i1
    clear i1 b1
    go_wp2_with fail
    refine (HLs.out _ (K.out.later B1.out)).mono ?_
    rintro e w2 ⟨v2, rfl, i2, b2⟩
    have B2 := Lib.hid (below_nx B1.out b2)
    have C2 := Lib.hid (HC.out v1 v2 w2 (I1.out.later b2) i2)
    clear i2 b2
    go_wp2_with fail
    refine C2.out.mono ?_
    rintro e w3 ⟨rfl, b3⟩
    have B3 := Lib.hid (below_nx B2.out b3)
    clear b3
    go_wp2_with fail
    refine (HPr.out _ (H.out.later B3.out) (K.out.later B3.out)).mono ?_
    rintro e w4 ⟨rfl, rfl⟩
    go_wp2_with fail
    refine (HR.out _ (H.out.later B3.out) (K.out.later B3.out)).mono ?_
    rintro e w5 ⟨rfl, q, rfl⟩
    have B5 := Lib.hid (below_drewN B3.out q)
    generalize w3.drewN q = w5 at *
    go_wp2_with fail
    refine (HAw.out _).mono ?_
    rintro e w6 ⟨rfl, b6⟩
    go_wp2
    go_ret
    exact ⟨rfl, below_nx B5.out b6⟩
end Go.Proofs.Ytlmfmfbnbbooaaa

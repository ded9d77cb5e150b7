/-
  The walk of the statement on partners.
-/
import Derived.Test.YtehjdhegnpmfaabDoorCaCount
import Derived.Test.YtehjdhegnpmfaabDoorCaRefB
namespace Go.Proofs.YtehjdhegnpmfaabDoor
open Go.RowKit Go.Shelf
attribute [local go_sem] Oper.semAt_some
set_option maxRecDepth 100000

/-- Both hand back the same. -/
theorem partnerIs_same {xs : List Nat} {e e' : Ending} (h : PartnerIs xs e) (h' : PartnerIs xs e') : ∃ b err : Nat, e = .returned (.tuple #[.int .i64 b, .int .i64 err]) ∧ e' = .returned (.tuple #[.int .i64 b, .int .i64 err]) := by
  rcases h with ⟨h1, rfl⟩ | ⟨b, h1, h2, rfl⟩ <;> rcases h' with ⟨h3, rfl⟩ | ⟨c, h3, h4, rfl⟩
  · exact ⟨0, 4, rfl, rfl⟩
  · rw [h1] at h3; cases h3
  · rw [h3] at h1; cases h1
  · have h5 := h2 c h3
    have h6 := h4 b h1
    obtain rfl : b = c := by omega
    exact ⟨b, 0, rfl, rfl⟩

set_option maxHeartbeats 2000000 in
theorem CanonPartners_walk (n a : Int) (_w0 : (Lit.int .i64 n).wf = true) (_w1 : (Lit.int .i64 a).wf = true) (w : World) (hT : Tab w) :
    Calls Tryd.prog 4 #[.int .i64 n, .int .i64 a] w fun e w' => e = .returned (.bool true) ∧ Below w.heap.size w w' := by
  cases hv : vldB n a
  · have HVa := Lib.hid (Rhythm_any n a)
    rw [hv] at HVa
    have H1 := Lib.hid (Partner_bad n a hv)
    have H2 := Lib.hid (Partners_bad n a hv)
    clear hv
    go_enter Tryd.func4, Tryd.ntmps4
    go_wp2_with fail
    refine (H1.out _).mono ?_
    rintro e w1 ⟨rfl, b1⟩
    have t1 := hT.same b1
    go_wp2_with fail
    refine (H2.out _).mono ?_
    rintro e w2 ⟨rfl, b2⟩
    have t2 := t1.same b2
    have c2 := below_next b1 b2
    go_wp2_with fail
    refine (HVa.out _).mono ?_
    rintro e w3 ⟨rfl, rfl⟩
    go_wp2_with fail
    refine (awake2_any _ t2).mono ?_
    rintro e w4 ⟨rfl, b4⟩
    go_wp2
    go_ret
    exact ⟨rfl, below_next c2 b4⟩
  · have HVa := Lib.hid (Rhythm_any n a)
    rw [hv] at HVa
    obtain ⟨n, a, rfl, rfl, hn, hn2, ha, ha1⟩ := vldB_nat hv
    have H1 := Lib.hid (Partner_ok n a hn hn2 ha ha1)
    have H2 := Lib.hid (Partners_ok n a hn hn2 ha ha1)
    have H3 := Lib.hid (refPart n a hn hn2 ha ha1)
    have H4 := Lib.hid (refParts n a hn hn2 ha ha1)
    clear hv ha ha1
    generalize partners n a = xs at H1 H2 H3 H4
    generalize xs.length = L at H2 H4
    go_enter Tryd.func4, Tryd.ntmps4
    go_wp2_with fail
    refine (H1.out _ hT).mono ?_
    rintro e w1 ⟨hr1, b1⟩
    have HR1 := Lib.hid hr1
    have t1 := hT.same b1
    have key : ∃ b err : Nat, e = .returned (.tuple #[.int .i64 b, .int .i64 err]) ∧ ∀ e', PartnerIs xs e' → e' = .returned (.tuple #[.int .i64 b, .int .i64 err]) := by
      obtain ⟨b, err, h1, _⟩ := partnerIs_same hr1 hr1
      refine ⟨b, err, h1, fun e' h' => ?_⟩
      obtain ⟨b', err', h2, h3⟩ := partnerIs_same hr1 h'
      rw [h1] at h2
      rw [h3, ← h2]
    obtain ⟨b, err, rfl, hk⟩ := key
    have HK := Lib.hid hk
    clear hk hr1 HR1
    go_wp2_with fail
    refine (H2.out _ t1).mono ?_
    rintro e w2 ⟨rfl, b2⟩
    have t2 := t1.same b2
    have c2 := below_next b1 b2
    go_wp2_with fail
    refine (HVa.out _).mono ?_
    rintro e w3 ⟨rfl, rfl⟩
    go_wp2_with fail
    refine (H3.out _).mono ?_
    rintro e w4 ⟨hr3, b4⟩
    obtain rfl := HK.out _ hr3
    have t4 := t2.same b4
    have c4 := below_next c2 b4
    clear hr3
    go_wp2_with fail
    refine (H4.out _).mono ?_
    rintro e w5 ⟨rfl, b5⟩
    have t5 := t4.same b5
    have c5 := below_next c4 b5
    go_wp2_with fail
    refine (awake2_any _ t5).mono ?_
    rintro e w6 ⟨rfl, b6⟩
    go_wp2
    go_ret
    exact ⟨rfl, below_next c5 b6⟩

end Go.Proofs.YtehjdhegnpmfaabDoor

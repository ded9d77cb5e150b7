/-
  Wheels turned, moved, multiplied; what undoes them; the power.
-/
import Derived.Test.YtlmfmfbnbbooaaaWhSpec
import Derived.Test.YtlmfmfbnbbooaaaCalmTail
namespace Go.Proofs.Ytlmfmfbnbbooaaa
open Go.ChangeShapes Go.WideShapes Go.ChangeAt Go.RowKit
set_option maxRecDepth 100000

/-- What holds of the world in a round: a wheel to read, a wheel to write, the result's place. -/
def Two (w0 : World) (b n : Nat) (f : Nat → Nat) (b' : Nat) (g : Nat → Nat) (z : Nat) (W : World) : Prop :=
  WAt w0 b n f W ∧ WAt w0 b' n g W ∧ W.heap[z]? = some (.cells zeroC 65 (0, 0))
theorem Two.later {w0 : World} {b n : Nat} {f : Nat → Nat} {b' : Nat} {g : Nat → Nat} {z : Nat} {W W' : World} (h : Two w0 b n f b' g z W) (k : Below W.heap.size W W') : Two w0 b n f b' g z W' :=
  ⟨h.1.later k, h.2.1.later k, heap_later h.2.2 k⟩
theorem Two.drewN {w0 : World} {b n : Nat} {f : Nat → Nat} {b' : Nat} {g : Nat → Nat} {z : Nat} {W : World} (h : Two w0 b n f b' g z W) (k : Nat) : Two w0 b n f b' g z (W.drewN k) :=
  ⟨h.1.drewN k, h.2.1.drewN k, h.2.2⟩
theorem Two.set {w0 : World} {b n : Nat} {f : Nat → Nat} {b' : Nat} {g : Nat → Nat} {z : Nat} {W : World} (h : Two w0 b n f b' g z W) (h1 : w0.heap.size ≤ b') (h2 : b ≠ b') (h3 : z ≠ b') {x : Nat} (hx : x < 16) (v : Nat) :
    Two w0 b n f b' (fun k => if k = x then v else g k) z (W.setCell ⟨b', 3 + x, none⟩ (.int .i64 (v : Int))) :=
  ⟨h.1.other h2 h1 _, h.2.1.set h1 hx v, (heap_setCell_other W ⟨b', 3 + x, none⟩ z _ h3).trans h.2.2⟩
/-- What turning has laid at the places below k. -/
def tupF (n k : Nat) (f : Nat → Nat) (x : Nat) : Nat := if x < n ∧ (n - x) % n < k then f ((n - x) % n) else 0
theorem tupF_zero (n : Nat) (f : Nat → Nat) : tupF n 0 f = zeroF := by funext x; simp [tupF, zeroF]
theorem tupF_succ {n k : Nat} (hk : k < n) (f : Nat → Nat) : (fun x => if x = (n - k) % n then f k else tupF n k f x) = tupF n (k + 1) f := by
  funext x
  unfold tupF
  by_cases e : x = (n - k) % n
  · subst e
    have h1 := Nat.mod_lt (n - k) (show 0 < n by omega)
    rw [if_pos rfl, neg_neg hk, if_pos ⟨h1, by omega⟩]
  · rw [if_neg e]
    by_cases hx : x < n
    · have h2 : (n - x) % n ≠ k := fun h2 => e (by rw [← h2, neg_neg hx])
      by_cases h3 : (n - x) % n < k
      · rw [if_pos ⟨hx, h3⟩, if_pos ⟨hx, by omega⟩]
      · rw [if_neg (fun h => h3 h.2), if_neg (fun h => by have := h.2; omega)]
    · rw [if_neg (fun h => hx h.1), if_neg (fun h => hx h.1)]
theorem tupF_all (n : Nat) (f : Nat → Nat) : tupF n n f = tuF n f := by
  funext x
  unfold tupF tuF
  by_cases hx : x < n
  · rw [if_pos ⟨hx, Nat.mod_lt _ (by omega)⟩, if_pos hx]
  · rw [if_neg (fun h => hx h.1), if_neg hx]
theorem neg_place {n k : Nat} (hk : k < n) : (-(k : Int)) % (n : Int) = (((n - k) % n : Nat) : Int) := by
  have e : (-(k : Int)) = ((n - k : Nat) : Int) - n := by omega
  rw [e, Int.sub_emod_right]; exact_mod_cast rfl

set_option maxHeartbeats 1000000 in
theorem turn_any (n : Nat) (h : Circ n) (f : Nat → Nat) (w : World) :
    Calls Try.prog 108 #[whV n f] w fun e w' => e = .returned (whV n (tuF n f)) ∧ Below w.heap.size w w' := by
  have HP := Lib.hid (fun k (hk : k < n) W => by have := place_any n (qN n) (wN n) h.pos (by have := h.2; omega) (-(k : Int)) W; rwa [neg_place hk] at this)
  have HAll := Lib.hid (tupF_all n f)
  have hmx : Try.prog.follows .mixedOrders = true := by kernel_rfl
  have hn := h.2
  have hn0 := h.pos
  have hq := h.q_le
  have hq0 := h.q_pos
  have HE := Lib.hid (headC_eq n)
  obtain ⟨W0, hW0⟩ : ∃ W0, w.alloc (.cells (whC n f).toArray 65) = W0 := ⟨_, rfl⟩
  have hs0 : W0.heap.size = w.heap.size + 1 := by rw [← hW0]; exact World.size_alloc _ _
  have hF0 : WAt w w.heap.size n f W0 := hW0 ▸ WAt.new n f w
  have hF1 := hF0.later ((Below.refl _ W0).alloc (Nat.le_refl _) (.cells zeroC 65))
  have hz1 := zero_new W0
  have hs1 : (W0.alloc (.cells zeroC 65)).heap.size = w.heap.size + 1 + 1 := by rw [World.size_alloc, hs0]
  rw [hs0, ← hW0] at hz1
  rw [← hW0] at hF1 hs1
  have HF1 := Lib.hid hF1
  have HZ1 := Lib.hid hz1
  have HS1 := Lib.hid hs1
  clear hF0 hF1 hz1 hs1 hs0 hW0
  unfold whV at *
  have HSF := Lib.hid (info_whC n f)
  obtain ⟨cs, hcs⟩ : ∃ cs, (whC n f).toArray = cs := ⟨_, rfl⟩
  rw [hcs] at HF1 HZ1 HS1 HSF ⊢
  have HCS := Lib.hid hcs
  clear hcs
  obtain ⟨B, hB⟩ : ∃ B, w.heap.size = B := ⟨_, rfl⟩
  rw [hB] at HF1 HZ1 HS1
  go_enter Try.func108, Try.ntmps108
  go_upto_region 1 with fail
  go_step
  refine wpList_infield n f 1 5 6 rfl rfl rfl rfl rfl rfl B rfl (fun _ => rfl) HF1.out.row ?_
  refine wpList_fresh n (qN n) (wN n) 6 7 3 rfl rfl rfl rfl rfl rfl rfl rfl rfl rfl (fun _ _ => rfl) (fun _ _ => rfl) (B + 1 + 1) HS1.out ?_
  intro W2 hcv hcs2 hs2 hr2 hb2
  go_frame
  have HF2 := Lib.hid (⟨HF1.out.hb.trans (hb2.mono (by omega)), (hb2.block _ (by omega)).trans HF1.out.row⟩ : WAt w B n f W2)
  have HT2 := Lib.hid (show Two w B n f (B + 1 + 1) (tupF n 0 f) (B + 1) W2 from ⟨HF2.out, ⟨HF2.out.hb, by rw [tupF_zero]; rw [hcs2, ← HE.out] at hr2; exact hr2⟩, (hb2.block (B + 1) (by omega)).trans HZ1.out⟩)
  clear hcs2 hs2 hr2 hb2
  generalize Value.agg hcv = csv
  obtain ⟨k0, k1, k2⟩ := HF2.out.head
  go_wp2_with fail
  clear k0 k1 k2
  go_loopw [11] (fun i wr => ∃ k : Nat, k ≤ n ∧ i = .int .i64 (k : Int) ∧ Two w B n f (B + 1 + 1) (tupF n k f) (B + 1) wr) (fun i _ => n - (intOf i).toNat)
  case atStart => exact ⟨0, Nat.zero_le _, rfl, HT2.out⟩
  case round =>
    obtain ⟨k, hk, rfl, hT⟩ := hrel
    have HT := Lib.hid hT
    clear hT
    by_cases hlt : k < n
    · have HPk := Lib.hid (HP.out k hlt)
      have hk16 : k < 16 := by omega
      have HU := Lib.hid (tupF_succ hlt f)
      have hto : (n - k) % n < 16 := by have := Nat.mod_lt (n - k) hn0; omega
      have HNx := Lib.hid (fun W (hT : Two w B n f (B + 1 + 1) (tupF n k f) (B + 1) W) => by have := hT.set (by omega) (by omega) (by omega) hto (f k); rw [HU.out] at this; exact this)
      obtain ⟨m0, m1, m2⟩ := HT.out.1.head
      have m3 := HT.out.1.at hk16
      generalize f k = y at *
      generalize (n - k) % n = t at *
      go_upto_region 5 with fail
      refine region_calm_tail 10 hmx (by kernel_rfl) ?_
      simp only [List.take_succ_cons, List.take_zero, List.drop_succ_cons, List.drop_zero]
      intro S hSn fw hS1 hS2
      have l0 := fun z => cell_later (hS1 z) m0
      have l1 := fun z => cell_later (hS1 z) m1
      have l2 := fun z => cell_later (hS1 z) m2
      have l3 := fun z => cell_later (hS1 z) m3
      have hC1 := Lib.hid (calm_call hS1 hS2 (fun z => HPk.out (fw z)))
      repeat (go_big_quiet_step (exact hC1.out _))
      refine wpQuiet_nil ?_
      rintro _ ⟨z, rfl⟩
      have hT4 := HT.out.later (hS1 z)
      generalize fw z = w4 at hT4
      have HT5 := Lib.hid (HNx.out _ hT4)
      have e1 := hT4.2.1.at hto
      have e2 := hT4.2.1.row.frozen (3 + t)
      clear l0 l1 l2 l3 hC1 hS1 hS2 hT4 m0 m1 m2 m3
      try dsimp only [Exit.then]
      go_wp2
      go_roundw
      case rel => exact ⟨k + 1, by omega, by go_num, HT5.out⟩
      case measure => simp only [intOf]; omega
    · obtain rfl : k = n := by omega
      rw [HAll.out] at HT
      go_upto_region 7 with fail
      go_step
      refine wpList_give k (tuF k f) 3 2 26 rfl rfl rfl rfl rfl rfl (B + 1 + 1) (B + 1) rfl (fun _ => rfl) (fun _ => rfl) HT.out.2.1.row zeroC HT.out.2.2 rfl ?_
      intro W4 hr4 hb4
      have HB4 := Lib.hid (HT.out.2.1.hb.trans (hb4.mono (by omega)))
      go_frame
      go_wp2
      refine bodyPost_ret (results_cell_row rfl _ _ (B + 1) 65 (whC k (tuF k f)).toArray (0, 0) _ rfl hr4 Try.underlying65 rfl (info_whC _ _)) rfl ?_
      exact ⟨rfl, HB4.out⟩
end Go.Proofs.Ytlmfmfbnbbooaaa

/-
  strings.ContainsRune at the three letters, whatever the rune.
-/
import Derived.Test.YtibkhjbcagihbaaDoorCalm
import Derived.Test.YtibkhjbcagihbaaDoorShelf
import Derived.Lib.OthersKept
import Derived.Outline
import Derived.Laws.Runes
namespace Go.Proofs.YtibkhjbcagihbaaDoor
open Go.ChangeShapes Go.WideShapes Go.ChangeAt Go.RowKit
set_option maxRecDepth 100000

/-- The three letters, as the program lists them. -/
abbrev lpr : ByteArray := ⟨#[76, 80, 82]⟩

theorem indexByte_none (l : List UInt8) (c : UInt8) (h : ∀ b ∈ l, b ≠ c) : Lib.indexByte l c = -1 := by
  induction l with
  | nil => rfl
  | cons b l ih =>
    unfold Lib.indexByte
    have hb : (b == c) = false := by rw [beq_eq_false_iff_ne]; exact h b (by simp)
    rw [hb, ih (fun x hx => h x (by simp [hx]))]
    rfl

theorem lpr_low (b : UInt8) (h : b ∈ lpr.data.toList) : b.toNat < 128 := by
  simp at h
  rcases h with rfl | rfl | rfl <;> decide

set_option maxHeartbeats 4000000 in
theorem IndexRune_high (r : Int) (h1 : 128 ≤ r) (h2 : r < 2147483648) (w : World) :
    Calls Tryd.prog 68 #[.string lpr, .int .i32 r] w fun e w' => e = .returned (.int .i64 (-1)) ∧ Below w.heap.size w w' := by
  by_cases hr : r = 65533
  · subst hr
    have hit : ∀ p, Hid (Below w.heap.size w (w.iter lpr p)) := fun p => Lib.hid ((Below.refl _ w).alloc (Nat.le_refl _) _)
    go_enter Tryd.func68, Tryd.ntmps68
    go_wp2
    go_loopw [5, 6] (fun i x wr => ∃ p : Nat, p ≤ 3 ∧ wr = w.iter lpr p) (fun _ _ wr => 3 - wr.iterPos w.heap.size)
    case atStart => exact ⟨0, by omega, rfl⟩
    case round =>
      obtain ⟨p, hp, rfl⟩ := hrel
      have hh := hit p
      by_cases hp3 : p = 3
      · subst hp3
        have hnx : ∀ ty, (Instr.next (.pointer (some ⟨w.heap.size, 0, none⟩)) true ty).run Tryd.prog (w.iter lpr 3) = _ := fun ty => run_next_end w lpr 3 ty (by decide)
        clear hit
        go_wp2
        go_ret
        exact ⟨rfl, hh.out⟩
      · have hlt : p < lpr.size := by show p < 3; omega
        have hb : (lpr[p]'hlt).toNat < 128 := lpr_low _ (Array.getElem_mem_toList (xs := lpr.data) hlt)
        have hnx : ∀ ty, (Instr.next (.pointer (some ⟨w.heap.size, 0, none⟩)) true ty).run Tryd.prog (w.iter lpr p) = _ := fun ty => run_next_ascii w lpr p ty hlt hb
        generalize (lpr[p]'hlt).toNat = c at hnx hb
        have hc : ((c : Int) == 65533) = false := by rw [beq_eq_false_iff_ne]; omega
        clear hit
        go_wp2
        go_roundw
        case rel => exact ⟨p + 1, by omega, rfl⟩
        case measure => simp; omega
  · have q1 : (r == 65533) = false := by rw [beq_eq_false_iff_ne]; exact hr
    cases hv : Lib.validRune r
    · have HV := Lib.hid (fun w => Tryd.utf8_ValidRune r w)
      rw [hv] at HV
      clear hr
      go_enter Tryd.func68, Tryd.ntmps68
      go_wp2_with fail
      refine (HV.out _).mono ?_
      rintro e w1 ⟨rfl, rfl⟩
      go_wp2
      go_ret
      exact ⟨rfl, Below.refl _ _⟩
    · have HV := Lib.hid (fun w => Tryd.utf8_ValidRune r w)
      rw [hv] at HV
      have hv' : Utf8.valid r = true := by rw [validRune_eq]; exact hv
      obtain ⟨g1, g2, g3⟩ := encode_facts r hv' h1
      have hix : ∀ m : Nat, (Utf8.encode r).size = m + 1 → ∃ c : Nat, 128 ≤ c ∧ c < 256 ∧ ∀ w : World, (Instr.index 9 (.string (Utf8.encode r)) (.int .i64 (m : Int))).run Tryd.prog w = .ok (.int .u8 (c : Int)) w := by
        intro m hm
        have hlt : m < (Utf8.encode r).size := by omega
        refine ⟨((Utf8.encode r)[m]'hlt).toNat, ?_, UInt8.toNat_lt _, fun w => ?_⟩
        · have := g3 (by omega)
          have e : (Utf8.encode r).size - 1 = m := by omega
          simp only [e] at this
          exact this
        · rw [run_index_string w _ _ _ _ Tryd.underlying9, dif_pos ⟨by omega, by omega⟩]
          rfl
      have HB := Lib.hid (fun (s : ByteArray) (c : Nat) (w : World) => Tryd.strings_IndexByte s c w)
      have hnone : ∀ (a c : Nat), 128 ≤ c → c < 256 → Lib.indexByte (lpr.extract a 3).data.toList (Int.toNat (c : Int)).toUInt8 = -1 := by
        intro a c hc hc2
        refine indexByte_none _ _ (fun b hb hbc => ?_)
        have h := lpr_low b (mem_extract hb)
        rw [hbc] at h
        simp at h
        omega
      clear hr hv hv' g3
      have hs : (Utf8.encode r).size = 2 ∨ (Utf8.encode r).size = 3 ∨ (Utf8.encode r).size = 4 := by omega
      rcases hs with hs | hs | hs
      · obtain ⟨c, hc1, hc2, hi⟩ := hix 1 hs
        have hi' : ∀ w : World, (Instr.index 9 (.string (Utf8.encode r)) (.int .i64 1)).run Tryd.prog w = .ok (.int .u8 (c : Int)) w := hi
        have hl : ∀ w : World, (Instr.index 9 (.string lpr) (.int .i64 1)).run Tryd.prog w = .ok (.int .u8 80) w := fun w => by rw [run_index_string w _ _ _ _ Tryd.underlying9]; rfl
        have hsl : ∀ w : World, (Instr.slice 9 (.string lpr) (some (.int .i64 2)) none none).run Tryd.prog w = .ok (.string (lpr.extract 2 3)) w := fun w => run_slice_string_l w _ lpr Tryd.underlying9 .i64 2 (by omega) (by show (2 : Int) ≤ 3; omega)
        have hwr : IntKind.i64.wrap 2 = 2 := by decide
        have HC := Lib.hid (fun w => HB.out (lpr.extract 2 3) c w)
        rw [hnone 2 c hc1 hc2] at HC
        have hne : ((80 : Int) != (c : Int)) = true := by rw [bne_iff_ne]; omega
        clear hnone hix g1 g2 HB hi
        go_enter Tryd.func68, Tryd.ntmps68
        go_wp2_with fail
        refine (HV.out _).mono ?_
        rintro e w1 ⟨rfl, rfl⟩
        go_wp2
        go_step3
        go_wp2
        go_loopw [9, 10] (fun i f wr => i = .int .i64 1 ∧ f = .int .i64 0 ∧ wr = w1) (fun _ _ _ => 0)
        case atStart => exact ⟨rfl, rfl, rfl⟩
        case round =>
          obtain ⟨rfl, rfl, rfl⟩ := hrel
          go_wp2
          go_step3
          go_wp2
          go_quiet (fail)
          have hb2 := below_drewN (Below.refl wr.heap.size wr) nq
          generalize wr.drewN nq = W2 at hb2 ⊢
          go_wp2
          go_quiet ((go_at_call 75; exact Calls.quiet_of_same ((HC.out _).mono fun e w' h => h)))
          go_wp2
          repeat (first | (rw [Exit.noGoto_ret]) | (show Exit.noGoto _ Exit.ret _ _))
          show bodyPost _ _ _ Exit.ret _ _
          go_ret
          exact ⟨rfl, below_drewN hb2 _⟩
      · obtain ⟨c, hc1, hc2, hi⟩ := hix 2 hs
        have hi' : ∀ w : World, (Instr.index 9 (.string (Utf8.encode r)) (.int .i64 2)).run Tryd.prog w = .ok (.int .u8 (c : Int)) w := hi
        have hl : ∀ w : World, (Instr.index 9 (.string lpr) (.int .i64 2)).run Tryd.prog w = .ok (.int .u8 82) w := fun w => by rw [run_index_string w _ _ _ _ Tryd.underlying9]; rfl
        have hsl : ∀ w : World, (Instr.slice 9 (.string lpr) (some (.int .i64 3)) none none).run Tryd.prog w = .ok (.string (lpr.extract 3 3)) w := fun w => run_slice_string_l w _ lpr Tryd.underlying9 .i64 3 (by omega) (by show (3 : Int) ≤ 3; omega)
        have hwr : IntKind.i64.wrap 3 = 3 := by decide
        have HC := Lib.hid (fun w => HB.out (lpr.extract 3 3) c w)
        rw [hnone 3 c hc1 hc2] at HC
        have hne : ((82 : Int) != (c : Int)) = true := by rw [bne_iff_ne]; omega
        clear hnone hix g1 g2 HB hi
        go_enter Tryd.func68, Tryd.ntmps68
        go_wp2_with fail
        refine (HV.out _).mono ?_
        rintro e w1 ⟨rfl, rfl⟩
        go_wp2
        go_step3
        go_wp2
        go_loopw [9, 10] (fun i f wr => i = .int .i64 2 ∧ f = .int .i64 0 ∧ wr = w1) (fun _ _ _ => 0)
        case atStart => exact ⟨rfl, rfl, rfl⟩
        case round =>
          obtain ⟨rfl, rfl, rfl⟩ := hrel
          go_wp2
          go_step3
          go_wp2
          go_quiet (fail)
          have hb2 := below_drewN (Below.refl wr.heap.size wr) nq
          generalize wr.drewN nq = W2 at hb2 ⊢
          go_wp2
          go_quiet ((go_at_call 75; exact Calls.quiet_of_same ((HC.out _).mono fun e w' h => h)))
          go_wp2
          repeat (first | (rw [Exit.noGoto_ret]) | (show Exit.noGoto _ Exit.ret _ _))
          show bodyPost _ _ _ Exit.ret _ _
          go_ret
          exact ⟨rfl, below_drewN hb2 _⟩
      · clear hnone hix g1 g2 HB
        go_enter Tryd.func68, Tryd.ntmps68
        go_wp2_with fail
        refine (HV.out _).mono ?_
        rintro e w1 ⟨rfl, rfl⟩
        go_wp2
        go_step3
        go_wp2
        go_loopw [9, 10] (fun i f wr => i = .int .i64 3 ∧ f = .int .i64 0 ∧ wr = w1) (fun _ _ _ => 0)
        case atStart => exact ⟨rfl, rfl, rfl⟩
        case round =>
          obtain ⟨rfl, rfl, rfl⟩ := hrel
          go_wp2
          rw [Exit.noGoto_ret]
          go_ret
          exact ⟨rfl, Below.refl _ _⟩

/-- Whether a rune is one of the three letters. -/
def isLet (r : Int) : Bool := r == 76 || (r == 80 || r == 82)

theorem lpr_index (r : Int) (h0 : 0 ≤ r) (h1 : r < 128) : decide (0 ≤ Lib.indexByte lpr.data.toList r.toNat.toUInt8) = isLet r := by
  obtain ⟨k, rfl⟩ := Int.eq_ofNat_of_zero_le h0
  have hk : k < 128 := by omega
  have h : (List.range 128).all (fun k => decide (0 ≤ Lib.indexByte lpr.data.toList (Int.toNat (k : Int)).toUInt8) == isLet k) = true := by decide +kernel
  have := List.all_eq_true.1 h k (by simpa using hk)
  simpa using this

theorem ContainsRune_lpr (r : Int) (h0 : 0 ≤ r) (h2 : r < 2147483648) (w : World) :
    Calls Tryd.prog 54 #[.string lpr, .int .i32 r] w fun e w' => e = .returned (.bool (isLet r)) ∧ Below w.heap.size w w' := by
  by_cases h1 : r < 128
  · refine (Tryd.strings_ContainsRune_ascii lpr r w h0 h1).mono ?_
    rintro e w' ⟨rfl, rfl⟩
    exact ⟨ret_bool (lpr_index r h0 h1), Below.refl _ _⟩
  · have HI := Lib.hid (IndexRune_high r (by omega) h2)
    have HL := Lib.hid (show isLet r = false by
      unfold isLet
      have e1 : (r == 76) = false := by rw [beq_eq_false_iff_ne]; omega
      have e2 : (r == 80) = false := by rw [beq_eq_false_iff_ne]; omega
      have e3 : (r == 82) = false := by rw [beq_eq_false_iff_ne]; omega
      rw [e1, e2, e3]; rfl)
    go_enter Tryd.func54, Tryd.ntmps54
    go_wp2_with fail
    refine (HI.out _).mono ?_
    rintro e w1 ⟨rfl, b1⟩
    go_wp2
    go_ret
    exact ⟨ret_bool (by rw [HL.out]), b1⟩

theorem isStep_any (r : Int) (h0 : 0 ≤ r) (h2 : r < 2147483648) (w : World) :
    Calls Tryd.prog 48 #[.int .i32 r] w fun e w' => e = .returned (.bool (isLet r)) ∧ Below w.heap.size w w' := by
  have HI := Lib.hid (ContainsRune_lpr r h0 h2)
  go_enter Tryd.func48, Tryd.ntmps48
  go_wp2_with fail
  refine (HI.out _).mono ?_
  rintro e w1 ⟨rfl, b1⟩
  go_wp2
  go_ret
  exact ⟨rfl, b1⟩
end Go.Proofs.YtibkhjbcagihbaaDoor

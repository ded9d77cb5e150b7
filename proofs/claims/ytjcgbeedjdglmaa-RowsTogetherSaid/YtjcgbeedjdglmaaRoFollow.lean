/-
  Follow, and the reference's.
-/
import Derived.Test.YtjcgbeedjdglmaaRoCut
import Derived.Test.YtjcgbeedjdglmaaRoFollowMath
namespace Go.Proofs.Ytjcgbeedjdglmaa
open Go.ChangeShapes Go.WideShapes Go.ChangeAt Go.RowKit
set_option maxRecDepth 100000

theorem folN_bd (n k : Nat) (ys : List Nat) (i : Nat) : sumN i (folI n k ys) ≤ i := by
  induction i with
  | zero => exact Nat.le_refl _
  | succ i ih => simp only [sumN]; have : folI n k ys i ≤ 1 := by unfold folI; split <;> omega
                 omega

set_option maxHeartbeats 2000000 in
theorem Follow_ok (n k : Nat) (ys : List Nat) (hr : IsRow n ys) (h1 : 1 ≤ k) (h2 : k < n) (v : Value) (w : World) (h : IntsV w v (natI ys)) :
    Calls Try.prog 49 #[v, .int .i64 k] w fun e w' => e = .returned (.tuple #[.int .i64 (folN n k ys : Nat), .int .i64 0]) ∧ Below w.heap.size w w' := by
  have hlen := hr.len
  have hhi := hr.hi
  have HR := Lib.hid (isRow_any (natI ys) v w (row_len hr) h)
  rw [row_of hr] at HR
  have H := Lib.hid h
  have HY := Lib.hid (fun i => getD_lt hr.lt hr.pos i)
  have HM := Lib.hid (fun x => modulo_any x n (by omega) (by omega))
  have HCo := Lib.hid (fun i u x W hu => Contains_any ((natI ys).drop i) u x W (by rw [List.length_drop]; have := row_len hr; omega) hu)
  have HMem := Lib.hid (fun i (x : Nat) => show ((natI ys).drop i).contains (x : Int) = decide (x ∈ ys.drop i) by
    rw [Bool.eq_iff_iff, List.contains_iff_mem, decide_eq_true_eq]
    have : (natI ys).drop i = natI (ys.drop i) := by unfold natI; rw [List.map_drop]
    rw [this, natI_mem])
  have HB := Lib.hid (folN_bd n k ys)
  obtain ⟨ao, cap, hv, hlc, hc⟩ := h
  rw [natI_length] at hv hlc hc
  obtain ⟨b, off, rfl, hd⟩ := hc (by omega)
  rw [hlen] at hv hlc hd
  subst hv
  have HC := Lib.hid (fun i hi => (hd i hi).trans (by rw [natI_at]))
  clear hc hd hr hlen
  go_enter Try.func49, Try.ntmps49
  go_wp2_with fail
  refine HR.out.mono ?_
  rintro e w1 ⟨rfl, rfl⟩
  go_wp2
  go_loopw [7, 8, 9, 26] (fun c _ _ i wr => ∃ j : Nat, j ≤ n ∧ i = .int .i64 j ∧ c = .int .i64 (sumN j (folI n k ys) : Nat) ∧ Below w.heap.size w wr) (fun _ _ _ i _ => n - (intOf i).toNat)
  case atStart => exact ⟨0, Nat.zero_le _, rfl, rfl, Below.refl _ _⟩
  case round =>
    obtain ⟨j, hj, rfl, rfl, hB⟩ := hrel
    have hsb := HB.out j
    by_cases hlj : j < n
    · have cj1 := cell_later hB (HC.out j hlj)
      have yj := HY.out j
      have j1 : (0 : Int) ≤ (j : Int) + 1 := by omega
      have j2 : (j : Int) + 1 ≤ n := by omega
      have HF1 := Lib.hid ((H.out.later hB).from (j + 1) (by omega))
      have HW1 := Lib.hid hB
      clear hB
      have HSu := Lib.hid (show sumN (j + 1) (folI n k ys) = sumN j (folI n k ys) + folI n k ys j from rfl)
      have HFI := Lib.hid (show folI n k ys j = if (ys[j]?.getD 0 + k) % n ∈ ys.drop (j + 1) then 1 else 0 from rfl)
      generalize ys[j]?.getD 0 = y at cj1 yj HFI
      have HMk := Lib.hid (HM.out ((y : Int) + (k : Int)))
      have hmm : (((y : Int) + (k : Int)) % (n : Int)) = (((y + k) % n : Nat) : Int) := by simp
      rw [hmm] at HMk
      clear hmm
      have HSl := Lib.hid (fun W => run_from (some ⟨b, off, none⟩) n cap ((j : Int) + 1) j1 j2 W)
      rw [show ((j : Int) + 1).toNat = j + 1 by omega] at HSl
      generalize sliced (some ⟨b, off, none⟩) (j + 1) n cap 1 = sv at HF1 HSl
      have HCc := Lib.hid (fun W hW => HCo.out (j + 1) sv (((y + k) % n : Nat) : Int) W hW)
      rw [HMem.out (j + 1) ((y + k) % n)] at HCc
      have hsl := HSl.out
      generalize folI n k ys j = f at HSu HFI
      generalize (y + k) % n = x at HMk HCc HFI
      have HFI' := Lib.hid HFI.out
      have hfi := HFI.out
      by_cases hin : x ∈ ys.drop (j + 1)
      · rw [if_pos hin] at hfi
        rw [decide_eq_true hin] at HCc
        rw [hfi] at HSu
        clear hin HFI HFI' hfi
        go_wp2_with fail
        go_quiet ((first | (go_at_call 77; exact Calls.quiet_of_same ((HMk.out _).mono fun e w' h => ⟨h.1, h.2.symm⟩)) | (go_at_call 76; exact Calls.quiet_of_same ((HCc.out _ (HF1.out.drewN _)).mono fun e w' h => ⟨h.1, h.2.symm⟩))))
        go_wp2
        go_roundw
        case rel => exact ⟨j + 1, by omega, by go_num, by rw [HSu.out]; go_num, below_drewN HW1.out nq⟩
        case measure => simp only [intOf]; omega
      · rw [if_neg hin] at hfi
        rw [decide_eq_false hin] at HCc
        rw [hfi] at HSu
        clear hin HFI HFI' hfi
        go_wp2_with fail
        go_quiet ((first | (go_at_call 77; exact Calls.quiet_of_same ((HMk.out _).mono fun e w' h => ⟨h.1, h.2.symm⟩)) | (go_at_call 76; exact Calls.quiet_of_same ((HCc.out _ (HF1.out.drewN _)).mono fun e w' h => ⟨h.1, h.2.symm⟩))))
        go_wp2
        go_roundw
        case rel => exact ⟨j + 1, by omega, by go_num, by rw [HSu.out]; go_num, below_drewN HW1.out nq⟩
        case measure => simp only [intOf]; omega
    · obtain rfl : j = n := by omega
      go_wp2
      go_ret2
      exact ⟨rfl, hB⟩

theorem Follow_bad (xs : List Int) (k : Int) (hl : xs.length ≤ maxLen) (hb : rowB xs = false ∨ k < 1 ∨ (xs.length : Int) ≤ k) (v : Value) (w : World) (h : IntsV w v xs) :
    Calls Try.prog 49 #[v, .int .i64 k] w fun e w' => e = .returned (.tuple #[.int .i64 0, .int .i64 2]) ∧ w = w' := by
  have HR := Lib.hid (isRow_any xs v w hl h)
  obtain ⟨ao, cap, rfl, _⟩ := h
  cases hr : rowB xs
  · rw [hr] at HR
    clear hb hr
    go_enter Try.func49, Try.ntmps49
    go_wp2_with fail
    refine HR.out.mono ?_
    rintro e w1 ⟨rfl, rfl⟩
    go_wp2
    go_ret2
    exact ⟨rfl, rfl⟩
  · have hb2 := hb.resolve_left (by rw [hr]; decide)
    rw [hr] at HR
    clear hb hr
    by_cases h1 : k < 1
    · go_enter Try.func49, Try.ntmps49
      go_wp2_with fail
      refine HR.out.mono ?_
      rintro e w1 ⟨rfl, rfl⟩
      go_wp2
      go_ret2
      exact ⟨rfl, rfl⟩
    · have h2 := hb2.resolve_left h1
      clear hb2
      go_enter Try.func49, Try.ntmps49
      go_wp2_with fail
      refine HR.out.mono ?_
      rintro e w1 ⟨rfl, rfl⟩
      go_wp2
      go_ret2
      exact ⟨rfl, rfl⟩

theorem isI_bd (n k : Nat) (ys : List Nat) (i j : Nat) : sumN j (isI n k ys i) ≤ j := by
  induction j with
  | zero => exact Nat.le_refl _
  | succ j ih => simp only [sumN]; have : isI n k ys i j ≤ 1 := by unfold isI; split <;> omega
                 omega
theorem tot_bd (n k : Nat) (ys : List Nat) (i : Nat) (hi : i ≤ 10) : sumN i (fun i => sumN i (isI n k ys i)) ≤ 10 * i := by
  induction i with
  | zero => exact Nat.le_refl _
  | succ i ih => simp only [sumN]; have := isI_bd n k ys i i; have := ih (by omega); omega

set_option maxHeartbeats 2000000 in
theorem RFollow_any (n k : Nat) (ys : List Nat) (hr : IsRow n ys) (h2 : k < n) (v : Value) (w : World) (h : IntsV w v (natI ys)) :
    Calls Try.prog 50 #[v, .int .i64 k] w fun e w' => e = .returned (.int .i64 (folN n k ys : Nat)) ∧ Below w.heap.size w w' := by
  have hlen := hr.len
  have hhi := hr.hi
  have H := Lib.hid h
  have HRef := Lib.hid (ref_eq hr (show k ≤ n by omega))
  have HY := Lib.hid (fun i => getD_lt hr.lt hr.pos i)
  have HM := Lib.hid (fun x => refmod_any x n (by omega) (by omega))
  have HBi := Lib.hid (isI_bd n k ys)
  have HBt := Lib.hid (tot_bd n k ys)
  obtain ⟨ao, cap, hv, hlc, hc⟩ := h
  rw [natI_length] at hv hlc hc
  obtain ⟨b, off, rfl, hd⟩ := hc (by omega)
  rw [hlen] at hv hlc hd
  subst hv
  have HC := Lib.hid (fun i hi => (hd i hi).trans (by rw [natI_at]))
  clear hc hd hr hlen
  go_enter Try.func50, Try.ntmps50
  go_wp2
  go_loopw [5, 6, 7, 9, 12, 21] (fun c _ _ _ i _ wr => ∃ j : Nat, j ≤ n ∧ i = .int .i64 j ∧ c = .int .i64 (sumN j (fun i => sumN i (isI n k ys i)) : Nat) ∧ w = wr) (fun _ _ _ _ i _ _ => n - (intOf i).toNat)
  case atStart => exact ⟨0, Nat.zero_le _, rfl, rfl, rfl⟩
  case round =>
    obtain ⟨j, hj, rfl, rfl, rfl⟩ := hrel
    have hbt := HBt.out j (by omega)
    by_cases hlj : j < n
    · have cj := HC.out j hlj
      have yj := HY.out j
      have hjc : (j : Int) ≤ cap := by omega
      have HIs := Lib.hid (fun i => show isI n k ys j i = if (ys[i]?.getD 0 + k) % n = ys[j]?.getD 0 then 1 else 0 from rfl)
      generalize ys[j]?.getD 0 = y at cj yj HIs
      have hsl := run_upto (some ⟨b, off, none⟩) n cap (j : Int) (by omega) (by omega)
      rw [show sliced (some ⟨b, off, none⟩) 0 ((j : Int).toNat) cap 1 = .slice (some ⟨b, off, none⟩) j cap by unfold sliced; simp [Addr.add]] at hsl
      have HT := Lib.hid (show sumN (j + 1) (fun i => sumN i (isI n k ys i)) = sumN j (fun i => sumN i (isI n k ys i)) + sumN j (isI n k ys j) from rfl)
      generalize sumN j (fun i => sumN i (isI n k ys i)) = T at hbt HT
      go_wp2
      go_loopw [5, 9, 21] (fun c _ i wr => ∃ l : Nat, l ≤ j ∧ i = .int .i64 l ∧ c = .int .i64 ((T + sumN l (isI n k ys j) : Nat) : Int) ∧ w = wr) (fun _ _ i _ => j - (intOf i).toNat)
      case atStart => exact ⟨0, Nat.zero_le _, rfl, by simp [sumN], rfl⟩
      case round =>
        obtain ⟨l, hl, rfl, rfl, rfl⟩ := hrel
        have hbi := HBi.out j l
        by_cases hll : l < j
        · have cl := HC.out l (by omega)
          have yl := HY.out l
          have HIl := Lib.hid (HIs.out l)
          have HSl := Lib.hid (show sumN (l + 1) (isI n k ys j) = sumN l (isI n k ys j) + isI n k ys j l from rfl)
          generalize ys[l]?.getD 0 = x at cl yl HIl
          generalize isI n k ys j l = f at HIl HSl
          have HMk := Lib.hid (HM.out ((x : Int) + (k : Int)))
          have hmm : (((x : Int) + (k : Int)) % (n : Int)) = (((x + k) % n : Nat) : Int) := by simp
          rw [hmm] at HMk
          clear hmm
          generalize (x + k) % n = z at HMk HIl
          have hfi := HIl.out
          by_cases hzy : z = y
          · rw [if_pos hzy] at hfi
            rw [hfi] at HSl
            have q : ((z : Int) == (y : Int)) = true := by rw [beq_iff_eq, hzy]
            clear hzy HIl hfi
            go_wp2_with fail
            refine (HMk.out _).mono ?_
            rintro e w1 ⟨rfl, rfl⟩
            go_wp2
            go_roundw
            case rel => exact ⟨l + 1, by omega, by go_num, by rw [HSl.out]; go_num, by first | trivial | rfl⟩
            case measure => simp only [intOf]; omega
          · rw [if_neg hzy] at hfi
            rw [hfi] at HSl
            have q : ((z : Int) == (y : Int)) = false := by rw [beq_eq_false_iff_ne]; omega
            clear hzy HIl hfi
            go_wp2_with fail
            refine (HMk.out _).mono ?_
            rintro e w1 ⟨rfl, rfl⟩
            go_wp2
            go_roundw
            case rel => exact ⟨l + 1, by omega, by go_num, by rw [HSl.out]; go_num, by first | trivial | rfl⟩
            case measure => simp only [intOf]; omega
        · obtain rfl : l = j := by omega
          go_wp2
          go_roundw
          case rel => exact ⟨l + 1, by omega, by go_num, by rw [HT.out], by first | trivial | rfl⟩
          case measure => simp only [intOf]; omega
    · obtain rfl : j = n := by omega
      go_wp2
      go_ret
      exact ⟨ret_int (by rw [HRef.out]), Below.refl _ _⟩
end Go.Proofs.Ytjcgbeedjdglmaa

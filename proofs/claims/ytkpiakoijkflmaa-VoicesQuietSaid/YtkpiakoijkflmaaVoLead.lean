/-
  Contracts: whether slices are voicings of one length (the code's), whether a slice is a leading (both).
-/
import Derived.Test.YtkpiakoijkflmaaVoLeaf
namespace Go.Proofs.Ytkpiakoijkflmaa
open Go.ChangeShapes Go.WideShapes Go.ChangeAt Go.RowKit
set_option maxRecDepth 100000

/-- A leading of k voices. -/
def ldB (k : Nat) (xs : List Int) : Bool := decide (xs.length = k) && partB k xs

theorem ld_all {k : Nat} {xs : List Int} (hl : xs.length = k) (h : ∀ i, i < k → ((i : Nat) : Int) ∈ xs) : ldB k xs = true := by
  unfold ldB
  rw [decide_eq_true hl, Bool.true_and]
  have hp : ((List.range k).map fun (i : Nat) => (i : Int)).Perm xs := by
    have key : ∀ {l m : List Int}, l.Nodup → (∀ x ∈ l, x ∈ m) → m.length ≤ l.length → l.Perm m := by
      intro l
      induction l with
      | nil => intro m _ _ h; have : m = [] := List.eq_nil_of_length_eq_zero (by simpa using h); rw [this]
      | cons x l ih =>
        intro m hn h hl
        rw [List.nodup_cons] at hn
        have hm := h x (by simp)
        have h1 := ih (m := m.erase x) hn.2 (fun y hy => by
          refine (List.mem_erase_of_ne ?_).2 (h y (by simp [hy]))
          rintro rfl; exact hn.1 hy) (by rw [List.length_erase_of_mem hm]; rw [List.length_cons] at hl; omega)
        exact (List.Perm.cons x h1).trans (List.perm_cons_erase hm).symm
    refine key ?_ ?_ (by simp [hl])
    · exact natI_nodup.2 List.nodup_range
    · intro x hx
      obtain ⟨i, hi, rfl⟩ := List.mem_map.1 hx
      exact h i (List.mem_range.1 hi)
  unfold partB
  refine decide_eq_true ⟨fun x hx => ?_, hp.nodup_iff.1 (natI_nodup.2 List.nodup_range)⟩
  obtain ⟨i, hi, rfl⟩ := List.mem_map.1 (hp.mem_iff.2 hx)
  have := List.mem_range.1 hi
  omega
theorem ld_miss {k : Nat} {xs : List Int} {i : Nat} (hi : i < k) (h : ((i : Nat) : Int) ∉ xs) : ldB k xs = false := by
  cases e : ldB k xs
  · rfl
  · unfold ldB at e
    rw [Bool.and_eq_true, decide_eq_true_eq] at e
    obtain ⟨ys, rfl, h1, h2⟩ := part_nat e.2
    rw [natI_length] at e
    have := fits_subset h2 (m := List.range k) (fun x hx => List.mem_range.2 (h1 x hx)) (by rw [List.length_range]; omega)
    exact (h (natI_mem.2 (this.mem_iff.2 (List.mem_range.2 hi)))).elim
theorem ld_len {k : Nat} {xs : List Int} (h : xs.length ≠ k) : ldB k xs = false := by unfold ldB; rw [decide_eq_false h, Bool.false_and]

theorem isLeading_any (k : Nat) (hk : k ≤ 6) (xs : List Int) (v : Value) (w : World) (hl : xs.length ≤ maxLen) (h : IntsV w v xs) :
    Calls Try.prog 81 #[.int .i64 k, v] w fun e w' => e = .returned (.bool (ldB k xs)) ∧ w = w' := by
  have HC := Lib.hid (fun x => Contains_any xs v x w hl h)
  have hl2 := hl
  unfold maxLen at hl2
  obtain ⟨ao, cap, rfl, _, _⟩ := h
  by_cases hlen : xs.length = k
  · have HA := Lib.hid (ld_all hlen)
    have HM := Lib.hid (fun i hi hm => ld_miss (k := k) (xs := xs) (i := i) hi hm)
    have q1 : ((xs.length : Int) != (k : Int)) = false := by rw [bne_eq_false_iff_eq]; omega
    clear hlen
    go_enter Try.func81, Try.ntmps81
    go_wp2
    go_loopw [5, 11] (fun _ i wr => ∃ (j : Nat), j ≤ k ∧ i = .int .i64 j ∧ (∀ i, i < j → ((i : Nat) : Int) ∈ xs) ∧ w = wr) (fun _ i _ => k - (intOf i).toNat)
    case atStart => exact ⟨0, Nat.zero_le _, rfl, fun i hi => by omega, rfl⟩
    case round =>
      obtain ⟨j, hj, rfl, hpre, rfl⟩ := hrel
      have HP := Lib.hid hpre
      clear hpre
      by_cases hlk : j < k
      · have HCj := Lib.hid (HC.out (j : Int))
        by_cases hm : ((j : Nat) : Int) ∈ xs
        · rw [List.contains_iff_mem.2 hm] at HCj
          have HMm := Lib.hid hm
          clear hm
          go_wp2_with fail
          refine HCj.out.mono ?_
          rintro e w1 ⟨rfl, rfl⟩
          go_wp2
          go_roundw
          case rel =>
            refine ⟨j + 1, by omega, by go_num, fun i hi => ?_, trivial⟩
            by_cases e : i = j
            · rw [e]; exact HMm.out
            · exact HP.out i (by omega)
          case measure => simp only [intOf]; omega
        · have e1 : xs.contains (j : Int) = false := by
            cases e : xs.contains (j : Int)
            · rfl
            · exact (hm (List.contains_iff_mem.1 e)).elim
          rw [e1] at HCj
          have HF := Lib.hid (HM.out j hlk hm)
          clear hm e1
          go_wp2_with fail
          refine HCj.out.mono ?_
          rintro e w1 ⟨rfl, rfl⟩
          go_wp2
          go_ret
          exact ⟨ret_bool HF.out.symm, rfl⟩
      · have HF := Lib.hid (HA.out (fun i hi => HP.out i (by omega)))
        go_wp2
        go_ret
        exact ⟨ret_bool HF.out.symm, rfl⟩
  · have HF := Lib.hid (ld_len hlen)
    have q1 : ((xs.length : Int) != (k : Int)) = true := by rw [bne_iff_ne]; omega
    clear hlen
    go_enter Try.func81, Try.ntmps81
    go_wp2
    go_ret
    exact ⟨ret_bool HF.out.symm, rfl⟩

theorem ld_part {k : Nat} {xs : List Int} (h : partB k xs = false) : ldB k xs = false := by unfold ldB; rw [h, Bool.and_false]
theorem ld_is {k : Nat} {xs : List Int} (h : partB k xs = true) : ldB k xs = decide (xs.length = k) := by unfold ldB; rw [h, Bool.and_true]

theorem RLeading_zero (k : Nat) (hk : k ≤ 16) (ao : Option Addr) (cap : Nat) (w : World) :
    Calls Try.prog 41 #[.int .i64 k, .slice ao 0 cap] w fun e w' => e = .returned (.bool (ldB k [])) ∧ w = w' := by
  have HE := Lib.hid (ld_is (k := k) (xs := []) (by simp [partB]))
  go_enter Try.func41, Try.ntmps41
  go_wp2
  go_loopw [5, 7, 10] (fun _ _ i wr => i = .int .i64 0 ∧ w = wr) (fun _ _ _ _ => 0)
  case atStart => exact ⟨rfl, rfl⟩
  case round =>
    obtain ⟨rfl, rfl⟩ := hrel
    by_cases h : k = 0
    · subst h
      go_wp2
      go_ret
      exact ⟨ret_bool HE.out.symm, rfl⟩
    · have q : ((0 : Int) == (k : Int)) = false := by rw [beq_eq_false_iff_ne]; omega
      have HH := Lib.hid h
      clear h
      go_wp2
      go_ret
      exact ⟨ret_bool (by rw [HE.out]; exact (decide_eq_false (fun e => HH.out (by simpa using e.symm))).symm), rfl⟩

set_option maxHeartbeats 2000000 in
theorem RLeading_pos (n : Nat) (hn2 : n ≤ 16) (xs : List Int) (b off cap : Nat) (w : World) (hl : xs.length ≤ maxLen) (hc : ∀ i, i < xs.length → w.cell? ⟨b, off + i, none⟩ = some (.int .i64 (xs[i]?.getD 0))) :
    Calls Try.prog 41 #[.int .i64 n, .slice (some ⟨b, off, none⟩) xs.length cap] w fun e w' => e = .returned (.bool (ldB n xs)) ∧ w = w' := by
  have HC := Lib.hid hc
  clear hc
  unfold maxLen at hl
  go_enter Try.func41, Try.ntmps41
  go_wp2
  go_loopw [5, 7, 10] (fun m _ i wr => ∃ (k : Nat) (ys : List Nat), k ≤ xs.length ∧ i = .int .i64 k ∧ m = .int .i64 (maskL ys) ∧ xs.take k = natI ys ∧ (∀ y ∈ ys, y < n) ∧ ys.Nodup ∧ w = wr) (fun _ _ i _ => xs.length - (intOf i).toNat)
  case atStart => exact ⟨0, [], Nat.zero_le _, rfl, rfl, rfl, by simp, by simp, rfl⟩
  case round =>
    obtain ⟨k, ys, hk, rfl, rfl, hpre, hlt, hnd, rfl⟩ := hrel
    by_cases hlk : k < xs.length
    · have ck := HC.out k hlk
      have hge : xs[k]?.getD 0 = xs[k] := by rw [List.getElem?_eq_getElem hlk]; rfl
      have HM := Lib.hid (show xs[k] ∈ xs from List.getElem_mem hlk)
      have HT := Lib.hid (show xs.take (k + 1) = xs.take k ++ [xs[k]] from List.take_succ_eq_append_getElem hlk)
      have HD := Lib.hid (fun h => ld_part (part_false_dup (n := n) hlk h))
      rw [hge] at ck
      clear hge
      generalize xs[k] = x at ck HM HT HD
      by_cases h0 : x < 0
      · have HV := Lib.hid (ld_part (part_false_lt (n := n) HM.out (fun h => by omega)))
        go_wp2
        go_ret
        exact ⟨ret_bool HV.out.symm, rfl⟩
      · by_cases h1 : (n : Int) ≤ x
        · have HV := Lib.hid (ld_part (part_false_lt (n := n) HM.out (fun h => by omega)))
          go_wp2
          go_ret
          exact ⟨ret_bool HV.out.symm, rfl⟩
        · obtain ⟨y, rfl⟩ := Int.eq_ofNat_of_zero_le (show 0 ≤ x by omega)
          have hyn : y < 16 := by omega
          have hml : maskL ys < 2 ^ 16 := Nat.lt_of_lt_of_le (mask_lt hlt) (Nat.pow_le_pow_right (by omega) hn2)
          have hol := one_shl hyn
          have HA := Lib.hid (shr_and ys y hml)
          have HO := Lib.hid (or_nat (maskL ys) (1 <<< y) (by omega) (by omega))
          have HW := Lib.hid (w64_pow hyn)
          by_cases hdup : y ∈ ys
          · have HV := Lib.hid (HD.out (by rw [hpre]; exact natI_mem.2 hdup))
            have q : (bits .and .i64 (((maskL ys : Nat) : Int) / 2 ^ y) 1 == 1) = true := by
              rw [HA.out, decide_eq_true hdup]
            clear hpre hlt hnd HD hdup
            go_wp2
            go_ret
            exact ⟨ret_bool HV.out.symm, rfl⟩
          · have q : (bits .and .i64 (((maskL ys : Nat) : Int) / 2 ^ y) 1 == 1) = false := by
              rw [HA.out, decide_eq_false hdup]
            have HP := Lib.hid hpre
            have HL := Lib.hid hlt
            have HN := Lib.hid hnd
            have HU := Lib.hid hdup
            clear hpre hlt hnd HD hdup
            go_wp2
            go_roundw
            case rel =>
              refine ⟨k + 1, ys ++ [y], by omega, by go_num, ?_, ?_, ?_, ?_, trivial⟩
              · rw [HW.out, HO.out, mask_snoc]
              · rw [HT.out, HP.out]; simp [natI]
              · intro z hz
                rcases List.mem_append.1 hz with hz | hz
                · exact HL.out z hz
                · have : z = y := by simpa using hz
                  omega
              · rw [List.nodup_append]
                refine ⟨HN.out, by simp, ?_⟩
                intro a ha c hc e
                have : c = y := by simpa using hc
                exact HU.out (by rw [← this, ← e]; exact ha)
            case measure => simp only [intOf]; omega
    · have HE := Lib.hid (show ldB n xs = decide (xs.length = n) by
        refine ld_is ?_
        rw [← List.take_of_length_le (i := k) (l := xs) (by omega), hpre]
        exact part_of hlt hnd)
      clear hpre hlt hnd
      by_cases h : xs.length = n
      · have q : ((xs.length : Int) == (n : Int)) = true := by rw [beq_iff_eq]; omega
        have HH := Lib.hid h
        clear h
        go_wp2
        go_ret
        exact ⟨ret_bool (by rw [HE.out, decide_eq_true HH.out]), rfl⟩
      · have q : ((xs.length : Int) == (n : Int)) = false := by rw [beq_eq_false_iff_ne]; omega
        have HH := Lib.hid h
        clear h
        go_wp2
        go_ret
        exact ⟨ret_bool (by rw [HE.out, decide_eq_false HH.out]), rfl⟩

theorem RLeading_any (n : Nat) (hn2 : n ≤ 16) (xs : List Int) (v : Value) (w : World) (hl : xs.length ≤ maxLen) (h : IntsV w v xs) :
    Calls Try.prog 41 #[.int .i64 n, v] w fun e w' => e = .returned (.bool (ldB n xs)) ∧ w = w' := by
  obtain ⟨ao, cap, rfl, _, hc⟩ := h
  by_cases h0 : 0 < xs.length
  · obtain ⟨b, off, rfl, hd⟩ := hc h0
    exact RLeading_pos n hn2 xs b off cap w hl hd
  · obtain rfl := List.eq_nil_of_length_eq_zero (show xs.length = 0 by omega)
    exact RLeading_zero n hn2 ao cap w

/-! ### valid -/
/-- Slices, one behind the other in memory. -/
def SlicesV (W : World) (v : Value) (vs : List Value) : Prop :=
  ∃ (ao : Option Addr) (cap : Nat), v = .slice ao vs.length cap ∧ vs.length ≤ cap ∧ (0 < vs.length → ∃ b off, ao = some ⟨b, off, none⟩ ∧ ∀ i, i < vs.length → W.cell? ⟨b, off + i, none⟩ = some (vs[i]?.getD (.slice none 0 0)))
def AllI (W : World) : List Value → List (List Int) → Prop
  | v :: vs, xs :: xss => (IntsV W v xs ∧ xs.length ≤ maxLen) ∧ AllI W vs xss
  | [], [] => True
  | _, _ => False
theorem AllI.len {W : World} : ∀ {vs : List Value} {xss : List (List Int)}, AllI W vs xss → vs.length = xss.length
  | [], [], _ => rfl
  | _ :: _, _ :: _, h => by simp [h.2.len]
  | [], _ :: _, h => h.elim
  | _ :: _, [], h => h.elim
theorem AllI.at {W : World} : ∀ {vs : List Value} {xss : List (List Int)}, AllI W vs xss → ∀ i, i < vs.length → IntsV W (vs[i]?.getD (.slice none 0 0)) (xss[i]?.getD []) ∧ (xss[i]?.getD []).length ≤ maxLen
  | [], [], _, i, hi => by simp at hi
  | v :: vs, xs :: xss, h, 0, _ => h.1
  | v :: vs, xs :: xss, h, i + 1, hi => by simpa using h.2.at i (by simpa using hi)
  | [], _ :: _, h, _, _ => h.elim
  | _ :: _, [], h, _, _ => h.elim

/-- All are voicings, as long as the first one. -/
def okAll (n : Int) (xss : List (List Int)) : Bool := decide (∀ xs ∈ xss, voicB n xs = true ∧ xs.length = (xss[0]?.getD []).length)
theorem okAll_bad {n : Int} {xss : List (List Int)} {xs : List Int} (hm : xs ∈ xss) (h : voicB n xs = false ∨ xs.length ≠ (xss[0]?.getD []).length) : okAll n xss = false := by
  unfold okAll
  refine decide_eq_false (fun hh => ?_)
  obtain ⟨h1, h2⟩ := hh xs hm
  rcases h with h | h
  · rw [h1] at h; cases h
  · exact h h2

set_option maxHeartbeats 4000000 in
theorem valid_any (n : Int) (xss : List (List Int)) (vs : List Value) (v : Value) (w : World) (hl : vs.length ≤ maxLen) (h : SlicesV w v vs) (ha : AllI w vs xss) :
    Calls Try.prog 60 #[.int .i64 n, v] w fun e w' => e = .returned (.bool (circB n && okAll n xss)) ∧ w = w' := by
  obtain ⟨ao, cap, rfl, hlc, hc⟩ := h
  have hlen := ha.len
  unfold maxLen at hl
  by_cases h2 : 2 ≤ n
  · by_cases h16 : n ≤ 16
    · have HN := Lib.hid (show (circB n && okAll n xss) = okAll n xss by unfold circB; rw [decide_eq_true ⟨h2, h16⟩, Bool.true_and])
      by_cases h0 : 0 < vs.length
      · obtain ⟨b, off, rfl, hd⟩ := hc h0
        have HC := Lib.hid hd
        have HAt := Lib.hid ha.at
        have HV := Lib.hid (fun i hi => isVoicing_any n (xss[i]?.getD []) (vs[i]?.getD (.slice none 0 0)) w (ha.at i hi).2 (ha.at i hi).1)
        have HL := Lib.hid hlen
        clear hc hd ha hlen
        obtain ⟨p0, q0, e0, _⟩ := (HAt.out 0 h0).1
        have c0 := HC.out 0 h0
        rw [e0, Nat.add_zero] at c0
        have hl0 := (HAt.out 0 h0).2
        unfold maxLen at hl0
        obtain ⟨l0, hl0'⟩ : ∃ l0, (xss[0]?.getD []).length = l0 := ⟨_, rfl⟩
        rw [hl0'] at c0 hl0
        have HL0 := Lib.hid hl0'
        clear e0 hl0'
        generalize vs.length = m at *
        go_enter Try.func60, Try.ntmps60
        go_wp2
        go_loopw [6, 15] (fun _ i wr => ∃ (k : Nat), k ≤ m ∧ i = .int .i64 k ∧ (∀ i, i < k → voicB n (xss[i]?.getD []) = true ∧ (xss[i]?.getD []).length = l0) ∧ w = wr) (fun _ i _ => m - (intOf i).toNat)
        case atStart => exact ⟨0, Nat.zero_le _, rfl, fun i hi => by omega, rfl⟩
        case round =>
          obtain ⟨k, hk, rfl, hpre, rfl⟩ := hrel
          have HP := Lib.hid hpre
          clear hpre
          by_cases hlk : k < m
          · have ck := HC.out k hlk
            obtain ⟨pk, qk, ek, _⟩ := (HAt.out k hlk).1
            have hll := (HAt.out k hlk).2
            unfold maxLen at hll
            have HVk := Lib.hid (HV.out k hlk)
            have HMem := Lib.hid (show xss[k]?.getD [] ∈ xss by
              have hx : k < xss.length := by have := HL.out; omega
              rw [List.getElem?_eq_getElem hx]; exact List.getElem_mem hx)
            have HB := Lib.hid (fun hh => okAll_bad (n := n) HMem.out hh)
            have HPk := Lib.hid (show ∀ b, b = voicB n (xss[k]?.getD []) → ∀ l, l = (xss[k]?.getD []).length → b = true → l = l0 → ∀ i, i < k + 1 → voicB n (xss[i]?.getD []) = true ∧ (xss[i]?.getD []).length = l0 from fun b hb l hl h1 h2 i hi => by
              by_cases e : i = k
              · rw [e, ← hb, ← hl]; exact ⟨h1, h2⟩
              · exact HP.out i (by omega))
            rw [ek] at ck HVk
            clear ek
            obtain ⟨vb, hvb⟩ : ∃ vb, voicB n (xss[k]?.getD []) = vb := ⟨_, rfl⟩
            obtain ⟨lk, hlk'⟩ : ∃ lk, (xss[k]?.getD []).length = lk := ⟨_, rfl⟩
            rw [hvb, hlk'] at HB HVk
            rw [hlk'] at ck hll
            rw [HL0.out] at HB
            have HVB := Lib.hid (HPk.out vb hvb.symm lk hlk'.symm)
            clear HPk hvb hlk' HMem
            cases vb
            · have HF := Lib.hid (HB.out (.inl rfl))
              go_wp2_with fail
              refine HVk.out.mono ?_
              rintro e w1 ⟨rfl, rfl⟩
              go_wp2
              go_ret
              exact ⟨ret_bool (HN.out.trans HF.out).symm, rfl⟩
            · by_cases he : lk = l0
              · have HX := Lib.hid (HVB.out rfl he)
                have q1 : ((lk : Int) != (l0 : Int)) = false := by rw [bne_eq_false_iff_eq]; omega
                clear he HVB HB
                go_wp2_with fail
                refine HVk.out.mono ?_
                rintro e w1 ⟨rfl, rfl⟩
                go_wp2
                go_roundw
                case rel => exact ⟨k + 1, by omega, by go_num, HX.out, trivial⟩
                case measure => simp only [intOf]; omega
              · have HF := Lib.hid (HB.out (.inr he))
                have q1 : ((lk : Int) != (l0 : Int)) = true := by rw [bne_iff_ne]; omega
                clear he HVB HB
                go_wp2_with fail
                refine HVk.out.mono ?_
                rintro e w1 ⟨rfl, rfl⟩
                go_wp2
                go_ret
                exact ⟨ret_bool (HN.out.trans HF.out).symm, rfl⟩
          · have HF := Lib.hid (show okAll n xss = true by
              unfold okAll
              refine decide_eq_true (fun xs hxs => ?_)
              obtain ⟨i, hi, rfl⟩ := List.mem_iff_getElem.1 hxs
              have := HP.out i (by have := HL.out; omega)
              rw [List.getElem?_eq_getElem hi] at this
              rw [HL0.out]; exact this)
            go_wp2
            go_ret
            exact ⟨ret_bool (HN.out.trans HF.out).symm, rfl⟩
      · have hv0 : vs.length = 0 := by omega
        have hx0 : xss = [] := List.eq_nil_of_length_eq_zero (by omega)
        subst hx0
        rw [hv0]
        clear hc ha hlen hv0
        go_enter Try.func60, Try.ntmps60
        go_wp2
        go_loopw [6, 15] (fun _ i wr => i = .int .i64 0 ∧ w = wr) (fun _ _ _ => 0)
        case atStart => exact ⟨rfl, rfl⟩
        case round =>
          obtain ⟨rfl, rfl⟩ := hrel
          go_wp2
          go_ret
          exact ⟨ret_bool (by rw [HN.out]; rfl), rfl⟩
    · have HN := Lib.hid (show (circB n && okAll n xss) = false by unfold circB; rw [decide_eq_false (fun h => h16 h.2), Bool.false_and])
      clear hc
      go_enter Try.func60, Try.ntmps60
      go_wp2
      go_ret
      exact ⟨ret_bool HN.out.symm, rfl⟩
  · have HN := Lib.hid (show (circB n && okAll n xss) = false by unfold circB; rw [decide_eq_false (fun h => h2 h.1), Bool.false_and])
    clear hc
    go_enter Try.func60, Try.ntmps60
    go_wp2
    go_ret
    exact ⟨ret_bool HN.out.symm, rfl⟩
end Go.Proofs.Ytkpiakoijkflmaa

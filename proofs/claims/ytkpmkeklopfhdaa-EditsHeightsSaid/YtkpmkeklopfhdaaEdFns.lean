/-
  Contracts of the small functions of package edits, of its reference and of the statements.
-/
import Derived.Test.YtkpmkeklopfhdaaLeafA
import Derived.Test.YtkpmkeklopfhdaaEdMath
import Derived.Test.YtkpmkeklopfhdaaMem
import Derived.Test.YtkpmkeklopfhdaaRoArg
namespace Go.Proofs.Ytkpmkeklopfhdaa
open Go.ChangeShapes Go.WideShapes Go.ChangeAt Go.RowKit
set_option maxRecDepth 100000

def priceB (x : Int) : Bool := decide (1 ≤ x) && decide (x ≤ 9)
theorem isPrice_any (x : Int) (w : World) : Calls Try.prog 87 #[.int .i64 x] w fun e w' => e = .returned (.bool (priceB x)) ∧ w = w' := by
  by_cases h1 : 1 ≤ x
  · have H := Lib.hid (show priceB x = decide (x ≤ 9) by unfold priceB; rw [decide_eq_true h1]; rfl)
    go_enter Try.func87, Try.ntmps87
    go_wp2
    go_ret
    exact ⟨ret_bool H.out.symm, rfl⟩
  · have H := Lib.hid (show priceB x = false by unfold priceB; rw [decide_eq_false h1]; rfl)
    go_enter Try.func87, Try.ntmps87
    go_wp2
    go_ret
    exact ⟨ret_bool H.out.symm, rfl⟩

def numB (x : Int) : Bool := decide (-1000 ≤ x) && decide (x ≤ 1000)
theorem isNumber_any (x : Int) (w : World) : Calls Try.prog 98 #[.int .i64 x] w fun e w' => e = .returned (.bool (numB x)) ∧ w = w' := by
  by_cases h1 : -1000 ≤ x
  · have H := Lib.hid (show numB x = decide (x ≤ 1000) by unfold numB; rw [decide_eq_true h1]; rfl)
    go_enter Try.func98, Try.ntmps98
    go_wp2
    go_ret
    exact ⟨ret_bool H.out.symm, rfl⟩
  · have H := Lib.hid (show numB x = false by unfold numB; rw [decide_eq_false h1]; rfl)
    go_enter Try.func98, Try.ntmps98
    go_wp2
    go_ret
    exact ⟨ret_bool H.out.symm, rfl⟩

def lineB (s : ByteArray) : Bool := decide (s.size ≤ 12)
theorem line_int (s : ByteArray) : decide ((s.size : Int) ≤ 12) = lineB s := by
  unfold lineB; by_cases h : s.size ≤ 12
  · rw [decide_eq_true h, decide_eq_true (by omega)]
  · rw [decide_eq_false h, decide_eq_false (by omega)]
theorem isLine_any (s : ByteArray) (w : World) : Calls Try.prog 64 #[.string s] w fun e w' => e = .returned (.bool (lineB s)) ∧ w = w' := by
  have H := Lib.hid (line_int s)
  go_enter Try.func64, Try.ntmps64
  go_wp2
  go_ret
  exact ⟨ret_bool H.out, rfl⟩
theorem RLine_any (s : ByteArray) (w : World) : Calls Try.prog 30 #[.string s] w fun e w' => e = .returned (.bool (lineB s)) ∧ w = w' := by
  have H := Lib.hid (line_int s)
  go_enter Try.func30, Try.ntmps30
  go_wp2
  go_ret
  exact ⟨ret_bool H.out, rfl⟩

/-- A slice of strings that can be read. -/
def StrsV (W : World) (v : Value) (ss : List ByteArray) : Prop :=
  ∃ (ao : Option Addr) (cap : Nat), v = .slice ao ss.length cap ∧ ss.length ≤ cap ∧ (0 < ss.length → ∃ b off, ao = some ⟨b, off, none⟩ ∧ ∀ i, i < ss.length → W.cell? ⟨b, off + i, none⟩ = some (.string (ss[i]?.getD ⟨#[]⟩)))
theorem StrsV.later {W W' : World} {v : Value} {ss : List ByteArray} (h : StrsV W v ss) (hb : Below W.heap.size W W') : StrsV W' v ss := by
  obtain ⟨ao, cap, rfl, hlc, hc⟩ := h
  refine ⟨ao, cap, rfl, hlc, fun h0 => ?_⟩
  obtain ⟨b, off, e, hd⟩ := hc h0
  exact ⟨b, off, e, fun i hi => cell_later hb (hd i hi)⟩

theorem all_take_false {α : Type} {l : List α} {p : α → Bool} {k : Nat} (h : k < l.length) (hp : p l[k] = false) : l.all p = false := by
  rw [Bool.eq_false_iff]; intro ha; rw [List.all_eq_true] at ha; rw [ha _ (List.getElem_mem h)] at hp; cases hp
theorem all_take_true {α : Type} {l : List α} {p : α → Bool} {k : Nat} (h : k < l.length) (hp : p l[k] = true) (ht : (l.take k).all p = true) : (l.take (k + 1)).all p = true := by
  rw [List.take_succ_eq_append_getElem h, List.all_append, ht]; simp [hp]

set_option maxHeartbeats 1000000 in
theorem all_price (xs : List Int) (hl : xs.length ≤ maxLen) (v : Value) (w : World) (hv : IntsV w v xs) :
    Calls Try.prog 86 #[.func (.func 87) #[] #[], v] w fun e w' => e = .returned (.bool (xs.all priceB)) ∧ w = w' := by
  obtain ⟨ao, cap, rfl, hlc, hd⟩ := hv
  have HF := Lib.hid (fun x w => isPrice_any x w)
  have HD := Lib.hid hd
  clear hd
  unfold maxLen at hl
  go_enter Try.func86, Try.ntmps86
  go_wp2
  go_loopw [6, 9] (fun _ i wr => ∃ k : Nat, k ≤ xs.length ∧ i = .int .i64 k ∧ (xs.take k).all priceB = true ∧ w = wr) (fun _ i _ => xs.length - (intOf i).toNat)
  case atStart => exact ⟨0, Nat.zero_le _, rfl, by simp, rfl⟩
  case round =>
    obtain ⟨k, hk, rfl, ha, rfl⟩ := hrel
    by_cases hlk : k < xs.length
    · obtain ⟨b, off, rfl, hdd⟩ := HD.out (by omega)
      have ck := hdd k hlk
      have hge : xs[k]?.getD 0 = xs[k] := by rw [List.getElem?_eq_getElem hlk]; rfl
      rw [hge] at ck
      have HT := Lib.hid (fun hp => all_take_true (p := priceB) hlk hp ha)
      have HN := Lib.hid (fun hp => all_take_false (p := priceB) hlk hp)
      clear hge hdd ha
      generalize xs[k] = x at ck HT HN
      go_wp2_with fail
      refine (HF.out _ _).mono ?_
      rintro e w1 ⟨rfl, rfl⟩
      cases hp : priceB x
      · have HP := Lib.hid (HN.out hp)
        clear HN HT hp
        go_wp2
        go_ret
        exact ⟨ret_bool HP.out.symm, rfl⟩
      · have HP := Lib.hid (HT.out hp)
        clear HN HT hp
        go_wp2
        go_roundw
        case rel => exact ⟨k + 1, by omega, by go_num, HP.out, trivial⟩
        case measure => simp only [intOf]; omega
    · have HE := Lib.hid (show xs.all priceB = true by rwa [List.take_of_length_le (by omega)] at ha)
      go_wp2
      go_ret
      exact ⟨ret_bool HE.out.symm, rfl⟩

set_option maxHeartbeats 1000000 in
theorem all_num (xs : List Int) (hl : xs.length ≤ maxLen) (v : Value) (w : World) (hv : IntsV w v xs) :
    Calls Try.prog 86 #[.func (.func 98) #[] #[], v] w fun e w' => e = .returned (.bool (xs.all numB)) ∧ w = w' := by
  obtain ⟨ao, cap, rfl, hlc, hd⟩ := hv
  have HF := Lib.hid (fun x w => isNumber_any x w)
  have HD := Lib.hid hd
  clear hd
  unfold maxLen at hl
  go_enter Try.func86, Try.ntmps86
  go_wp2
  go_loopw [6, 9] (fun _ i wr => ∃ k : Nat, k ≤ xs.length ∧ i = .int .i64 k ∧ (xs.take k).all numB = true ∧ w = wr) (fun _ i _ => xs.length - (intOf i).toNat)
  case atStart => exact ⟨0, Nat.zero_le _, rfl, by simp, rfl⟩
  case round =>
    obtain ⟨k, hk, rfl, ha, rfl⟩ := hrel
    by_cases hlk : k < xs.length
    · obtain ⟨b, off, rfl, hdd⟩ := HD.out (by omega)
      have ck := hdd k hlk
      have hge : xs[k]?.getD 0 = xs[k] := by rw [List.getElem?_eq_getElem hlk]; rfl
      rw [hge] at ck
      have HT := Lib.hid (fun hp => all_take_true (p := numB) hlk hp ha)
      have HN := Lib.hid (fun hp => all_take_false (p := numB) hlk hp)
      clear hge hdd ha
      generalize xs[k] = x at ck HT HN
      go_wp2_with fail
      refine (HF.out _ _).mono ?_
      rintro e w1 ⟨rfl, rfl⟩
      cases hp : numB x
      · have HP := Lib.hid (HN.out hp)
        clear HN HT hp
        go_wp2
        go_ret
        exact ⟨ret_bool HP.out.symm, rfl⟩
      · have HP := Lib.hid (HT.out hp)
        clear HN HT hp
        go_wp2
        go_roundw
        case rel => exact ⟨k + 1, by omega, by go_num, HP.out, trivial⟩
        case measure => simp only [intOf]; omega
    · have HE := Lib.hid (show xs.all numB = true by rwa [List.take_of_length_le (by omega)] at ha)
      go_wp2
      go_ret
      exact ⟨ret_bool HE.out.symm, rfl⟩

set_option maxHeartbeats 1000000 in
theorem all_line (xs : List ByteArray) (hl : xs.length ≤ maxLen) (v : Value) (w : World) (hv : StrsV w v xs) :
    Calls Try.prog 63 #[.func (.func 64) #[] #[], v] w fun e w' => e = .returned (.bool (xs.all lineB)) ∧ w = w' := by
  obtain ⟨ao, cap, rfl, hlc, hd⟩ := hv
  have HF := Lib.hid (fun x w => isLine_any x w)
  have HD := Lib.hid hd
  clear hd
  unfold maxLen at hl
  go_enter Try.func63, Try.ntmps63
  go_wp2
  go_loopw [6, 9] (fun _ i wr => ∃ k : Nat, k ≤ xs.length ∧ i = .int .i64 k ∧ (xs.take k).all lineB = true ∧ w = wr) (fun _ i _ => xs.length - (intOf i).toNat)
  case atStart => exact ⟨0, Nat.zero_le _, rfl, by simp, rfl⟩
  case round =>
    obtain ⟨k, hk, rfl, ha, rfl⟩ := hrel
    by_cases hlk : k < xs.length
    · obtain ⟨b, off, rfl, hdd⟩ := HD.out (by omega)
      have ck := hdd k hlk
      have hge : xs[k]?.getD ⟨#[]⟩ = xs[k] := by rw [List.getElem?_eq_getElem hlk]; rfl
      rw [hge] at ck
      have HT := Lib.hid (fun hp => all_take_true (p := lineB) hlk hp ha)
      have HN := Lib.hid (fun hp => all_take_false (p := lineB) hlk hp)
      clear hge hdd ha
      generalize xs[k] = x at ck HT HN
      go_wp2_with fail
      refine (HF.out _ _).mono ?_
      rintro e w1 ⟨rfl, rfl⟩
      cases hp : lineB x
      · have HP := Lib.hid (HN.out hp)
        clear HN HT hp
        go_wp2
        go_ret
        exact ⟨ret_bool HP.out.symm, rfl⟩
      · have HP := Lib.hid (HT.out hp)
        clear HN HT hp
        go_wp2
        go_roundw
        case rel => exact ⟨k + 1, by omega, by go_num, HP.out, trivial⟩
        case measure => simp only [intOf]; omega
    · have HE := Lib.hid (show xs.all lineB = true by rwa [List.take_of_length_le (by omega)] at ha)
      go_wp2
      go_ret
      exact ⟨ret_bool HE.out.symm, rfl⟩

/-- Prices as a value. -/
abbrev pv (pi po ps : Int) : Value := .agg #[.int .i64 pi, .int .i64 po, .int .i64 ps]
def pricedB (pi po ps : Int) : Bool := priceB pi && (priceB po && priceB ps)
theorem priced_iff (pi po ps : Int) : pricedB pi po ps = true ↔ (1 ≤ pi ∧ pi ≤ 9) ∧ (1 ≤ po ∧ po ≤ 9) ∧ (1 ≤ ps ∧ ps ≤ 9) := by
  unfold pricedB priceB; simp [Bool.and_eq_true]

theorem ints3 (W : World) (a b c : Int) (t : TypeId) : IntsV (W.alloc (.cells #[.int .i64 a, .int .i64 b, .int .i64 c] t)) (.slice (some ⟨W.heap.size, 0, none⟩) 3 3) [a, b, c] := by
  refine ⟨_, 3, rfl, Nat.le_refl _, fun _ => ⟨_, 0, rfl, fun i hi => ?_⟩⟩
  match i, hi with
  | 0, _ => simp
  | 1, _ => simp
  | 2, _ => simp

set_option maxHeartbeats 1000000 in
theorem isPriced_any (pi po ps : Int) (w : World) : Calls Try.prog 62 #[pv pi po ps] w fun e w' => e = .returned (.bool (pricedB pi po ps)) ∧ Below w.heap.size w w' := by
  have HB := Lib.hid (((Below.refl w.heap.size w).alloc (Nat.le_refl _) (.cells #[.int .i64 pi, .int .i64 po, .int .i64 ps] 28)).alloc (by simp) (.cells #[.int .i64 pi, .int .i64 po, .int .i64 ps] 3))
  have i3 := ints3 (w.alloc (.cells #[.int .i64 pi, .int .i64 po, .int .i64 ps] 28)) pi po ps 3
  rw [World.size_alloc] at i3
  have HA := Lib.hid (all_price [pi, po, ps] (by unfold maxLen; simp) _ _ i3)
  clear i3
  have HE := Lib.hid (show [pi, po, ps].all priceB = pricedB pi po ps by unfold pricedB; simp)
  go_enter Try.func62, Try.ntmps62
  go_wp2_with fail
  refine HA.out.mono ?_
  rintro e w1 ⟨rfl, rfl⟩
  go_wp2
  go_ret
  exact ⟨rfl, HB.out⟩

set_option maxHeartbeats 1000000 in
theorem RValid_any (pi po ps : Int) (w : World) : Calls Try.prog 49 #[pv pi po ps] w fun e w' => e = .returned (.bool (pricedB pi po ps)) ∧ Below w.heap.size w w' := by
  have HB := Lib.hid ((Below.refl w.heap.size w).alloc (Nat.le_refl _) (.cells #[.int .i64 pi, .int .i64 po, .int .i64 ps] 23))
  have no : ¬ ((1 ≤ pi ∧ pi ≤ 9) ∧ (1 ≤ po ∧ po ≤ 9) ∧ (1 ≤ ps ∧ ps ≤ 9)) → Hid (pricedB pi po ps = false) := fun h => Lib.hid (by rw [Bool.eq_false_iff]; intro h'; exact h ((priced_iff _ _ _).1 h'))
  have yes : ((1 ≤ pi ∧ pi ≤ 9) ∧ (1 ≤ po ∧ po ≤ 9) ∧ (1 ≤ ps ∧ ps ≤ 9)) → Hid (pricedB pi po ps = true) := fun h => Lib.hid ((priced_iff _ _ _).2 h)
  by_cases h1 : 1 ≤ pi
  · by_cases h2 : pi ≤ 9
    · by_cases h3 : 1 ≤ po
      · by_cases h4 : po ≤ 9
        · by_cases h5 : 1 ≤ ps
          · by_cases h6 : ps ≤ 9
            · have HD := yes ⟨⟨h1, h2⟩, ⟨h3, h4⟩, h5, h6⟩
              clear yes no
              go_enter Try.func49, Try.ntmps49
              go_wp2
              go_ret
              exact ⟨ret_bool HD.out.symm, HB.out⟩
            · have HD := no (fun h => h6 h.2.2.2)
              clear yes no
              go_enter Try.func49, Try.ntmps49
              go_wp2
              go_ret
              exact ⟨ret_bool HD.out.symm, HB.out⟩
          · have HD := no (fun h => h5 h.2.2.1)
            clear yes no
            go_enter Try.func49, Try.ntmps49
            go_wp2
            go_ret
            exact ⟨ret_bool HD.out.symm, HB.out⟩
        · have HD := no (fun h => h4 h.2.1.2)
          clear yes no
          go_enter Try.func49, Try.ntmps49
          go_wp2
          go_ret
          exact ⟨ret_bool HD.out.symm, HB.out⟩
      · have HD := no (fun h => h3 h.2.1.1)
        clear yes no
        go_enter Try.func49, Try.ntmps49
        go_wp2
        go_ret
        exact ⟨ret_bool HD.out.symm, HB.out⟩
    · have HD := no (fun h => h2 h.1.2)
      clear yes no
      go_enter Try.func49, Try.ntmps49
      go_wp2
      go_ret
      exact ⟨ret_bool HD.out.symm, HB.out⟩
  · have HD := no (fun h => h1 h.1.1)
    clear yes no
    go_enter Try.func49, Try.ntmps49
    go_wp2
    go_ret
    exact ⟨ret_bool HD.out.symm, HB.out⟩

theorem Of_any (pi po ps : Int) (w : World) : Calls Try.prog 20 #[pv pi po ps] w fun e w' => e = .returned (pv pi po ps) ∧ Below w.heap.size w w' := by
  go_enter Try.func20, Try.ntmps20
  go_wp2
  refine bodyPost_ret (results_cell_row rfl _ _ (w.heap.size + 1) 28 #[.int .i64 pi, .int .i64 po, .int .i64 ps] (0, 0) _ rfl (heap_alloc2_new w _ _) Try.underlying28 rfl (by kernel_rfl)) rfl ?_
  exact ⟨rfl, ((Below.refl _ _).alloc (Nat.le_refl _) _).alloc (by simp) _⟩

theorem extract_all (s : ByteArray) (n : Nat) (h : s.size ≤ n) : s.extract 0 n = s := by
  apply ByteArray.ext
  simp [ByteArray.data_extract]
  exact Or.inr h
theorem text_any (s : ByteArray) (w : World) :
    Calls Try.prog 19 #[.string s] w fun e w' => e = .returned (.string (s.extract 0 16)) ∧ w = w' := by
  by_cases h : s.size ≤ 16
  · have HE := Lib.hid (extract_all s 16 h)
    go_enter Try.func19, Try.ntmps19
    go_wp2
    go_ret
    exact ⟨by show Ending.returned (.string s) = _; rw [HE.out], rfl⟩
  · have h0 : ¬ ((s.size : Int) ≤ 16) := by omega
    have h1 : (16 : Int) ≤ s.size := by omega
    go_enter Try.func19, Try.ntmps19
    go_wp2
    go_ret
    exact ⟨rfl, rfl⟩

set_option maxHeartbeats 1000000 in
theorem fine_any (a b : ByteArray) (pi po ps : Int) (w : World) : Calls Try.prog 22 #[.string a, .string b, pv pi po ps] w fun e w' => e = .returned (.bool (lineB a && (lineB b && pricedB pi po ps))) ∧ Below w.heap.size w w' := by
  have HB := Lib.hid ((Below.refl w.heap.size w).alloc (Nat.le_refl _) (.cells #[.int .i64 pi, .int .i64 po, .int .i64 ps] 23))
  have HL := Lib.hid (fun s w => RLine_any s w)
  have HV := Lib.hid (fun w => RValid_any pi po ps w)
  cases ha : lineB a
  · have HD := Lib.hid ha
    clear ha
    go_enter Try.func22, Try.ntmps22
    go_wp2_with fail
    refine (HL.out _ _).mono ?_
    rintro e w1 ⟨rfl, rfl⟩
    rw [HD.out]
    go_wp2
    go_ret
    exact ⟨rfl, HB.out⟩
  · cases hb : lineB b
    · have HD := Lib.hid ha
      have HE := Lib.hid hb
      clear ha hb
      go_enter Try.func22, Try.ntmps22
      go_wp2_with fail
      refine (HL.out _ _).mono ?_
      rintro e w1 ⟨rfl, rfl⟩
      rw [HD.out]
      go_wp2_with fail
      refine (HL.out _ _).mono ?_
      rintro e w1 ⟨rfl, rfl⟩
      rw [HE.out]
      go_wp2
      go_ret
      exact ⟨rfl, HB.out⟩
    · have HD := Lib.hid ha
      have HE := Lib.hid hb
      clear ha hb
      go_enter Try.func22, Try.ntmps22
      go_wp2_with fail
      refine (HL.out _ _).mono ?_
      rintro e w1 ⟨rfl, rfl⟩
      rw [HD.out]
      go_wp2_with fail
      refine (HL.out _ _).mono ?_
      rintro e w1 ⟨rfl, rfl⟩
      rw [HE.out]
      go_wp2_with fail
      refine (HV.out _).mono ?_
      rintro e w1 ⟨rfl, b1⟩
      go_wp2
      go_ret
      exact ⟨rfl, below_nx HB.out b1⟩
end Go.Proofs.Ytkpmkeklopfhdaa

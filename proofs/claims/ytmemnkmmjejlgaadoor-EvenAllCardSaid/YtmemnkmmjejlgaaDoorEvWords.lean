/-
  Word and Spans of package even; Spans, Even and Word of the reference.
-/
import Derived.Test.YtmemnkmmjejlgaaDoorEvGather
import Derived.Test.YtmemnkmmjejlgaaDoorEvRefSpans
namespace Go.Proofs.YtmemnkmmjejlgaaDoor
open Go.RowKit Go.Shelf
attribute [local go_sem] Oper.semAt_some
set_option maxRecDepth 100000

theorem owns_later {W W' : World} {lo k : Nat} {e : TypeId} {v : Value} {xs : List Value} (h : W.ownsRow lo e 1 v k xs) (hb : Below W.heap.size W W') : W'.ownsRow lo e 1 v k xs :=
  h.kept (row := none) ⟨hb.os, hb.tape, hb.output, hb.size, fun i hi _ => hb.block i hi⟩ (by cases v.ownBlock <;> simp)

theorem spL_mem {n : Nat} {ts : List Nat} {j x : Nat} (hlt : ∀ x ∈ spansL n ts j, x < n) : x ∈ spL n ts j ↔ x ∈ spansL n ts j := by
  unfold spL
  rw [List.mem_filter, List.mem_range, decide_eq_true_eq]
  exact ⟨fun h => h.2, fun h => ⟨hlt x h, h⟩⟩
theorem spL_pair (n : Nat) (ts : List Nat) (j : Nat) : (spL n ts j).Pairwise (· < ·) := by
  unfold spL
  exact List.Pairwise.filter _ List.pairwise_lt_range

/-- How the reference tells whether the sizes are alike. -/
theorem ref_ali {n : Nat} {ts : List Nat} {j : Nat} (hK : 1 ≤ ts.length) (hlt : ∀ x ∈ spansL n ts j, x < n) :
    ((spL n ts j).length = 1 ∧ aliL (spansL n ts j) = true) ∨
    (∃ a b, spL n ts j = [a, b] ∧ aliL (spansL n ts j) = decide (b = a + 1)) ∨
    (3 ≤ (spL n ts j).length ∧ aliL (spansL n ts j) = false) := by
  have hp := spL_pair n ts j
  have h1 := spL_pos hK hlt
  have ha : aliL (spansL n ts j) = true ↔ ∀ x ∈ spL n ts j, ∀ y ∈ spL n ts j, x ≤ y + 1 := by
    rw [aliL_iff]
    constructor
    · exact fun h x hx y hy => h x ((spL_mem hlt).1 hx) y ((spL_mem hlt).1 hy)
    · exact fun h x hx y hy => h x ((spL_mem hlt).2 hx) y ((spL_mem hlt).2 hy)
  generalize aliL (spansL n ts j) = v at ha ⊢
  generalize spL n ts j = l at hp h1 ha ⊢
  match l with
  | [] => simp at h1
  | [a] =>
    refine Or.inl ⟨rfl, ha.2 (fun x hx y hy => ?_)⟩
    rw [List.mem_singleton] at hx hy
    omega
  | [a, b] =>
    refine Or.inr (Or.inl ⟨a, b, rfl, ?_⟩)
    have hab : a < b := by simpa using hp
    rw [Bool.eq_iff_iff, ha, decide_eq_true_eq]
    constructor
    · intro h
      have := h b (by simp) a (by simp)
      omega
    · intro h x hx y hy
      simp only [List.mem_cons, List.not_mem_nil, or_false] at hx hy
      omega
  | a :: b :: c :: r =>
    refine Or.inr (Or.inr ⟨by simp, ?_⟩)
    have h2 := List.pairwise_cons.1 hp
    have h3 := List.pairwise_cons.1 h2.2
    have hab : a < b := h2.1 b (by simp)
    have hbc : b < c := h3.1 c (by simp)
    cases v with
    | false => rfl
    | true =>
      have := (ha.1 rfl) c (by simp) a (by simp)
      omega

theorem refSpans_any (n s j : Nat) (h1 : 2 ≤ n) (h2 : n ≤ 16) (h3 : 1 ≤ s) (h4 : s < 2 ^ n) (hj1 : 1 ≤ j) (hj2 : j < (tonesB n s).length) (w : World) :
    Calls Tryd.prog 24 #[.int .i64 n, .int .i64 s, .int .i64 j] w fun e w' => ∃ v, e = .returned v ∧ ListAt w' w.heap.size v (spL n (tonesB n s) j) ∧ Below w.heap.size w w' := by
  obtain ⟨i0, hi, hz0, hz1, hz2⟩ := info_parts info_int
  have HR := Lib.hid (fun W => refspans_any n s j h2 h3 h4 hj1 hj2 W)
  have hpos := tonesB_pos h2 h3 h4
  have hle := tonesB_le n s
  have hlen : (spansL n (tonesB n s) j).length = (tonesB n s).length := spansL_length _ _ _
  have hbd := spans_lt hpos hj2
  have HPos := Lib.hid (spL_pos hpos hbd)
  have HSp : Hid (spL n (tonesB n s) j = (List.range n).filter fun x => decide (x ∈ spansL n (tonesB n s) j)) := Lib.hid rfl
  generalize spL n (tonesB n s) j = R at *
  generalize spansL n (tonesB n s) j = xs at *
  obtain ⟨K, hK⟩ : ∃ K, xs.length = K := ⟨_, rfl⟩
  have hKn : K ≤ 16 := by omega
  have HK := Lib.hid hK
  have HS : Hid (∀ x, (List.range (x + 1)).filter (fun x => decide (x ∈ xs)) = (List.range x).filter (fun x => decide (x ∈ xs)) ++ if x ∈ xs then [x] else []) := Lib.hid (fun x => by
    rw [List.range_succ, List.filter_append]
    congr 1
    by_cases h : x ∈ xs <;> simp [h])
  have HLe : Hid (∀ x, ((List.range x).filter (fun x => decide (x ∈ xs))).length ≤ x) := Lib.hid (fun x => Nat.le_trans (List.length_filter_le _ _) (by simp))
  unfold ListAt at HR
  rw [hK] at HR
  obtain ⟨H, hH⟩ : ∃ H, w.heap.size = H := ⟨_, rfl⟩
  have hHle : H ≤ w.heap.size := by omega
  have HH := Lib.hid hH
  rw [hH]
  clear h3 h4 hj1 hj2 hlen hbd hpos hle hK hH
  go_enter Tryd.func24, Tryd.ntmps24
  go_wp2
  go_loopw [7, 12] (fun v i wr => ∃ x : Nat, x ≤ n ∧ i = .int .i64 x ∧ wr.ownsRow H 3 1 v ((List.range x).filter (fun x => decide (x ∈ xs))).length (ints ((List.range x).filter (fun x => decide (x ∈ xs)))) ∧ Below H w wr) (fun _ i _ => n - (intOf i).toNat)
  case atStart => exact ⟨0, Nat.zero_le _, rfl, World.ownsRow_nil _ _ _ _, Below.refl _ _⟩
  case round =>
    obtain ⟨x, hx, rfl, hown, hB⟩ := hrel
    have HO := Lib.hid hown
    have hBs := hB.size
    clear hown
    by_cases hlt : x < n
    · go_wp2_with fail
      refine (HR.out _).mono ?_
      rintro e w2 ⟨_, rfl, ⟨g, cap, rfl, hg, hcap, hc⟩, hb⟩
      have HC := Lib.hid hc
      have HO2 := Lib.hid (owns_later HO.out hb)
      have hB2 := hB.trans (hb.mono (by omega))
      have hst := HS.out x
      have hle := HLe.out x
      clear hc
      go_wp2
      go_loopw [7, 20] (fun v2 i wr2 => ∃ b : Nat, b ≤ K ∧ i = .int .i64 b ∧ (∀ b', b' < b → xs[b']?.getD 0 ≠ x) ∧ wr2.ownsRow H 3 1 v2 ((List.range x).filter (fun x => decide (x ∈ xs))).length (ints ((List.range x).filter (fun x => decide (x ∈ xs)))) ∧ wr2 = w2) (fun _ i _ => K - (intOf i).toNat)
      case atStart => exact ⟨0, Nat.zero_le _, rfl, fun b' h => by omega, HO2.out, rfl⟩
      case round =>
        obtain ⟨b, hb', rfl, hno, ho2, rfl⟩ := hrel
        have HNo := Lib.hid hno
        clear HO2
        have HO2 := Lib.hid ho2
        clear hno ho2
        have hB2s := hB2.size
        by_cases hlt2 : b < K
        · have cb := HC.out b hlt2
          by_cases he : xs[b]?.getD 0 = x
          · rw [he] at cb
            have hmem : x ∈ xs := by
              have hb9 : b < xs.length := by rw [HK.out]; exact hlt2
              rw [List.getElem?_eq_getElem hb9] at he
              rw [← he]; exact List.getElem_mem hb9
            rw [if_pos hmem] at hst
            have hst' := Lib.hid hst
            clear hst he hmem
            go_wp2_with (at_builtin; refine wpList_append_own _ rfl _ _ 25 rfl H 3 i0 (.int .i64 0) 1 8 Tryd.underlying25 hi hz0 hz1 hz2 rfl (by decide) _ _ _ rfl (HO2.out.alloc _) ⟨_, 0, none⟩ 1 1 [.int .i64 x] rfl rfl (cell_one_new _ _ _) (by simp [Value.oneCell']) (by unfold maxLen; omega) (by omega) (by simp; omega) ?_; intro v' w3 hown1 hgrow1 hnil1)
            go_roundw
            case rel => exact ⟨x + 1, by omega, by go_num, by rw [hst'.out, List.length_append]; unfold ints at hown1 ⊢; rw [List.map_append]; exact hown1, (hB2.alloc (by omega) _).grown hgrow1 (by simp; omega) (fun q e => (HO2.out.lt q e).1)⟩
            case measure => simp only [intOf]; omega
          · have hne : ((x : Int) == ((xs[b]?.getD 0 : Nat) : Int)) = false := by rw [beq_eq_false_iff_ne]; omega
            have HNo2 := Lib.hid (show ∀ b', b' < b + 1 → xs[b']?.getD 0 ≠ x from fun b' h e => by
              by_cases e2 : b' = b
              · rw [e2] at e; exact he e
              · exact HNo.out b' (by omega) e)
            generalize xs[b]?.getD 0 = y at cb hne he
            clear he
            go_wp2
            go_roundw
            case rel => exact ⟨b + 1, by omega, by go_num, HNo2.out, HO2.out, by trivial⟩
            case measure => simp only [intOf]; omega
        · have hmem : x ∉ xs := fun hm => by
            obtain ⟨b9, hb9, e9⟩ := List.getElem_of_mem hm
            have := HNo.out b9 (by rw [HK.out] at hb9; omega)
            rw [List.getElem?_eq_getElem hb9] at this
            exact this e9
          rw [if_neg hmem, List.append_nil] at hst
          have hst' := Lib.hid hst
          clear hst hmem
          go_wp2
          go_roundw
          case rel => exact ⟨x + 1, by omega, by go_num, by rw [hst'.out]; exact HO2.out, hB2⟩
          case measure => simp only [intOf]; omega
    · have hxn : x = n := by omega
      subst hxn
      have ho := HO.out
      rw [← HSp.out] at ho
      have hl := Lib.hid (ListAt.of_own ho HPos.out)
      clear ho
      go_wp2
      go_ret
      exact ⟨_, rfl, hl.out, hB⟩

end Go.Proofs.YtmemnkmmjejlgaaDoor

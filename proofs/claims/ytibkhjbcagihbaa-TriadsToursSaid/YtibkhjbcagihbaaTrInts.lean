/-
  Slices of integers that the call has made; the keys of a map, sorted; the rising list of what was found.
-/
import Derived.Test.YtibkhjbcagihbaaTrSize
import Derived.Test.YtibkhjbcagihbaaIter
import Derived.Test.YtibkhjbcagihbaaShelf
import Derived.Test.YtibkhjbcagihbaaEqInts
import Derived.Lib.OwnBridge
import Derived.Lib.SlKeysI
import Derived.Shelf.AbstractIn
import Derived.LoopIn
namespace Go.Proofs.Ytibkhjbcagihbaa
open Go.ChangeShapes Go.WideShapes Go.ChangeAt Go.RowKit Go.Shelf
set_option maxRecDepth 100000

/-- A slice of integers that can be read. -/
def IntsAt (W : World) (v : Value) (xs : List Nat) : Prop :=
  (v = .slice none 0 0 ∧ xs = []) ∨ ∃ g cap, v = .slice (some ⟨g, 0, none⟩) xs.length cap ∧ ∀ i, i < xs.length → W.cell? ⟨g, i, none⟩ = some (.int .i64 ((xs[i]?.getD 0 : Nat) : Int))

theorem IntsAt.later {W W' : World} {v : Value} {xs : List Nat} (h : IntsAt W v xs) (hb : Below W.heap.size W W') : IntsAt W' v xs := by
  rcases h with h | ⟨g, cap, h1, h3⟩
  · exact Or.inl h
  · exact Or.inr ⟨g, cap, h1, fun i hi => cell_later hb (h3 i hi)⟩

theorem IntsAt.of_own {W : World} {lo : Nat} {v : Value} {xs : List Nat} (h : W.ownsRow lo 3 1 v xs.length (ints xs)) : IntsAt W v xs := by
  have h' := h
  obtain ⟨h0, h1 | ⟨g, cap, cur, hv, hg, hh, h2⟩⟩ := h
  · exact Or.inl ⟨h1.1, List.eq_nil_of_length_eq_zero h1.2⟩
  · refine Or.inr ⟨g, cap, hv, fun i hi => ?_⟩
    subst hv
    have := h'.cellAt i (by omega)
    rw [this, ints_at hi]

theorem EqInts_zero (a1 a2 : Option Addr) (c1 c2 : Nat) (w : World) :
    Calls Try.prog 26 #[.slice a1 0 c1, .slice a2 0 c2] w fun e w' => e = .returned (.bool true) ∧ ∃ m, w' = w.drewN m := by
  go_enter Try.func26, Try.ntmps26
  go_wp2
  go_loopw [5, 13] (fun _ i wr => i = .int .i64 0 ∧ w = wr) (fun _ _ _ => 0)
  case atStart => exact ⟨rfl, rfl⟩
  case round =>
    obtain ⟨rfl, rfl⟩ := hrel
    go_wp2
    go_ret
    exact ⟨rfl, 0, rfl⟩

theorem EqInts_any {v u : Value} {xs : List Nat} {w : World} (hl : xs.length < 2 ^ 40) (h : IntsAt w v xs) (k : IntsAt w u xs) : Calls Try.prog 26 #[v, u] w fun e w' => e = .returned (.bool true) ∧ ∃ m, w' = w.drewN m := by
  rcases h with ⟨rfl, rfl⟩ | ⟨g, cap, rfl, hg⟩ <;> rcases k with ⟨rfl, h0⟩ | ⟨g', cap', rfl, hg'⟩
  · exact EqInts_zero _ _ _ _ w
  · exact EqInts_zero _ _ _ _ w
  · subst h0; exact EqInts_zero _ _ _ _ w
  · exact EqualInts_same xs g g' cap cap' w hl hg hg'

/-- What was found, rising. -/
def riseL (n : Nat) (L : St) : List Nat := (List.range (2 * n)).filter (hasK L)

theorem sorted_uniq : ∀ {l m : List Int}, l.Pairwise (· < ·) → m.Pairwise (· < ·) → (∀ x, x ∈ l ↔ x ∈ m) → l = m
  | [], [], _, _, _ => rfl
  | [], b :: m, _, _, h => by have := (h b).2 (by simp); cases this
  | a :: l, [], _, _, h => by have := (h a).1 (by simp); cases this
  | a :: l, b :: m, hl, hm, h => by
    rw [List.pairwise_cons] at hl hm
    have hab : a = b := by
      rcases List.mem_cons.1 ((h a).1 (by simp)) with e | e
      · exact e
      · rcases List.mem_cons.1 ((h b).2 (by simp)) with e' | e'
        · exact e'.symm
        · have := hm.1 a e; have := hl.1 b e'; omega
    subst hab
    congr 1
    refine sorted_uniq hl.2 hm.2 (fun x => ?_)
    constructor
    · intro hx
      rcases List.mem_cons.1 ((h x).1 (by simp [hx])) with e | e
      · subst e; have := hl.1 x hx; omega
      · exact e
    · intro hx
      rcases List.mem_cons.1 ((h x).2 (by simp [hx])) with e | e
      · subst e; have := hm.1 x hx; omega
      · exact e

theorem range_pairwise (m : Nat) : (List.range m).Pairwise (· < ·) := List.pairwise_lt_range

theorem sort_rise {n : Nat} {L : St} {ss : List Int} (hn : ss.Nodup) (hm : ∀ x, x ∈ ss ↔ ∃ t : Nat, x = t ∧ t < 2 * n ∧ hasK L t = true) : (ss.mergeSort (fun x y => decide (x ≤ y))).map encZ = ints (riseL n L) := by
  have tr : ∀ a b c : Int, leI a b = true → leI b c = true → leI a c = true := fun a b c h1 h2 => by simp only [leI, decide_eq_true_eq] at *; exact Int.le_trans h1 h2
  have tot : ∀ a b : Int, (leI a b || leI b a) = true := fun a b => by simp only [leI, Bool.or_eq_true, decide_eq_true_eq]; exact Int.le_total a b
  have hp := List.mergeSort_perm ss leI
  have h1 : (ss.mergeSort leI).Pairwise (· < ·) := by
    have ha := List.pairwise_mergeSort tr tot ss
    have hb : (ss.mergeSort leI).Pairwise (· ≠ ·) := hp.nodup_iff.2 hn
    refine (ha.and hb).imp ?_
    rintro a b ⟨h1, h2⟩
    simp only [leI, decide_eq_true_eq] at h1
    omega
  have h2 : ((riseL n L).map (fun t : Nat => (t : Int))).Pairwise (· < ·) := by
    rw [List.pairwise_map]
    unfold riseL
    exact ((range_pairwise _).filter _).imp (fun h => by omega)
  have e : ss.mergeSort leI = (riseL n L).map (fun t : Nat => (t : Int)) := by
    refine sorted_uniq h1 h2 (fun x => ?_)
    rw [hp.mem_iff, hm x, List.mem_map]
    unfold riseL
    constructor
    · rintro ⟨t, rfl, ht, hk⟩
      exact ⟨t, List.mem_filter.2 ⟨List.mem_range.2 ht, hk⟩, rfl⟩
    · rintro ⟨t, ht, rfl⟩
      obtain ⟨a, b⟩ := List.mem_filter.1 ht
      exact ⟨t, rfl, List.mem_range.1 a, b⟩
  show (ss.mergeSort leI).map encZ = _
  rw [e]
  unfold ints
  rw [List.map_map]
  rfl

theorem Found.keys {w : World} {B : Nat} {n : Nat} {L : St} (h : Found w B L) (hlt : ∀ p ∈ L, p.1 < 2 * n) : ∃ nn D0, w.ownsMap (H := Unit) Try.prog 3 (plainElem Try.prog 9) B nn D0 ∧ Maps.size D0 = L.length ∧
    (∀ ss : List Int, ss.Perm (intKeys D0) → (ss.mergeSort (fun x y => decide (x ≤ y))).map encZ = ints (riseL n L)) ∧ (∀ ss : List Int, ss.Perm (intKeys D0) → ss.length = (riseL n L).length) := by
  obtain ⟨nn, D0, h1, h2, h3⟩ := h
  obtain ⟨es, hD, hpw, _⟩ := h2.entries lawK
  obtain ⟨es', hD', hko⟩ := h2.keysOf
  obtain rfl : es = es' := by rw [hD] at hD'; simpa using hD'
  have hk : ∀ p ∈ es, ∃ x, p.1 = .int .i64 x := fun p hp => by
    obtain ⟨v, hv⟩ := hko p hp
    obtain ⟨x, _, hx, _⟩ := Maps.keyOf_i64 Try.underlying3 hv
    exact ⟨x, hx⟩
  have hnd : (intKeys D0).Nodup := by
    rw [hD]
    refine List.pairwise_map.2 (hpw.imp_of_mem fun {p q} hp' hq' hne e => hne ?_)
    obtain ⟨a, ha⟩ := hk p hp'
    obtain ⟨b, hb⟩ := hk q hq'
    rw [ha, hb] at e ⊢
    exact congrArg _ e
  have hmem : ∀ x, x ∈ intKeys D0 ↔ ∃ t : Nat, x = t ∧ t < 2 * n ∧ hasK L t = true := by
    have hsz : ∀ x : Int, x ∈ intKeys D0 ↔ Maps.has D0 (.int .i64 x) = true := by
      intro x
      rw [hD, Maps.has_eq, List.any_eq_true]
      show x ∈ es.map (fun p => Go.intOf p.1) ↔ _
      rw [List.mem_map]
      constructor
      · rintro ⟨p, hp', rfl⟩
        obtain ⟨a, ha⟩ := hk p hp'
        exact ⟨p, hp', by rw [ha]; simp [Lit.sameKey, Go.intOf]⟩
      · rintro ⟨p, hp', hs⟩
        obtain ⟨a, ha⟩ := hk p hp'
        rw [ha] at hs
        exact ⟨p, hp', by rw [ha]; simpa [Lit.sameKey, Go.intOf] using hs⟩
    intro x
    rw [hsz]
    constructor
    · intro hx
      obtain ⟨t, rfl⟩ := Int.eq_ofNat_of_zero_le (h3.only x hx)
      have hk' : hasK L t = true := (h3.has t).symm.trans hx
      obtain ⟨p, hp, hpt⟩ := List.mem_map.1 ((hasK_iff _ _).1 hk')
      exact ⟨t, rfl, by rw [← hpt]; exact hlt p hp, hk'⟩
    · rintro ⟨t, rfl, _, ht⟩
      exact (h3.has t).trans ht
  refine ⟨nn, D0, h2, h3.size, fun ss hss => sort_rise (hss.nodup_iff.2 hnd) (fun x => by rw [hss.mem_iff]; exact hmem x), fun ss hss => ?_⟩
  have e := sort_rise (n := n) (L := L) (hss.nodup_iff.2 hnd) (fun x => by rw [hss.mem_iff]; exact hmem x)
  have e2 := congrArg List.length e
  rw [List.length_map, List.length_mergeSort, ints_length] at e2
  exact e2
end Go.Proofs.Ytibkhjbcagihbaa

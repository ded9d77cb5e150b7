/-
  A queue: a slice of one-cell elements somewhere in a row of its own, from which the first is taken and to which one is appended; a map of strings keyed by triads.
-/
import Derived.Test.YtibkhjbcagihbaaTrBfs
import Derived.Test.YtibkhjbcagihbaaTrAlike
import Derived.Maps.Own
import Derived.Maps.OwnSet
import Derived.Maps.Views
import Derived.Maps.AppendAt
import Derived.WalkSpells
import Derived.Lib.AppendZeros
namespace Go.Proofs.Ytibkhjbcagihbaa
open Go.ChangeShapes Go.WideShapes Go.ChangeAt Go.RowKit
open Go.Maps (Keyed IsMap Tidy)
set_option maxRecDepth 100000

theorem run_append_room_off {P : Program} (w : World) (t ty e : TypeId) (i : TypeInfo) (ht : P.underlying t = some (.slice e)) (hi : P.info? e = some i) (h1s : i.size = 1)
    (g off sLen sCap : Nat) (cur : Array Value) (hg : w.heap[g]? = some (.cells cur e (0, 0)))
    (a : Addr) (c : Nat) (x : Value) (hx : w.cell? a = some x) (h1 : x.oneCell' = true)
    (hroom : sLen + 1 ≤ sCap) (hfit : off + sLen + 1 ≤ cur.size) :
    (Builtin.append_ #[t, t] ty #[.slice (some ⟨g, off, none⟩) sLen sCap, .slice (some a) 1 c]).run P w =
      .ok (.slice (some ⟨g, off, none⟩) (sLen + 1) sCap) (w.setRow g (cur.toList.take (off + sLen) ++ [x] ++ cur.toList.drop (off + sLen + 1)).toArray) := by
  have hnews : ∀ j u, ([x] : List Value)[j]? = some u → w.cell? (a.add j) = some u := by
    intro j u hj
    match j, hj with
    | 0, hj => simp at hj; subst hj; simpa [Addr.add] using hx
  have hf := run_firstCells_some (P := P) w 1 1 a 1 c [x] rfl hnews
  have hst := run_storeCells_at P g (off + sLen) e [x] 0 cur w hg (by simpa using hfit) (by intro u hu; rw [List.mem_singleton] at hu; subst hu; exact h1)
  simp only [Nat.add_zero, List.length_singleton] at hst
  simp [Builtin.append_, run_underlying ht, sizeOf, typeInfo, hi, h1s, Builtin.lenOf, hroom, hf, Addr.add_lit, hst]

/-- The queue. -/
def QueAt (w : World) (lo : Nat) (e : TypeId) (v : Value) (xs : List Value) : Prop :=
  ∃ g o cap cur, v = .slice (some ⟨g, o, none⟩) xs.length cap ∧ lo ≤ g ∧ w.heap[g]? = some (.cells cur e (0, 0)) ∧ xs.length ≤ cap ∧ cap ≤ maxLen ∧ o + cap ≤ cur.size ∧ (cur.toList.drop o).take xs.length = xs

theorem QueAt.lt {w : World} {lo : Nat} {e : TypeId} {v : Value} {xs : List Value} (h : QueAt w lo e v xs) : ∃ g, v.ownBlock = some g ∧ lo ≤ g ∧ g < w.heap.size := by
  obtain ⟨g, o, cap, cur, rfl, h1, h2, _⟩ := h
  exact ⟨g, rfl, h1, (Array.getElem?_eq_some_iff.1 h2).1⟩

theorem QueAt.kept {w w' : World} {row : Option Nat} {lo : Nat} {e : TypeId} {v : Value} {xs : List Value} (h : QueAt w lo e v xs) (hg : w.grownBy w' row) (hne : v.ownBlock ≠ row) : QueAt w' lo e v xs := by
  obtain ⟨g, o, cap, cur, rfl, h1, h2, h3⟩ := h
  exact ⟨g, o, cap, cur, rfl, h1, (hg.block g (Array.getElem?_eq_some_iff.1 h2).1 hne).trans h2, h3⟩

theorem QueAt.later {w w' : World} {lo : Nat} {e : TypeId} {v : Value} {xs : List Value} (h : QueAt w lo e v xs) (hb : Below w.heap.size w w') : QueAt w' lo e v xs := by
  obtain ⟨g, o, cap, cur, rfl, h1, h2, h3⟩ := h
  exact ⟨g, o, cap, cur, rfl, h1, (hb.block g (Array.getElem?_eq_some_iff.1 h2).1).trans h2, h3⟩

theorem QueAt.one (w : World) (lo : Nat) (e : TypeId) (x : Value) (hlo : lo ≤ w.heap.size) : QueAt (w.alloc (.cells #[x] e)) lo e (.slice (some ⟨w.heap.size, 0, none⟩) 1 1) [x] :=
  ⟨w.heap.size, 0, 1, #[x], rfl, hlo, heap_alloc_new w _, Nat.le_refl _, by unfold maxLen; omega, Nat.le_refl _, rfl⟩

theorem QueAt.head {w : World} {lo : Nat} {e : TypeId} {g o n cap : Nat} {x : Value} {xs : List Value} (h : QueAt w lo e (.slice (some ⟨g, o, none⟩) n cap) (x :: xs)) : n = xs.length + 1 ∧ n ≤ cap ∧ w.cell? ⟨g, o, none⟩ = some x ∧
    QueAt w lo e (.slice (some ⟨g, o + 1, none⟩) xs.length (cap - 1)) xs := by
  obtain ⟨g', o', cap', cur, hv, h1, h2, h3, h4, h5, h6⟩ := h
  simp only [Value.slice.injEq, Option.some.injEq, Addr.mk.injEq, and_true] at hv
  obtain ⟨⟨rfl, rfl⟩, rfl, rfl⟩ := hv
  rw [List.length_cons] at h3 h6
  have hd : cur.toList.drop o = x :: (cur.toList.drop o).tail := by
    cases hc : cur.toList.drop o with
    | nil => rw [hc] at h6; simp at h6
    | cons y ys =>
      rw [hc, List.take_succ_cons] at h6
      rw [List.cons.injEq] at h6
      rw [h6.1]; rfl
  refine ⟨rfl, h3, ?_, ⟨g, o + 1, cap - 1, cur, rfl, h1, h2, by omega, by omega, by omega, ?_⟩⟩
  · have e1 : cur.toList[o]? = some x := by
      have : (cur.toList.drop o)[0]? = some x := by rw [hd]; rfl
      rwa [List.getElem?_drop, Nat.add_zero] at this
    have e2 : cur[o]? = some x := by rw [← Array.getElem?_toList]; exact e1
    simp [World.cell?, h2, e2]
  · have e1 : cur.toList.drop (o + 1) = (cur.toList.drop o).tail := by rw [List.tail_drop]
    rw [e1]
    rw [hd, List.take_succ_cons, List.cons.injEq] at h6
    exact h6.2

theorem run_append_que {P : Program} (w : World) (lo : Nat) (t ty e : TypeId) (i : TypeInfo) (z : Value) (ht : P.underlying t = some (.slice e)) (hi : P.info? e = some i) (hz : i.zero = some z) (h1s : i.size = 1) (hby : i.bytes ≤ 16) (hzs : z.cells.size = 1)
    (v : Value) (xs : List Value) (hq : QueAt w lo e v xs) (a : Addr) (c : Nat) (x : Value) (hx : w.cell? a = some x) (h1 : x.oneCell' = true) (hlen : xs.length ≤ 1048576) (hlo : lo ≤ w.heap.size) :
    ∃ v' w', (Builtin.append_ #[t, t] ty #[v, .slice (some a) 1 c]).run P w = .ok v' w' ∧ QueAt w' lo e v' (xs ++ [x]) ∧ w.grownBy w' v.ownBlock ∧ (v'.ownBlock = v.ownBlock ∨ v'.ownBlock = some w.heap.size) := by
  obtain ⟨g, o, cap, cur, rfl, q1, q2, q3, q4, q5, q6⟩ := hq
  by_cases hroom : xs.length + 1 ≤ cap
  · have hr := run_append_room_off (P := P) w t ty e i ht hi h1s g o xs.length cap cur q2 a c x hx h1 hroom (by omega)
    refine ⟨_, _, hr, ?_, ⟨rfl, rfl, rfl, by simp, fun k _ hk => setRow_other w g k _ (fun e => hk (by simp [Value.ownBlock, e]))⟩, Or.inl rfl⟩
    have hcl : cur.toList.length = cur.size := Array.length_toList
    have h2 : o + xs.length ≤ cur.toList.length := by omega
    refine ⟨g, o, cap, _, by rw [List.length_append]; rfl, q1, setRow_heap w g cur _ e _ q2, by simpa using hroom, q4, ?_, ?_⟩
    · simp only [List.size_toArray, List.length_append, List.length_take, List.length_drop, List.length_singleton]
      omega
    · rw [List.length_append, List.length_singleton]
      show List.take (xs.length + 1) (List.drop o (List.take (o + xs.length) cur.toList ++ [x] ++ List.drop (o + xs.length + 1) cur.toList)) = xs ++ [x]
      rw [List.append_assoc, List.drop_append_of_le_length (by rw [List.length_take]; omega), List.drop_take, Nat.add_sub_cancel_left, q6, ← List.append_assoc]
      exact List.take_left' (by simp)
  · have holds : ∀ j u, xs[j]? = some u → w.cell? ((⟨g, o, none⟩ : Addr).add j) = some u := by
      intro j u hj
      have hjl := (List.getElem?_eq_some_iff.1 hj).1
      have e1 : cur.toList[o + j]? = some u := by
        have : (List.take xs.length (List.drop o cur.toList))[j]? = some u := by rw [q6]; exact hj
        rwa [List.getElem?_take_of_lt hjl, List.getElem?_drop] at this
      have e2 : cur[o + j]? = some u := by rw [← Array.getElem?_toList]; exact e1
      rw [Addr.add_lit]
      simp [World.cell?, q2, e2]
    have hnews : ∀ j u, ([x] : List Value)[j]? = some u → w.cell? (a.add j) = some u := by
      intro j u hj
      match j, hj with
      | 0, hj => simp at hj; subst hj; simpa [Addr.add] using hx
    have hr := run_append_grow (P := P) w t ty e i z ht hi hz ⟨g, o, none⟩ xs.length cap xs (by rw [h1s, Nat.mul_one]) holds a 1 c [x] (by rw [h1s]; rfl) hnews (by omega) (by omega) (growslice_fits (by omega) (by
      have : (xs.length + 1) * i.bytes ≤ 1048577 * 16 := Nat.mul_le_mul (by omega) hby
      omega))
    have hge := grownCap_ge w (xs.length + 1) cap e
    have hcm : grownCap w (xs.length + 1) cap e ≤ maxLen := grownCap_le_maxLen w (xs.length + 1) cap e (by unfold maxLen; omega)
    refine ⟨_, _, hr, ?_, ?_, Or.inr rfl⟩
    · refine ⟨w.heap.size, 0, grownCap w (xs.length + 1) cap e, xs.toArray ++ [x].toArray ++ Builtin.zeroCells z.cells (grownCap w (xs.length + 1) cap e - (xs.length + 1)), ?_, hlo, heap_alloc_new w.drew _, ?_, hcm, ?_, ?_⟩
      · rw [List.length_append]; rfl
      · simpa using hge
      · simp only [Array.size_append, List.size_toArray, size_zeroCells, List.length_singleton, hzs]
        omega
      · simp only [Array.toList_append, List.drop_zero]
        exact List.take_left
    · exact ⟨rfl, rfl, rfl, by simp, fun k hk _ => Below.heap_alloc w.drew _ k hk⟩

/-! ### a map of strings, keyed by triads -/
/-- A walk as a string. -/
def strOf (l : List Nat) : ByteArray := ⟨(l.map Nat.toUInt8).toArray⟩
theorem strOf_size (l : List Nat) : (strOf l).size = l.length := by
  show (l.map Nat.toUInt8).toArray.size = _
  simp
theorem strOf_append (l m : List Nat) : strOf (l ++ m) = strOf l ++ strOf m := by
  apply ByteArray.ext
  rw [ByteArray.data_append]
  unfold strOf
  simp
theorem strOf_nil : strOf [] = ⟨#[]⟩ := rfl
theorem bsN_strOf (l : List Nat) (h : ∀ c ∈ l, c < 256) : bsN (strOf l) = l := by
  unfold bsN strOf
  simp only [List.map_map]
  conv => rhs; rw [← List.map_id l]
  refine List.map_congr_left fun c hc => ?_
  show c.toUInt8.toNat = c
  have := h c hc
  simp; omega
theorem strOf_bsN (s : ByteArray) : strOf (bsN s) = s := by
  apply ByteArray.ext
  unfold bsN strOf
  apply Array.toList_inj.1
  rw [List.map_map]
  conv => rhs; rw [← List.map_id s.data.toList]
  refine List.map_congr_left fun c _ => ?_
  show c.toNat.toUInt8 = c
  simp

abbrev keyD (t : Nat) : Lit := .int .i64 (t : Int)
def elemS (l : List Nat) : DataW Unit := .lit (.string (strOf l).data.toList)

/-- What the map holds. -/
structure MapIs (D : DataW Unit) (L : St) : Prop where
  has : ∀ t : Nat, Maps.has D (keyD t) = hasK L t
  at' : ∀ p ∈ L, ∀ z, D.atKey (keyD p.1) z = elemS p.2
  size : Maps.size D = L.length
  only : ∀ x : Int, Maps.has D (.int .i64 x) = true → 0 ≤ x

theorem keyD_inj {t u : Nat} (h : keyD t = keyD u) : t = u := by
  simp only [keyD, Lit.int.injEq, true_and] at h; omega
theorem keyD_lit (t : Nat) : WideAt.IsKeyLit (keyD t) := trivial

theorem MapIs.put {D : DataW Unit} {L : St} (h : MapIs D L) (hT : Tidy D) (p : Nat × List Nat) (hn : hasK L p.1 = false) : MapIs (D.put (keyD p.1) (elemS p.2)) (L ++ [p]) := by
  have hl := keyD_lit p.1
  refine ⟨fun t => ?_, fun q hq z => ?_, ?_, fun x hx => ?_⟩
  · rw [hasK_append]
    by_cases e : t = p.1
    · subst e
      rw [Maps.has_put_same hT.isMap hl]
      simp [hasK]
    · rw [Maps.has_put_other (fun h' => e (keyD_inj h')), h.has]
      have : hasK [p] t = false := by simp [hasK]; exact fun h' => e h'.symm
      rw [this, Bool.or_false]
  · rcases List.mem_append.1 hq with hq | hq
    · have e : keyD q.1 ≠ keyD p.1 := fun h' => by
        have h2 := keyD_inj h'
        have : hasK L p.1 = true := (hasK_iff _ _).2 (List.mem_map.2 ⟨q, hq, h2⟩)
        rw [hn] at this; cases this
      rw [Maps.atKey_put_other e]; exact h.at' q hq z
    · rw [List.mem_singleton] at hq; subst hq
      exact Maps.atKey_put_same hT.isMap hl _ _
  · rw [Maps.size_put hT, h.has, hn, h.size, List.length_append]; rfl
  · by_cases e : x = p.1
    · omega
    · rw [Maps.has_put_other (fun h' => e (by simpa [keyD] using h'))] at hx
      exact h.only x hx

/-! ### the program's own map of walks -/
theorem lawK : Keyed Try.prog 3 := Maps.int_keyed Try.underlying3
theorem zeroS (w : World) : (zeroValue 9).run Try.prog w = .ok (.string ⟨#[]⟩) w := by kernel_rfl
theorem wf_small {t : Nat} (h : t < 2 ^ 60) : (Lit.int .i64 (t : Int)).wf = true := WalkArith.wf_i64 (by omega)
theorem keyOf_small {t : Nat} (h : t < 2 ^ 60) : keyOf Try.prog 3 (.int .i64 (t : Int)) = some (keyD t) := Maps.keyOf_int_mk Try.underlying3 (wf_small h)

/-- Block B is a map that holds what was found. -/
def Found (w : World) (B : Nat) (L : St) : Prop := ∃ n D, n ≤ 2 * L.length ∧ w.ownsMap (H := Unit) Try.prog 3 (plainElem Try.prog 9) B n D ∧ MapIs D L

theorem Found.kept {w w' : World} {row : Option Nat} {B : Nat} {L : St} (h : Found w B L) (hg : w.grownBy w' row) (hne : some B ≠ row) : Found w' B L := by
  obtain ⟨n, D, h1, h2, h3⟩ := h
  exact ⟨n, D, h1, h2.kept hg hne, h3⟩
theorem Found.lt {w : World} {B : Nat} {L : St} (h : Found w B L) : B < w.heap.size := by
  obtain ⟨n, D, h1, h2, h3⟩ := h
  exact h2.lt

theorem strOf_inj_data {l : List Nat} {s : ByteArray} (h : s.data.toList = (strOf l).data.toList) : s = strOf l := by
  apply ByteArray.ext
  exact Array.toList_inj.1 h

theorem Found.look {w : World} {B : Nat} {L : St} (h : Found w B L) (hn : (L.map Prod.fst).Nodup) {t : Nat} (ht : t < 2 ^ 60) :
    (Instr.lookup 80 (.map (some B)) (.int .i64 (t : Int)) true).run Try.prog w = .ok (.tuple #[.string (strOf ((lookL L t).getD [])), .bool (hasK L t)]) w ∧
    (Instr.lookup 80 (.map (some B)) (.int .i64 (t : Int)) false).run Try.prog w = .ok (.string (strOf ((lookL L t).getD []))) w := by
  obtain ⟨n, D, h1, h2, h3⟩ := h
  have hzd : plainElem (H := Unit) Try.prog 9 (.string ⟨#[]⟩) = some (.lit (.string (⟨#[]⟩ : ByteArray).data.toList), []) := plainElem_string Try.underlying9 (by unfold maxLen; decide)
  have key : ∀ v ps, plainElem (H := Unit) Try.prog 9 v = some (D.atKey (keyD t) (.lit (.string (⟨#[]⟩ : ByteArray).data.toList)), ps) → v = .string (strOf ((lookL L t).getD [])) := by
    intro v ps hv
    obtain ⟨s, rfl, hs, _⟩ := plainElem_string_inv Try.underlying9 hv
    simp only [Prod.mk.injEq] at hs
    cases hl : lookL L t with
    | none =>
      have hh : Maps.has D (keyD t) = false := by rw [h3.has, ← lookL_isSome, hl]; rfl
      rw [Maps.atKey_of_not_has hh] at hs
      have e := hs.1
      simp only [DataW.lit.injEq, Lit.string.injEq] at e
      congr 1
      exact strOf_inj_data e.symm
    | some l =>
      have hm := lookL_some hl
      have e := hs.1
      rw [h3.at' _ hm] at e
      unfold elemS at e
      simp only [DataW.lit.injEq, Lit.string.injEq] at e
      congr 1
      exact strOf_inj_data e.symm
  refine ⟨?_, ?_⟩
  · obtain ⟨v, ps, hr, hv⟩ := h2.look_ok lawK Try.underlying80 (zeroS w) hzd (keyOf_small ht)
    rw [hr, key v ps hv, h3.has]
  · obtain ⟨v, ps, hr, hv⟩ := h2.lookup lawK Try.underlying80 (zeroS w) hzd (keyOf_small ht)
    rw [hr, key v ps hv]

theorem Found.update {w : World} {B : Nat} {L : St} (h : Found w B L) (p : Nat × List Nat) (ht : p.1 < 2 ^ 60) (hl : p.2.length ≤ 1048576) (hL : L.length ≤ 1048576) (hn : hasK L p.1 = false) :
    ∃ w', (Instr.mapUpdate 80 (.map (some B)) (.int .i64 (p.1 : Int)) (.string (strOf p.2))).run Try.prog w = .ok () w' ∧ Found w' B (L ++ [p]) ∧ w.grownBy w' (some B) := by
  obtain ⟨n, D, h1, h2, h3⟩ := h
  obtain ⟨w', hr, ho, hg⟩ := h2.update lawK Try.underlying80 (by unfold maxLen; omega) (keyOf_small ht) (plainElem_string (H := Unit) Try.underlying9 (s := strOf p.2) (by rw [strOf_size]; unfold maxLen; omega))
  exact ⟨w', hr, ⟨n + 1, _, by rw [List.length_append, List.length_singleton]; omega, ho, h3.put (h2.tidy lawK) p hn⟩, hg⟩

theorem Found.made (w : World) : Found (w.alloc (.map #[] 0)) w.heap.size [] :=
  ⟨0, .map [], Nat.le_refl _, World.ownsMap_made _ _ _ _, ⟨fun _ => rfl, (fun p hp => by cases hp), rfl, (fun x hx => by cases hx)⟩⟩

theorem Found.len {w : World} {B : Nat} {L : St} (h : Found w B L) (ty : TypeId) : (Builtin.len_ #[80] ty #[.map (some B)]).run Try.prog w = .ok (.int .i64 L.length) w := by
  obtain ⟨n, D, h1, h2, h3⟩ := h
  rw [h2.len Try.underlying80 ty, h3.size]

/-- How many entries a map has, read off the world. -/
def mapSize (w : World) (B : Nat) : Nat := match w.heap[B]? with | some (.map es _) => es.size | _ => 0
theorem Found.mapSize {w : World} {B : Nat} {L : St} (h : Found w B L) : mapSize w B = L.length := by
  obtain ⟨n, D, h1, ⟨es, clock, hb, _, _, hD⟩, h3⟩ := h
  rw [← h3.size, hD]
  unfold Proofs.Ytibkhjbcagihbaa.mapSize
  rw [hb]
  simp [Maps.size, length_sorted]
end Go.Proofs.Ytibkhjbcagihbaa

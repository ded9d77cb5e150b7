/-
  A queue to which several are appended at once.
-/
import Derived.Test.YtibkhjbcagihbaaTrQue
namespace Go.Proofs.Ytibkhjbcagihbaa
open Go.ChangeShapes Go.WideShapes Go.ChangeAt Go.RowKit
set_option maxRecDepth 100000

theorem run_append_room_offN {P : Program} (w : World) (t ty e : TypeId) (i : TypeInfo) (ht : P.underlying t = some (.slice e)) (hi : P.info? e = some i) (h1s : i.size = 1)
    (g off sLen sCap : Nat) (cur : Array Value) (hg : w.heap[g]? = some (.cells cur e (0, 0)))
    (a : Addr) (m c : Nat) (news : List Value) (hl : news.length = m) (hnews : ∀ j u, news[j]? = some u → w.cell? (a.add j) = some u) (h1 : ∀ u ∈ news, u.oneCell' = true)
    (hroom : sLen + m ≤ sCap) (hfit : off + sLen + m ≤ cur.size) :
    (Builtin.append_ #[t, t] ty #[.slice (some ⟨g, off, none⟩) sLen sCap, .slice (some a) m c]).run P w =
      .ok (.slice (some ⟨g, off, none⟩) (sLen + m) sCap) (w.setRow g (cur.toList.take (off + sLen) ++ news ++ cur.toList.drop (off + sLen + m)).toArray) := by
  have hf := run_firstCells_some (P := P) w 1 m a m c news (by omega) hnews
  have hst := run_storeCells_at P g (off + sLen) e news 0 cur w hg (by rw [hl]; simpa using hfit) h1
  simp only [Nat.add_zero, hl] at hst
  simp [Builtin.append_, run_underlying ht, sizeOf, typeInfo, hi, h1s, Builtin.lenOf, hroom, hf, Addr.add_lit, hst]

theorem run_append_queN {P : Program} (w : World) (lo : Nat) (t ty e : TypeId) (i : TypeInfo) (z : Value) (ht : P.underlying t = some (.slice e)) (hi : P.info? e = some i) (hz : i.zero = some z) (h1s : i.size = 1) (hby : i.bytes ≤ 16) (hzs : z.cells.size = 1)
    (v : Value) (xs : List Value) (hq : QueAt w lo e v xs) (a : Addr) (m c : Nat) (news : List Value) (hl : news.length = m) (hnews : ∀ j u, news[j]? = some u → w.cell? (a.add j) = some u) (h1 : ∀ u ∈ news, u.oneCell' = true) (hm : m ≤ 1000) (hlen : xs.length ≤ 1048576) (hlo : lo ≤ w.heap.size) :
    ∃ v' w', (Builtin.append_ #[t, t] ty #[v, .slice (some a) m c]).run P w = .ok v' w' ∧ QueAt w' lo e v' (xs ++ news) ∧ w.grownBy w' v.ownBlock ∧ (v'.ownBlock = v.ownBlock ∨ v'.ownBlock = some w.heap.size) := by
  obtain ⟨g, o, cap, cur, rfl, q1, q2, q3, q4, q5, q6⟩ := hq
  by_cases hroom : xs.length + m ≤ cap
  · have hr := run_append_room_offN (P := P) w t ty e i ht hi h1s g o xs.length cap cur q2 a m c news hl hnews h1 hroom (by omega)
    refine ⟨_, _, hr, ?_, ⟨rfl, rfl, rfl, by simp, fun k _ hk => setRow_other w g k _ (fun e => hk (by simp [Value.ownBlock, e]))⟩, Or.inl rfl⟩
    have hcl : cur.toList.length = cur.size := Array.length_toList
    have h2 : o + xs.length ≤ cur.toList.length := by omega
    refine ⟨g, o, cap, _, by rw [List.length_append, hl], q1, setRow_heap w g cur _ e _ q2, by rw [List.length_append, hl]; exact hroom, q4, ?_, ?_⟩
    · simp only [List.size_toArray, List.length_append, List.length_take, List.length_drop, hl]
      omega
    · rw [List.length_append, hl]
      show List.take (xs.length + m) (List.drop o (List.take (o + xs.length) cur.toList ++ news ++ List.drop (o + xs.length + m) cur.toList)) = xs ++ news
      rw [List.append_assoc, List.drop_append_of_le_length (by rw [List.length_take]; omega), List.drop_take, Nat.add_sub_cancel_left, q6, ← List.append_assoc]
      exact List.take_left' (by rw [List.length_append, hl])
  · have holds : ∀ j u, xs[j]? = some u → w.cell? ((⟨g, o, none⟩ : Addr).add j) = some u := by
      intro j u hj
      have hjl := (List.getElem?_eq_some_iff.1 hj).1
      have e1 : cur.toList[o + j]? = some u := by
        have : (List.take xs.length (List.drop o cur.toList))[j]? = some u := by rw [q6]; exact hj
        rwa [List.getElem?_take_of_lt hjl, List.getElem?_drop] at this
      have e2 : cur[o + j]? = some u := by rw [← Array.getElem?_toList]; exact e1
      rw [Addr.add_lit]
      simp [World.cell?, q2, e2]
    have hr := run_append_grow (P := P) w t ty e i z ht hi hz ⟨g, o, none⟩ xs.length cap xs (by rw [h1s, Nat.mul_one]) holds a m c news (by rw [h1s, hl, Nat.mul_one]) hnews (by omega) (by omega) (growslice_fits (by omega) (by
      have : (xs.length + m) * i.bytes ≤ 1049576 * 16 := Nat.mul_le_mul (by omega) hby
      omega))
    have hge := grownCap_ge w (xs.length + m) cap e
    have hcm : grownCap w (xs.length + m) cap e ≤ maxLen := grownCap_le_maxLen w (xs.length + m) cap e (by unfold maxLen; omega)
    refine ⟨_, _, hr, ?_, ?_, Or.inr rfl⟩
    · refine ⟨w.heap.size, 0, grownCap w (xs.length + m) cap e, xs.toArray ++ news.toArray ++ Builtin.zeroCells z.cells (grownCap w (xs.length + m) cap e - (xs.length + m)), ?_, hlo, heap_alloc_new w.drew _, ?_, hcm, ?_, ?_⟩
      · rw [List.length_append, hl]
      · rw [List.length_append, hl]; exact hge
      · simp only [Array.size_append, List.size_toArray, size_zeroCells, hl, hzs]
        omega
      · simp only [Array.toList_append, List.drop_zero]
        exact List.take_left
    · exact ⟨rfl, rfl, rfl, by simp, fun k hk _ => Below.heap_alloc w.drew _ k hk⟩
end Go.Proofs.Ytibkhjbcagihbaa

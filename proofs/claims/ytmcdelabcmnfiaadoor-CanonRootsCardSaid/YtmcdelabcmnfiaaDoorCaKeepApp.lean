/-
  append of one element to a slice that the call owns: what the slice held can still be read where it was.
-/
import Derived.Test.YtmcdelabcmnfiaaDoorCaFirst
import Derived.Maps.AppendAt
import Derived.Lib.AppendZeros
namespace Go.Proofs.YtmcdelabcmnfiaaDoor
open Go.RowKit Go.Shelf
set_option maxRecDepth 100000

theorem addr_add (g j : Nat) : (⟨g, 0, none⟩ : Addr).add j = ⟨g, j, none⟩ := by
  unfold Addr.add
  by_cases h : j = 0 <;> simp [h]

theorem run_append_keep {P : Program} (w : World) (base : Nat) (t ty e : TypeId) (i : TypeInfo) (z : Value) (bytes : Nat) (ht : P.underlying t = some (.slice e)) (hi : P.info? e = some i) (hz : i.zero = some z)
    (hsize : i.size = 1) (hby : i.bytes = bytes) (hzs : z.cells.size = 1)
    (g n cap : Nat) (xs : List Value) (hown : w.ownsRow base e 1 (.slice (some ⟨g, 0, none⟩) n cap) n xs)
    (a : Addr) (c : Nat) (x : Value) (hnews : w.cell? a = some x) (h1 : x.oneCell' = true) (h63 : n + 1 ≤ maxLen) (hbytes : (n + 1) * bytes ≤ 140737488355328) (hbase : base ≤ w.heap.size) :
    ∃ v' w', (Builtin.append_ #[t, t] ty #[.slice (some ⟨g, 0, none⟩) n cap, .slice (some a) 1 c]).run P w = .ok v' w' ∧ w'.ownsRow base e 1 v' (n + 1) (xs ++ [x]) ∧ w.grownBy w' (some g) ∧
      (v'.ownBlock = some g ∨ v'.ownBlock = some w.heap.size) ∧ (∀ j u, xs[j]? = some u → w'.cell? ⟨g, j, none⟩ = some u) := by
  have hnews' : ∀ j u, [x][j]? = some u → w.cell? (a.add j) = some u := by
    intro j u hj
    match j, hj with
    | 0, hj => simp at hj; subst hj; simpa [Addr.add] using hnews
  obtain ⟨v', w', hr, h2, h3, h4, h5⟩ := run_append_own_at (P := P) w base t ty e i z 1 bytes ht hi hz hsize hby hzs (by omega) _ n xs hown a 1 c [x] (by simp) hnews' (fun u hu => by rw [List.mem_singleton] at hu; rw [hu]; exact h1) h63 hbytes hbase
  refine ⟨v', w', hr, h2, h3, h5, ?_⟩
  have hown' := hown
  obtain ⟨h0, hn | ⟨g', cap', cur, hv, hbg, hg, hnc, hcm, hcs, htake⟩⟩ := hown
  · cases hn.1
  cases hv
  have hold : ∀ j u, xs[j]? = some u → w.cell? ⟨g, j, none⟩ = some u := fun j u hj => by
    have := hown'.cells (g := g) rfl j u hj
    rwa [addr_add] at this
  by_cases hroom : n + 1 ≤ cap
  · have hr2 := run_append_room (P := P) w t ty e i ht hi g n cap cur hg a 1 c [x] (by simp [hsize]) hnews' (fun u hu => by rw [List.mem_singleton] at hu; rw [hu]; exact h1) hroom (by
      rw [hsize]; simp only [List.length_singleton]; omega)
    rw [hr] at hr2
    injection hr2 with e1 e2
    intro j u hj
    have hb : v'.ownBlock = some g := by rw [e1]; rfl
    have := h2.cells hb j u (by rw [List.getElem?_append_left (List.getElem?_eq_some_iff.1 hj).1]; exact hj)
    rwa [addr_add] at this
  · have hr2 := run_append_grow (P := P) w t ty e i z ht hi hz ⟨g, 0, none⟩ n cap xs (by rw [hsize]; exact h0) (fun j u hj => by rw [addr_add]; exact hold j u hj) a 1 c [x] (by simp [hsize]) hnews' (by omega)
      (by simp only [maxLen] at h63; omega) (growslice_fits (by omega) (by rw [hby]; exact hbytes))
    rw [hr] at hr2
    injection hr2 with e1 e2
    intro j u hj
    rw [e2]
    exact cell_later (((Below.refl w.heap.size w).drew).alloc (Nat.le_refl _) _) (hold j u hj)
end Go.Proofs.YtmcdelabcmnfiaaDoor

/-
  The leadings with the least cost, in order, as lists; what the search's closure holds in memory.
-/
import Derived.Test.YtkpiakoijkflmaaVoRise
import Derived.Test.YtkpiakoijkflmaaVoFns
import Derived.Test.YtkpiakoijkflmaaSepO
namespace Go.Proofs.Ytkpiakoijkflmaa

section
open Go.RowKit

/-- All leadings with the least cost that go on from some places. -/
def lds (n : Nat) (bs : List Nat) : List Nat → Nat → List Nat → List (List Nat)
  | [], _, cur => [cur]
  | x :: us, T, cur => (freeP T bs.length).flatMap fun p => if dsN n x (bs[p]?.getD 0) + costT n bs us (T ||| 1 <<< p) = costT n bs (x :: us) T then lds n bs us (T ||| 1 <<< p) (cur ++ [p]) else []
def ldsAt (n : Nat) (bs : List Nat) (x : Nat) (us : List Nat) (T : Nat) (cur : List Nat) (p : Nat) : List (List Nat) :=
  if dsN n x (bs[p]?.getD 0) + costT n bs us (T ||| 1 <<< p) = costT n bs (x :: us) T then lds n bs us (T ||| 1 <<< p) (cur ++ [p]) else []
def ldsTo (n : Nat) (bs : List Nat) (x : Nat) (us : List Nat) (T : Nat) (cur : List Nat) (j : Nat) : List (List Nat) := (freeP T j).flatMap (ldsAt n bs x us T cur)
theorem ldsTo_zero (n : Nat) (bs : List Nat) (x : Nat) (us : List Nat) (T : Nat) (cur : List Nat) : ldsTo n bs x us T cur 0 = [] := rfl
theorem ldsTo_succ (n : Nat) (bs : List Nat) (x : Nat) (us : List Nat) (T : Nat) (cur : List Nat) (j : Nat) :
    ldsTo n bs x us T cur (j + 1) = if T.testBit j then ldsTo n bs x us T cur j else ldsTo n bs x us T cur j ++ ldsAt n bs x us T cur j := by
  unfold ldsTo; rw [freeP_succ]; split
  · rfl
  · rw [List.flatMap_append, List.flatMap_singleton]
theorem lds_cons (n : Nat) (bs : List Nat) (x : Nat) (us : List Nat) (T : Nat) (cur : List Nat) : lds n bs (x :: us) T cur = ldsTo n bs x us T cur bs.length := rfl
/-- What the first places give is the beginning of what all give. -/
theorem ldsTo_pre (n : Nat) (bs : List Nat) (x : Nat) (us : List Nat) (T : Nat) (cur : List Nat) (j : Nat) : ∀ d, ∃ q, ldsTo n bs x us T cur (j + d) = ldsTo n bs x us T cur j ++ q
  | 0 => ⟨[], by simp⟩
  | d + 1 => by
    obtain ⟨q, h⟩ := ldsTo_pre n bs x us T cur j d
    rw [← Nat.add_assoc, ldsTo_succ]
    split
    · exact ⟨q, h⟩
    · exact ⟨q ++ _, by rw [h, List.append_assoc]⟩
theorem ldsTo_all {n : Nat} {bs : List Nat} {x : Nat} {us : List Nat} {T : Nat} {cur : List Nat} {j : Nat} (h : j ≤ bs.length) : ∃ q, lds n bs (x :: us) T cur = ldsTo n bs x us T cur j ++ q := by
  rw [lds_cons]
  have := ldsTo_pre n bs x us T cur j (bs.length - j)
  rwa [Nat.add_sub_cancel' h] at this

/-- What belongs to the closure's variables. -/
structure LBox (n : Nat) (us bs L : List Nat) (lB aB yB bB nB rB eB l b1 o1 c1 b2 o2 c2 : Nat) (W : World) : Prop where
  n : W.cell? ⟨nB, 0, none⟩ = some (.int .i64 n)
  a : W.cell? ⟨aB, 0, none⟩ = some (.slice (some ⟨b1, o1, none⟩) us.length c1)
  b : W.cell? ⟨bB, 0, none⟩ = some (.slice (some ⟨b2, o2, none⟩) us.length c2)
  y : W.cell? ⟨yB, 0, none⟩ = some (.func (.yield l) #[] #[])
  e : W.cell? ⟨eB, 0, none⟩ = some (.func (.func 94) #[] #[.pointer (some ⟨lB, 0, none⟩), .pointer (some ⟨aB, 0, none⟩), .pointer (some ⟨yB, 0, none⟩), .pointer (some ⟨bB, 0, none⟩), .pointer (some ⟨nB, 0, none⟩), .pointer (some ⟨rB, 0, none⟩), .pointer (some ⟨eB, 0, none⟩)])
  ca : ∀ i, i < us.length → W.cell? ⟨b1, o1 + i, none⟩ = some (.int .i64 ((us[i]?.getD 0 : Nat) : Int))
  cb : ∀ i, i < us.length → W.cell? ⟨b2, o2 + i, none⟩ = some (.int .i64 ((bs[i]?.getD 0 : Nat) : Int))
  r : ∀ i, i < 64 → W.cell? ⟨rB, i, none⟩ = some (.int .i64 ((L[i]?.getD 0 : Nat) : Int))

theorem LBox.kept {n : Nat} {us bs L : List Nat} {lB aB yB bB nB rB eB l b1 o1 c1 b2 o2 c2 : Nat} {S K : Nat → Prop} {W W' : World} (h : LBox n us bs L lB aB yB bB nB rB eB l b1 o1 c1 b2 o2 c2 W) (hS : KeptOn S W W') (hK : KeptOn K W W')
    (s1 : S nB) (s2 : S aB) (s3 : S bB) (s4 : S b1) (s5 : S b2) (k1 : K yB) (k2 : K eB) (k3 : K rB) : LBox n us bs L lB aB yB bB nB rB eB l b1 o1 c1 b2 o2 c2 W' :=
  ⟨(hS.cell (p := ⟨nB, 0, none⟩) s1).trans h.n, (hS.cell (p := ⟨aB, 0, none⟩) s2).trans h.a, (hS.cell (p := ⟨bB, 0, none⟩) s3).trans h.b, (hK.cell (p := ⟨yB, 0, none⟩) k1).trans h.y, (hK.cell (p := ⟨eB, 0, none⟩) k2).trans h.e,
    fun i hi => (hS.cell (p := ⟨b1, o1 + i, none⟩) s4).trans (h.ca i hi), fun i hi => (hS.cell (p := ⟨b2, o2 + i, none⟩) s5).trans (h.cb i hi), fun i hi => (hK.cell (p := ⟨rB, i, none⟩) k3).trans (h.r i hi)⟩

/-- The list of the places that are taken, in its box. -/
def LeadAt (W : World) (Z : Nat → Prop) (lB B1 : Nat) (cur : List Nat) : Prop :=
  ∃ v, Boxed W lB 22 v ∧ W.ownsRow B1 3 1 v cur.length (ivals (natI cur)) ∧ ∀ g, v.ownBlock = some g → Z g

/-- How a call of the closure ends. -/
def LEnds (J Jx : List (List Nat × Value) → (Nat → Prop) → World → Prop) (pre : List (List Nat × Value)) (Z : Nat → Prop) (lB B1 : Nat) (cur : List Nat) (W : World) (all : List (List Nat)) (e : Ending) (W' : World) : Prop :=
  ∃ (Z' : Nat → Prop) (add : List (List Nat × Value)), ((∀ k, Z k → Z' k) ∧ (∀ k, Z' k → k < W'.heap.size) ∧ (∀ k, Z' k → Z k ∨ W.heap.size ≤ k)) ∧
    ((e = .returned (.bool true) ∧ add.map Prod.fst = all ∧ J (pre ++ add) Z' W' ∧ LeadAt W' Z' lB B1 cur) ∨ (e = .returned (.bool false) ∧ (∃ q, all = add.map Prod.fst ++ q) ∧ Jx (pre ++ add) Z' W'))

theorem own_cut {W : World} {B g n cap : Nat} {t : TypeId} {xs : List Value} (h : W.ownsRow B t 1 (.slice (some ⟨g, 0, none⟩) n cap) n xs) (j : Nat) (hj : j ≤ n) : W.ownsRow B t 1 (.slice (some ⟨g, 0, none⟩) j cap) j (xs.take j) := by
  obtain ⟨h0, ⟨h1, _⟩ | ⟨g', cap', cur, he, hb, hh, hn, hm, hs, ht⟩⟩ := h
  · cases h1
  · cases he
    refine ⟨by rw [List.length_take, h0]; omega, .inr ⟨g, cap, cur, rfl, hb, hh, by omega, hm, hs, ?_⟩⟩
    rw [← ht, List.take_take]
    congr 1
    omega

/-- The box is written anew; the list lies elsewhere. -/
theorem LeadAt.put {W : World} {Z : Nat → Prop} {lB B1 : Nat} {cur : List Nat} {v u : Value} (hb : Boxed W lB 22 u) (hr : W.ownsRow B1 3 1 v cur.length (ivals (natI cur))) (hz : ∀ g, v.ownBlock = some g → Z g) (hl : lB < B1) :
    LeadAt (W.setCell ⟨lB, 0, none⟩ v) Z lB B1 cur := by
  refine ⟨v, ?_, hr.kept (row := some lB) ⟨rfl, rfl, rfl, by simp [World.setCell], fun k _ hne => Below.heap_setCell W ⟨lB, 0, none⟩ v k (fun e => hne (by rw [e]))⟩ ?_, hz⟩
  · have := (Row.ofBox hb).set 0 v
    exact this
  · cases ho : v.ownBlock with
    | none => exact Or.inl rfl
    | some g => exact Or.inr (fun e => by cases e; have := (hr.lt _ ho).1; omega)
theorem LeadAt.grow {W W' : World} {Z : Nat → Prop} {lB B1 : Nat} {cur : List Nat} (h : LeadAt W Z lB B1 cur) (hk : KeptOn Z W W') (hl : Z lB) : LeadAt W' Z lB B1 cur := by
  obtain ⟨v, hb, hr, hz⟩ := h
  refine ⟨v, (hk.block _ hl).trans hb, ?_, hz⟩
  obtain ⟨h0, ⟨h1, h2⟩ | ⟨g, cap, c, he, hg, hh, h3⟩⟩ := hr
  · exact ⟨h0, .inl ⟨h1, h2⟩⟩
  · exact ⟨h0, .inr ⟨g, cap, c, he, hg, (hk.block g (hz g (by rw [he]; rfl))).trans hh, h3⟩⟩
end

section
/-
  The closure that extends a leading, where a voice is left: a loop over the places that calls it again.
-/
open Go.RowKit Go.Shelf
attribute [local go_sem] Oper.semAt_some
set_option maxRecDepth 100000

theorem lead_app {W w2 : World} {lB B1 n m : Nat} {v v' : Value} {xs ys : List Value} {tmp : Obj} (hb : Boxed W lB 22 v) (hr : W.ownsRow B1 3 1 v n xs) (hlB : lB < B1) (hB1 : B1 ≤ W.heap.size)
    (hown : w2.ownsRow B1 3 1 v' m ys) (hgrow : (W.alloc tmp).grownBy w2 v.ownBlock) :
    Boxed w2 lB 22 v ∧ Boxed (w2.setCell ⟨lB, 0, none⟩ v') lB 22 v' ∧ KeepsOthers W (w2.setCell ⟨lB, 0, none⟩ v') ∧ (∀ k, k < B1 → k ≠ lB → (w2.setCell ⟨lB, 0, none⟩ v').heap[k]? = W.heap[k]?) ∧ W.heap.size + 1 ≤ w2.heap.size := by
  have hs : W.heap.size + 1 ≤ w2.heap.size := by have := hgrow.size; rwa [World.size_alloc] at this
  have hlow : ∀ k, k < B1 → w2.heap[k]? = W.heap[k]? := fun k hk => by
    have hks : k < W.heap.size := by omega
    refine (hgrow.block k (by rw [World.size_alloc]; omega) (fun e => by have := (hr.lt k e.symm).1; omega)).trans (Below.heap_alloc W tmp k hks)
  have hv1 : Boxed w2 lB 22 v := (hlow lB hlB).trans hb
  refine ⟨hv1, hv1.set v', ?_, fun k hk hne => ?_, hs⟩
  · refine ((KeepsOthers.alloc W tmp).trans (KeepsOthers.of_grownBy hgrow fun j o ej hj => ?_)).trans (KeepsOthers.setCell _ _ _)
    rcases (hr.alloc tmp).2 with ⟨rfl, _⟩ | ⟨g, cap, cur, rfl, _, hgb, _⟩
    · simp [Value.ownBlock] at ej
    · obtain rfl : g = j := by simpa [Value.ownBlock] using ej
      rw [hgb] at hj; cases hj; rfl
  · exact (Below.heap_setCell w2 ⟨lB, 0, none⟩ v' k hne).trans (hlow k hk)

theorem LBox.drewN {n : Nat} {us bs L : List Nat} {lB aB yB bB nB rB eB l b1 o1 c1 b2 o2 c2 : Nat} {W : World} (h : LBox n us bs L lB aB yB bB nB rB eB l b1 o1 c1 b2 o2 c2 W) (d : Nat) : LBox n us bs L lB aB yB bB nB rB eB l b1 o1 c1 b2 o2 c2 (W.drewN d) := ⟨h.n, h.a, h.b, h.y, h.e, h.ca, h.cb, h.r⟩
theorem LeadAt.drewN {W : World} {Z : Nat → Prop} {lB B1 : Nat} {cur : List Nat} (h : LeadAt W Z lB B1 cur) (d : Nat) : LeadAt (W.drewN d) Z lB B1 cur := h
theorem LeadAt.mono {W : World} {Z Z' : Nat → Prop} {lB B1 : Nat} {cur : List Nat} (h : LeadAt W Z lB B1 cur) (hz : ∀ k, Z k → Z' k) : LeadAt W Z' lB B1 cur := by
  obtain ⟨v, hb, hr, hg⟩ := h
  exact ⟨v, hb, hr, fun g e => hz g (hg g e)⟩

/-- The closure's contract, with so many voices left. -/
def LeadsAt (n : Nat) (us bs L : List Nat) (lB aB yB bB nB rB eB l b1 o1 c1 b2 o2 c2 B1 N : Nat) (P : List Nat → Prop) (S K : Nat → Prop) (J Jx : List (List Nat × Value) → (Nat → Prop) → World → Prop) (f : Nat) : Prop :=
  ∀ (T : Nat) (cur : List Nat) (pre : List (List Nat × Value)) (Z : Nat → Prop) (W : World), T < 2 ^ us.length → pcN T = cur.length → cur.length + f = us.length → (pre.length + (lds n bs (us.drop cur.length) T cur).length ≤ N ∧ ∀ m ∈ lds n bs (us.drop cur.length) T cur, P m) → B1 ≤ W.heap.size →
    LBox n us bs L lB aB yB bB nB rB eB l b1 o1 c1 b2 o2 c2 W → (∀ k, K k → Z k) → Z lB → (∀ k, Z k → k < W.heap.size) → LeadAt W Z lB B1 cur → J pre Z W →
    Calls Try.prog 94 #[.int .i64 T, .pointer (some ⟨lB, 0, none⟩), .pointer (some ⟨aB, 0, none⟩), .pointer (some ⟨yB, 0, none⟩), .pointer (some ⟨bB, 0, none⟩), .pointer (some ⟨nB, 0, none⟩), .pointer (some ⟨rB, 0, none⟩), .pointer (some ⟨eB, 0, none⟩)] W fun e W' =>
      KeepsBut l W W' ∧ KeptOn K W W' ∧ KeptOn S W W' ∧ LEnds J Jx pre Z lB B1 cur W (lds n bs (us.drop cur.length) T cur) e W'

/-- What holds between the rounds. -/
def MidL (l lB B1 : Nat) (S K Z : Nat → Prop) (J : List (List Nat × Value) → (Nat → Prop) → World → Prop) (pre : List (List Nat × Value)) (cur : List Nat) (W : World) (some' : List (List Nat)) (V : World) : Prop :=
  ∃ (Z' : Nat → Prop) (add : List (List Nat × Value)), ((∀ k, Z k → Z' k) ∧ (∀ k, Z' k → k < V.heap.size) ∧ (∀ k, Z' k → Z k ∨ W.heap.size ≤ k)) ∧ (KeepsBut l W V ∧ KeptOn K W V ∧ KeptOn S W V) ∧ add.map Prod.fst = some' ∧ J (pre ++ add) Z' V ∧ LeadAt V Z' lB B1 cur

theorem MidL.drewN {l lB B1 B0 : Nat} {S K Z : Nat → Prop} {J : List (List Nat × Value) → (Nat → Prop) → World → Prop} {pre : List (List Nat × Value)} {cur : List Nat} {W V : World} {xs : List (List Nat)} (hJ : SepO B0 J) (h : MidL l lB B1 S K Z J pre cur W xs V) (d : Nat) : MidL l lB B1 S K Z J pre cur W xs (V.drewN d) := by
  obtain ⟨Z', add, z, ⟨k1, k2, k3⟩, h1, h2, h3⟩ := h
  exact ⟨Z', add, z, ⟨k1.trans (KeepsBut.drewN V d), k2.drewN d, k3.drewN d⟩, h1, hJ.drewN h2 d, h3.drewN d⟩

/-- A place is taken: the list has grown, in its box. -/
theorem MidL.push {l lB B1 B0 j : Nat} {S K Z : Nat → Prop} {J : List (List Nat × Value) → (Nat → Prop) → World → Prop} {pre : List (List Nat × Value)} {cur : List Nat} {W V w2 : World} {v v' : Value} (hJ : SepO B0 J)
    (hB : B0 ≤ lB) (hlB : lB < B1) (hV : B1 ≤ V.heap.size) (hK : ∀ k, K k → k < B1 ∧ k ≠ lB) (hS : ∀ k, S k → k < B0) (hZl : Z lB) {Z' : Nat → Prop} {add : List (List Nat × Value)}
    (z : (∀ k, Z k → Z' k) ∧ (∀ k, Z' k → k < V.heap.size) ∧ (∀ k, Z' k → Z k ∨ W.heap.size ≤ k)) (hWV : W.heap.size ≤ V.heap.size) (hj : J (pre ++ add) Z' V) (hb : Boxed V lB 22 v) (hr : V.ownsRow B1 3 1 v cur.length (ivals (natI cur))) (hz : ∀ g, v.ownBlock = some g → Z' g) {tmp : Obj}
    (hown : w2.ownsRow B1 3 1 v' (cur.length + 1) (ivals (natI cur) ++ [.int .i64 (j : Int)])) (hgrow : (V.alloc tmp).grownBy w2 v.ownBlock) (hob : v'.ownBlock = v.ownBlock ∨ v'.ownBlock = some (V.alloc tmp).heap.size) :
    ∃ Z2 : Nat → Prop, ((∀ k, Z k → Z2 k) ∧ (∀ k, Z2 k → k < (w2.setCell ⟨lB, 0, none⟩ v').heap.size) ∧ (∀ k, Z2 k → Z k ∨ W.heap.size ≤ k)) ∧ (KeepsBut l V (w2.setCell ⟨lB, 0, none⟩ v') ∧ KeptOn K V (w2.setCell ⟨lB, 0, none⟩ v') ∧ KeptOn S V (w2.setCell ⟨lB, 0, none⟩ v')) ∧
      J (pre ++ add) Z2 (w2.setCell ⟨lB, 0, none⟩ v') ∧ LeadAt (w2.setCell ⟨lB, 0, none⟩ v') Z2 lB B1 (cur ++ [j]) := by
  obtain ⟨a1, a2, a3, a4, a5⟩ := lead_app hb hr hlB hV hown hgrow
  have hsz : (w2.setCell ⟨lB, 0, none⟩ v').heap.size = w2.heap.size := by simp [World.setCell]
  have hsa : (V.alloc tmp).heap.size = V.heap.size + 1 := World.size_alloc _ _
  have j1 := hJ.take _ _ _ tmp hj
  have j2 := hJ.own _ _ _ _ _ (fun k => V.heap.size + 1 ≤ k) j1 hgrow (fun r e => Or.inl (hz r e)) (fun k hk => by rw [hsa]; exact hk)
  have j3 := hJ.priv _ _ _ lB 0 v' j2 (Or.inl (Or.inl (z.1 _ hZl)))
  refine ⟨_, ⟨fun k hk => Or.inl (Or.inl (z.1 k hk)), fun k hk => ?_, fun k hk => ?_⟩, ⟨keepsBut_of a3 l, ⟨by omega, fun k hk => a4 k (hK k hk).1 (hK k hk).2⟩, ⟨by omega, fun k hk => a4 k (by have := hS k hk; omega) (by have := hS k hk; omega)⟩⟩, j3, ?_⟩
  · rw [hsz]
    rcases hk with (hk | rfl) | ⟨_, hk⟩
    · have := z.2.1 k hk; omega
    · omega
    · exact hk
  · rcases hk with (hk | rfl) | ⟨hk, _⟩
    · exact z.2.2 k hk
    · exact Or.inr hWV
    · exact Or.inr (by omega)
  · refine LeadAt.put a1 ?_ (fun g e => ?_) hlB
    · have e1 : ivals (natI (cur ++ [j])) = ivals (natI cur) ++ [.int .i64 (j : Int)] := by simp [ivals, natI]
      rw [e1, List.length_append, List.length_singleton]
      exact hown
    · rcases hob with h | h
      · exact Or.inl (Or.inl (hz g (by rw [← h]; exact e)))
      · rw [h] at e
        injection e with e
        exact Or.inr ⟨by omega, (hown.lt g (by rw [h, e])).2⟩

/-- The last place is given back. -/
theorem LeadAt.pop {W : World} {Z : Nat → Prop} {lB B1 j : Nat} {cur : List Nat} (h : LeadAt W Z lB B1 (cur ++ [j])) (hlB : lB < B1) :
    ∃ g cap, Boxed W lB 22 (.slice (some ⟨g, 0, none⟩) (cur.length + 1) cap) ∧ cur.length + 1 ≤ cap ∧ LeadAt (W.setCell ⟨lB, 0, none⟩ (.slice (some ⟨g, 0, none⟩) cur.length cap)) Z lB B1 cur := by
  obtain ⟨v, hb, hr, hz⟩ := h
  rw [List.length_append, List.length_singleton] at hr
  have hr' := hr
  obtain ⟨h0, ⟨h1, h2⟩ | ⟨g, cap, c, rfl, hg, hh, hn, h3⟩⟩ := hr'
  · omega
  · refine ⟨g, cap, hb, hn, LeadAt.put hb ?_ (fun g' e => hz g' e) hlB⟩
    have := own_cut hr cur.length (by omega)
    have e1 : (ivals (natI (cur ++ [j]))).take cur.length = ivals (natI cur) := by
      have : ivals (natI (cur ++ [j])) = ivals (natI cur) ++ [.int .i64 (j : Int)] := by simp [ivals, natI]
      rw [this, List.take_append_of_le_length (by rw [ivals_len, natI_length]; omega), List.take_of_length_le (by rw [ivals_len, natI_length]; omega)]
    rw [e1] at this
    exact this
end

end Go.Proofs.Ytkpiakoijkflmaa

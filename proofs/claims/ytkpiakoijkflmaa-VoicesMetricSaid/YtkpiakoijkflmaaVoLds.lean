/-
  The leadings with the least cost, in order, as lists; what the search's closure holds in memory.
-/
import Derived.Test.YtkpiakoijkflmaaVoRise
import Derived.Test.YtkpiakoijkflmaaVoFns
import Derived.Test.YtkpiakoijkflmaaSepO
namespace Go.Proofs.Ytkpiakoijkflmaa
open Go.RowKit

/-- All leadings with the least cost that go on from some places. -/
def lds (n : Nat) (bs : List Nat) : List Nat → Nat → List Nat → List (List Nat)
  | [], _, cur => [cur]
  | x :: us, T, cur => (freeP T bs.length).flatMap fun p => if dsN n x (bs[p]?.getD 0) + costT n bs us (T ||| 1 <<< p) = costT n bs (x :: us) T then lds n bs us (T ||| 1 <<< p) (cur ++ [p]) else []
def ldsAt (n : Nat) (bs : List Nat) (x : Nat) (us : List Nat) (T : Nat) (cur : List Nat) (p : Nat) : List (List Nat) :=
  if dsN n x (bs[p]?.getD 0) + costT n bs us (T ||| 1 <<< p) = costT n bs (x :: us) T then lds n bs us (T ||| 1 <<< p) (cur ++ [p]) else []
def ldsTo (n : Nat) (bs : List Nat) (x : Nat) (us : List Nat) (T : Nat) (cur : List Nat) (j : Nat) : List (List Nat) := (freeP T j).flatMap (ldsAt n bs x us T cur)
theorem ldsTo_zero (n : Nat) (bs : List Nat) (x : Nat) (us : List Nat) (T : Nat) (cur : List Nat) : ldsTo n bs x us T cur 0 = [] := rfl
theorem ldsTo_succ (n : Nat) (bs : List Nat) (x : Nat) (us : List Nat) (T : Nat) (cur : List Nat) (j : Nat) :
    ldsTo n bs x us T cur (j + 1) = if T.testBit j then ldsTo n bs x us T cur j else ldsTo n bs x us T cur j ++ ldsAt n bs x us T cur j := by
  unfold ldsTo; rw [freeP_succ]; split
  · rfl
  · rw [List.flatMap_append, List.flatMap_singleton]
theorem lds_cons (n : Nat) (bs : List Nat) (x : Nat) (us : List Nat) (T : Nat) (cur : List Nat) : lds n bs (x :: us) T cur = ldsTo n bs x us T cur bs.length := rfl
/-- What the first places give is the beginning of what all give. -/
theorem ldsTo_pre (n : Nat) (bs : List Nat) (x : Nat) (us : List Nat) (T : Nat) (cur : List Nat) (j : Nat) : ∀ d, ∃ q, ldsTo n bs x us T cur (j + d) = ldsTo n bs x us T cur j ++ q
  | 0 => ⟨[], by simp⟩
  | d + 1 => by
    obtain ⟨q, h⟩ := ldsTo_pre n bs x us T cur j d
    rw [← Nat.add_assoc, ldsTo_succ]
    split
    · exact ⟨q, h⟩
    · exact ⟨q ++ _, by rw [h, List.append_assoc]⟩
theorem ldsTo_all {n : Nat} {bs : List Nat} {x : Nat} {us : List Nat} {T : Nat} {cur : List Nat} {j : Nat} (h : j ≤ bs.length) : ∃ q, lds n bs (x :: us) T cur = ldsTo n bs x us T cur j ++ q := by
  rw [lds_cons]
  have := ldsTo_pre n bs x us T cur j (bs.length - j)
  rwa [Nat.add_sub_cancel' h] at this

/-- What belongs to the closure's variables. -/
structure LBox (n : Nat) (us bs L : List Nat) (lB aB yB bB nB rB eB l b1 o1 c1 b2 o2 c2 : Nat) (W : World) : Prop where
  n : W.cell? ⟨nB, 0, none⟩ = some (.int .i64 n)
  a : W.cell? ⟨aB, 0, none⟩ = some (.slice (some ⟨b1, o1, none⟩) us.length c1)
  b : W.cell? ⟨bB, 0, none⟩ = some (.slice (some ⟨b2, o2, none⟩) us.length c2)
  y : W.cell? ⟨yB, 0, none⟩ = some (.func (.yield l) #[] #[])
  e : W.cell? ⟨eB, 0, none⟩ = some (.func (.func 94) #[] #[.pointer (some ⟨lB, 0, none⟩), .pointer (some ⟨aB, 0, none⟩), .pointer (some ⟨yB, 0, none⟩), .pointer (some ⟨bB, 0, none⟩), .pointer (some ⟨nB, 0, none⟩), .pointer (some ⟨rB, 0, none⟩), .pointer (some ⟨eB, 0, none⟩)])
  ca : ∀ i, i < us.length → W.cell? ⟨b1, o1 + i, none⟩ = some (.int .i64 ((us[i]?.getD 0 : Nat) : Int))
  cb : ∀ i, i < us.length → W.cell? ⟨b2, o2 + i, none⟩ = some (.int .i64 ((bs[i]?.getD 0 : Nat) : Int))
  r : ∀ i, i < 64 → W.cell? ⟨rB, i, none⟩ = some (.int .i64 ((L[i]?.getD 0 : Nat) : Int))

theorem LBox.kept {n : Nat} {us bs L : List Nat} {lB aB yB bB nB rB eB l b1 o1 c1 b2 o2 c2 : Nat} {S K : Nat → Prop} {W W' : World} (h : LBox n us bs L lB aB yB bB nB rB eB l b1 o1 c1 b2 o2 c2 W) (hS : KeptOn S W W') (hK : KeptOn K W W')
    (s1 : S nB) (s2 : S aB) (s3 : S bB) (s4 : S b1) (s5 : S b2) (k1 : K yB) (k2 : K eB) (k3 : K rB) : LBox n us bs L lB aB yB bB nB rB eB l b1 o1 c1 b2 o2 c2 W' :=
  ⟨(hS.cell (p := ⟨nB, 0, none⟩) s1).trans h.n, (hS.cell (p := ⟨aB, 0, none⟩) s2).trans h.a, (hS.cell (p := ⟨bB, 0, none⟩) s3).trans h.b, (hK.cell (p := ⟨yB, 0, none⟩) k1).trans h.y, (hK.cell (p := ⟨eB, 0, none⟩) k2).trans h.e,
    fun i hi => (hS.cell (p := ⟨b1, o1 + i, none⟩) s4).trans (h.ca i hi), fun i hi => (hS.cell (p := ⟨b2, o2 + i, none⟩) s5).trans (h.cb i hi), fun i hi => (hK.cell (p := ⟨rB, i, none⟩) k3).trans (h.r i hi)⟩

/-- The list of the places that are taken, in its box. -/
def LeadAt (W : World) (Z : Nat → Prop) (lB B1 : Nat) (cur : List Nat) : Prop :=
  ∃ v, Boxed W lB 22 v ∧ W.ownsRow B1 3 1 v cur.length (ivals (natI cur)) ∧ ∀ g, v.ownBlock = some g → Z g

/-- How a call of the closure ends. -/
def LEnds (J Jx : List (List Nat × Value) → (Nat → Prop) → World → Prop) (pre : List (List Nat × Value)) (Z : Nat → Prop) (lB B1 : Nat) (cur : List Nat) (W : World) (all : List (List Nat)) (e : Ending) (W' : World) : Prop :=
  ∃ (Z' : Nat → Prop) (add : List (List Nat × Value)), ((∀ k, Z k → Z' k) ∧ (∀ k, Z' k → k < W'.heap.size) ∧ (∀ k, Z' k → Z k ∨ W.heap.size ≤ k)) ∧
    ((e = .returned (.bool true) ∧ add.map Prod.fst = all ∧ J (pre ++ add) Z' W' ∧ LeadAt W' Z' lB B1 cur) ∨ (e = .returned (.bool false) ∧ (∃ q, all = add.map Prod.fst ++ q) ∧ Jx (pre ++ add) Z' W'))

theorem own_cut {W : World} {B g n cap : Nat} {t : TypeId} {xs : List Value} (h : W.ownsRow B t 1 (.slice (some ⟨g, 0, none⟩) n cap) n xs) (j : Nat) (hj : j ≤ n) : W.ownsRow B t 1 (.slice (some ⟨g, 0, none⟩) j cap) j (xs.take j) := by
  obtain ⟨h0, ⟨h1, _⟩ | ⟨g', cap', cur, he, hb, hh, hn, hm, hs, ht⟩⟩ := h
  · cases h1
  · cases he
    refine ⟨by rw [List.length_take, h0]; omega, .inr ⟨g, cap, cur, rfl, hb, hh, by omega, hm, hs, ?_⟩⟩
    rw [← ht, List.take_take]
    congr 1
    omega

/-- The box is written anew; the list lies elsewhere. -/
theorem LeadAt.put {W : World} {Z : Nat → Prop} {lB B1 : Nat} {cur : List Nat} {v u : Value} (hb : Boxed W lB 22 u) (hr : W.ownsRow B1 3 1 v cur.length (ivals (natI cur))) (hz : ∀ g, v.ownBlock = some g → Z g) (hl : lB < B1) :
    LeadAt (W.setCell ⟨lB, 0, none⟩ v) Z lB B1 cur := by
  refine ⟨v, ?_, hr.kept (row := some lB) ⟨rfl, rfl, rfl, by simp [World.setCell], fun k _ hne => Below.heap_setCell W ⟨lB, 0, none⟩ v k (fun e => hne (by rw [e]))⟩ ?_, hz⟩
  · have := (Row.ofBox hb).set 0 v
    exact this
  · cases ho : v.ownBlock with
    | none => exact Or.inl rfl
    | some g => exact Or.inr (fun e => by cases e; have := (hr.lt _ ho).1; omega)
theorem LeadAt.grow {W W' : World} {Z : Nat → Prop} {lB B1 : Nat} {cur : List Nat} (h : LeadAt W Z lB B1 cur) (hk : KeptOn Z W W') (hl : Z lB) : LeadAt W' Z lB B1 cur := by
  obtain ⟨v, hb, hr, hz⟩ := h
  refine ⟨v, (hk.block _ hl).trans hb, ?_, hz⟩
  obtain ⟨h0, ⟨h1, h2⟩ | ⟨g, cap, c, he, hg, hh, h3⟩⟩ := hr
  · exact ⟨h0, .inl ⟨h1, h2⟩⟩
  · exact ⟨h0, .inr ⟨g, cap, c, he, hg, (hk.block g (hz g (by rw [he]; rfl))).trans hh, h3⟩⟩
end Go.Proofs.Ytkpiakoijkflmaa

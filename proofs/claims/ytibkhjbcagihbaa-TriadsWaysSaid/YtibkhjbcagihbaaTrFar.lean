/-
  Far: the counts of the walks' lengths, whatever order the map gives them in.
-/
import Derived.Test.YtibkhjbcagihbaaTrFarMath
import Derived.Test.YtibkhjbcagihbaaTrRound
import Derived.Maps.StringElems
namespace Go.Proofs.Ytibkhjbcagihbaa
open Go.ChangeShapes Go.WideShapes Go.ChangeAt Go.RowKit Go.Shelf Go.Maps
set_option maxRecDepth 100000

/-- What is no longer to come. -/
def doneL (L : St) (left : Lit → Bool) : St := L.filter (fun p => !left (keyD p.1))

theorem filter_one : ∀ {L : St}, (L.map Prod.fst).Nodup → ∀ {p : Nat × List Nat}, p ∈ L → ∀ q : Nat × List Nat → Bool, q p = false → (L.filter (fun x => q x || x.1 == p.1)).Perm (L.filter q ++ [p])
  | x :: L, hn, p, hp, q, hq => by
    rw [List.map_cons, List.nodup_cons] at hn
    by_cases e : x.1 = p.1
    · have hx : x = p := by
        rcases List.mem_cons.1 hp with h | h
        · exact h.symm
        · exact absurd (List.mem_map.2 ⟨p, h, e.symm⟩) hn.1
      subst hx
      have h2 : L.filter (fun y => q y || y.1 == x.1) = L.filter q := by
        refine List.filter_congr (fun y hy => ?_)
        have : (y.1 == x.1) = false := by
          rw [beq_eq_false_iff_ne]
          intro e2
          exact hn.1 (List.mem_map.2 ⟨y, hy, e2⟩)
        rw [this, Bool.or_false]
      rw [List.filter_cons, List.filter_cons, hq, h2]
      simp
      exact (List.perm_append_singleton _ _).symm
    · have hp' : p ∈ L := by
        rcases List.mem_cons.1 hp with h | h
        · exact absurd (by rw [h]) e
        · exact h
      have ih := filter_one hn.2 hp' q hq
      have e2 : (x.1 == p.1) = false := by rw [beq_eq_false_iff_ne]; exact e
      rw [List.filter_cons, List.filter_cons, e2, Bool.or_false]
      cases q x
      · simpa using ih
      · simpa using ih

theorem doneL_start {D : DataW Unit} {L : St} (h : MapIs D L) : doneL L (Maps.has D) = [] := by
  unfold doneL
  rw [List.filter_eq_nil_iff]
  intro p hp
  have : hasK L p.1 = true := (hasK_iff _ _).2 (List.mem_map.2 ⟨p, hp, rfl⟩)
  rw [h.has, this]; simp
theorem doneL_end {L : St} {left : Lit → Bool} (h : ∀ kl, left kl = false) : doneL L left = L := by
  unfold doneL
  rw [List.filter_eq_self]
  intro p _; rw [h]; rfl
theorem doneL_step {L : St} (hn : (L.map Prod.fst).Nodup) {left : Lit → Bool} {p : Nat × List Nat} (hp : p ∈ L) (hl : left (keyD p.1) = true) :
    (doneL L (fun z => left z && !z.sameKey (keyD p.1))).Perm (doneL L left ++ [p]) := by
  have := filter_one hn hp (fun x => !left (keyD x.1)) (by rw [hl]; rfl)
  unfold doneL
  have e : L.filter (fun x => !(left (keyD x.1) && !(keyD x.1).sameKey (keyD p.1))) = L.filter (fun x => !left (keyD x.1) || x.1 == p.1) := by
    refine List.filter_congr (fun x _ => ?_)
    have : (keyD x.1).sameKey (keyD p.1) = (x.1 == p.1) := by
      unfold keyD Lit.sameKey
      rw [Bool.eq_iff_iff]; simp; omega
    rw [this, Bool.not_and, Bool.not_not]
  rw [e]
  exact this
theorem cnt_step {L : St} (hn : (L.map Prod.fst).Nodup) {left : Lit → Bool} {p : Nat × List Nat} (hp : p ∈ L) (hl : left (keyD p.1) = true) :
    cntL (lensL (doneL L (fun z => left z && !z.sameKey (keyD p.1)))) = cntL (lensL (doneL L left) ++ [p.2.length]) := by
  have := (doneL_step hn hp hl).map (fun p => p.2.length)
  rw [List.map_append] at this
  exact cntL_perm this

theorem map_entry {D : DataW Unit} {L : St} (h : MapIs D L) {x : Int} {c : ByteArray} (hx : Maps.has D (.int .i64 x) = true) (hat : ∀ zd, D.atKey (.int .i64 x) zd = .lit (.string c.data.toList)) : ∃ p ∈ L, x = (p.1 : Int) ∧ c = strOf p.2 := by
  obtain ⟨t, rfl⟩ := Int.eq_ofNat_of_zero_le (h.only x hx)
  have hk : hasK L t = true := (h.has t).symm.trans hx
  obtain ⟨p, hp, rfl⟩ := List.mem_map.1 ((hasK_iff _ _).1 hk)
  refine ⟨p, hp, rfl, ?_⟩
  have e1 := h.at' p hp (.lit (.int .i64 0))
  have e2 := hat (.lit (.int .i64 0))
  rw [e1] at e2
  unfold elemS at e2
  simp only [DataW.lit.injEq, Lit.string.injEq] at e2
  exact strOf_inj_data e2.symm

/-- A row of counts of its own, as a slice. -/
theorem own_slice {w : World} {lo : Nat} {v : Value} {m : Nat} {xs : List Value} (h : w.ownsRow lo 3 1 v m xs) : ∃ ad cap, v = .slice ad m cap := by
  obtain ⟨_, ⟨rfl, rfl⟩ | ⟨g, cap, cur, hv, _⟩⟩ := h
  · exact ⟨none, 0, rfl⟩
  · exact ⟨_, cap, hv⟩

theorem set_grown (W : World) (r i : Nat) (u : Value) : W.grownBy (W.setCell ⟨r, i, none⟩ u) (some r) :=
  ⟨rfl, rfl, rfl, by simp [World.setCell], fun k _ hne => Below.heap_setCell W ⟨r, i, none⟩ u k (fun e => hne (by rw [e]))⟩

/-- How the loop over the map stands: the loop itself, and the row of counts. -/
structure FarSt (nn : Nat) (w wr : World) (B r : Nat) (D : DataW Unit) (left : Lit → Bool) (cnt : Nat) (v : Value) (xs : List Nat) : Prop where
  rg : wr.ranges (H := Unit) Try.prog 3 (plainElem Try.prog 9) B r nn D left cnt
  row : wr.ownsRow (r + 1) 3 1 v xs.length (ints xs)
  below : Below w.heap.size w wr
  hB : w.heap.size ≤ r
  Br : B < r

theorem FarSt.turn {nn : Nat} {w wr w' : World} {B r : Nat} {D : DataW Unit} {left left' : Lit → Bool} {cnt cnt' : Nat} {v : Value} {xs : List Nat} (h : FarSt nn w wr B r D left cnt v xs)
    (hr : w'.ranges (H := Unit) Try.prog 3 (plainElem Try.prog 9) B r nn D left' cnt') (hg : wr.grownBy w' (some r)) : FarSt nn w w' B r D left' cnt' v xs :=
  ⟨hr, h.row.kept hg (by
    cases hv : v.ownBlock with
    | none => left; rfl
    | some k => right; intro e; have := (h.row.lt k hv).1; have := Option.some.inj e; omega), h.below.grown hg h.below.size (fun j hj => by cases hj; exact h.hB), h.hB, h.Br⟩

theorem FarSt.grow {nn : Nat} {w wr w' : World} {B r : Nat} {D : DataW Unit} {left : Lit → Bool} {cnt : Nat} {v v' : Value} {xs ys : List Nat} (h : FarSt nn w wr B r D left cnt v xs) (o : Obj)
    (hown : w'.ownsRow (r + 1) 3 1 v' ys.length (ints ys)) (hg : (wr.alloc o).grownBy w' v.ownBlock) : FarSt nn w w' B r D left cnt v' ys := by
  have hlt : ∀ k, v.ownBlock = some k → r + 1 ≤ k := fun k e => (h.row.lt k e).1
  have hBr := h.Br
  refine ⟨(h.rg.alloc o).kept hg (fun e => by have := hlt _ e.symm; omega) (fun e => by have := hlt _ e.symm; omega), hown, ?_, h.hB, h.Br⟩
  exact (h.below.alloc h.below.size o).grown hg (by have := h.below.size; simp; omega) (fun j hj => by have := hlt j hj; have := h.hB; omega)

theorem FarSt.store {nn : Nat} {w wr : World} {B r : Nat} {D : DataW Unit} {left : Lit → Bool} {cnt g cap : Nat} {xs : List Nat} (h : FarSt nn w wr B r D left cnt (.slice (some ⟨g, 0, none⟩) xs.length cap) xs) (i u : Nat) :
    FarSt nn w (wr.setCell ⟨g, i, none⟩ (.int .i64 u)) B r D left cnt (.slice (some ⟨g, 0, none⟩) (xs.set i u).length cap) (xs.set i u) := by
  have hlt : r + 1 ≤ g := (h.row.lt g rfl).1
  have hBr := h.Br
  have hg := set_grown wr g i (.int .i64 u)
  refine ⟨h.rg.kept hg (fun e => by have := Option.some.inj e; omega) (fun e => by have := Option.some.inj e; omega), ?_, h.below.grown hg h.below.size (fun j hj => by cases hj; have := h.hB; omega), h.hB, h.Br⟩
  rw [List.length_set, ← ints_set]
  exact (h.row.stored i _).1

theorem cntL_length (ls : List Nat) : (cntL ls).length = topL ls := cntU_length _ _
theorem lens_small {L : St} {n : Nat} (h : ∀ p ∈ L, p.2.length < 2 * n) (left : Lit → Bool) : topL (lensL (doneL L left)) ≤ 2 * n := by
  refine topL_le (fun l hl => ?_)
  obtain ⟨p, hp, rfl⟩ := List.mem_map.1 hl
  exact h p (List.mem_filter.1 hp).1

set_option maxHeartbeats 4000000 in
theorem Far_ok (n a b t : Nat) (hk : KOk n a b) (ht : t < 2 * n) (w : World) :
    Calls Try.prog 25 #[kv n a b, .int .i64 t] w fun e w' => ∃ v lo, e = .returned (.tuple #[v, .int .i64 0]) ∧ w'.ownsRow lo 3 1 v (farL n a b).length (ints (farL n a b)) ∧ Below w.heap.size w w' := by
  have h16 := hk.h16
  obtain ⟨i0, hi, hz0, hz1, hz2⟩ := info_parts info_int
  have HV := Lib.hid (valid1 n a b t true (by rw [kindB_of_nat hk, triB_nat ht]; rfl) (w.heap.size + 1) 1 (laid1 w n a b t) (by simp))
  have HA := Lib.hid (below_laid1 w n a b t)
  have HWk := Lib.hid (walks_lpr n a b t hk ht)
  have HFr := Lib.hid (far_from hk ht)
  have HI := Lib.hid (bfs_inv hk ht lprL).1
  have HLen : Hid (∀ p ∈ bfsA n a b t, p.2.length < 2 * n) := Lib.hid (fun p hp => by
    obtain ⟨j, hj⟩ := List.getElem?_of_mem hp
    have h1 := HI.out.len j p hj
    have h2 : j < (bfs n a b t lprL).length := (List.getElem?_eq_some_iff.1 hj).1
    have h3 := HI.out.size
    omega)
  have HSz : Hid ((bfsA n a b t).length ≤ 2 * n) := Lib.hid HI.out.size
  have HNd : Hid (((bfsA n a b t).map Prod.fst).Nodup) := Lib.hid HI.out.nodup
  clear HI
  generalize bfsA n a b t = L at HWk HFr HLen HSz HNd
  have k0 : (laid1 w n a b t).cell? ⟨w.heap.size, 0, none⟩ = some (.int .i64 n) := by simp
  have k1 : (laid1 w n a b t).cell? ⟨w.heap.size, 1, none⟩ = some (.int .i64 a) := by simp
  have k2 : (laid1 w n a b t).cell? ⟨w.heap.size, 2, none⟩ = some (.int .i64 b) := by simp
  go_enter Try.func25, Try.ntmps25
  go_wp2_with fail
  refine HV.out.mono ?_
  rintro e w1 ⟨rfl, b1⟩
  have k0 := cell_later b1 k0
  have k1 := cell_later b1 k1
  have k2 := cell_later b1 k2
  have HA1 := Lib.hid (below_nx HA.out b1)
  go_wp2_with fail
  refine (HWk.out _).mono ?_
  rintro e w2 ⟨B, rfl, hB, ⟨nn, D, hnn, hown, hmi⟩, b2⟩
  have HA2 := Lib.hid (below_nx HA1.out b2)
  have HMi := Lib.hid hmi
  have hBl := hown.lt
  clear b1 b2 hnn hmi
  go_wp2_with (first | (at_range; refine wpList_range_own _ rfl _ 80 rfl 3 9 lawK Try.underlying80 (plainElem Try.prog 9) B nn D rfl hown ?_; intro w3 hrg0 hg0 hs0) | fail)
  go_frame
  obtain ⟨r, hr⟩ : ∃ r, w2.heap.size = r := ⟨_, rfl⟩
  have hS0 : FarSt nn w w3 B r D (Maps.has D) (Maps.size D) (.slice none 0 0) (cntL (lensL (doneL L (Maps.has D)))) := by
    rw [doneL_start HMi.out]
    refine ⟨by rw [← hr]; exact hrg0, World.ownsRow_nil _ _ _ _, HA2.out.grown hg0 HA2.out.size (fun j hj => by cases hj), by rw [← hr]; exact HA2.out.size, by omega⟩
  have HS0 := Lib.hid hS0
  have HRr := Lib.hid hr
  rw [hr]
  clear hS0 hr hg0 hrg0 hs0 k0 k1 k2 hown hBl
  go_loopw [6] (fun v wr => ∃ left cnt, (∀ kl, left kl = true → Maps.has D kl = true) ∧ FarSt nn w wr B r D left cnt v (cntL (lensL (doneL L left)))) (fun _ wr => wr.rangeLeft B r)
  case atStart => exact ⟨_, _, fun _ h => h, HS0.out⟩
  case round =>
    obtain ⟨left, cnt, hlf, hst⟩ := hrel
    have hrg := hst.rg
    have HLf := Lib.hid hlf
    have HSt := Lib.hid hst
    clear hlf hst
    go_wp2_with (first | (at_next; refine wpList_next_ranges_is _ rfl _ rfl 3 9 .i64 lawK Try.underlying3 Try.underlying9 B r nn _ _ _ rfl hrg ?_ ?_) | fail)
    · intro hc0 hl0
      have he := HSt.out.row
      rw [doneL_end hl0, HFr.out] at he
      have HO := Lib.hid he
      clear he hl0 hc0
      go_wp2
      go_ret2
      exact ⟨_, _, rfl, HO.out, HSt.out.below⟩
    · intro x c w1 cnt1 hwx hwc hlx hat hrg1 hlt hg1 hs1 hen
      obtain ⟨p, hp, rfl, rfl⟩ := map_entry HMi.out (HLf.out _ hlx) hat
      have HSt1 := Lib.hid (HSt.out.turn hrg1 hg1)
      have hcs := cnt_step HNd.out hp hlx
      have hle : (strOf p.2).size = p.2.length := strOf_size _
      have hpl := HLen.out p hp
      have hts := lens_small HLen.out left
      have hct : (lensL (doneL L left)).length ≤ 2 * n := by
        unfold lensL doneL
        rw [List.length_map]
        exact Nat.le_trans (List.length_filter_le _ _) HSz.out
      have hm0 : cnt1 < cnt := hlt
      have hl1 := hrg1.left_eq
      have hl0 := HSt.out.rg.left_eq
      rw [show keyD p.1 = Lit.int .i64 (p.1 : Int) from rfl] at hcs
      generalize hle1 : (fun z : Lit => left z && !z.sameKey (.int .i64 (p.1 : Int))) = left1 at HSt1 hcs hl1
      have HLf1 : Hid (∀ kl, left1 kl = true → Maps.has D kl = true) := Lib.hid (fun kl h => HLf.out kl (by rw [← hle1, Bool.and_eq_true] at h; exact h.1))
      have HC := Lib.hid hcs
      have HM0 := Lib.hid (show cnt1 < wr.rangeLeft B r by rw [hl0]; exact hm0)
      clear hle1 hp hlx hat hrg1 hlt hg1 hs1 hcs hl1 hl0 hrg HSt HLf
      unfold cntL at HSt1
      have hst0 := HSt1.out
      generalize hds : lensL (doneL L left) = ds at *
      generalize (strOf p.2) = sp at *
      generalize hpp : p.2.length = l at *
      clear hds hpp
      have HDs := Lib.hid hct
      have HTs := Lib.hid hts
      clear hst0 hct hts
      go_wp2_with fail
      go_loopw [6] (fun v wq => ∃ m ad cap, v = .slice ad m cap ∧ topL ds ≤ m ∧ m ≤ max (topL ds) (l + 1) ∧ FarSt nn w wq B r D left1 cnt1 v (cntU m ds)) (fun v _ => l + 1 - lenV v)
      case atStart =>
        obtain ⟨ad, cap, e⟩ := own_slice HSt1.out.row
        rw [cntU_length] at e
        exact ⟨_, ad, cap, e, Nat.le_refl _, by omega, HSt1.out⟩
      case round =>
        obtain ⟨m, ad, cap, rfl, hm1, hm2, hst⟩ := hrel
        have HSt := Lib.hid hst
        have hml2 : m ≤ 2 * n := by have := HTs.out; omega
        clear hst
        by_cases hml : m ≤ l
        · have HO := Lib.hid HSt.out.row
          have hlen := cntU_length m ds
          have hrs : r + 1 ≤ wr.heap.size := HSt.out.rg.lt
          have HP := Lib.hid (cntU_pad hm1)
          generalize cntU m ds = xs at *
          go_wp2_with (at_builtin; refine wpList_append_own _ rfl _ _ 40 rfl (r + 1) 3 i0 (.int .i64 0) 1 8 Try.underlying40 hi hz0 hz1 hz2 rfl (by decide) _ _ _ rfl (HO.out.alloc _) ⟨wr.heap.size, 0, none⟩ 1 1 [.int .i64 0] rfl rfl (cell_one_new _ _ _) (by simp [Value.oneCell']) (by unfold maxLen; omega) (by omega) (by simp; omega) ?_; intro v' w4 hown1 hgrow1 hnil1)
          go_roundw
          case rel =>
            obtain ⟨ad', cap', e⟩ := own_slice hown1
            refine ⟨m + 1, ad', cap', by rw [e, hlen], by omega, by omega, ?_⟩
            refine HSt.out.grow _ ?_ hgrow1
            rw [HP.out, List.length_append]
            unfold ints at hown1 ⊢
            rw [List.map_append]
            exact hown1
          case measure =>
            obtain ⟨ad', cap', e⟩ := own_slice hown1
            rw [e, hlen]
            show l + 1 - (m + 1) < l + 1 - m
            omega
        · have hmx : m = max (topL ds) (l + 1) := by omega
          obtain ⟨_, ⟨h1, h2⟩ | ⟨g, cap2, cur, hv, _⟩⟩ := HSt.out.row
          · rw [cntU_length] at h2; omega
          · simp only [Value.slice.injEq] at hv
            obtain ⟨rfl, -, rfl⟩ := hv
            have hst := HSt.out
            have hlm : l < m := by omega
            have hrow := hst.row
            have hlen := cntU_length m ds
            rw [hlen] at hrow
            have hcl := (hrow.cellAt l (by omega)).trans (ints_at (xs := cntU m ds) (by rw [hlen]; exact hlm))
            have hfr := hrow.frozenAt l
            rw [cntU_get ds hlm, Option.getD_some] at hcl
            have hst' : FarSt nn w wr B r D left1 cnt1 (.slice (some ⟨g, 0, none⟩) (cntU m ds).length cap) (cntU m ds) := by rw [hlen]; exact hst
            have hS2 := hst'.store l (ds.count l + 1)
            rw [cntU_set ds hlm] at hS2
            have hct : ds.count l ≤ 2 * n := Nat.le_trans List.count_le_length HDs.out
            have HS2 := Lib.hid hS2
            have HE := Lib.hid (show cntU m (ds ++ [l]) = cntL (lensL (doneL L left1)) by rw [HC.out]; unfold cntL; rw [topL_snoc, ← hmx])
            generalize ds.count l = cc at hcl hct HS2
            have hgl := (hst.row.lt g rfl).2
            have HM1 := Lib.hid hst.rg.left_eq
            clear hst hrow hst' hS2
            go_wp2
            go_roundw
            case rel =>
              refine ⟨left1, cnt1, HLf1.out, ?_⟩
              rw [← HE.out]
              have h3 := HS2.out
              rw [cntU_length] at h3
              exact h3
            case measure => exact Nat.lt_of_le_of_lt (Nat.le_of_eq HS2.out.rg.left_eq) HM0.out
end Go.Proofs.Ytibkhjbcagihbaa

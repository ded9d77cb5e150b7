/-
  The statement on sizes and ways.
-/
import Derived.Test.YtibkhjbcagihbaaTrPairsLaw
import Derived.Test.YtibkhjbcagihbaaTrLeast
namespace Go.Proofs.Ytibkhjbcagihbaa
open Go.ChangeShapes Go.WideShapes Go.ChangeAt Go.RowKit Go.Shelf
set_option maxRecDepth 100000

theorem fine2 (n a b t u : Int) (v : Bool) (h : (kindB n a b && (triB n t && triB n u)) = v) (bk cap : Nat) (w : World) (hc : w.cell? ⟨bk, 0, none⟩ = some (.int .i64 t)) (hd : w.cell? ⟨bk, 1, none⟩ = some (.int .i64 u)) :
    Calls Try.prog 18 #[kv n a b, .slice (some ⟨bk, 0, none⟩) 2 cap] w fun e w' => e = .returned (.bool v) ∧ Below w.heap.size w w' := by
  refine (fine_any n a b [t, u] bk cap w (by simp) (fun i hi => ?_)).mono ?_
  · have : i = 0 ∨ i = 1 := by simp at hi; omega
    rcases this with rfl | rfl
    · exact hc
    · exact hd
  · rintro e w' ⟨rfl, hb⟩
    exact ⟨ret_bool (by rw [← h]; simp), hb⟩

theorem plr_steps : stepsB ⟨#[80, 76, 82]⟩ = true := by decide +kernel
theorem bsN_plr : bsN ⟨#[80, 76, 82]⟩ = [80, 76, 82] := rfl

/-- Steps in another order lead to the same triads. -/
theorem size_same {n a b : Nat} (hk : KOk n a b) : (riseL n (bfs n a b 0 [80, 76, 82])).length = (bfsA n a b 0).length := by
  have hs : (0 : Nat) < 2 * n := by have := hk.pos; omega
  have h1 := (bfs_inv hk hs [80, 76, 82]).1
  have h2 := (bfs_inv hk hs lprL).1
  rw [rise_length h1]
  have e : ∀ t, hasK (bfs n a b 0 [80, 76, 82]) t = hasK (bfsA n a b 0) t := by
    intro t
    rw [Bool.eq_iff_iff]
    constructor
    · intro h
      obtain ⟨p, hp, rfl⟩ := List.mem_map.1 ((hasK_iff _ _).1 h)
      rw [← h1.walk p hp]
      refine bfs_reach hk hs lprL _ (fun c hc => ?_)
      have := h1.lets p hp c hc
      simp at this ⊢
      omega
    · intro h
      obtain ⟨p, hp, rfl⟩ := List.mem_map.1 ((hasK_iff _ _).1 h)
      rw [← h2.walk p hp]
      refine bfs_reach hk hs _ _ (fun c hc => ?_)
      have := h2.lets p hp c hc
      simp at this ⊢
      omega
  have e2 : riseL n (bfs n a b 0 [80, 76, 82]) = riseL n (bfsA n a b 0) := by
    unfold riseL; congr 1; funext t; exact e t
  have e3 := rise_length h1
  have e4 := rise_length h2
  have e5 : (bfs n a b 0 lprL).length = (bfsA n a b 0).length := rfl
  have e6 : riseL n (bfs n a b 0 lprL) = riseL n (bfsA n a b 0) := rfl
  rw [e6] at e4
  rw [← e3, e2, e4]; rfl

theorem way_walk {n a b t : Nat} (hk : KOk n a b) (ht : t < 2 * n) {u : Nat} {l : List Nat} (h : lookL (bfsA n a b t) u = some l) : walkN n a b t l = u ∧ walkB (strOf l) = true ∧ bsN (strOf l) = l ∧ (strOf l).size ≤ maxLen := by
  have hI := (bfs_inv hk ht lprL).1
  have hm := lookL_some h
  have h16 := hk.h16
  have hlets := hI.lets _ hm
  have hb : bsN (strOf l) = l := bsN_strOf l (fun c hc => by have := hlets c hc; simp at this; omega)
  obtain ⟨j, hj⟩ := List.getElem?_of_mem hm
  have hlen := hI.len j _ hj
  have hjl := (List.getElem?_eq_some_iff.1 hj).1
  have hsz := hI.size
  have hl : l.length ≤ 60 := by
    have : (bfsA n a b t).length = (bfs n a b t lprL).length := rfl
    have h9 : l.length ≤ j := hlen
    omega
  refine ⟨hI.walk _ hm, ?_, hb, by rw [strOf_size]; unfold maxLen; omega⟩
  unfold walkB
  rw [hb, strOf_size, decide_eq_true hl, Bool.true_and, List.all_eq_true]
  intro c hc
  have := hlets c hc
  simp at this
  rw [isLetN_iff]; omega

theorem none_less {n a b t u : Nat} (hk : KOk n a b) (ht : t < 2 * n) (hu : u < 2 * n) (h : lookL (bfsA n a b t) u = none) : (bfsA n a b 0).length < 2 * n := by
  have hI := (bfs_inv hk ht lprL).1
  have hn : hasK (bfsA n a b t) u = false := by rw [← lookL_isSome, h]; rfl
  have h1 : (u :: (bfsA n a b t).map Prod.fst).length ≤ 2 * n := nodup_le (2 * n) _ (by
    rw [List.nodup_cons]
    refine ⟨fun hm => ?_, hI.nodup⟩
    rw [(hasK_iff _ _).2 hm] at hn; cases hn) (fun x hx => by
    rcases List.mem_cons.1 hx with rfl | hx
    · exact hu
    · obtain ⟨p, hp, rfl⟩ := List.mem_map.1 hx
      exact hI.lt p hp)
  rw [List.length_cons, List.length_map] at h1
  have h2 := bfs_length hk ht lprL
  have h3 : (bfsA n a b t).length = (bfs n a b t lprL).length := rfl
  have h4 : (bfsA n a b 0).length = (bfs n a b 0 lprL).length := rfl
  omega

theorem toList_loop_eq (s : ByteArray) : ∀ (m i : Nat) (r : List UInt8), s.size - i = m → i ≤ s.size → ByteArray.toList.loop s i r = r.reverse ++ s.data.toList.drop i := by
  intro m
  induction m with
  | zero =>
    intro i r h hi
    have e : s.data.toList.drop i = [] := List.drop_of_length_le (by rw [Array.length_toList]; have : s.data.size = s.size := rfl; omega)
    rw [ByteArray.toList.loop, if_neg (by omega), e, List.append_nil]
  | succ m ih =>
    intro i r h hi
    have hlt : i < s.size := by omega
    have hlt' : i < s.data.toList.length := by rw [Array.length_toList]; exact hlt
    rw [ByteArray.toList.loop, if_pos hlt, ih _ _ (by omega) (by omega), List.reverse_cons, List.append_assoc, List.drop_eq_getElem_cons hlt']
    have : s.get! i = s.data.toList[i] := by
      rw [Array.getElem_toList]
      show s.data[i]! = s.data[i]
      exact getElem!_pos s.data i hlt
    rw [this]; rfl
theorem toList_eq (s : ByteArray) : s.toList = s.data.toList := by
  unfold ByteArray.toList
  rw [toList_loop_eq s s.size 0 [] (by omega) (by omega)]
  rfl

theorem blt_false {x y : Nat} (h : ¬ x < y) : Nat.blt x y = false := by rw [Bool.eq_false_iff, ne_eq, Nat.blt_eq]; exact h

theorem bytes_le : ∀ x y : List UInt8, (Op.bytesLess x y || x == y) = leW1 (x.map UInt8.toNat) (y.map UInt8.toNat)
  | [], [] => rfl
  | [], _ :: _ => rfl
  | _ :: _, [] => rfl
  | a :: x, b :: y => by
    have ih := bytes_le x y
    simp only [Op.bytesLess, List.map_cons, leW1]
    rw [← ih]
    rcases Nat.lt_trichotomy a.toNat b.toNat with h | h | h
    · have h1 : decide (a < b) = true := decide_eq_true (UInt8.lt_iff_toNat_lt.2 h)
      have h2 : Nat.blt a.toNat b.toNat = true := by simp [Nat.blt]; omega
      rw [h1, h2]; rfl
    · have e : a = b := UInt8.toNat_inj.1 h
      subst e
      have h1 : decide (a < a) = false := decide_eq_false (fun h => by have := UInt8.lt_iff_toNat_lt.1 h; omega)
      have h2 : Nat.blt a.toNat a.toNat = false := blt_false (by omega)
      have h3 : Nat.beq a.toNat a.toNat = true := by simp
      rw [h1, h2, h3]
      simp
    · have h1 : decide (a < b) = false := decide_eq_false (fun h' => by have := UInt8.lt_iff_toNat_lt.1 h'; omega)
      have h2 : Nat.blt a.toNat b.toNat = false := blt_false (by omega)
      have hne : a ≠ b := fun e => by subst e; omega
      have h3 : Nat.beq a.toNat b.toNat = false := by
        cases hb : Nat.beq a.toNat b.toNat
        · rfl
        · have := Nat.eq_of_beq_eq_true hb; omega
      have h4 : (a == b) = false := by simpa using hne
      rw [h1, h2, h3, h4]
      simp [hne]

theorem str_le (s u : ByteArray) : (Op.bytesLess s.toList u.toList || s.toList == u.toList) = leW1 (bsN s) (bsN u) := by
  rw [toList_eq, toList_eq, bytes_le]; rfl

set_option maxHeartbeats 1000000 in
theorem TriadsSizes_walk (n a b t u : Int) (s : ByteArray) (_ : (Lit.int .i64 n).wf = true) (_ : (Lit.int .i64 a).wf = true) (_ : (Lit.int .i64 b).wf = true) (_ : (Lit.int .i64 t).wf = true) (_ : (Lit.int .i64 u).wf = true) (hs : s.size ≤ maxLen) (w : World) :
    Calls Try.prog 11 #[kv n a b, .int .i64 t, .int .i64 u, .string s] w fun e w' => e = .returned (.bool true) ∧ Below w.heap.size w w' := by
  have HO := Lib.hid (Of_any n a b)
  have HAw := Lib.hid awake_any
  have HT := Lib.hid (text_any s)
  obtain ⟨W0, hW0⟩ : ∃ W0, w.alloc (rcells n a b) = W0 := ⟨_, rfl⟩
  have b0 : Below w.heap.size w W0 := by rw [← hW0]; exact (Below.refl _ w).alloc (Nat.le_refl _) _
  have k0 : W0.cell? ⟨w.heap.size, 0, none⟩ = some (.int .i64 n) := by rw [← hW0]; simp
  have k1 : W0.cell? ⟨w.heap.size, 1, none⟩ = some (.int .i64 a) := by rw [← hW0]; simp
  have k2 : W0.cell? ⟨w.heap.size, 2, none⟩ = some (.int .i64 b) := by rw [← hW0]; simp
  have hW := Lib.hid hW0
  clear hW0
  cases hb : kindB n a b
  · have HS := Lib.hid (Size_bad n a b hb)
    clear hb
    go_enter Try.func11, Try.ntmps11
    go_wp2_with fail
    rw [hW.out]
    refine (HO.out _).mono ?_
    rintro e w1 ⟨rfl, b1⟩
    have c1 := below_nx b0 b1
    go_wp2_with fail
    refine (HS.out _).mono ?_
    rintro e w2 ⟨rfl, b2⟩
    have c2 := below_nx c1 b2
    go_wp2_with fail
    refine (HAw.out _).mono ?_
    rintro e w5 ⟨rfl, b5⟩
    go_wp2
    go_ret
    exact ⟨rfl, below_nx c2 b5⟩
  · have hb' := hb
    obtain ⟨n, a, b, rfl, rfl, rfl, hk⟩ := kindB_nat hb'
    have HS := Lib.hid (Size_ok n a b hk)
    cases hf : triB n t && triB n u
    · have HF := Lib.hid (fine2 n a b t u false (by rw [hb, hf]; rfl))
      clear hb hb' hf
      go_enter Try.func11, Try.ntmps11
      go_wp2_with fail
      rw [hW.out]
      refine (HO.out _).mono ?_
      rintro e w1 ⟨rfl, b1⟩
      have c1 := below_nx b0 b1
      have k0 := cell_later b1 k0
      have k1 := cell_later b1 k1
      have k2 := cell_later b1 k2
      go_wp2_with fail
      refine (HS.out _).mono ?_
      rintro e w2 ⟨rfl, b2⟩
      have c2 := below_nx c1 b2
      have k0 := cell_later b2 k0
      have k1 := cell_later b2 k1
      have k2 := cell_later b2 k2
      have HFc := Lib.hid (HF.out w2.heap.size 2 (w2.alloc (.cells #[.int .i64 t, .int .i64 u] 3)) (by simp) (by simp))
      have c3 := c2.alloc c2.size (.cells #[.int .i64 t, .int .i64 u] 3)
      clear HF
      go_wp2_with fail
      refine HFc.out.mono ?_
      rintro e w4 ⟨rfl, b4⟩
      have c4 := below_nx c3 b4
      go_wp2_with fail
      refine (HAw.out _).mono ?_
      rintro e w5 ⟨rfl, b5⟩
      go_wp2
      go_ret
      exact ⟨rfl, below_nx c4 b5⟩
    · have hf' := hf
      rw [Bool.and_eq_true] at hf'
      have ht : 0 ≤ t ∧ t < 2 * n := by have := hf'.1; unfold triB at this; exact of_decide_eq_true this
      have hu : 0 ≤ u ∧ u < 2 * n := by have := hf'.2; unfold triB at this; exact of_decide_eq_true this
      obtain ⟨t, rfl⟩ := Int.eq_ofNat_of_zero_le ht.1
      obtain ⟨u, rfl⟩ := Int.eq_ofNat_of_zero_le hu.1
      have ht : t < 2 * n := by omega
      have hu : u < 2 * n := by omega
      have h16 := hk.h16
      have HF := Lib.hid (fine2 n a b t u true (by rw [hb, hf]; rfl))
      have HRo := Lib.hid (Round_ok n a b 0 hk (by have := hk.pos; omega) ⟨#[80, 76, 82]⟩ (by unfold maxLen; decide) plr_steps)
      have hss := size_same hk
      rw [bsN_plr] at HRo
      obtain ⟨hdv, hge⟩ := orbit_divides hk (cs := lprL) (c := 76) (by simp)
      have hle : (bfsA n a b 0).length ≤ 2 * n := (bfs_inv hk (s := 0) (by have := hk.pos; omega) lprL).1.size
      have HWy := Lib.hid (Way_ok n a b t u hk ht hu)
      have HNone : Hid (lookL (bfsA n a b t) u = none → (bfsA n a b 0).length < 2 * n) := Lib.hid (fun h => none_less hk ht hu h)
      have HSome : Hid (∀ l, lookL (bfsA n a b t) u = some l → walkN n a b t l = u ∧ walkB (strOf l) = true ∧ bsN (strOf l) = l ∧ (strOf l).size ≤ maxLen) := Lib.hid (fun l h => way_walk hk ht h)
      have hge' : 1 ≤ (bfsA n a b 0).length := hge
      have hdv' : (2 * n) % (bfsA n a b 0).length = 0 := hdv
      generalize hxs : riseL n (bfs n a b 0 [80, 76, 82]) = xs at HRo hss
      generalize hN : (bfsA n a b 0).length = N at HS hss hle HNone hge' hdv'
      rw [hss] at HRo
      have HXs := Lib.hid hss
      have hmod : 2 * (n : Int) % (N : Int) = 0 := by
        have : ((2 * n % N : Nat) : Int) = 0 := by rw [hdv']; rfl
        simpa using this
      have hNnz : ((N : Int) == 0) = false := by rw [beq_eq_false_iff_ne]; omega
      have HLw : Hid (∀ l, lookL (bfsA n a b t) u = some l → ∀ m : List Nat, (∀ c ∈ m, c ∈ lprL) → walkN n a b t m = u → leW l m = true) := Lib.hid (fun l h m hm e => by
        obtain ⟨k, h1, h2⟩ := least_walk hk ht m hm
        rw [e, h] at h1
        cases h1; exact h2)
      clear hb hb' hf hf' hge hdv hxs hN hss hdv'
      have hmx : Try.prog.follows .mixedOrders = true := by kernel_rfl
      generalize hlk : lookL (bfsA n a b t) u = o at HWy HNone HSome HLw
      clear hlk
      go_enter Try.func11, Try.ntmps11
      go_wp2_with fail
      rw [hW.out]
      refine (HO.out _).mono ?_
      rintro e w1 ⟨rfl, b1⟩
      have c1 := below_nx b0 b1
      have k0 := cell_later b1 k0
      have k1 := cell_later b1 k1
      have k2 := cell_later b1 k2
      go_wp2_with fail
      refine (HS.out _).mono ?_
      rintro e w2 ⟨rfl, b2⟩
      have c2 := below_nx c1 b2
      have k0 := cell_later b2 k0
      have k1 := cell_later b2 k1
      have k2 := cell_later b2 k2
      have HFc := Lib.hid (HF.out w2.heap.size 2 (w2.alloc (.cells #[.int .i64 t, .int .i64 u] 3)) (by simp) (by simp))
      have c3 := c2.alloc c2.size (.cells #[.int .i64 t, .int .i64 u] 3)
      have b3 : Below w2.heap.size w2 (w2.alloc (.cells #[.int .i64 t, .int .i64 u] 3)) := (Below.refl _ w2).alloc (Nat.le_refl _) _
      have k0 := cell_later b3 k0
      have k1 := cell_later b3 k1
      have k2 := cell_later b3 k2
      clear HF b1 b2 b3 c1 c2 b0
      go_wp2_with fail
      refine HFc.out.mono ?_
      rintro e w4 ⟨rfl, b4⟩
      have c4 := below_nx c3 b4
      have k0 := cell_later b4 k0
      have k1 := cell_later b4 k1
      have k2 := cell_later b4 k2
      go_wp2_with fail
      refine (HO.out _).mono ?_
      rintro e w5 ⟨rfl, b5⟩
      have c5 := below_nx c4 b5
      have k0 := cell_later b5 k0
      have k1 := cell_later b5 k1
      have k2 := cell_later b5 k2
      go_wp2_with fail
      refine (HRo.out _).mono ?_
      rintro e w6 ⟨v, rfl, hown, b6⟩
      have c6 := below_nx c5 b6
      have k0 := cell_later b6 k0
      have k1 := cell_later b6 k1
      have k2 := cell_later b6 k2
      have hia : IntsAt w6 v xs := IntsAt.of_own (by rw [HXs.out]; exact hown)
      clear c3 c4 c5 b4 b5 b6 hown HFc
      rcases hia with ⟨rfl, hnil⟩ | ⟨g, cap, rfl, _⟩
      · rw [hnil] at HXs; have := HXs.out; simp at this; omega
      · rw [HXs.out]
        cases o with
        | none =>
          have hN := HNone.out rfl
          have HWy0 : Hid (∀ W, Calls Try.prog 24 #[kv n a b, .int .i64 t, .int .i64 u] W fun e w' => e = .returned (.tuple #[.string ⟨#[]⟩, .int .i64 4]) ∧ Below W.heap.size W w') := HWy
          clear HWy HSome HLw HNone
          go_wp2_with fail
          refine (HO.out _).mono ?_
          rintro e w7 ⟨rfl, b7⟩
          have c7 := below_nx c6 b7
          have k0 := cell_later b7 k0
          have k1 := cell_later b7 k1
          have k2 := cell_later b7 k2
          go_wp2_with fail
          refine (HWy0.out _).mono ?_
          rintro e w8 ⟨rfl, b8⟩
          have c8 := below_nx c7 b8
          have k0 := cell_later b8 k0
          have k1 := cell_later b8 k1
          have k2 := cell_later b8 k2
          go_wp2_with fail
          refine (HAw.out _).mono ?_
          rintro e w9 ⟨rfl, b9⟩
          have c9 := below_nx c8 b9
          go_wp2
          go_ret
          exact ⟨rfl, c9⟩
        | some l =>
          obtain ⟨e1, e2, e3, e4⟩ := HSome.out l rfl
          have HWy0 : Hid (∀ W, Calls Try.prog 24 #[kv n a b, .int .i64 t, .int .i64 u] W fun e w' => e = .returned (.tuple #[.string (strOf l), .int .i64 0]) ∧ Below W.heap.size W w') := HWy
          have HW1 := Lib.hid (Walk_ok n a b t hk ht (strOf l) e4 e2)
          rw [e3, e1] at HW1
          have HL := Lib.hid (fun m hm e => HLw.out l rfl m hm e)
          have HE1 := Lib.hid e1
          have HE3 := Lib.hid e3
          have HE2 := Lib.hid e2
          have HE4 := Lib.hid e4
          have hsl := Lib.hid (strOf_size l)
          generalize hSL : strOf l = sl at *
          clear HWy HSome HLw HNone e1 e2 e3 e4 hSL
          cases hw : walkB s
          · have HW2 := Lib.hid (Walk_form n a b t (s.extract 0 (min s.size 70)) (text_size s hs) (by rw [kindB_of_nat hk, triB_nat ht]; rfl) ((text_walk s).1.trans hw))
            clear hw
            go_wp2_with fail
            refine (HO.out _).mono ?_
            rintro e w7 ⟨rfl, b7⟩
            have c7 := below_nx c6 b7
            have k0 := cell_later b7 k0
            have k1 := cell_later b7 k1
            have k2 := cell_later b7 k2
            go_wp2_with fail
            refine (HWy0.out _).mono ?_
            rintro e w8 ⟨rfl, b8⟩
            have c8 := below_nx c7 b8
            have k0 := cell_later b8 k0
            have k1 := cell_later b8 k1
            have k2 := cell_later b8 k2
            go_wp2_with fail
            refine (HO.out _).mono ?_
            rintro e w9 ⟨rfl, b9⟩
            have c9 := below_nx c8 b9
            have k0 := cell_later b9 k0
            have k1 := cell_later b9 k1
            have k2 := cell_later b9 k2
            go_wp2_with fail
            refine (HW1.out _).mono ?_
            rintro e w10 ⟨rfl, b10⟩
            have c10 := below_nx c9 b10
            have k0 := cell_later b10 k0
            have k1 := cell_later b10 k1
            have k2 := cell_later b10 k2
            go_wp2_with fail
            refine (HO.out _).mono ?_
            rintro e w11 ⟨rfl, b11⟩
            have c11 := below_nx c10 b11
            have k0 := cell_later b11 k0
            have k1 := cell_later b11 k1
            have k2 := cell_later b11 k2
            go_wp2_with fail
            refine (HT.out _).mono ?_
            rintro e w12 ⟨rfl, rfl⟩
            go_wp2_with fail
            refine (HW2.out _).mono ?_
            rintro e w13 ⟨rfl, b13⟩
            have c13 := below_nx c11 b13
            go_wp2_with fail
            refine (HAw.out _).mono ?_
            rintro e w14 ⟨rfl, b14⟩
            have c14 := below_nx c13 b14
            go_wp2
            go_ret
            exact ⟨rfl, c14⟩
          · have HW2 := Lib.hid (Walk_ok n a b t hk ht s hs hw)
            obtain ⟨hl1, hl2⟩ := walkB_let hw
            have hlp := let_lpr hl1
            rw [(text_walk s).2 hw] at HT
            have HAl := Lib.hid (Alike_ok n a b hk sl s HE4.out hs HE2.out hw)
            have hsame := sameW_at hk (bsN sl) (bsN s) ht
            rw [HE3.out, HE1.out] at hsame
            rw [HE3.out] at HAl
            have HLe := Lib.hid (HL.out (bsN s) hlp)
            have hbs := bsN_length s
            clear hw hl1 hlp HL
            by_cases hd : walkN n a b t (bsN s) = u
            · rw [hd] at HW2 hsame
              have hs1 := hsame.1 rfl
              rw [hs1] at HAl
              have hle := HLe.out hd
              rw [leW_iff, hbs] at hle
              have hstr := str_le sl s
              rw [HE3.out] at hstr
              have HC : Hid ((sl.size < s.size) ∨ (sl.size = s.size ∧ (Op.bytesLess sl.toList s.toList || sl.toList == s.toList) = true)) := Lib.hid (by
                rw [hsl.out, hstr]; exact hle)
              clear hd hsame hs1 hle hstr HLe hbs
              go_wp2_with fail
              refine (HO.out _).mono ?_
              rintro e w7 ⟨rfl, b7⟩
              have c7 := below_nx c6 b7
              have k0 := cell_later b7 k0
              have k1 := cell_later b7 k1
              have k2 := cell_later b7 k2
              go_wp2_with fail
              refine (HWy0.out _).mono ?_
              rintro e w8 ⟨rfl, b8⟩
              have c8 := below_nx c7 b8
              have k0 := cell_later b8 k0
              have k1 := cell_later b8 k1
              have k2 := cell_later b8 k2
              go_wp2_with fail
              refine (HO.out _).mono ?_
              rintro e w9 ⟨rfl, b9⟩
              have c9 := below_nx c8 b9
              have k0 := cell_later b9 k0
              have k1 := cell_later b9 k1
              have k2 := cell_later b9 k2
              go_wp2_with fail
              refine (HW1.out _).mono ?_
              rintro e w10 ⟨rfl, b10⟩
              have c10 := below_nx c9 b10
              have k0 := cell_later b10 k0
              have k1 := cell_later b10 k1
              have k2 := cell_later b10 k2
              go_wp2_with fail
              refine (HO.out _).mono ?_
              rintro e w11 ⟨rfl, b11⟩
              have c11 := below_nx c10 b11
              have k0 := cell_later b11 k0
              have k1 := cell_later b11 k1
              have k2 := cell_later b11 k2
              go_wp2_with fail
              refine (HT.out _).mono ?_
              rintro e w12 ⟨rfl, rfl⟩
              go_wp2_with fail
              refine (HW2.out _).mono ?_
              rintro e w13 ⟨rfl, b13⟩
              have c13 := below_nx c11 b13
              have k0 := cell_later b13 k0
              have k1 := cell_later b13 k1
              have k2 := cell_later b13 k2
              go_wp2_with fail
              refine (HO.out _).mono ?_
              rintro e w14 ⟨rfl, b14⟩
              have c14 := below_nx c13 b14
              have k0 := cell_later b14 k0
              have k1 := cell_later b14 k1
              have k2 := cell_later b14 k2
              go_wp2_with fail
              refine (HAl.out _).mono ?_
              rintro e w15 ⟨rfl, b15⟩
              have c15 := below_nx c14 b15
              rcases HC.out with hlt | ⟨heq, hstr⟩
              · have q1 : (sl.size : Int) ≤ s.size := by omega
                have q2 : (sl.size : Int) < s.size := by omega
                clear hlt
                go_wp2_with fail
                refine (HAw.out _).mono ?_
                rintro e w16 ⟨rfl, b16⟩
                have c16 := below_nx c15 b16
                go_wp2
                go_ret
                exact ⟨rfl, c16⟩
              · have q1 : (sl.size : Int) ≤ s.size := by omega
                have q2 : ¬ (sl.size : Int) < s.size := by omega
                clear heq
                go_wp2_with fail
                refine (HAw.out _).mono ?_
                rintro e w16 ⟨rfl, b16⟩
                have c16 := below_nx c15 b16
                go_wp2
                go_ret
                exact ⟨rfl, c16⟩
            · have q : ((walkN n a b t (bsN s) : Nat) : Int) ≠ (u : Int) := by omega
              have q2 : (((walkN n a b t (bsN s) : Nat) : Int) != (u : Int)) = true := by rw [bne_iff_ne]; exact q
              clear hd hsame HAl HLe hbs
              generalize walkN n a b t (bsN s) = d at HW2 q q2
              go_wp2_with fail
              refine (HO.out _).mono ?_
              rintro e w7 ⟨rfl, b7⟩
              have c7 := below_nx c6 b7
              have k0 := cell_later b7 k0
              have k1 := cell_later b7 k1
              have k2 := cell_later b7 k2
              go_wp2_with fail
              refine (HWy0.out _).mono ?_
              rintro e w8 ⟨rfl, b8⟩
              have c8 := below_nx c7 b8
              have k0 := cell_later b8 k0
              have k1 := cell_later b8 k1
              have k2 := cell_later b8 k2
              go_wp2_with fail
              refine (HO.out _).mono ?_
              rintro e w9 ⟨rfl, b9⟩
              have c9 := below_nx c8 b9
              have k0 := cell_later b9 k0
              have k1 := cell_later b9 k1
              have k2 := cell_later b9 k2
              go_wp2_with fail
              refine (HW1.out _).mono ?_
              rintro e w10 ⟨rfl, b10⟩
              have c10 := below_nx c9 b10
              have k0 := cell_later b10 k0
              have k1 := cell_later b10 k1
              have k2 := cell_later b10 k2
              go_wp2_with fail
              refine (HO.out _).mono ?_
              rintro e w11 ⟨rfl, b11⟩
              have c11 := below_nx c10 b11
              have k0 := cell_later b11 k0
              have k1 := cell_later b11 k1
              have k2 := cell_later b11 k2
              go_wp2_with fail
              refine (HT.out _).mono ?_
              rintro e w12 ⟨rfl, rfl⟩
              go_wp2_with fail
              refine (HW2.out _).mono ?_
              rintro e w13 ⟨rfl, b13⟩
              have c13 := below_nx c11 b13
              go_wp2_with fail
              refine (HAw.out _).mono ?_
              rintro e w14 ⟨rfl, b14⟩
              have c14 := below_nx c13 b14
              go_wp2
              go_ret
              exact ⟨rfl, c14⟩
end Go.Proofs.Ytibkhjbcagihbaa

/-
  Rows that are made of one part: the reference.
-/
import Derived.Test.YtdfagnjdconkcaaRoWay3
import Derived.Test.YtdfagnjdconkcaaRoEvery
import Derived.Test.YtdfagnjdconkcaaCalm
import Derived.Deep.Cut
import Derived.Deep.CutRange
namespace Go.Proofs.Ytdfagnjdconkcaa
open Go.ChangeShapes Go.WideShapes Go.ChangeAt Go.RowKit
set_option linter.unusedVariables false
set_option maxRecDepth 100000

/-- The piece from a place on. -/
def pcL (ys : List Nat) (d a : Nat) : List Nat := (ys.take (a + d)).drop a
def pcB (n : Nat) (ys : List Nat) (d a : Nat) : Bool := (wayT n (ys.take d) (pcL ys d a)).isSome
def anyT (n : Nat) (p bs : List Nat) (t : Nat) : Bool := (List.range t).any fun s => decide (formL n (s / n) (s % n) p = bs)
theorem anyT_zero (n : Nat) (p bs : List Nat) : anyT n p bs 0 = false := rfl
theorem anyT_succ (n : Nat) (p bs : List Nat) (t : Nat) : anyT n p bs (t + 1) = (anyT n p bs t || decide (formL n (t / n) (t % n) p = bs)) := by
  unfold anyT; rw [List.range_succ, List.any_append]; simp
theorem anyT_all (n : Nat) (p bs : List Nat) : anyT n p bs (4 * n) = (wayT n p bs).isSome := by
  unfold anyT wayT
  rw [Bool.eq_iff_iff, List.find?_isSome, List.any_eq_true]
def madeB (n : Nat) (ys : List Nat) (d : Nat) : Bool := (List.range (n / d)).all fun j => pcB n ys d (j * d)
theorem pcL_length {n d a : Nat} {ys : List Nat} (hl : ys.length = n) (h : a + d ≤ n) : (pcL ys d a).length = d := by
  unfold pcL; rw [List.length_drop, List.length_take, hl]; omega
theorem pcL_mem {d a : Nat} {ys : List Nat} {y : Nat} (h : y ∈ pcL ys d a) : y ∈ ys := List.mem_of_mem_take (List.mem_of_mem_drop h)

set_option maxHeartbeats 4000000 in
theorem RMade_any (n : Nat) (ys : List Nat) (hr : IsRow n ys) (d q : Nat) (hd : 2 ≤ d) (hq : n = q * d) (v : Value) (w : World) (h : IntsV w v (natI ys)) :
    Calls Try.prog 10 #[v, .int .i64 (d : Int)] w fun e w' => e = .returned (.bool (madeB n ys d)) ∧ Below w.heap.size w w' := by
  have hmx : Try.prog.follows .mixedOrders = true := by kernel_rfl
  have hlen := hr.len
  have hlo := hr.lo
  have hhi := hr.hi
  have hq0 : 0 < q := by rcases Nat.eq_zero_or_pos q with rfl | h; omega; exact h
  have hdn : d ≤ n := by rw [hq]; exact Nat.le_mul_of_pos_left d hq0
  have hqd : n / d = q := by rw [hq, Nat.mul_div_cancel _ (by omega)]
  have HStep := Lib.hid (fun j (hj : j < q) => show j * d + d ≤ n by rw [hq, ← Nat.succ_mul]; exact Nat.mul_le_mul_right d hj)
  have HSuc := Lib.hid (fun j => show (j + 1) * d = j * d + d from Nat.succ_mul j d)
  have HMade := Lib.hid (show madeB n ys d = (List.range q).all (fun j => pcB n ys d (j * d)) by unfold madeB; rw [hqd])
  have HPl := Lib.hid (show (ys.take d).length = d by rw [List.length_take, hlen]; omega)
  have HPlt := Lib.hid (fun y (hy : y ∈ ys.take d) => hr.lt y (List.mem_of_mem_take hy))
  have HFo := Lib.hid (fun kind hk (k : Int) u W hu => RForm_any n (ys.take d) hlo hhi HPlt.out (by rw [HPl.out]; omega) (by rw [HPl.out]; omega) kind hk k u W hu)
  have HSa := Lib.hid (fun a (ha : a + d ≤ n) kind k x y W hx hy => same_any (formL n kind k (ys.take d)) (pcL ys d a) (by rw [formL_length, HPl.out, pcL_length hlen ha]) (by rw [formL_length, HPl.out]; omega) (by rw [formL_length, HPl.out]; omega) (fun y hy => by have := formL_lt hr.pos kind k _ y hy; omega) (fun y hy => by have := hr.lt y (pcL_mem hy); omega) x y W hx hy)
  have HNm := Lib.hid (fun (u y : Nat) (hy : y < n) => show (u * n + y) / n = u ∧ (u * n + y) % n = y from ⟨congrArg Prod.fst (nmT_at (u := u) hy), congrArg Prod.snd (nmT_at (u := u) hy)⟩)
  have HSuc2 := Lib.hid (fun u => show (u + 1) * n = u * n + n from Nat.succ_mul u n)
  have H := Lib.hid h
  obtain ⟨ao, cap, hv, hcap, _⟩ := h
  rw [natI_length, hlen] at hv hcap
  subst hv
  have HUp := Lib.hid (fun W (hW : IntsV W (.slice ao n cap) (natI ys)) => show IntsV W (sliced ao 0 d cap 1) (natI (ys.take d)) by
    have := hW.upto d hdn
    rwa [show (natI ys).take d = natI (ys.take d) from by unfold natI; rw [List.map_take]] at this)
  have HPa := Lib.hid (fun W (hW : IntsV W (.slice ao n cap) (natI ys)) a (ha : a + d ≤ n) => show IntsV W (sliced ao a (a + d) cap 1) (natI (pcL ys d a)) by
    have := hW.part a (a + d) (by omega) (by rw [natI_length, hlen]; exact ha)
    rwa [show ((natI ys).take (a + d)).drop a = natI (pcL ys d a) from by unfold natI pcL; rw [List.map_drop, List.map_take]] at this)
  have hup := fun W => run_upto ao n cap (d : Int) (by omega) (by omega) W
  have HPart := Lib.hid (fun a (ha : a + d ≤ n) W => run_part ao n cap (a : Int) ((a : Int) + (d : Int)) (by omega) (by omega) (by omega) W)
  simp only [Int.toNat_natCast] at hup
  obtain ⟨vp, hvp⟩ : ∃ u, sliced ao 0 d cap 1 = u := ⟨_, rfl⟩
  rw [hvp] at HUp
  simp only [hvp] at hup
  rw [HMade.out]
  have HAll0 := Lib.hid (fun p bs => anyT_zero n p bs)
  have HAllS := Lib.hid (fun p bs t => anyT_succ n p bs t)
  have HAllA := Lib.hid (fun a => show anyT n (ys.take d) (pcL ys d a) (4 * n) = pcB n ys d a from anyT_all n _ _)
  have HQn := Lib.hid (show q * d = n from hq.symm)
  clear hr hvp hqd hq
  go_enter Try.func10, Try.ntmps10
  go_wp2_with fail
  go_loopw [6] (fun i wr => ∃ j : Nat, j ≤ q ∧ i = .int .i64 ((j * d : Nat) : Int) ∧ (∀ s, s < j → pcB n ys d (s * d) = true) ∧ Below w.heap.size w wr) (fun i _ => n - (intOf i).toNat)
  case atStart => exact ⟨0, Nat.zero_le _, by rw [Nat.zero_mul]; rfl, (fun s hs => by omega), Below.refl _ _⟩
  case round =>
    obtain ⟨j, hj, rfl, hall, hB⟩ := hrel
    have HA := Lib.hid hall
    have HB := Lib.hid hB
    clear hall hB
    by_cases hlt : j < q
    · have hst := HStep.out j hlt
      have HSucj := Lib.hid (HSuc.out j)
      obtain ⟨a, ha⟩ : ∃ a, j * d = a := ⟨_, rfl⟩
      rw [ha] at hst HSucj
      have HAe := Lib.hid ha
      have HSx := Lib.hid (fun kind k x y W hx hy => HSa.out a hst kind k x y W hx hy)
      have hpt := fun W => HPart.out a hst W
      have e2 : ((a : Int) + (d : Int)).toNat = a + d := by omega
      rw [e2] at hpt
      simp only [Int.toNat_natCast] at hpt
      have HPx := Lib.hid (fun W hW => HPa.out W hW a hst)
      obtain ⟨vb, hvb⟩ : ∃ u, sliced ao a (a + d) cap 1 = u := ⟨_, rfl⟩
      rw [hvb] at HPx
      simp only [hvb] at hpt
      have hwa : IntKind.i64.wrap ((a : Int) + (d : Int)) = (a : Int) + (d : Int) := IntWalk.i64_in _ (by omega)
      have HAa := Lib.hid (HAllA.out a)
      rw [ha]
      clear hvb e2 ha
      have HPc := Lib.hid (show pcB n ys d a = pcB n ys d (j * d) by rw [HAe.out])
      generalize pcL ys d a = bs at *
      generalize ys.take d = pp at *
      generalize pcB n ys d a = pb at *
      go_wp2_with fail
      rw [show decide (a < n) = true from decide_eq_true (by omega)]
      go_loopw [7, 18] (fun o k wr => ∃ u : Nat, u ≤ 4 ∧ k = .int .i64 (u : Int) ∧ o = .bool (anyT n pp bs (u * n)) ∧ Below w.heap.size w wr) (fun _ k _ => 4 - (intOf k).toNat)
      case atStart => exact ⟨0, by omega, rfl, by rw [Nat.zero_mul, HAll0.out], HB.out⟩
      case round =>
        obtain ⟨u, hu, rfl, rfl, hB⟩ := hrel
        have HB2 := Lib.hid hB
        clear hB
        by_cases hu4 : u < 4
        · go_wp2_with fail
          rw [show decide ((u : Int) < 4) = true from decide_eq_true (by omega)]
          go_loopw [7, 22] (fun o k wr => ∃ y : Nat, y ≤ n ∧ k = .int .i64 (y : Int) ∧ o = .bool (anyT n pp bs (u * n + y)) ∧ Below w.heap.size w wr) (fun _ k _ => n - (intOf k).toNat)
          case atStart => exact ⟨0, by omega, rfl, rfl, HB2.out⟩
          case round =>
            obtain ⟨y, hy, rfl, rfl, hB⟩ := hrel
            have HB3 := Lib.hid hB
            clear hB
            by_cases hyn : y < n
            · have HS := Lib.hid (HAllS.out pp bs (u * n + y))
              obtain ⟨m1, m2⟩ := HNm.out u y hyn
              rw [m1, m2] at HS
              have HFy := Lib.hid (fun W hW => HFo.out u hu4 (y : Int) vp W hW)
              have ey : ((y : Int) % (n : Int)).toNat = y := by rw [Int.emod_eq_of_lt (by omega) (by omega)]; simp
              rw [ey] at HFy
              clear m1 m2 ey
              cases hok : anyT n pp bs (u * n + y)
              · have HN := Lib.hid (show anyT n pp bs (u * n + (y + 1)) = decide (formL n u y pp = bs) by rw [← Nat.add_assoc, HS.out, hok, Bool.false_or])
                clear hok
                have HB0 := Lib.hid (Below.refl wr.heap.size wr)
                have HHr := Lib.hid (fun W (hW : Below wr.heap.size wr W) => H.out.later (below_nx HB3.out hW))
                obtain ⟨bq, hbq⟩ : ∃ b, decide (formL n u y pp = bs) = b := ⟨_, rfl⟩
                have HSy := Lib.hid (fun x z W hx hz => by have := HSx.out u y x z W hx hz; rw [hbq] at this; exact this)
                rw [hbq] at HN
                clear hbq
                go_upto_region 12 with fail
                go_region_held3 (fun w' => Below wr.heap.size wr w') (first | exact HB0.out.drew | assumption) ((first | (go_at_call 20; refine (HFy.out _ (HUp.out _ (HHr.out _ (by assumption)))).mono ?_; rintro e w1 ⟨v1, rfl, j1, b1⟩; have hB1 := below_nx (by assumption) b1) | (go_at_call 19; refine (HSy.out _ _ _ j1 (HPx.out _ (HHr.out _ hB1))).mono ?_; rintro e w2 ⟨rfl, rfl⟩)))
                have HB4 := Lib.hid (below_nx HB3.out hB1)
                clear j1 b1 hB1
                try dsimp only [Exit.inBlock, Exit.then]
                go_wp2
                go_roundw
                case rel => exact ⟨y + 1, by omega, by go_num, by rw [HN.out], HB4.out⟩
                case measure => simp only [intOf]; omega
              · have HN := Lib.hid (show anyT n pp bs (u * n + (y + 1)) = true by rw [← Nat.add_assoc, HS.out, hok, Bool.true_or])
                clear hok
                go_upto_region 12 with fail
                refine region_calm hmx (by kernel_rfl) ?_
                intro S hSn fw hS1 hS2
                repeat (go_big_quiet_step (fail))
                refine wpQuiet_nil ?_
                rintro _ ⟨z, rfl⟩
                have HB4 := Lib.hid (below_nx HB3.out (hS1 z))
                generalize fw z = w4 at *
                clear hS1 hS2
                try dsimp only [Exit.inBlock, Exit.then]
                go_wp2
                go_roundw
                case rel => exact ⟨y + 1, by omega, by go_num, by rw [HN.out], HB4.out⟩
                case measure => simp only [intOf]; omega
            · obtain rfl : y = n := by omega
              go_wp2
              go_roundw
              case rel => exact ⟨u + 1, by omega, by go_num, by rw [HSuc2.out], HB3.out⟩
              case measure => simp only [intOf]; omega
        · obtain rfl : u = 4 := by omega
          rw [HAa.out]
          cases hpb : pb
          · have HF := Lib.hid (show (List.range q).all (fun j => pcB n ys d (j * d)) = false by
              rw [List.all_eq_false]
              exact ⟨j, List.mem_range.2 hlt, by rw [← HPc.out, hpb]; simp⟩)
            clear hpb
            go_wp2
            go_ret
            exact ⟨ret_bool HF.out.symm, HB2.out⟩
          · have HA2 := Lib.hid (show ∀ s, s < j + 1 → pcB n ys d (s * d) = true from fun s hs => by
              by_cases e : s = j
              · rw [e, ← HPc.out, hpb]
              · exact HA.out s (by omega))
            clear hpb
            go_wp2
            go_roundw
            case rel => exact ⟨j + 1, by omega, by rw [HSucj.out]; go_num, HA2.out, HB2.out⟩
            case measure => simp only [intOf]; omega
    · obtain rfl : j = q := by omega
      rw [HQn.out]
      have HF := Lib.hid (show (List.range j).all (fun j => pcB n ys d (j * d)) = true by
        rw [List.all_eq_true]
        exact fun s hs => HA.out s (List.mem_range.1 hs))
      go_wp2
      go_ret
      exact ⟨ret_bool HF.out.symm, HB.out⟩
end Go.Proofs.Ytdfagnjdconkcaa

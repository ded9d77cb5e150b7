/-
  Whether voices cross in a leading: the code's.
-/
import Derived.Test.YtkpiakoijkflmaaVoPrice
namespace Go.Proofs.Ytkpiakoijkflmaa
open Go.ChangeShapes Go.WideShapes Go.ChangeAt Go.RowKit
set_option maxRecDepth 100000

/-- Whether a whole number of circles lies strictly between. -/
def betwB (s e c : Int) : Bool := decide (min s e < c ∧ c < max s e)
def meetB (n s e : Int) : Bool := betwB s e (-n) || (betwB s e 0 || betwB s e n)

theorem run_index3_0 (a b c : Value) (w : World) : (Instr.index 116 (.agg #[a, b, c]) (.int .i64 0)).run Try.prog w = .ok a w := by
  simp [Instr.index, run_underlying Try.underlying116, asIntOf, go_sem]
theorem run_index3_1 (a b c : Value) (w : World) : (Instr.index 116 (.agg #[a, b, c]) (.int .i64 1)).run Try.prog w = .ok b w := by
  simp [Instr.index, run_underlying Try.underlying116, asIntOf, go_sem]
theorem run_index3_2 (a b c : Value) (w : World) : (Instr.index 116 (.agg #[a, b, c]) (.int .i64 2)).run Try.prog w = .ok c w := by
  simp [Instr.index, run_underlying Try.underlying116, asIntOf, go_sem]

def meetK (n s e : Int) (j : Nat) : Bool := (([betwB s e (-n), betwB s e 0, betwB s e n].take j).any id)
theorem betw_t {s e c : Int} (h1 : min s e < c) (h2 : c < max s e) : betwB s e c = true := decide_eq_true ⟨h1, h2⟩
theorem betw_f1 {s e c : Int} (h1 : ¬ min s e < c) : betwB s e c = false := decide_eq_false (fun h => h1 h.1)
theorem betw_f2 {s e c : Int} (h1 : ¬ c < max s e) : betwB s e c = false := decide_eq_false (fun h => h1 h.2)

set_option maxHeartbeats 1000000 in
theorem meet_any (n : Nat) (hn : n ≤ 16) (s e : Int) (h1 : -100 ≤ s) (h2 : s ≤ 100) (h3 : -100 ≤ e) (h4 : e ≤ 100) (w : World) :
    Calls Try.prog 95 #[.int .i64 n, .int .i64 s, .int .i64 e] w fun r w' => r = .returned (.bool (meetB n s e)) ∧ w = w' := by
  have HM := Lib.hid (show meetB n s e = (betwB s e (-(n : Int)) || (betwB s e 0 || betwB s e n)) from rfl)
  go_enter Try.func95, Try.ntmps95
  go_wp2
  go_loopw [8, 13] (fun _ i wr => ∃ (j : Nat), j ≤ 3 ∧ i = .int .i64 j ∧ (1 ≤ j → betwB s e (-(n : Int)) = false) ∧ (2 ≤ j → betwB s e 0 = false) ∧ (3 ≤ j → betwB s e n = false) ∧ w = wr) (fun _ i _ => 3 - (intOf i).toNat)
  case atStart => exact ⟨0, Nat.zero_le _, rfl, fun h => by omega, fun h => by omega, fun h => by omega, rfl⟩
  case round =>
    obtain ⟨j, hj, rfl, g1, g2, g3, rfl⟩ := hrel
    have hi0 := run_index3_0 (.int .i64 (-(n : Int))) (.int .i64 0) (.int .i64 n) w
    have hi1 := run_index3_1 (.int .i64 (-(n : Int))) (.int .i64 0) (.int .i64 n) w
    have hi2 := run_index3_2 (.int .i64 (-(n : Int))) (.int .i64 0) (.int .i64 n) w
    obtain rfl | rfl | rfl | rfl : j = 0 ∨ j = 1 ∨ j = 2 ∨ j = 3 := by omega
    · have G := Lib.hid (fun b hb => betw_t (s := s) (e := e) (c := -(n : Int)) b hb)
      have G1 := Lib.hid (fun b => betw_f1 (s := s) (e := e) (c := -(n : Int)) b)
      have G2 := Lib.hid (fun b => betw_f2 (s := s) (e := e) (c := -(n : Int)) b)
      clear g1 g2 g3
      by_cases q1 : min s e < -(n : Int)
      · by_cases q2 : -(n : Int) < max s e
        · have HX := Lib.hid (G.out q1 q2)
          go_wp2
          go_ret
          exact ⟨ret_bool (by rw [HM.out, HX.out]; rfl), rfl⟩
        · have HX := Lib.hid (G2.out q2)
          go_wp2
          go_roundw
          case rel => exact ⟨1, by omega, by go_num, fun _ => HX.out, fun h => by omega, fun h => by omega, trivial⟩
          case measure => simp only [intOf]; omega
      · have HX := Lib.hid (G1.out q1)
        go_wp2
        go_roundw
        case rel => exact ⟨1, by omega, by go_num, fun _ => HX.out, fun h => by omega, fun h => by omega, trivial⟩
        case measure => simp only [intOf]; omega
    · have G := Lib.hid (fun b hb => betw_t (s := s) (e := e) (c := 0) b hb)
      have G1 := Lib.hid (fun b => betw_f1 (s := s) (e := e) (c := 0) b)
      have G2 := Lib.hid (fun b => betw_f2 (s := s) (e := e) (c := 0) b)
      have K1 := Lib.hid (g1 (by omega))
      clear g1 g2 g3
      by_cases q1 : min s e < 0
      · by_cases q2 : 0 < max s e
        · have HX := Lib.hid (G.out q1 q2)
          go_wp2
          go_ret
          exact ⟨ret_bool (by rw [HM.out, K1.out, HX.out]; rfl), rfl⟩
        · have HX := Lib.hid (G2.out q2)
          go_wp2
          go_roundw
          case rel => exact ⟨2, by omega, by go_num, fun _ => K1.out, fun _ => HX.out, fun h => by omega, trivial⟩
          case measure => simp only [intOf]; omega
      · have HX := Lib.hid (G1.out q1)
        go_wp2
        go_roundw
        case rel => exact ⟨2, by omega, by go_num, fun _ => K1.out, fun _ => HX.out, fun h => by omega, trivial⟩
        case measure => simp only [intOf]; omega
    · have G := Lib.hid (fun b hb => betw_t (s := s) (e := e) (c := (n : Int)) b hb)
      have G1 := Lib.hid (fun b => betw_f1 (s := s) (e := e) (c := (n : Int)) b)
      have G2 := Lib.hid (fun b => betw_f2 (s := s) (e := e) (c := (n : Int)) b)
      have K1 := Lib.hid (g1 (by omega))
      have K2 := Lib.hid (g2 (by omega))
      clear g1 g2 g3
      by_cases q1 : min s e < (n : Int)
      · by_cases q2 : (n : Int) < max s e
        · have HX := Lib.hid (G.out q1 q2)
          go_wp2
          go_ret
          exact ⟨ret_bool (by rw [HM.out, K1.out, K2.out, HX.out]; rfl), rfl⟩
        · have HX := Lib.hid (G2.out q2)
          go_wp2
          go_roundw
          case rel => exact ⟨3, by omega, by go_num, fun _ => K1.out, fun _ => K2.out, fun _ => HX.out, trivial⟩
          case measure => simp only [intOf]; omega
      · have HX := Lib.hid (G1.out q1)
        go_wp2
        go_roundw
        case rel => exact ⟨3, by omega, by go_num, fun _ => K1.out, fun _ => K2.out, fun _ => HX.out, trivial⟩
        case measure => simp only [intOf]; omega
    · have K1 := Lib.hid (g1 (by omega))
      have K2 := Lib.hid (g2 (by omega))
      have K3 := Lib.hid (g3 (by omega))
      clear g1 g2 g3
      go_wp2
      go_ret
      exact ⟨ret_bool (by rw [HM.out, K1.out, K2.out, K3.out]; rfl), rfl⟩

/-- Whether voices i and j cross. -/
def crT (n : Nat) (us bs l : List Nat) (i j : Nat) : Bool :=
  decide (us[i]?.getD 0 ≠ us[j]?.getD 0) && meetB n (((us[j]?.getD 0 : Nat) : Int) - (us[i]?.getD 0 : Nat)) (((us[j]?.getD 0 : Nat) : Int) - (us[i]?.getD 0 : Nat) + (mvN' n (us[j]?.getD 0) (bs[l[j]?.getD 0]?.getD 0) - mvN' n (us[i]?.getD 0) (bs[l[i]?.getD 0]?.getD 0)))
def crossB (n : Nat) (us bs l : List Nat) : Bool := decide (∃ i, i < us.length ∧ ∃ j, j < i ∧ crT n us bs l i j = true)

theorem run_cut (b off len cap : Nat) (j : Int) (h0 : 0 ≤ j) (h1 : j ≤ cap) (W : World) : (Instr.slice 22 (.slice (some ⟨b, off, none⟩) len cap) none (some (.int .i64 j)) none).run Try.prog W = .ok (.slice (some ⟨b, off, none⟩) j.toNat cap) W := by
  rw [run_upto _ _ _ _ h0 h1]
  unfold sliced
  simp only [Option.map_some, Nat.zero_mul, add_addr, Nat.add_zero, Nat.sub_zero, ite_self]

set_option maxHeartbeats 1000000 in
theorem cross_any (n : Nat) (us bs l : List Nat) (hv : Vc n us bs) (hll : l.length = us.length) (hf : Fits us.length 0 l) (v u t : Value) (w : World) (h : IntsV w v (natI us)) (k : IntsV w u (natI bs)) (q : IntsV w t (natI l)) :
    Calls Try.prog 65 #[.int .i64 n, v, u, t] w fun e w' => e = .returned (.bool (crossB n us bs l)) ∧ ∃ d, w' = w.drewN d := by
  have l1 := hv.l1
  have l6 := hv.l6
  have hlen := hv.len
  have hn := hv.hi
  obtain ⟨b1, o1, c1, rfl, hc1, ha⟩ := ints_nat h (by omega)
  obtain ⟨b2, o2, c2, rfl, _, hbs⟩ := ints_nat k (by omega)
  obtain ⟨b3, o3, c3, rfl, _, hls⟩ := ints_nat q (by omega)
  have HA := Lib.hid ha
  have HB := Lib.hid hbs
  have HQ := Lib.hid hls
  have HD := Lib.hid (fun x y hx hy => movement_any n x y hn hx hy)
  have HX := Lib.hid (fun i => getD_lt hv.la hv.pos i)
  have HY := Lib.hid (fun i => getD_lt hv.lb hv.pos i)
  have HMt := Lib.hid (fun s e h1 h2 h3 h4 => meet_any n hn s e h1 h2 h3 h4)
  have HF := Lib.hid (fun j (hj : j < l.length) => show l[j]?.getD 0 < us.length from (hf.2 (l[j]?.getD 0) (by rw [List.getElem?_eq_getElem hj]; exact List.getElem_mem hj)).1)
  have HS := Lib.hid (fun (j : Nat) W (hj : j ≤ c1) => run_cut b1 o1 us.length c1 (j : Int) (by omega) (by omega) W)
  have HBnd := Lib.hid (fun x y => mv_bound (n := n) (x := x) (y := y) hv.pos)
  have HT := Lib.hid (fun i j (hi : i < us.length) (hj : j < i) (hc : crT n us bs l i j = true) => show crossB n us bs l = true from decide_eq_true ⟨i, hi, j, hj, hc⟩)
  have HN := Lib.hid (fun (hc : ∀ i, i < us.length → ∀ j, j < i → crT n us bs l i j = false) => show crossB n us bs l = false from decide_eq_false (fun ⟨i, hi, j, hj, e⟩ => by rw [hc i hi j hj] at e; cases e))
  have HC := Lib.hid (fun i j => show crT n us bs l i j = (decide (us[i]?.getD 0 ≠ us[j]?.getD 0) && meetB n (((us[j]?.getD 0 : Nat) : Int) - (us[i]?.getD 0 : Nat)) (((us[j]?.getD 0 : Nat) : Int) - (us[i]?.getD 0 : Nat) + (mvN' n (us[j]?.getD 0) (bs[l[j]?.getD 0]?.getD 0) - mvN' n (us[i]?.getD 0) (bs[l[i]?.getD 0]?.getD 0)))) from rfl)
  clear h k q ha hbs hls hv hf
  obtain ⟨m, hm⟩ : ∃ m, us.length = m := ⟨_, rfl⟩
  have hm2 : bs.length = m := by omega
  have hm3 : l.length = m := by omega
  rw [hm] at l1 l6 HA HS HT HN hc1
  rw [hm2] at HB
  rw [hm3, hm] at HF
  rw [hm3] at HQ
  rw [hm, hm2, hm3]
  clear hm hm2 hm3 hlen hll
  generalize crossB n us bs l = res at *
  generalize crT n us bs l = cr at *
  go_enter Try.func65, Try.ntmps65
  go_wp2
  go_loopw [16] (fun i wr => ∃ (a d : Nat), a ≤ m ∧ i = .int .i64 a ∧ (∀ i, i < a → ∀ j, j < i → cr i j = false) ∧ wr = w.drewN d) (fun i _ => m - (intOf i).toNat)
  case atStart => exact ⟨0, 0, Nat.zero_le _, rfl, fun i h => by omega, rfl⟩
  case round =>
    obtain ⟨a, d, ha, rfl, hpre, rfl⟩ := hrel
    have HP := Lib.hid hpre
    clear hpre
    by_cases hlk : a < m
    · have ca : (w.drewN d).cell? ⟨b1, o1 + a, none⟩ = some (.int .i64 ((us[a]?.getD 0 : Nat) : Int)) := HA.out a hlk
      obtain ⟨W, hWd⟩ : ∃ W, w.drewN d = W := ⟨_, rfl⟩
      rw [hWd] at ca
      have hsl := HS.out a W (by omega)
      have hx := HX.out a
      have HCa := Lib.hid (fun j => HC.out a j)
      have hpa := HF.out a hlk
      have cqa : ∀ d, (W.drewN d).cell? ⟨b3, o3 + a, none⟩ = some (.int .i64 ((l[a]?.getD 0 : Nat) : Int)) := fun d => by rw [← hWd]; exact HQ.out a hlk
      have CQa := Lib.hid cqa
      clear cqa
      generalize us[a]?.getD 0 = x at ca hx HCa
      generalize l[a]?.getD 0 = p at CQa hpa HCa
      have cba : ∀ d, (W.drewN d).cell? ⟨b2, o2 + p, none⟩ = some (.int .i64 ((bs[p]?.getD 0 : Nat) : Int)) := fun d => by rw [← hWd]; exact HB.out p hpa
      have CBa := Lib.hid cba
      clear cba
      have hy := HY.out p
      generalize bs[p]?.getD 0 = y at CBa hy HCa
      have HMa := Lib.hid (HD.out x y hx hy)
      have hbd := HBnd.out x y
      generalize mvN' n x y = ma at HMa hbd HCa
      obtain ⟨hbd1, hbd2⟩ := hbd
      rw [hWd]
      have HWd := Lib.hid hWd
      clear hWd
      go_wp2_with fail
      go_loopw [25] (fun i wr => ∃ (b d : Nat), b ≤ a ∧ i = .int .i64 b ∧ (∀ j, j < b → cr a j = false) ∧ wr = W.drewN d) (fun i _ => a - (intOf i).toNat)
      case atStart => exact ⟨0, 0, Nat.zero_le _, rfl, fun i h => by omega, rfl⟩
      case round =>
        obtain ⟨b, d2, hb, rfl, hpre, rfl⟩ := hrel
        have HQ2 := Lib.hid hpre
        clear hpre
        by_cases hlb : b < a
        · have cj : (W.drewN d2).cell? ⟨b1, o1 + b, none⟩ = some (.int .i64 ((us[b]?.getD 0 : Nat) : Int)) := by rw [← HWd.out]; exact HA.out b (by omega)
          have cqb : (W.drewN d2).cell? ⟨b3, o3 + b, none⟩ = some (.int .i64 ((l[b]?.getD 0 : Nat) : Int)) := by rw [← HWd.out]; exact HQ.out b (by omega)
          have cqa := CQa.out d2
          have cba := CBa.out d2
          have hx2 := HX.out b
          have hpb := HF.out b (by omega)
          have HCb := Lib.hid (HCa.out b)
          generalize us[b]?.getD 0 = x2 at cj hx2 HCb
          generalize l[b]?.getD 0 = p2 at cqb hpb HCb
          have cbb : (W.drewN d2).cell? ⟨b2, o2 + p2, none⟩ = some (.int .i64 ((bs[p2]?.getD 0 : Nat) : Int)) := by rw [← HWd.out]; exact HB.out p2 hpb
          have hy2 := HY.out p2
          generalize bs[p2]?.getD 0 = y2 at cbb hy2 HCb
          have HMb := Lib.hid (HD.out x2 y2 hx2 hy2)
          have hbe := HBnd.out x2 y2
          generalize mvN' n x2 y2 = mb at HMb hbe HCb
          obtain ⟨hbe1, hbe2⟩ := hbe
          obtain ⟨V, hV⟩ : ∃ V, W.drewN d2 = V := ⟨_, rfl⟩
          rw [hV] at cj cqb cqa cba cbb
          rw [hV]
          have HV := Lib.hid hV
          clear hV
          have HMm := Lib.hid (fun V => HMt.out ((x2 : Int) - x) ((x2 : Int) - x + (mb - ma)) (by omega) (by omega) (by omega) (by omega) V)
          have HTt := Lib.hid (fun h => HT.out a b hlk hlb h)
          obtain ⟨mt, hmt⟩ : ∃ mt, meetB n ((x2 : Int) - x) ((x2 : Int) - x + (mb - ma)) = mt := ⟨_, rfl⟩
          rw [hmt] at HMm HCb
          clear hmt
          by_cases he : x = x2
          · have HF1 := Lib.hid (show cr a b = false by rw [HCb.out, decide_eq_false (fun h => h he), Bool.false_and])
            subst he
            go_wp2
            go_quiet ((go_at_call 67; first | with_reducible exact Calls.quiet_of_same ((HMb.out _).mono fun e w' h => ⟨h.1, h.2.symm⟩) | with_reducible exact Calls.quiet_of_same ((HMa.out _).mono fun e w' h => ⟨h.1, h.2.symm⟩)))
            go_wp2
            go_roundw
            case rel => exact ⟨b + 1, d2 + nq, by omega, by go_num, fun j hj => by
                by_cases e : j = b
                · rw [e]; exact HF1.out
                · exact HQ2.out j (by omega), by rw [← HV.out, World.drewN_drewN]⟩
            case measure => simp only [intOf]; omega
          · have q1 : ((x : Int) != (x2 : Int)) = true := by rw [bne_iff_ne]; omega
            have HF1 := Lib.hid (show cr a b = mt by rw [HCb.out, decide_eq_true (show x ≠ x2 from he), Bool.true_and])
            clear he
            cases mt
            · go_wp2
              go_quiet ((go_at_call 67; first | with_reducible exact Calls.quiet_of_same ((HMb.out _).mono fun e w' h => ⟨h.1, h.2.symm⟩) | with_reducible exact Calls.quiet_of_same ((HMa.out _).mono fun e w' h => ⟨h.1, h.2.symm⟩)))
              go_wp2_with fail
              refine (HMm.out _).mono ?_
              rintro e w3 ⟨rfl, rfl⟩
              go_wp2
              go_roundw
              case rel => exact ⟨b + 1, d2 + nq, by omega, by go_num, fun j hj => by
                  by_cases e : j = b
                  · rw [e]; exact HF1.out
                  · exact HQ2.out j (by omega), by rw [← HV.out, World.drewN_drewN]⟩
              case measure => simp only [intOf]; omega
            · have HR := Lib.hid (HTt.out HF1.out)
              go_wp2
              go_quiet ((go_at_call 67; first | with_reducible exact Calls.quiet_of_same ((HMb.out _).mono fun e w' h => ⟨h.1, h.2.symm⟩) | with_reducible exact Calls.quiet_of_same ((HMa.out _).mono fun e w' h => ⟨h.1, h.2.symm⟩)))
              go_wp2_with fail
              refine (HMm.out _).mono ?_
              rintro e w3 ⟨rfl, rfl⟩
              go_wp2
              go_ret
              exact ⟨ret_bool HR.out.symm, d + d2 + nq, by rw [← HV.out, ← HWd.out]; simp only [World.drewN_drewN]⟩
        · obtain rfl : b = a := by omega
          go_wp2
          go_roundw
          case rel => exact ⟨b + 1, d + d2, by omega, by go_num, fun i hi => by
              by_cases e : i = b
              · rw [e]; exact HQ2.out
              · exact HP.out i (by omega), by rw [← HWd.out, World.drewN_drewN]⟩
          case measure => simp only [intOf]; omega
    · have HR := Lib.hid (HN.out (fun i hi => HP.out i (by omega)))
      go_wp2
      go_ret
      exact ⟨ret_bool HR.out.symm, d, rfl⟩
end Go.Proofs.Ytkpiakoijkflmaa

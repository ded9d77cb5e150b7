/-
  The reference's Plain: it finds none.
-/
import Derived.Test.YtehjdhegnpmfaabDoorCaRefList
import Derived.Test.YtehjdhegnpmfaabDoorEqInts
namespace Go.Proofs.YtehjdhegnpmfaabDoor
open Go.RowKit Go.Shelf
attribute [local go_sem] Oper.semAt_some
set_option maxRecDepth 100000

/-- A slice of integers that can be read; nil just where there are none. -/
def IntsAt (W : World) (v : Value) (xs : List Nat) : Prop :=
  (v = .slice none 0 0 ∧ xs = []) ∨ ∃ g cap, v = .slice (some ⟨g, 0, none⟩) xs.length cap ∧ ∀ i, i < xs.length → W.cell? ⟨g, i, none⟩ = some (.int .i64 ((xs[i]?.getD 0 : Nat) : Int))
theorem IntsAt.later {W W' : World} {v : Value} {xs : List Nat} (h : IntsAt W v xs) (hb : Below W.heap.size W W') : IntsAt W' v xs := by
  rcases h with h | ⟨g, cap, h1, h3⟩
  · exact Or.inl h
  · exact Or.inr ⟨g, cap, h1, fun i hi => cell_later hb (h3 i hi)⟩
theorem IntsAt.of_own {W : World} {lo : Nat} {v : Value} {xs : List Nat} (h : W.ownsRow lo 3 1 v xs.length (ints xs)) : IntsAt W v xs := by
  have h' := h
  obtain ⟨h0, h1 | ⟨g, cap, cur, hv, hg, hh, h2⟩⟩ := h
  · exact Or.inl ⟨h1.1, List.eq_nil_of_length_eq_zero h1.2⟩
  · refine Or.inr ⟨g, cap, hv, fun i hi => ?_⟩
    subst hv
    have := h'.cellAt i (by omega)
    rw [this, ints_at hi]

theorem listN_all {n s : Nat} (hn : 1 ≤ n) : ∀ i, i < (listN n s).length → (listN n s)[i]?.getD 0 < 2 ^ n ∧ (listN n s)[i]?.getD 0 % 2 = 1 := fun i hi => by
  have h := List.getElem_mem hi
  rw [List.getElem?_eq_getElem hi]
  show (listN n s)[i] < 2 ^ n ∧ (listN n s)[i] % 2 = 1
  unfold listN at h
  rw [List.mem_filter, List.mem_map] at h
  obtain ⟨⟨c, hc, e⟩, _⟩ := h
  unfold listN
  rw [← e]
  exact rhy_next hn (List.mem_range.1 hc)
theorem listN_length {n s : Nat} : (listN n s).length ≤ 2 ^ (n - 1) := by
  unfold listN
  exact Nat.le_trans (List.length_filter_le _ _) (by simp)

set_option maxHeartbeats 2000000 in
theorem refPlain_any (n : Nat) (hn : 2 ≤ n) (hn2 : n ≤ 16) (w : World) :
    Calls Tryd.prog 41 #[.int .i64 n] w fun e w' => e = .returned (.slice none 0 0) ∧ Below w.heap.size w w' := by
  have hn3 : 2 ^ (n - 1) ≤ 2 ^ 15 := Nat.pow_le_pow_right (by omega) (by omega)
  have HLs := Lib.hid (fun s h1 h2 V => refList_any n s hn hn2 h1 h2 V)
  have HPe := Lib.hid (fun a ha V => refPeriod_any n a hn (by omega) ha V)
  have HTi := Lib.hid (fun a b ha hb V => refTiles_any n a b hn (by omega) ha hb V)
  have HJ := Lib.hid (fun a b ha hb h => hajos (n := n) (a := a) (b := b) hn (by omega) ha hb h)
  have HAl := Lib.hid (fun s => listN_all (n := n) (s := s) (by omega))
  have HLn := Lib.hid (fun s => listN_length (n := n) (s := s))
  obtain ⟨H, hH⟩ : ∃ H, w.heap.size = H := ⟨_, rfl⟩
  have hHle : H ≤ w.heap.size := by omega
  rw [hH]
  clear hH
  go_enter Tryd.func41, Tryd.ntmps41
  go_wp2
  go_loopw [3, 4] (fun l i wr => l = .slice none 0 0 ∧ ∃ m : Nat, 1 ≤ m ∧ m ≤ n + 1 ∧ i = .int .i64 m ∧ Below H w wr) (fun _ i _ => n + 1 - (intOf i).toNat)
  case atStart => exact ⟨rfl, 1, Nat.le_refl _, by omega, rfl, Below.refl _ _⟩
  case round =>
    obtain ⟨rfl, m, hm1, hm2, rfl, hB⟩ := hrel
    have HB := Lib.hid hB
    have hsz := hB.size
    clear hB
    by_cases hle : m ≤ n
    · have htm : (n : Int).tmod (m : Int) = ((n % m : Nat) : Int) := by rw [Int.tmod_eq_emod_of_nonneg (by omega)]; simp
      have hmz : ((m : Int) == 0) = false := by rw [beq_eq_false_iff_ne]; omega
      by_cases hd : n % m = 0
      · rw [hd] at htm
        have hdv : (n : Int).tdiv (m : Int) = ((n / m : Nat) : Int) := by rw [Int.tdiv_eq_ediv_of_nonneg (by omega)]; simp
        have hd1 : 1 ≤ n / m := Nat.div_pos hle (by omega)
        have hd2 : n / m ≤ n := Nat.div_le_self _ _
        have HL1 := Lib.hid (HLs.out m hm1 hle)
        have HL2 := Lib.hid (HLs.out (n / m) hd1 hd2)
        have HA1 := Lib.hid (HAl.out m)
        have HA2 := Lib.hid (HAl.out (n / m))
        have hl1 := HLn.out m
        have hl2 := HLn.out (n / m)
        generalize listN n m = xs at HL1 HA1 hl1
        generalize listN n (n / m) = ys at HL2 HA2 hl2
        generalize n / m = dd at hdv hd1 hd2 HL2
        clear hd
        go_wp2_with fail
        refine (HL1.out _).mono ?_
        rintro e w1 ⟨v, rfl, ho, b1⟩
        have hx := IntsAt.of_own ho
        have HB1 := Lib.hid (HB.out.trans (b1.mono (by omega)))
        have hs1 := HB1.out.size
        clear ho b1
        rcases hx with ⟨rfl, rfl⟩ | ⟨g, cap, rfl, hel⟩
        · go_wp2
          go_loopw [3, 6, 26] (fun l _ i wr => l = .slice none 0 0 ∧ i = .int .i64 0 ∧ wr = w1) (fun _ _ _ _ => 0)
          case atStart => exact ⟨rfl, rfl, rfl⟩
          case round =>
            obtain ⟨rfl, rfl, rfl⟩ := hrel
            go_wp2
            go_roundw
            case rel => exact ⟨rfl, m + 1, by omega, by omega, by go_num, HB1.out⟩
            case measure => simp only [intOf]; omega
        · have HEl := Lib.hid hel
          clear hel
          generalize xs.length = L at HEl HA1 hl1
          go_wp2
          go_loopw [3, 6, 26] (fun l _ i wr => l = .slice none 0 0 ∧ ∃ k : Nat, k ≤ L ∧ i = .int .i64 k ∧ Below w1.heap.size w1 wr) (fun _ _ i _ => L - (intOf i).toNat)
          case atStart => exact ⟨rfl, 0, Nat.zero_le _, rfl, Below.refl _ _⟩
          case round =>
            obtain ⟨rfl, k, hk, rfl, hBk⟩ := hrel
            have HBk := Lib.hid hBk
            have hsk := hBk.size
            by_cases hlt : k < L
            · have hce := cell_later hBk (HEl.out k hlt)
              obtain ⟨han, ha1⟩ := HA1.out k hlt
              clear hBk
              generalize xs[k]?.getD 0 = a at hce han ha1
              have HPa := Lib.hid (HPe.out a han)
              have HTa := Lib.hid (fun b hb => HTi.out a b han hb)
              have HJa := Lib.hid (fun b hb => HJ.out a b han hb)
              generalize hpa : perN n a = pa at HPa HJa
              clear hpa
              by_cases hp : pa < n
              · go_wp2_with fail
                refine (HPa.out _).mono ?_
                rintro e w2 ⟨rfl, mm, rfl⟩
                go_wp2
                go_roundw
                case rel => exact ⟨rfl, k + 1, by omega, by go_num, below_drewN HBk.out mm⟩
                case measure => simp only [intOf]; omega
              · go_wp2_with fail
                refine (HPa.out _).mono ?_
                rintro e w2 ⟨rfl, mm, rfl⟩
                go_wp2_with fail
                refine (HL2.out _).mono ?_
                rintro e w3 ⟨v2, rfl, ho2, b3⟩
                have hy := IntsAt.of_own ho2
                have HB3 := Lib.hid ((below_drewN HBk.out mm).trans (b3.mono hsk))
                clear ho2 b3
                rcases hy with ⟨rfl, rfl⟩ | ⟨g2, cap2, rfl, hel2⟩
                · go_wp2
                  go_loopw [3, 8, 41] (fun l _ i wr => l = .slice none 0 0 ∧ i = .int .i64 0 ∧ wr = w3) (fun _ _ _ _ => 0)
                  case atStart => exact ⟨rfl, rfl, rfl⟩
                  case round =>
                    obtain ⟨rfl, rfl, rfl⟩ := hrel
                    go_wp2
                    go_roundw
                    case rel => exact ⟨rfl, k + 1, by omega, by go_num, HB3.out⟩
                    case measure => simp only [intOf]; omega
                · have HEl2 := Lib.hid hel2
                  clear hel2
                  generalize ys.length = L2 at HEl2 HA2 hl2
                  go_wp2
                  go_loopw [3, 8, 41] (fun l _ i wr => l = .slice none 0 0 ∧ ∃ q m : Nat, q ≤ L2 ∧ i = .int .i64 q ∧ wr = w3.drewN m) (fun _ _ i _ => L2 - (intOf i).toNat)
                  case atStart => exact ⟨rfl, 0, 0, Nat.zero_le _, rfl, rfl⟩
                  case round =>
                    obtain ⟨rfl, q, mq, hq, rfl, rfl⟩ := hrel
                    by_cases hlq : q < L2
                    · have hcb := HEl2.out q hlq
                      obtain ⟨hbn, hb1⟩ := HA2.out q hlq
                      generalize ys[q]?.getD 0 = b at hcb hbn hb1
                      have HPb := Lib.hid (HPe.out b hbn)
                      have HTb := Lib.hid (HTa.out b hbn)
                      have HJb := Lib.hid (HJa.out b hbn)
                      generalize hpb : perN n b = pb at HPb HJb
                      clear hpb
                      by_cases hpn : pb = n
                      · have hnt : tileB n a b = false := tileB_false.2 (fun ht => by rcases HJb.out ht with h | h <;> omega)
                        rw [hnt] at HTb
                        have q1 : ((pb : Int) == (n : Int)) = true := by rw [beq_iff_eq]; omega
                        clear hnt hpn
                        go_wp2_with fail
                        refine (HPb.out _).mono ?_
                        rintro e w4 ⟨rfl, m4, rfl⟩
                        go_wp2_with fail
                        refine (HTb.out _).mono ?_
                        rintro e w5 ⟨rfl, m5, rfl⟩
                        go_wp2
                        go_roundw
                        case rel => exact ⟨rfl, q + 1, mq + m4 + m5, by omega, by go_num, rfl⟩
                        case measure => simp only [intOf]; omega
                      · have q1 : ((pb : Int) == (n : Int)) = false := by rw [beq_eq_false_iff_ne]; omega
                        clear hpn
                        go_wp2_with fail
                        refine (HPb.out _).mono ?_
                        rintro e w4 ⟨rfl, m4, rfl⟩
                        go_wp2
                        go_roundw
                        case rel => exact ⟨rfl, q + 1, mq + m4, by omega, by go_num, rfl⟩
                        case measure => simp only [intOf]; omega
                    · go_wp2
                      go_roundw
                      case rel => exact ⟨rfl, k + 1, by omega, by go_num, below_drewN HB3.out mq⟩
                      case measure => simp only [intOf]; omega
            · clear hBk
              go_wp2
              go_roundw
              case rel => exact ⟨rfl, m + 1, by omega, by omega, by go_num, HB1.out.trans (HBk.out.mono (by omega))⟩
              case measure => simp only [intOf]; omega
      · have hq : ((((n % m : Nat)) : Int) != 0) = true := by rw [bne_iff_ne]; omega
        go_wp2
        go_roundw
        case rel => exact ⟨rfl, m + 1, by omega, by omega, by go_num, HB.out⟩
        case measure => simp only [intOf]; omega
    · go_wp2
      go_loopw [9, 11, 12, 66] (fun o _ _ i wr' => o = .slice none 0 0 ∧ i = .int .i64 0 ∧ wr' = wr) (fun _ _ _ _ _ => 0)
      case atStart => exact ⟨rfl, rfl, rfl⟩
      case round =>
        obtain ⟨rfl, rfl, rfl⟩ := hrel
        go_wp2
        go_ret
        exact ⟨rfl, HB.out⟩

end Go.Proofs.YtehjdhegnpmfaabDoor

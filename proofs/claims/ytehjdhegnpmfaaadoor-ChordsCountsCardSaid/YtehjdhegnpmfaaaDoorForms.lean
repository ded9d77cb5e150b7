/-
  primeForms: the iterator's contract.
-/
import Derived.Test.YtehjdhegnpmfaaaDoorIsPrime
namespace Go.Proofs.YtehjdhegnpmfaaaDoor
open Go.RowKit Go.Shelf
attribute [local go_sem] Oper.semAt_some
set_option maxRecDepth 100000

/-- The prime forms below a number, rising. -/
def forms (n k : Nat) : List Nat := (List.range k).filter (primeB n)
theorem forms_succ (n k : Nat) : forms n (k + 1) = forms n k ++ if primeB n k = true then [k] else [] := by
  unfold forms
  rw [List.range_succ, List.filter_append]
  congr 1
  by_cases h : primeB n k = true <;> simp [h]
theorem forms_length (n k : Nat) : (forms n k).length ≤ k := by
  unfold forms
  exact Nat.le_trans (List.length_filter_le _ _) (by simp)

theorem primeForms_any (n : Int) (w : World) :
    Calls Tryd.prog 62 #[.int .i64 n] w fun e w' => e = .returned (.func (.func 76) #[] #[.pointer (some ⟨w.heap.size, 0, none⟩)]) ∧ w.alloc (.cells #[.int .i64 n] 3) = w' := by
  go_enter Tryd.func62, Tryd.ntmps62
  go_wp2
  go_ret
  exact ⟨rfl, rfl⟩

set_option maxHeartbeats 1000000 in
theorem primeForms1_stops (S : Nat → Prop) (k n Bn : Nat) (hk : 1 ≤ k) (hn1 : 2 ≤ n) (hn : n ≤ 16) (w : World) (hT : Tab w) (hg : S 1)
    (hSw : ∀ i, S i → i < w.heap.size) (hSn : S Bn) (hBn : w.cell? ⟨Bn, 0, none⟩ = some (.int .i64 n)) :
    SeqStopsK Fence.wide k Tryd.prog 76 #[.pointer (some ⟨Bn, 0, none⟩)] (fun t : Fin (2 ^ n) => #[.int .i64 (t.val : Int)]) (KeptOn S) (fun ys => ys.map Fin.val = forms n (2 ^ n)) (fun _ => True) 65536 w :=
  fun l J Jx W hW hJ hJx hY h0 => by
  have hTW : Tab W := hT.same hW
  have hNW : W.cell? ⟨Bn, 0, none⟩ = some (.int .i64 n) := cell_later hW hBn
  have hsz := hW.size
  have hp := pow_bd (n : Int) (by omega) (by omega)
  simp only [Int.toNat_natCast] at hp
  have hn2 : 2 ^ n ≤ 2 ^ 16 := Nat.pow_le_pow_right (by omega) hn
  have HP := Lib.hid (fun (c : Nat) (hc : c < 2 ^ n) (V : World) (hV : Tab V) => isPrime_any n c hn1 hn hc V hV)
  have HF := Lib.hid (forms_succ n)
  have HL := Lib.hid (forms_length n)
  have hpow : (2 : Int) ^ n = ((2 ^ n : Nat) : Int) := by simp
  have Hpow := Lib.hid hpow
  have hJb : ∀ (pre : List (Fin (2 ^ n))) (A B : World), J pre A → Below A.heap.size A B → J pre B := fun pre A B h hb => hJ _ _ _ none h ⟨hb.os, hb.tape, hb.output, hb.size, fun i hi _ => hb.block i hi⟩ (by intro r e; cases e)
  have HJb := Lib.hid hJb
  have HY := Lib.hid hY
  clear hBn hT hJ hY hJb
  refine callsIn_of_wp Tryd.func76 rfl trivial ?_ rfl
  simp only [Tryd.ntmps76, List.size_toArray, List.length_cons, List.length_nil, Nat.reduceAdd, Nat.reduceSub, Array.replicate_succ, Array.replicate_zero, List.push_toArray, List.append_toArray, List.nil_append, List.cons_append]
  clear hpow
  gi_wp2
  gi_loopw [3, 6] (fun _ i wr => ∃ (c : Nat) (pre : List (Fin (2 ^ n))), c ≤ 2 ^ n ∧ i = .int .i64 c ∧ J pre wr ∧ KeptOn S W wr ∧ pre.map Fin.val = forms n c) (fun _ i _ => 2 ^ n - (intOf i).toNat)
  case atStart => exact ⟨0, [], Nat.zero_le _, rfl, h0, KeptOn.refl _ _, rfl⟩
  case round =>
    obtain ⟨c, pre, hc, rfl, hJs, hb, hx⟩ := hrel
    have hnr := (hb.cell (p := ⟨Bn, 0, none⟩) hSn).trans hNW
    have hTr : Tab wr := hTW.kept hb hg
    have hwr := hb.size
    have hJs' := Lib.hid hJs
    have hb' := Lib.hid hb
    have hx' := Lib.hid hx
    clear hJs hb hx
    by_cases hlt : c < 2 ^ n
    · have hip := Lib.hid (HP.out c hlt wr hTr)
      have hfs := HF.out c
      have hlen : pre.length < 65536 := by
        have e := congrArg List.length hx'.out
        have := HL.out c
        simp at e
        omega
      have hlti : (c : Int) < (2 : Int) ^ n := by rw [Hpow.out]; omega
      by_cases hpb : primeB n c = true
      · rw [if_pos hpb] at hfs
        rw [hpb] at hip
        have hnext := Lib.hid (show (pre ++ [(⟨c, hlt⟩ : Fin (2 ^ n))]).map Fin.val = forms n (c + 1) by rw [List.map_append, hx'.out, hfs]; rfl)
        clear hfs hpb
        gi_wp2_with fail
        refine ⟨trivial, (callsIn_wide.2 hip.out).mono ?_⟩
        rintro e w2 ⟨rfl, hb2⟩
        have hJ2 := HJb.out _ _ _ hJs'.out hb2
        have hK2 : KeptOn S wr w2 := (KeptOn.refl _ _).below hb2 (fun i h => by have := hSw i h; omega)
        have hK3 := Lib.hid (hb'.out.trans hK2)
        obtain ⟨fn, tmps, assign, body, hy, hR⟩ := HY.out pre ⟨c, hlt⟩ w2 hJ2 hlen
        dsimp only at hy
        have hR' := Lib.hid hR
        clear hR hJ2 hK2 hb2
        gi_wp2_with fail
        refine hR'.out.mono ?_
        rintro e W3 (⟨rfl, hJ3, hk3⟩ | ⟨rfl, hJx3⟩)
        · gi_wp2
          go_roundw
          case rel => exact ⟨c + 1, _, by omega, by go_num, hJ3, hK3.out.trans hk3, hnext.out⟩
          case measure => simp only [intOf]; omega
        · gi_wp2
          refine bodyPost_ret (results_none rfl _ _ _) rfl ?_
          exact ⟨⟨_, rfl⟩, .inr ⟨_, trivial, hJx3⟩⟩
      · have hpf : primeB n c = false := by simpa using hpb
        rw [if_neg hpb, List.append_nil] at hfs
        rw [hpf] at hip
        have hfs' := Lib.hid hfs
        clear hfs hpb hpf
        gi_wp2_with fail
        refine ⟨trivial, (callsIn_wide.2 hip.out).mono ?_⟩
        rintro e w2 ⟨rfl, hb2⟩
        have hJ2 := Lib.hid (HJb.out _ _ _ hJs'.out hb2)
        have hK2 : KeptOn S wr w2 := (KeptOn.refl _ _).below hb2 (fun i h => by have := hSw i h; omega)
        have hK3 := Lib.hid (hb'.out.trans hK2)
        clear hK2 hb2
        gi_wp2
        refine ⟨(fun f h => by cases h), ?_⟩
        gi_wp2
        go_roundw
        case rel => exact ⟨c + 1, pre, by omega, by go_num, hJ2.out, hK3.out, by rw [hfs'.out]; exact hx'.out⟩
        case measure => simp only [intOf]; omega
    · have hcc := Lib.hid (show c = 2 ^ n by omega)
      have hlti : ¬ (c : Int) < (2 : Int) ^ n := by rw [Hpow.out]; omega
      have hfin := Lib.hid (show pre.map Fin.val = forms n (2 ^ n) by have := hx'.out; rw [hcc.out] at this; exact this)
      clear hlt
      gi_wp2
      go_end0
      exact ⟨⟨_, rfl⟩, .inl ⟨pre, hfin.out, hJs'.out⟩⟩

end Go.Proofs.YtehjdhegnpmfaaaDoor

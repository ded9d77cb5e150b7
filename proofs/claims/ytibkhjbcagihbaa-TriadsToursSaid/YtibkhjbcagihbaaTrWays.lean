/-
  walks: the shortest walks of some steps.
-/
import Derived.Test.YtibkhjbcagihbaaTrQue
namespace Go.Proofs.Ytibkhjbcagihbaa
open Go.ChangeShapes Go.WideShapes Go.ChangeAt Go.RowKit
open Go.Lib (iterAt_heap iterAt_size below_iterAt run_next_any_at run_next_ascii_at run_next_end_at)
set_option maxRecDepth 100000

theorem conv_let (c : Nat) (h : isLetN c = true) (w : World) : (convert 21 9 (.int .i32 (c : Int))).run Try.prog w = .ok (.string (strOf [c])) w := by
  rcases (isLetN_iff c).1 h with rfl | rfl | rfl <;> kernel_rfl

theorem info_int : (Try.prog.info? 3).map (fun i => (i.zero, i.size, i.bytes)) = some (some (.int .i64 0), 1, 8) := by kernel_rfl

def intV (t : Nat) : Value := .int .i64 (t : Int)
def lenV : Value → Nat | .slice _ n _ => n | _ => 0

theorem map_append (w : World) (lo : Nat) (v : Value) (xs : List Value) (hq : QueAt w lo 3 v xs) (a : Addr) (x : Value) (hx : w.cell? a = some x) (h1 : x.oneCell' = true) (hlen : xs.length ≤ 1048576) (hlo : lo ≤ w.heap.size) (ty : TypeId) (c : Nat) :
    ∃ v' w', (Builtin.append_ #[40, 40] ty #[v, .slice (some a) 1 c]).run Try.prog w = .ok v' w' ∧ QueAt w' lo 3 v' (xs ++ [x]) ∧ w.grownBy w' v.ownBlock ∧ (v'.ownBlock = v.ownBlock ∨ v'.ownBlock = some w.heap.size) := by
  obtain ⟨i0, hi, hz0, hz1, hz2⟩ := info_parts info_int
  exact run_append_que w lo 40 ty 3 i0 (.int .i64 0) Try.underlying40 hi hz0 hz1 (by rw [hz2]; omega) rfl v xs hq a c x hx h1 hlen hlo

theorem iterAt_grown (w : World) (H : Nat) (s : ByteArray) (p : Nat) : w.grownBy (w.iterAt H s p) (some H) := by
  have h := below_iterAt (Below.refl 0 w) (Nat.zero_le H) s p
  exact ⟨h.os, h.tape, h.output, h.size, fun i hi hne => Lib.iterAt_other w H i s p (fun e => hne (by rw [e]))⟩

/-- How the search stands: the queue, what was found, the Kind. -/
structure WSt (n a b : Nat) (w wr : World) (B lo : Nat) (v : Value) (L : St) (i : Nat) : Prop where
  q : QueAt wr lo 3 v (((L.map Prod.fst).drop i).map intV)
  f : Found wr B L
  k : wr.heap[w.heap.size]? = some (kcells n a b)
  below : Below w.heap.size w wr
  hlo : lo ≤ wr.heap.size
  B1 : w.heap.size < B
  B2 : B < lo

theorem WSt.later {n a b : Nat} {w wr w' : World} {B lo : Nat} {v : Value} {L : St} {i : Nat} (h : WSt n a b w wr B lo v L i) (hb : Below wr.heap.size wr w') : WSt n a b w w' B lo v L i := by
  refine ⟨h.q.later hb, ?_, (hb.block _ (Array.getElem?_eq_some_iff.1 h.k).1).trans h.k, h.below.trans (hb.mono h.below.size), Nat.le_trans h.hlo hb.size, h.B1, h.B2⟩
  exact h.f.kept (row := none) ⟨hb.os, hb.tape, hb.output, hb.size, fun i hi _ => hb.block i hi⟩ (by simp)

theorem WSt.turn {n a b : Nat} {w wr w' : World} {B lo : Nat} {v : Value} {L : St} {i H : Nat} (h : WSt n a b w wr B lo v L i) (hg : wr.grownBy w' (some H)) (hH : lo ≤ H) (hv : v.ownBlock ≠ some H) : WSt n a b w w' B lo v L i := by
  have hB1 := h.B1
  have hB2 := h.B2
  refine ⟨h.q.kept hg hv, h.f.kept hg (by simp; omega), (hg.block _ (Array.getElem?_eq_some_iff.1 h.k).1 (by simp; omega)).trans h.k, h.below.grown hg h.below.size (fun j hj => by cases hj; omega), Nat.le_trans h.hlo hg.size, h.B1, h.B2⟩

theorem WSt.c0 {n a b : Nat} {w wr : World} {B lo : Nat} {v : Value} {L : St} {i : Nat} (h : WSt n a b w wr B lo v L i) : wr.cell? ⟨w.heap.size, 0, none⟩ = some (.int .i64 n) ∧ wr.cell? ⟨w.heap.size, 1, none⟩ = some (.int .i64 a) ∧ wr.cell? ⟨w.heap.size, 2, none⟩ = some (.int .i64 b) := by
  refine ⟨?_, ?_, ?_⟩ <;> simp [World.cell?, h.k]

theorem drop_cons {L : St} {i : Nat} {p : Nat × List Nat} (h : L[i]? = some p) : (((L.map Prod.fst).drop i).map intV) = intV p.1 :: (((L.map Prod.fst).drop (i + 1)).map intV) := by
  have e : (L.map Prod.fst)[i]? = some p.1 := by rw [List.getElem?_map, h]; rfl
  have hl := (List.getElem?_eq_some_iff.1 e).1
  rw [List.drop_eq_getElem_cons hl, List.map_cons]
  have := (List.getElem?_eq_some_iff.1 e).2
  rw [this]

theorem drop_snoc {L : St} {i : Nat} (p : Nat × List Nat) (h : i ≤ L.length) : ((((L ++ [p]).map Prod.fst).drop i).map intV) = (((L.map Prod.fst).drop i).map intV) ++ [intV p.1] := by
  rw [List.map_append, List.drop_append_of_le_length (by simpa using h), List.map_append]; rfl

theorem visit_snoc (n a b : Nat) (ds : List Nat) (p : Nat × List Nat) (L : St) (c : Nat) : visit n a b (ds ++ [c]) p L = addL n a b p (visit n a b ds p L) c := by
  unfold visit; rw [List.foldl_append]; rfl

theorem WSt.push {n a b : Nat} {w w3 : World} {B lo : Nat} {v : Value} {L : St} {i : Nat} (h : WSt n a b w w3 B lo v L i) (hi : i ≤ L.length) (hL : L.length ≤ 1000) (p : Nat × List Nat) (hp : p.1 < 1000) (hl : p.2.length ≤ 1000) (hn : hasK L p.1 = false) (ty : TypeId) :
    ∃ w4 v' w5, (Instr.mapUpdate 80 (.map (some B)) (.int .i64 (p.1 : Int)) (.string (strOf p.2))).run Try.prog w3 = .ok () w4 ∧
      (Builtin.append_ #[40, 40] ty #[v, .slice (some ⟨w4.heap.size, 0, none⟩) 1 1]).run Try.prog (w4.alloc (.cells #[.int .i64 (p.1 : Int)] 3)) = .ok v' w5 ∧
      WSt n a b w w5 B lo v' (L ++ [p]) i ∧ ∀ H, lo ≤ H → H < w3.heap.size → v.ownBlock ≠ some H → w5.heap[H]? = w3.heap[H]? ∧ v'.ownBlock ≠ some H := by
  have hB1 := h.B1
  have hB2 := h.B2
  obtain ⟨w4, hup, hF, hg⟩ := h.f.update p (by omega) (by omega) (by omega) hn
  obtain ⟨g, hgo, hg1, hg2⟩ := h.q.lt
  have hq4 := h.q.kept hg (by rw [hgo]; simp; omega)
  have hq4' := hq4.later ((Below.refl _ w4).alloc (Nat.le_refl _) (.cells #[.int .i64 (p.1 : Int)] 3))
  have hs4 := hg.size
  have hlo := h.hlo
  obtain ⟨v', w5, hap, hq5, hg5, hown5⟩ := map_append (w4.alloc (.cells #[.int .i64 (p.1 : Int)] 3)) lo v _ hq4' ⟨w4.heap.size, 0, none⟩ (.int .i64 (p.1 : Int)) (by simp) rfl (by simp; omega) (by simp; omega) ty 1
  refine ⟨w4, v', w5, hup, hap, ?_, ?_⟩
  · refine ⟨by rw [drop_snoc p hi]; exact hq5, ?_, ?_, ?_, ?_, hB1, hB2⟩
    · exact (hF.kept (row := none) (World.grownBy_alloc _ _ _) (by simp)).kept hg5 (by rw [hgo]; simp; omega)
    · refine (hg5.block _ (by simp; have := (Array.getElem?_eq_some_iff.1 h.k).1; omega) (by rw [hgo]; simp; omega)).trans ?_
      refine (Below.heap_alloc w4 _ _ (by have := (Array.getElem?_eq_some_iff.1 h.k).1; omega)).trans ?_
      exact (hg.block _ (Array.getElem?_eq_some_iff.1 h.k).1 (by simp; omega)).trans h.k
    · have b4 := h.below.grown hg h.below.size (fun j hj => by cases hj; omega)
      have b5 := b4.alloc b4.size (.cells #[.int .i64 (p.1 : Int)] 3)
      exact b5.grown hg5 b5.size (fun j hj => by rw [hgo] at hj; cases hj; omega)
    · have := hg5.size; simp at this; omega
  · intro H hH1 hH2 hH3
    refine ⟨?_, ?_⟩
    · refine (hg5.block _ (by simp; omega) (fun e => hH3 e.symm)).trans ?_
      refine (Below.heap_alloc w4 _ _ (by omega)).trans ?_
      exact hg.block _ hH2 (by simp; omega)
    · rcases hown5 with e | e
      · rw [e]; exact hH3
      · rw [e]; simp; omega

set_option maxHeartbeats 4000000 in
theorem walks_any (n a b s : Nat) (hk : KOk n a b) (hs : s < 2 * n) (cs : ByteArray) (hl : (bsN cs).all isLetN = true) (w : World) :
    Calls Try.prog 58 #[kv n a b, .int .i64 s, .string cs] w fun e w' => ∃ B, e = .returned (.map (some B)) ∧ w.heap.size ≤ B ∧ Found w' B (bfs n a b s (bsN cs)) ∧ Below w.heap.size w w' := by
  have h16 := hk.h16
  have hmm := @run_makeMap Try.prog
  obtain ⟨W0, hW0⟩ : ∃ W0, w.alloc (kcells n a b) = W0 := ⟨_, rfl⟩
  obtain ⟨B, hB⟩ : ∃ B, w.heap.size + 1 = B := ⟨_, rfl⟩
  have hB0 : W0.heap.size = B := by rw [← hW0, ← hB]; simp
  obtain ⟨W2, hup, hF, hg2⟩ := (show Found (W0.alloc (.map #[] 0)) B [] by rw [← hB0]; exact Found.made W0).update (s, []) (by show s < _; omega) (by show 0 ≤ _; omega) (by show 0 ≤ _; omega) rfl
  have hup' : (Instr.mapUpdate 80 (.map (some B)) (.int .i64 (s : Int)) (.string ⟨#[]⟩)).run Try.prog (W0.alloc (.map #[] 0)) = .ok () W2 := hup
  have hk0 : W0.heap[w.heap.size]? = some (kcells n a b) := by rw [← hW0]; exact heap_alloc_new w _
  have hS0 : WSt n a b w (W2.alloc (.cells #[intV s] 3)) B (B + 1) (.slice (some ⟨W2.heap.size, 0, none⟩) 1 1) [(s, [])] 0 := by
    have hsz : B + 1 ≤ W2.heap.size := by have := hg2.size; simp at this; omega
    have hb2 : Below w.heap.size w W2 := ((by rw [← hW0]; exact (Below.refl _ w).alloc (Nat.le_refl _) _ : Below w.heap.size w W0).alloc (by omega) (.map #[] 0)).grown hg2 (by simp; omega) (fun j hj => by cases hj; omega)
    refine ⟨QueAt.one W2 (B + 1) 3 (intV s) hsz, ?_, ?_, hb2.alloc hb2.size _, by simp; omega, by omega, by omega⟩
    · exact hF.kept (row := none) (World.grownBy_alloc _ _ _) (by simp)
    · refine (Below.heap_alloc W2 _ w.heap.size (by omega)).trans ?_
      refine (hg2.block _ (by simp; omega) (by simp; omega)).trans ?_
      exact (Below.heap_alloc W0 _ w.heap.size (by omega)).trans hk0
  have HS0 := Lib.hid hS0
  have HW0 := Lib.hid hW0
  have HB := Lib.hid hB
  have HI0 := Lib.hid (BInv.start (a := a) (b := b) hs (bsN cs))
  have HSt := Lib.hid (fun t c ht hc => step_any n a b t c hk ht hc)
  have HSL := Lib.hid (fun t c (ht : t < 2 * n) => step_lt hk t c ht)
  have HL := Lib.hid hl
  have HIA : Hid (∀ (L : St) (i : Nat) (p : Nat × List Nat) (c : Nat), BInv n a b s (bsN cs) L → L[i]? = some p → c ∈ bsN cs → BInv n a b s (bsN cs) (addL n a b p L c)) := Lib.hid (fun L i p c h hp hc => h.add hk hp hc)
  have HIV : Hid (∀ (L : St) (i : Nat) (p : Nat × List Nat) (ds : List Nat), BInv n a b s (bsN cs) L → L[i]? = some p → (∀ c ∈ ds, c ∈ bsN cs) → BInv n a b s (bsN cs) (visit n a b ds p L)) := Lib.hid (fun L i p ds h hp hd => (BInv.visit hk ds h hp hd).1)
  clear hup hW0 hB hB0 hS0 hF hg2 hk0 hl
  go_enter Try.func58, Try.ntmps58
  go_wp2_with fail
  rw [HW0.out, HB.out, hup']
  go_wp2
  go_loopw [8] (fun v wr => ∃ (L : St) (i f : Nat), bfsGo n a b (bsN cs) f L i = bfs n a b s (bsN cs) ∧ BInv n a b s (bsN cs) L ∧ i ≤ L.length ∧ f + i = 2 * n ∧ WSt n a b w wr B (B + 1) v L i) (fun v wr => (2 * n - mapSize wr B) + lenV v)
  case atStart => exact ⟨[(s, [])], 0, 2 * n, rfl, HI0.out, Nat.zero_le _, rfl, HS0.out⟩
  case round =>
    obtain ⟨L, i, f, hgo, hinv, hil, hf, hst⟩ := hrel
    have hms := hst.f.mapSize
    have hL := hinv.size
    by_cases hlt : i < L.length
    · obtain ⟨p, hp⟩ : ∃ p, L[i]? = some p := ⟨_, List.getElem?_eq_getElem hlt⟩
      obtain ⟨f', rfl⟩ : ∃ f', f = f' + 1 := ⟨f - 1, by omega⟩
      rw [bfsGo_step n a b (bsN cs) f' L i p hp] at hgo
      have hpm := List.mem_of_getElem? hp
      have hplt := hinv.lt p hpm
      have hplen := hinv.len i p hp
      have hq := hst.q
      obtain ⟨g, o, cap, cur, rfl, q1, q2, q3⟩ := id hq
      rw [drop_cons hp] at hq
      obtain ⟨q4, q5, q6, q7⟩ := hq.head
      have hg1 : g < wr.heap.size := (Array.getElem?_eq_some_iff.1 q2).1
      have hlen3 : (0 : Int) < (((L.map Prod.fst).drop i).map intV).length := by rw [drop_cons hp]; simp
      have hcap : (0 : Nat) < cap := by rw [List.length_cons] at q5; omega
      have hNl : (((L.map Prod.fst).drop i).map intV).length = L.length - i := by simp
      generalize (((L.map Prod.fst).drop i).map intV).length = N at *
      have hq6 : wr.cell? ⟨g, o, none⟩ = some (.int .i64 (p.1 : Nat)) := q6
      have hsmall : i + 1 < 2 ^ 20 := by omega
      obtain ⟨W1, hW1⟩ : ∃ W1, wr.iter cs 0 = W1 := ⟨_, rfl⟩
      obtain ⟨H, hH⟩ : ∃ H, wr.heap.size = H := ⟨_, rfl⟩
      have hit0 : W1.heap[H]? = some (.stringIter cs 0) := by rw [← hW1, ← hH]; exact iter_start wr cs
      have hst1 : WSt n a b w W1 B (B + 1) (.slice (some ⟨g, o, none⟩) N cap) L i := hst.later (by rw [← hW1]; exact (Below.refl _ wr).alloc (Nat.le_refl _) _)
      have HST1 := Lib.hid hst1
      have HHlo : B + 1 ≤ H := by rw [← hH]; exact hst.hlo
      have HW1 := Lib.hid hW1
      have HH := Lib.hid hH
      have HGO := Lib.hid hgo
      have HMS := Lib.hid hms
      have HNL := Lib.hid hNl
      have hNp : 0 < N := by omega
      clear hlen3
      have HINV := Lib.hid hinv
      have hgH : g ≠ H := by omega
      clear hst hst1 hgo hinv hq q2 q3 q6 q7 hW1 hH hms hNl
      go_wp2_with fail
      rw [HW1.out, HH.out]
      go_loopw [8] (fun u wq => ∃ pos : Nat, pos ≤ cs.size ∧ wq.heap[H]? = some (.stringIter cs pos) ∧ u.ownBlock ≠ some H ∧ WSt n a b w wq B (B + 1) u (visit n a b ((bsN cs).take pos) p L) i) (fun _ wq => cs.size - wq.iterPos H)
      case atStart => exact ⟨0, Nat.zero_le _, hit0, by simp [Value.ownBlock]; omega, by rw [List.take_zero]; exact HST1.out⟩
      case round =>
        obtain ⟨pos, hps, hit, hown, hst⟩ := hrel
        have hpos : wr.iterPos H = pos := by simp [World.iterPos, hit]
        have hinv2 := HIV.out L i p ((bsN cs).take pos) HINV.out hp (fun c hc => List.mem_of_mem_take hc)
        have hpre := visit_prefix n a b p ((bsN cs).take pos) L
        have hp2 := get_mono hpre hp
        have hm2 := List.mem_of_getElem? hp2
        have hlook := lookL_of_mem hinv2.nodup hm2
        have hL2 := hinv2.size
        have hi2 := (List.getElem?_eq_some_iff.1 hp2).1
        clear hit0
        by_cases hlt2 : pos < cs.size
        · obtain ⟨r1, r2⟩ := rune_let cs pos hlt2
          have HM : (cs[pos]'hlt2).toNat ∈ bsN cs := by rw [← bsN_getElem cs pos hlt2]; exact List.getElem_mem _
          have hle := List.all_eq_true.1 HL.out _ HM
          have r3 := r2 hle
          have h256 := bsN_lt cs _ HM
          have HT : visit n a b ((bsN cs).take (pos + 1)) p L = addL n a b p (visit n a b ((bsN cs).take pos) p L) (cs[pos]'hlt2).toNat := by rw [bsN_take cs pos hlt2, visit_snoc]
          have hinv3 := HIA.out _ i p _ hinv2 hp2 HM
          obtain ⟨W2', hW2⟩ : ∃ W2', wr.iterAt H cs (pos + 1) = W2' := ⟨_, rfl⟩
          have hnx : ∀ ty, (Instr.next (.pointer (some ⟨H, 0, none⟩)) true ty).run Try.prog wr = .ok (.tuple #[.bool true, .int .i64 pos, .int .i32 (cs[pos]'hlt2).toNat]) W2' := fun ty => by
            have := run_next_any_at (P := Try.prog) wr H cs pos ty hit hlt2
            rw [r3, hW2] at this
            exact this
          have hst2 : WSt n a b w W2' B (B + 1) _ _ i := hst.turn (by rw [← hW2]; exact iterAt_grown wr H cs (pos + 1)) HHlo hown
          have hit2 : W2'.heap[H]? = some (.stringIter cs (pos + 1)) := by rw [← hW2]; exact iterAt_heap wr H cs pos _ hit
          have HIT2 := Lib.hid hit2
          have HST2 := Lib.hid hst2
          obtain ⟨c0, c1, c2⟩ := hst2.c0
          have HSp := Lib.hid (HSt.out p.1 (cs[pos]'hlt2).toNat hplt (by omega))
          have HConv := Lib.hid (conv_let _ hle)
          have htl := HSL.out p.1 (cs[pos]'hlt2).toNat hplt
          have HT' := Lib.hid HT
          have HI3 := Lib.hid hinv3
          have HI2 := Lib.hid hinv2
          have hlk := hlook
          have HLK := Lib.hid hlook
          clear hW2 hit2 hst2 r1 r2 r3 HM hle h256 HT hinv3 hinv2 hlk hlook hit hpre hm2
          generalize (cs[pos]'hlt2).toNat = rr at hnx HSp HT' HI3 HConv htl
          generalize hLL : visit n a b ((bsN cs).take pos) p L = L2 at *
          clear hLL
          generalize htt : stepN n a b p.1 rr = tt at *
          have HTT := Lib.hid htt
          clear htt
          go_wp2_with fail
          refine (HSp.out _).mono ?_
          rintro e w3 ⟨rfl, b3⟩
          have hst3 := HST2.out.later b3
          have hit3 : w3.heap[H]? = some (.stringIter cs (pos + 1)) := (b3.block H (Array.getElem?_eq_some_iff.1 HIT2.out).1).trans HIT2.out
          obtain ⟨lk1, lk1'⟩ := hst3.f.look HI2.out.nodup (t := tt) (by omega)
          obtain ⟨_, lk2⟩ := hst3.f.look HI2.out.nodup (t := p.1) (by omega)
          rw [HLK.out] at lk2
          have hH3 : H < w3.heap.size := (Array.getElem?_eq_some_iff.1 hit3).1
          have hp3 : w3.iterPos H = pos + 1 := by simp [World.iterPos, hit3]
          have HS3 := Lib.hid hst3
          have HIT3 := Lib.hid hit3
          cases hkk : hasK L2 tt
          · rw [hkk] at lk1
            obtain ⟨w4, v', w5, hup4, hap5, hst5, hH5⟩ := hst3.push (by omega) (by omega) (tt, p.2 ++ [rr]) (by show tt < _; omega) (by rw [List.length_append, List.length_singleton]; omega) hkk 40
            obtain ⟨e5, o5⟩ := hH5 H HHlo hH3 hown
            have hp5 : w5.iterPos H = pos + 1 := by simp [World.iterPos, e5, hit3]
            have HT5 := Lib.hid (show addL n a b p L2 rr = L2 ++ [(tt, p.2 ++ [rr])] by unfold addL; rw [HTT.out, hkk]; rfl)
            have HE5 := Lib.hid (e5.trans hit3)
            have HO5 := Lib.hid o5
            have HS5 := Lib.hid hst5
            have hcv := HConv.out w3
            have hz1 : (strOf p.2).size ≤ 1000 := by rw [strOf_size]; omega
            have hz2 : (strOf [rr]).size = 1 := strOf_size _
            rw [strOf_append] at hup4
            simp only [Option.getD_some] at lk2
            clear hst3 hit3 hH5 hkk e5 o5 hst5 hst
            go_wp2_with (first | (at_builtin; refine Lib.wpList_append_run _ rfl _ _ _ _ rfl _ _ rfl rfl _ _ hap5 ?_) | fail)
            refine ⟨?_, by omega⟩
            exact ⟨pos + 1, by omega, HE5.out, HO5.out, by rw [HT'.out, HT5.out]; exact HS5.out⟩
          · rw [hkk] at lk1
            have HT5 := Lib.hid (show addL n a b p L2 rr = L2 by unfold addL; rw [HTT.out, hkk]; rfl)
            clear hst3 hit3 hkk hst
            go_wp2
            refine ⟨?_, by omega⟩
            exact ⟨pos + 1, by omega, HIT3.out, hown, by rw [HT'.out, HT5.out]; exact HS3.out⟩
        · have hnx : ∀ ty, (Instr.next (.pointer (some ⟨H, 0, none⟩)) true ty).run Try.prog wr = .ok (.tuple #[.bool false]) wr := fun ty => run_next_end_at wr H cs pos ty hit hlt2
          have hall : (bsN cs).take pos = bsN cs := List.take_of_length_le (by rw [bsN_length]; omega)
          rw [hall] at hinv2 hp2 hst hi2 hL2
          have HV := Lib.hid hinv2
          have hms2 := hst.f.mapSize
          have hq := hst.q
          obtain ⟨g2, o2, cap2, cur2, rfl, -, -, -⟩ := id hq
          have hnl2 : (((visit n a b (bsN cs) p L).map Prod.fst).drop i |>.map intV).length = (visit n a b (bsN cs) p L).length - i := by simp
          rw [drop_cons hp2] at hq
          obtain ⟨q4', q5', q6', q7'⟩ := hq.head
          generalize hLL : visit n a b (bsN cs) p L = L2 at *
          have hn1 : ((List.drop (i + 1) (List.map Prod.fst L2)).map intV).length = L2.length - (i + 1) := by simp
          have HST' : Hid (WSt n a b w wr B (B + 1) (.slice (if cap2 = 1 then some ⟨g2, o2, none⟩ else some ⟨g2, o2 + 1, none⟩) (L2.length - i - 1) (cap2 - 1)) L2 (i + 1)) := Lib.hid (by
            have hnn : L2.length - i - 1 = L2.length - (i + 1) := by omega
            refine ⟨?_, hst.f, hst.k, hst.below, hst.hlo, hst.B1, hst.B2⟩
            rw [hnn, ← hn1]
            by_cases hc1 : cap2 = 1
            · rw [if_pos hc1]
              obtain ⟨g', o', cap', cur', hv, r1, r2, r3, r4, r5, r6⟩ := q7'
              simp only [Value.slice.injEq, Option.some.injEq, Addr.mk.injEq, and_true] at hv
              obtain ⟨⟨rfl, rfl⟩, -, rfl⟩ := hv
              have hl0 : ((List.drop (i + 1) (List.map Prod.fst L2)).map intV).length = 0 := by omega
              have hnil := List.eq_nil_of_length_eq_zero hl0
              rw [hnil]
              exact ⟨g2, o2, cap2 - 1, cur', rfl, r1, r2, by simp, r4, by omega, rfl⟩
            · rw [if_neg hc1]; exact q7')
          generalize ((List.drop i (List.map Prod.fst L2)).map intV).length = N2 at *
          have hc2 : 1 ≤ cap2 := by rw [List.length_cons] at q5'; omega
          have hn2 : 1 ≤ N2 := by omega
          have HMS2 := Lib.hid hms2
          clear hms2 hq q4' q5' q6' q7' hn1 hst hinv2 hit hall hpre hm2 hlook hp2 hLL
          go_wp2
          have HE : L2.length ≤ 2 * n := hL2
          refine ⟨⟨L2, i + 1, f', HGO.out, HV.out, by omega, by omega, HST'.out⟩, ?_⟩
          show 2 * n - mapSize wr B + (L2.length - i - 1) < 2 * n - mapSize _ B + N
          rw [HMS2.out, HMS.out, HNL.out]
          omega
    · have hil' : L.length ≤ i := by omega
      have hgo' : L = bfs n a b s (bsN cs) := by rw [← hgo, bfsGo_end _ _ _ _ _ _ _ hil']
      have hq := hst.q
      have hnil : (((L.map Prod.fst).drop i).map intV) = [] := by rw [List.drop_of_length_le (by simpa using hil')]; rfl
      rw [hnil] at hq
      obtain ⟨g, o, cap, cur, rfl, -, -, -⟩ := id hq
      have HF := Lib.hid (show Found wr B (bfs n a b s (bsN cs)) by rw [← hgo']; exact hst.f)
      have HBl := Lib.hid hst.below
      have HB1 := Lib.hid hst.B1
      clear hgo hgo' hst hq hnil hms
      go_wp2
      go_ret
      exact ⟨B, rfl, Nat.le_of_lt HB1.out, HF.out, HBl.out⟩
end Go.Proofs.Ytibkhjbcagihbaa

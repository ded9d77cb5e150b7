/-
  strings.Builder at this program: the look at its own address; a string written.
-/
import Derived.Test.YtkpmkeklopfhdaaEdIsEdit
import Derived.Test.YtkpmkeklopfhdaaShelf
import Derived.Lib.Builder
import Derived.Lib.AppendStr
import Derived.Shelf.Strings.Builder1
import Derived.Test.YtkpmkeklopfhdaaEdStr
namespace Go.Proofs.Ytkpmkeklopfhdaa

section
open Go.ChangeShapes Go.WideShapes Go.ChangeAt Go.RowKit
set_option linter.unusedVariables false
set_option maxRecDepth 100000

abbrev BuB := Lib.BuilderAt 141 5
theorem infoBu : (Try.prog.info? 141).map (·.size) = some 2 := by kernel_rfl
theorem infoU8 : (Try.prog.info? 5).map (fun i => (i.zero, i.size, i.bytes)) = some (some (.int .u8 0), 1, 1) := by kernel_rfl
theorem liesBu : liesAt Try.prog Try.prog.depth 141 (2 / Try.prog.cellsOf 141) 0 141 1 = true := by kernel_rfl

theorem copyCheck_used (b : Nat) (w : World) (h0 : w.cell? ⟨b, 0, none⟩ = some (.pointer (some ⟨b, 0, none⟩))) :
    Calls Try.prog 110 #[.pointer (some ⟨b, 0, none⟩)] w fun e w' => e = .returned (.tuple #[]) ∧ w' = w := by
  obtain ⟨j, hj, _⟩ := Option.map_eq_some_iff.1 infoBu
  go_enter Try.func110, Try.ntmps110
  go_wp2
  rw [Lib.run_neq_ptr_same w _ Try.underlying139 hj]
  go_wp2
  go_end0
  exact ⟨rfl, rfl⟩

theorem copyCheck_fresh (b : Nat) (w : World) (h0 : w.cell? ⟨b, 0, none⟩ = some (.pointer none)) (hsh : w.shape? b = some (141, 2)) (hfz : w.frozen? ⟨b, 0, none⟩ = false) :
    Calls Try.prog 110 #[.pointer (some ⟨b, 0, none⟩)] w fun e w' => e = .returned (.tuple #[]) ∧ w' = w.setCell ⟨b, 0, none⟩ (.pointer (some ⟨b, 0, none⟩)) := by
  obtain ⟨j, hj, hjs⟩ := Option.map_eq_some_iff.1 infoBu
  go_enter Try.func110, Try.ntmps110
  go_wp2
  rw [Lib.run_to_unsafe w ⟨b, 0, none⟩ Try.underlying139 Try.underlying167 hj (by rw [hjs]; decide) hsh (Nat.zero_lt_succ 1)]
  simp only [Result.andThen]
  rw [Oper.upon_value]
  go_wp2
  rw [run_callFunc_extern Try.func122 (by kernel_rfl) (by kernel_rfl) (by kernel_rfl) (e := Extern.AbiNoEscape.same) (by kernel_rfl)]
  rw [Lib.run_noEscape]
  simp only [Result.andThen]
  rw [Oper.upon_value]
  go_wp2
  rw [Lib.run_from_unsafe w ⟨b, 0, none⟩ Try.underlying167 Try.underlying139 hj hsh liesBu]
  simp only [Result.andThen]
  rw [Oper.upon_value]
  go_wp2
  go_end0
  exact ⟨rfl, rfl⟩

theorem copyCheck_any (B b : Nat) (bs : List Value) (w : World) (h : Lib.IsBuilder 141 5 B b bs w) :
    Calls Try.prog 110 #[.pointer (some ⟨b, 0, none⟩)] w fun e w' => e = .returned (.tuple #[]) ∧ BuB B b (.pointer (some ⟨b, 0, none⟩)) bs w' ∧ Below B w w' := by
  rcases h with h | h
  · refine (copyCheck_fresh b w h.cell0 h.shape h.frozen0).mono ?_
    rintro e w' ⟨rfl, rfl⟩
    exact ⟨rfl, h.used _, (Below.refl B w).setCell (p := ⟨b, 0, none⟩) h.1 _⟩
  · refine (copyCheck_used b w h.cell0).mono ?_
    rintro e w' ⟨rfl, rfl⟩
    exact ⟨rfl, h, Below.refl B _⟩

set_option maxHeartbeats 2000000 in
theorem WriteString_any (B b : Nat) (bs : List Value) (s : ByteArray) (w : World) (h : Lib.IsBuilder 141 5 B b bs w) (hlen : bs.length + s.size ≤ 1048576) (hBw : B ≤ w.heap.size) :
    Calls Try.prog 94 #[.pointer (some ⟨b, 0, none⟩), .string s] w fun e w' => e = .returned (.tuple #[.int .i64 s.size, .nilIface]) ∧ BuB B b (.pointer (some ⟨b, 0, none⟩)) (bs ++ Lib.strCells s) w' ∧ Below B w w' := by
  obtain ⟨i0, hi, hz0, hz1, hz2⟩ := info_parts infoU8
  have HC := Lib.hid (copyCheck_any B b bs w h)
  clear h
  go_enter Try.func94, Try.ntmps94
  go_wp2_with fail
  refine HC.out.mono ?_
  rintro e w1 ⟨rfl, h1, hb1⟩
  obtain ⟨hB, v, hbk, hown, hne⟩ := h1
  have c0 : w1.cell? ⟨b, 0, none⟩ = some (.pointer (some ⟨b, 0, none⟩)) := by rw [Lib.cell_of_heap hbk]; rfl
  have c1 : w1.cell? ⟨b, 1, none⟩ = some v := by rw [Lib.cell_of_heap hbk]; rfl
  have hlt : b < w1.heap.size := (Array.getElem?_eq_some_iff.1 hbk).1
  go_wp2_with (at_builtin; refine Lib.wpList_append_own_string _ rfl _ _ 99 9 rfl B 5 i0 Try.underlying99 Try.underlying9 hi hz0 hz1 hz2 _ _ _ rfl hown s rfl ?c3 ?c4 ?c5 ?_)
  case c3 => unfold maxLen; omega
  case c4 => omega
  case c5 => have := hb1.size; omega
  intro v' w2 hown' hgrow _
  have hb2 : w2.heap[b]? = some (.cells #[.pointer (some ⟨b, 0, none⟩), v] 141 (0, 0)) := (hgrow.block b hlt (fun e => hne e.symm)).trans hbk
  have d0 : w2.cell? ⟨b, 0, none⟩ = some (.pointer (some ⟨b, 0, none⟩)) := by rw [Lib.cell_of_heap hb2]; rfl
  have d1 : w2.cell? ⟨b, 1, none⟩ = some v := by rw [Lib.cell_of_heap hb2]; rfl
  have f1 : w2.frozen? ⟨b, 1, none⟩ = false := Lib.frozen_of_heap hb2 1
  obtain ⟨ao, n', cap, rfl⟩ : ∃ ao n' cap, v' = .slice ao n' cap := by
    rcases hown'.2 with ⟨hv, _⟩ | ⟨g, cap, cur, hv, _⟩
    · exact ⟨_, _, _, hv⟩
    · exact ⟨_, _, _, hv⟩
  go_wp2
  go_ret2
  refine ⟨rfl, ?_, ?_⟩
  · exact Lib.BuilderAt.put (T := 141) (e := 5) hB hb2 (bs' := bs ++ Lib.strCells s) (by simpa [Lib.strCells_length] using hown') (by decide)
  · exact (hb1.grown hgrow (by have := hb1.size; omega) (fun k hk => (hown.lt k hk).1)).setCell (p := ⟨b, 1, none⟩) hB _
end

section
/-
  run: a slice of edits done on a line.
-/
open Go.ChangeShapes Go.WideShapes Go.ChangeAt Go.RowKit
set_option linter.unusedVariables false
set_option maxRecDepth 100000

/-- An edit done at the front of a line: what comes, what is left, whether it can be done. -/
def doneV (e : Int × Int) (s : ByteArray) : ByteArray × ByteArray × Bool := doneC e.1.toNat e.2 s
theorem editP_kind {e : Int × Int} (h : editP e = true) : e.1 = 0 ∨ e.1 = 1 ∨ e.1 = 2 ∨ e.1 = 3 := by
  unfold editP editB at h
  rw [Bool.and_eq_true, Bool.and_eq_true] at h
  have h1 := of_decide_eq_true h.1
  have h2 := of_decide_eq_true h.2.1
  omega
theorem done_edit (e : Int × Int) (he : editP e = true) (s : ByteArray) (w : World) :
    Calls Try.prog 93 #[.agg #[.int .i64 e.1, .int .i64 e.2], .string s] w fun r w' => r = .returned (.tuple #[.string (doneV e s).1, .string (doneV e s).2.1, .bool (doneV e s).2.2]) ∧ Below w.heap.size w w' := by
  obtain ⟨k, b⟩ := e
  have hk := editP_kind he
  unfold doneV
  simp only at hk ⊢
  rcases hk with rfl | rfl | rfl | rfl
  · by_cases hs : s.size = 0
    · exact done0_bad b s hs w
    · exact done0_ok b s hs w
  · by_cases hs : s.size = 0
    · exact done1_bad b s hs w
    · exact done1_ok b s hs w
  · by_cases hs : s.size = 0
    · exact done2_bad b s hs w
    · exact done2_ok b s hs w
  · exact done3_ok b s w
theorem doneV_size (e : Int × Int) (s : ByteArray) : (doneV e s).1.size ≤ 1 := by
  have h0 : noS.size = 0 := rfl
  unfold doneV doneC
  (repeat' split) <;> simp [one_size] <;> omega

/-- Edits done on a line: what is left, what came. -/
def runL : List (Int × Int) → ByteArray → List UInt8 → Option (ByteArray × List UInt8)
  | [], s, c => some (s, c)
  | e :: t, s, c => if (doneV e s).2.2 = true then runL t (doneV e s).2.1 (c ++ (doneV e s).1.data.toList) else none
theorem runL_append : ∀ (l m : List (Int × Int)) (s : ByteArray) (c : List UInt8), runL (l ++ m) s c = (runL l s c).bind fun x => runL m x.1 x.2
  | [], m, s, c => rfl
  | e :: l, m, s, c => by
    simp only [List.cons_append, runL]
    split
    · exact runL_append l m _ _
    · rfl
theorem runL_take {es : List (Int × Int)} {k : Nat} (hk : k < es.length) {s s' : ByteArray} {c c' : List UInt8} (h : runL (es.take k) s c = some (s', c')) :
    runL (es.take (k + 1)) s c = if (doneV es[k] s').2.2 = true then some ((doneV es[k] s').2.1, c' ++ (doneV es[k] s').1.data.toList) else none := by
  rw [List.take_succ_eq_append_getElem hk, runL_append, h]
  simp only [Option.bind_some, runL]
theorem runL_fail {es : List (Int × Int)} {k : Nat} {s : ByteArray} {c : List UInt8} (h : runL (es.take k) s c = none) : runL es s c = none := by
  have e : es = es.take k ++ es.drop k := (List.take_append_drop k es).symm
  rw [e, runL_append, h]; rfl
/-- What run gives. -/
def runR (es : List (Int × Int)) (line : ByteArray) : ByteArray × Bool :=
  if es.all editP = true then (match runL es line [] with | some (s, c) => (⟨c.toArray⟩, decide (s.size = 0)) | none => (noS, false)) else (noS, false)
theorem runR_bad {es : List (Int × Int)} {line : ByteArray} (h : es.all editP = false) : runR es line = (noS, false) := by unfold runR; rw [h]; rfl
theorem runR_none {es : List (Int × Int)} {line : ByteArray} (h : es.all editP = true) (h2 : runL es line [] = none) : runR es line = (noS, false) := by unfold runR; rw [h, h2]; rfl
theorem runR_some {es : List (Int × Int)} {line s : ByteArray} {c : List UInt8} (h : es.all editP = true) (h2 : runL es line [] = some (s, c)) : runR es line = (⟨c.toArray⟩, decide (s.size = 0)) := by unfold runR; rw [h, h2]; rfl
theorem empty_str (s : ByteArray) : s.toList.isEmpty = decide (s.size = 0) := by
  rw [toList_go]
  have : s.data.toList.length = s.size := by simp
  cases h : s.data.toList with
  | nil => rw [h] at this; simp at this; rw [decide_eq_true (by omega)]; rfl
  | cons x l => rw [h] at this; simp at this; rw [decide_eq_false (by omega)]; rfl

theorem isB_later {B b : Nat} {bs : List Value} {W W' : World} (h : Lib.IsBuilder 141 5 B b bs W) (hb : Below W.heap.size W W') : Lib.IsBuilder 141 5 B b bs W' := by
  have k : ∀ p, Lib.BuilderAt 141 5 B b p bs W → Lib.BuilderAt 141 5 B b p bs W' := fun p ⟨h1, v, h2, h3, h4⟩ =>
    ⟨h1, v, (hb.block b (Array.getElem?_eq_some_iff.1 h2).1).trans h2, owns_later h3 hb, h4⟩
  rcases h with h | h
  · exact Or.inl (k _ h)
  · exact Or.inr (k _ h)
theorem isB_new (W : World) : Lib.IsBuilder 141 5 W.heap.size W.heap.size (Lib.byteCells []) (W.alloc (.cells #[.pointer none, .slice none 0 0] 141)) :=
  Or.inl ⟨Nat.le_refl _, _, World.alloc_heap_new W _, World.ownsRow_nil _ _ _ _, by simp [Value.ownBlock]⟩
theorem byte_more (c : List UInt8) (s : ByteArray) : Lib.byteCells c ++ Lib.strCells s = Lib.byteCells (c ++ s.data.toList) := by simp [Lib.byteCells, Lib.strCells]

set_option maxHeartbeats 4000000 in
theorem run_any (line : ByteArray) (es : List (Int × Int)) (hl : es.length ≤ 4096) (v : Value) (w : World) (hv : EdsV w v es) :
    Calls Try.prog 69 #[.string line, v] w fun e w' => e = .returned (.tuple #[.string (runR es line).1, .bool (runR es line).2]) ∧ Below w.heap.size w w' := by
  have HA := Lib.hid (fun W hV => all_edit es (by unfold maxLen; omega) v W hV)
  have HV := Lib.hid hv
  cases hall : es.all editP
  · have HR := Lib.hid (runR_bad (line := line) hall)
    rw [hall] at HA
    obtain ⟨ao, cap, rfl, hlc, hd⟩ := hv
    clear hd hall
    go_enter Try.func69, Try.ntmps69
    go_wp2_with fail
    refine (HA.out _ HV.out).mono ?_
    rintro e w1 ⟨rfl, b1⟩
    go_wp2
    go_ret2
    exact ⟨by rw [HR.out]; rfl, b1⟩
  · rw [hall] at HA
    have HALL := Lib.hid hall
    obtain ⟨ao, cap, rfl, hlc, hd⟩ := hv
    have HD := Lib.hid hd
    clear hd hall
    go_enter Try.func69, Try.ntmps69
    go_wp2_with fail
    refine (HA.out _ HV.out).mono ?_
    rintro e w1 ⟨rfl, b1⟩
    have B1 := Lib.hid b1
    have hBn := Lib.hid (isB_new w1)
    have hb0 := Lib.hid (show Below w1.heap.size w1 (w1.alloc (.cells #[.pointer none, .slice none 0 0] 141)) from (Below.refl _ w1).alloc (Nat.le_refl _) _)
    clear b1
    go_wp2_with fail
    go_loopw [0, 8, 9, 10, 11, 17] (fun lv _ _ _ _ i wr => ∃ (k : Nat) (s : ByteArray) (c : List UInt8), k ≤ es.length ∧ i = .int .i64 k ∧ lv = .string s ∧ runL (es.take k) line [] = some (s, c) ∧ c.length ≤ k ∧ Lib.IsBuilder 141 5 w1.heap.size w1.heap.size (Lib.byteCells c) wr ∧ Below w1.heap.size w1 wr) (fun _ _ _ _ _ i _ => es.length - (intOf i).toNat)
    case atStart => exact ⟨0, line, [], Nat.zero_le _, rfl, rfl, rfl, Nat.le_refl _, hBn.out, hb0.out⟩
    case round =>
      obtain ⟨k, s, c, hk, rfl, rfl, hr, hc, hIB, hB⟩ := hrel
      have HIB := Lib.hid hIB
      have HBr := Lib.hid hB
      have HRk := Lib.hid hr
      have hsz : w1.heap.size ≤ wr.heap.size := hB.size
      clear hIB hr hB
      by_cases hlk : k < es.length
      · obtain ⟨b, off, rfl, hdd⟩ := HD.out (by omega)
        have ck := (hdd k hlk).1
        have ck2 := (hdd k hlk).2
        have hge : es[k]?.getD (0, 0) = es[k] := by rw [List.getElem?_eq_getElem hlk]; rfl
        rw [hge] at ck ck2
        have hbw : Below w.heap.size w wr := B1.out.trans (HBr.out.mono B1.out.size)
        replace ck := cell_later hbw ck
        replace ck2 := cell_later hbw ck2
        have HE := Lib.hid (List.all_eq_true.1 HALL.out _ (List.getElem_mem hlk))
        have HT := Lib.hid (runL_take hlk HRk.out)
        have HDn := Lib.hid (fun W => done_edit es[k] HE.out s W)
        have hds := doneV_size es[k] s
        clear hge hdd hbw
        generalize hx : es[k] = x at ck ck2 HT HDn hds
        have HX := Lib.hid hx
        clear hx
        obtain ⟨x1, x2⟩ := x
        generalize doneV (x1, x2) s = r at HT HDn hds
        obtain ⟨r1, r2, r3⟩ := r
        simp only [] at HT HDn hds
        go_wp2_with fail
        refine (HDn.out _).mono ?_
        rintro e w2 ⟨rfl, b2⟩
        have hB2 := below_nx ((Below.refl _ wr).alloc (Nat.le_refl _) (.cells #[.int .i64 x1, .int .i64 x2] 77)) b2
        have HIB2 := Lib.hid (isB_later HIB.out hB2)
        have HBr2 := Lib.hid (HBr.out.trans (hB2.mono hsz))
        clear hB2 b2
        cases r3
        · have HRR := Lib.hid (runR_none HALL.out (runL_fail (HT.out.trans rfl)))
          clear HT
          go_wp2
          go_ret2
          exact ⟨by rw [HRR.out]; rfl, B1.out.trans (HBr2.out.mono B1.out.size)⟩
        · have HWr := Lib.hid (WriteString_any w1.heap.size w1.heap.size (Lib.byteCells c) r1 w2 HIB2.out (by simp [Lib.byteCells]; omega) HBr2.out.size)
          have HT2 := Lib.hid (HT.out.trans rfl : runL (es.take (k + 1)) line [] = some (r2, c ++ r1.data.toList))
          have hlen : (c ++ r1.data.toList).length ≤ k + 1 := by
            have : r1.data.toList.length = r1.size := by simp
            rw [List.length_append]; omega
          clear HT
          go_wp2_with fail
          refine HWr.out.mono ?_
          rintro e w3 ⟨rfl, h3, b3⟩
          have H3 := Lib.hid h3
          have B3 := Lib.hid (HBr2.out.trans b3)
          clear h3 b3
          go_wp2
          go_roundw
          case rel => exact ⟨k + 1, r2, c ++ r1.data.toList, hlk, by go_num, rfl, HT2.out, hlen, Or.inr (by rw [← byte_more]; exact H3.out), B3.out⟩
          case measure => simp only [intOf]; omega
      · obtain rfl : k = es.length := by omega
        have HS := Lib.hid (Try.Builder_String_any w1.heap.size w1.heap.size c wr HIB.out hsz)
        have HRR := Lib.hid (runR_some HALL.out (by have h := HRk.out; rwa [List.take_length] at h))
        have HEm := Lib.hid (empty_str s)
        go_wp2_with fail
        refine HS.out.mono ?_
        rintro e w3 ⟨rfl, b3⟩
        have B3 := Lib.hid (HBr.out.trans b3)
        clear b3
        go_wp2
        go_ret2
        exact ⟨by rw [HRR.out, ← HEm.out]; rfl, B1.out.trans (B3.out.mono B1.out.size)⟩
end

end Go.Proofs.Ytkpmkeklopfhdaa

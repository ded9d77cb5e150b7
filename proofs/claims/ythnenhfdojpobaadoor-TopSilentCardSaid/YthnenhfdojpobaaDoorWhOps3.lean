/-
  The wheel with a spectrum; the power; the wheel of a chord; where a wheel has nothing.
-/
import Derived.Test.YthnenhfdojpobaaDoorWhOps2
namespace Go.Proofs.YthnenhfdojpobaaDoor
open Go.ChangeShapes Go.WideShapes Go.ChangeAt Go.RowKit
set_option maxRecDepth 100000

/-- A wheel that a call gave is kept in a variable. -/
theorem wpList_keepW {ops : Array Oper} {o2 o3 : Oper} {rest : List Oper} {a : Act} {w : World} {Q : Exit → Act → World → Prop} (n : Nat) (f : Nat → Nat) (d1 d2 : Tmp)
    (h2 : o2.op = .alloc 43) (g2 : o2.guard = none) (e2 : o2.dst = some d2)
    (h3 : o3.op = .store 43 (.tmp d2) (.tmp d1)) (g3 : o3.guard = none) (e3 : o3.dst = none)
    (hd1 : ∀ u, (a.put (some d2) u).eval (.tmp d1) = .agg (whC n f).toArray) (hd2 : ∀ u, (a.put (some d2) u).eval (.tmp d2) = u)
    (g : Nat) (hg : w.heap.size = g)
    (h : ∀ W2, W2.heap.size = g + 1 → Row W2 g 43 (whC n f) → Below g w W2 → wpList Tryd.prog ops Q rest (a.put (some d2) (.pointer (some ⟨g, 0, none⟩))) W2) :
    wpList Tryd.prog ops Q (o2 :: o3 :: rest) a w := by
  subst hg
  refine Great.wpList_runTo g2 _ e2 (.pointer (some ⟨w.heap.size, 0, none⟩)) (w.alloc (.cells zeroC 43)) ?_ ?_
  · simp only [execOp, h2, Sem.run_bind, run_alloc_wheel, Result.andThen_ok]
    rfl
  obtain ⟨m1, m2, m3⟩ := made w zeroC (whC n f).toArray 43
  exact wpList_store_rowTo g3 43 (.tmp d2) (.tmp d1) h3 e3 w.heap.size (whC n f).toArray (hd2 _) (hd1 _) 43 zeroC (World.alloc_heap_new w _) (info_whC n f) (by rw [whC_size]; rfl) (whC_one n f) (h _ m1 m2 m3)

/-- In a drawn region an operation reads one value in every world of the class. -/
theorem wpQuiet_read {ops : Array Oper} {S : Type} {fw : S → World} {Q : Act → Prop} {a : Act} {o : Oper} {rest : List Oper} (v : Value) (d : Option Tmp) (hd : o.dst = d) (hw : Region.wanted o (yielded ops a.tmps) = true)
    (ho : ∀ s, (execOp a.eval o).run Tryd.prog (fw s) = .ok (.value v) (fw s)) (h : wpQuiet Tryd.prog ops (fun w' => ∃ s, w' = fw s) Q rest (a.put d v)) : wpQuiet Tryd.prog ops (fun w' => ∃ s, w' = fw s) Q (o :: rest) a := by
  subst hd
  refine BigFrame.wpQuiet_want hw (fun K hK => ⟨v, fun w hw => ?_, hK _ h⟩)
  obtain ⟨s, rfl⟩ := hw
  unfold Oper.quietAt
  rw [ho s]
  exact ⟨rfl, rfl⟩
theorem run_load_wheel {W : World} {b n : Nat} {f : Nat → Nat} (h : Row W b 43 (whC n f)) (o : Oper) (x : Tmp) (ho : o.op = .load 43 (.tmp x)) (a : Act) (hx : a.eval (.tmp x) = .pointer (some ⟨b, 0, none⟩)) :
    (execOp a.eval o).run Tryd.prog W = .ok (.value (whV n f)) W := by
  simp only [execOp, ho, hx, Instr.loadAt, Instr.sureAddr, Sem.run_bind, Sem.run_pure, Result.andThen_ok, run_loadVar_row W b _ 43 (whC n f).toArray (0, 0) _ h Tryd.underlying43 rfl (info_whC n f)]
  rfl

end Go.Proofs.YthnenhfdojpobaaDoor

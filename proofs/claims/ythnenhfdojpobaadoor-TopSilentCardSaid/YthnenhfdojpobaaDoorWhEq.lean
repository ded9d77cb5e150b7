/-
  Two wheels compared.
-/
import Derived.Test.YthnenhfdojpobaaDoorWhFns
import Derived.Laws.StructEq
namespace Go.Proofs.YthnenhfdojpobaaDoor
open Go.ChangeShapes Go.WideShapes Go.ChangeAt Go.RowKit
set_option maxRecDepth 100000

theorem part_int (cs : Array Value) (i : Nat) (a : Int) (h : cs[i]? = some (.int .i64 a)) (w : World) : (part 3 cs i).run Tryd.prog w = .ok (.int .i64 a) w := by
  simp [part, go_sem, h]
theorem arr_loop (d : Nat) (f g : Nat → Nat) (w : World) : ∀ L : List Nat, (∀ x ∈ L, x < 16) →
    (forIn L ((none : Option Bool), ()) (fun i __s => do
              let __do_lift ← part 3 (arC f) (i * 1)
              let __do_lift_1 ← part 3 (arC g) (i * 1)
              let __do_lift ← Op.equalIn (d + 1) 3 __do_lift __do_lift_1
              if (!__do_lift) = true then pure (ForInStep.done (some false, ())) else pure (ForInStep.yield (none, ()))) : Sem (Option Bool × Unit)).run Tryd.prog w = .ok (if L.all (fun x => f x == g x) then (none, ()) else (some false, ())) w := by
  have hI := fun (x y : Int) (w : World) => run_equalIn_int (P := Tryd.prog) w d 3 .i64 .i64 x y Tryd.underlying3
  intro L
  induction L with
  | nil => intro _; simp
  | cons x L ih =>
    intro hL
    have hx := hL x (by simp)
    rw [List.forIn_cons, Sem.run_bind, Sem.run_bind, Nat.mul_one, part_int _ _ _ (arC_at hx f), Result.andThen_ok, Sem.run_bind, part_int _ _ _ (arC_at hx g), Result.andThen_ok, Sem.run_bind, hI, Result.andThen_ok]
    by_cases e : f x = g x
    · have e1 : (((f x : Nat) : Int) == ((g x : Nat) : Int)) = true := by rw [beq_iff_eq, e]
      rw [e1]
      simp only [Bool.not_true, Bool.false_eq_true, if_false, Sem.run_pure, Result.andThen_ok]
      rw [ih (fun y hy => hL y (by simp [hy]))]
      simp [e]
    · have e1 : (((f x : Nat) : Int) == ((g x : Nat) : Int)) = false := by rw [beq_eq_false_iff_ne]; omega
      rw [e1]
      simp [e]

theorem arrEqIn (d : Nat) (f g : Nat → Nat) (w : World) : (Op.equalIn (d + 1 + 1) 41 (.agg (arC f)) (.agg (arC g))).run Tryd.prog w = .ok ((List.range 16).all fun x => f x == g x) w := by
  rw [Op.equalIn]
  simp only [Sem.run_bind, run_underlying Tryd.underlying41, Result.andThen_ok, Tryd.sizeOf3, Std.Legacy.Range.forIn_eq_forIn_range']
  have := arr_loop d f g w (List.range' 0 16 1) (fun x hx => by rw [List.mem_range'] at hx; obtain ⟨i, hi, rfl⟩ := hx; omega)
  have e : List.range' 0 16 1 = List.range 16 := by rfl
  have e2 : ([:16] : Std.Legacy.Range).size = 16 := by rfl
  rw [e] at this
  simp only [e2, e, this, Result.andThen_ok]
  cases h : (List.range 16).all fun x => f x == g x <;> simp

theorem fields_wheel : Tryd.prog.fieldsOf 43 = #[{ name := "in", type := 38, offset := 0, embedded := false, tag := "", pkgPath := "sackbut/wheels", byteOffset := 0 }, { name := "at", type := 41, offset := 3, embedded := false, tag := "", pkgPath := "sackbut/wheels", byteOffset := 24 }] := by kernel_rfl
theorem part_field (n : Nat) (f : Nat → Nat) (w : World) : (part 38 (whC n f).toArray 0).run Tryd.prog w = .ok (fV n (qN n) (wN n)) w := by
  unfold part
  simp only [Sem.run_bind, Tryd.isAgg38, Result.andThen_ok, if_true, Tryd.sizeOf38, Sem.run_pure]
  rfl
theorem part_arr (n : Nat) (f : Nat → Nat) (w : World) : (part 41 (whC n f).toArray 3).run Tryd.prog w = .ok (.agg (arC f)) w := by
  unfold part
  simp only [Sem.run_bind, Tryd.isAgg41, Result.andThen_ok, if_true, Tryd.sizeOf41, Sem.run_pure]
  rfl
theorem fields_field : Tryd.prog.fieldsOf 38 = #[{ name := "n", type := 3, offset := 0, embedded := false, tag := "", pkgPath := "sackbut/wheels", byteOffset := 0 }, { name := "prime", type := 3, offset := 1, embedded := false, tag := "", pkgPath := "sackbut/wheels", byteOffset := 8 }, { name := "root", type := 3, offset := 2, embedded := false, tag := "", pkgPath := "sackbut/wheels", byteOffset := 16 }] := by kernel_rfl
theorem fieldEqIn (d n q r : Nat) (w : World) : (Op.equalIn (d + 1 + 1) 38 (fV n q r) (fV n q r)).run Tryd.prog w = .ok true w := by
  have hI := fun (x y : Int) (w : World) => run_equalIn_int (P := Tryd.prog) w d 3 .i64 .i64 x y Tryd.underlying3
  unfold fV
  rw [run_equalIn_agg w (d + 1) 38 _ _ (by kernel_rfl) (by kernel_rfl), fields_field]
  simp [Op.eqFields, part, go_sem, hI, Tryd.isAgg3]

/-- Two wheels of one circle are the same exactly if all their numbers are. -/
theorem run_eq_wheel (n : Nat) (f g : Nat → Nat) (w : World) : (binOp .eql 43 (whV n f) (whV n g)).run Tryd.prog w = .ok (.bool ((List.range 16).all fun x => f x == g x)) w := by
  unfold whV
  rw [run_eql_struct, show (10000 : Nat) = 9997 + 1 + 1 + 1 from rfl, run_equalIn_agg w (9997 + 1 + 1) 43 _ _ (by kernel_rfl) (by kernel_rfl), fields_wheel]
  have h1 : ("in" ≠ "_") = True := by simp
  have h2 : ("at" ≠ "_") = True := by simp
  simp only [Op.eqFields, h1, h2, if_true, Sem.run_bind, part_field, part_arr, Result.andThen_ok, fieldEqIn, arrEqIn, Bool.not_true, Bool.false_eq_true, if_false]
  cases h : (List.range 16).all fun x => f x == g x <;> simp
theorem guard_wheel : Tryd.prog.eqGuardType Tryd.prog.depth 43 = false := by kernel_rfl
theorem exec_eq (n : Nat) (f g : Nat → Nat) (o : Oper) (x y : Tmp) (ho : o.op = .binOp .eql 43 (.tmp x) (.tmp y) 43) (a : Act) (hx : a.eval (.tmp x) = whV n f) (hy : a.eval (.tmp y) = whV n g) (w : World) :
    (execOp a.eval o).run Tryd.prog w = .ok (.value (.bool ((List.range 16).all fun x => f x == g x))) w := by
  have h1 : (eqGuard .eql 43 (.tmp x) (.tmp y) (whV n f) (whV n g)).run Tryd.prog w = .ok () w := run_eqGuard_agg w .eql 43 _ _ _ _ guard_wheel
  simp only [execOp, ho, hx, hy, Sem.run_bind, h1, Result.andThen_ok, run_eq_wheel]
  rfl
end Go.Proofs.YthnenhfdojpobaaDoor

/-
  The reference's spectra: sums of powers.
-/
import Derived.Test.YtlmfmfbnbbooaaaWhEnergyLaw
namespace Go.Proofs.Ytlmfmfbnbbooaaa
open Go.ChangeShapes Go.WideShapes Go.ChangeAt Go.RowKit
set_option maxRecDepth 100000

theorem run_make_zero (k : Nat) (hk : k ≤ 65536) (W : World) : (Instr.makeSlice 22 (.int .i64 (k : Int)) (.int .i64 (k : Int))).run Try.prog W = .ok (.slice (some ⟨W.heap.size, 0, none⟩) k k) (W.alloc (.cells (ints (List.replicate k 0)).toArray 3)) := by
  rw [← madeCells_ints]
  exact run_make_row' 22 3 (.int .i64 0) 8 Try.underlying22 (by kernel_rfl) rfl .i64 .i64 k (by omega) (by omega) W
theorem tabN_zero (n : Nat) : tabN n zeroF = List.replicate n 0 := by
  apply List.ext_getElem?
  intro i
  by_cases hi : i < n <;> simp [tabN, hi, zeroF]

/-- Numbers that are being written. -/
structure Out (w0 : World) (g n : Nat) (F : Nat → Nat) (W : World) : Prop where
  hb : Below w0.heap.size w0 W
  row : Row W g 3 (ints (tabN n F))
theorem Out.later {w0 : World} {g n : Nat} {F : Nat → Nat} {W W' : World} (h : Out w0 g n F W) (k : Below W.heap.size W W') : Out w0 g n F W' := ⟨h.hb.trans (k.mono h.hb.size), h.row.later k⟩
theorem Out.drewN {w0 : World} {g n : Nat} {F : Nat → Nat} {W : World} (h : Out w0 g n F W) (k : Nat) : Out w0 g n F (W.drewN k) := ⟨bl_drewN h.hb k, h.row.drewN k⟩
theorem Out.set {w0 : World} {g n : Nat} {F : Nat → Nat} {W : World} (h : Out w0 g n F W) (hg : w0.heap.size ≤ g) {x : Nat} (hx : x < n) (v : Nat) : Out w0 g n (fun k => if k = x then v else F k) (W.setCell ⟨g, x, none⟩ (.int .i64 (v : Int))) :=
  ⟨h.hb.setCell (p := ⟨g, x, none⟩) hg _, by rw [← tabN_set hx, ← ints_set]; exact h.row.set _ _⟩
theorem Out.at {w0 : World} {g n : Nat} {F : Nat → Nat} {W : World} (h : Out w0 g n F W) {x : Nat} (hx : x < n) : W.cell? ⟨g, x, none⟩ = some (.int .i64 ((F x : Nat) : Int)) := by
  rw [h.row.cell, ints_at (by rw [tabN_length]; exact hx), tabN_at hx]
theorem Out.list {w0 : World} {g n : Nat} {F : Nat → Nat} {W : World} (h : Out w0 g n F W) : IntsV W (.slice (some ⟨g, 0, none⟩) n n) (natI (tabN n F)) := by
  have hl : (natI (tabN n F)).length = n := by rw [natI_len, tabN_length]
  refine ⟨_, n, by rw [hl], by rw [hl]; exact Nat.le_refl _, fun _ => ⟨g, 0, rfl, fun i hi => ?_⟩⟩
  rw [hl] at hi
  rw [Nat.zero_add, h.at hi]
  simp [natI, tabN, hi]
theorem Out.new (n : Nat) {w w1 : World} (b : Below w.heap.size w w1) {g : Nat} (hg : w1.heap.size = g) : Out w g n zeroF (w1.alloc (.cells (ints (List.replicate n 0)).toArray 3)) := by
  subst hg
  exact ⟨b.alloc b.size _, by rw [tabN_zero]; exact Row.new w1 _ _⟩

/-! ### the exponents -/
theorem ex_pos (n k x : Nat) (hn : 0 < n) : (((1 : Int) * (k : Int) * (x : Int)).tmod (n : Int) + (n : Int)) % (n : Int) = ((k * x % n : Nat) : Int) := by
  rw [mod_fix, Int.one_mul]; simp
theorem ex_neg (n k x : Nat) (hn : 0 < n) : (((-1 : Int) * (k : Int) * (x : Int)).tmod (n : Int) + (n : Int)) % (n : Int) = (((n - k * x % n) % n : Nat) : Int) := by
  rw [mod_fix]
  have h := Nat.mod_lt (k * x) hn
  have h2 := Nat.div_add_mod (k * x) n
  have e : (-1 : Int) * (k : Int) * (x : Int) = ((n - k * x % n : Nat) : Int) + (n : Int) * (-((k * x / n : Nat) : Int) - 1) := by
    have h3 : ((n : Int) * ((k * x / n : Nat) : Int) + ((k * x % n : Nat) : Int)) = (k : Int) * (x : Int) := by exact_mod_cast h2
    rw [Int.mul_sub, Int.mul_neg]
    have h4 : ((n - k * x % n : Nat) : Int) = (n : Int) - ((k * x % n : Nat) : Int) := by omega
    rw [h4, show (-1 : Int) * (k : Int) * (x : Int) = -((k : Int) * (x : Int)) by rw [Int.neg_mul, Int.one_mul, Int.neg_mul], ← h3]
    omega
  rw [e, Int.add_mul_emod_self_left]
  simp

/-- What the powers sum to. -/
def smF (n : Nat) (e : Nat → Nat → Nat) (f : Nat → Nat) (k m : Nat) : Nat := sumN m (fun x => f x * (wN n ^ e k x % qN n)) % qN n
theorem smF_succ {n : Nat} (e : Nat → Nat → Nat) (f : Nat → Nat) (k m : Nat) : (smF n e f k m + f m * (wN n ^ e k m % qN n)) % qN n = smF n e f k (m + 1) := by
  unfold smF; simp only [sumN]; rw [Nat.add_mod, Nat.mod_mod, ← Nat.add_mod]
theorem smF_pos {n k : Nat} (h : Circ n) (hk : k < n) (f : Nat → Nat) : smF n (fun k x => k * x % n) f k n = spF n f k := by
  refine Md.eq ?_ (Nat.mod_lt _ h.q_pos) ((sp_wh h f).lt k)
  unfold smF
  refine (Md.mod _ _).trans (Md.trans (Md.sum fun x _ => (Md.refl _ _).mul ((Md.mod _ _).trans (pow_md h (k * x)).symm)) (sp_md hk f).symm)
theorem smF_neg {n k : Nat} (h : Circ n) (hk : k < n) (f : Nat → Nat) : smF n (fun k x => (n - k * x % n) % n) f k n = tuF n (spF n f) k := by
  refine Md.eq ?_ (Nat.mod_lt _ h.q_pos) ((tu_wh h (sp_wh h f)).lt k)
  rw [tu_at hk]
  unfold smF
  refine (Md.mod _ _).trans (Md.trans (Md.sum fun x _ => (Md.refl _ _).mul ((Md.mod _ _).trans (pow_same h ?_))) (sp_md (Nat.mod_lt _ h.pos) f).symm)
  have hl := Nat.mod_lt (k * x) h.pos
  have e1 : ((n - k) % n * x) % n = ((n - k) * x) % n := by rw [Nat.mul_mod, Nat.mod_mod, ← Nat.mul_mod]
  rw [e1, Nat.mod_mod]
  have e2 := Nat.div_add_mod (k * x) n
  have e3 : (n - k) * x + k * x = n * x := by rw [← Nat.add_mul]; congr 1; omega
  have e4 : (n - k) * x + n * (k * x / n + 1) = (n - k * x % n) + n * x := by rw [Nat.mul_add, Nat.mul_one]; omega
  have e5 := congrArg (· % n) e4
  simpa [Nat.add_mul_mod_self_left] using e5.symm

set_option maxHeartbeats 2000000 in
theorem Rsums_any (n : Nat) (h : Circ n) (f : Nat → Nat) (hf : ∀ x, f x < qN n) (s : Int) (hs : s = 1 ∨ s = -1) (e : Nat → Nat → Nat) (he : ∀ k x : Nat, (((s * (k : Int)) * (x : Int)).tmod (n : Int) + (n : Int)) % (n : Int) = ((e k x : Nat) : Int)) (hel : ∀ k x, e k x < n)
    (v : Value) (w : World) (hv : ∃ b off cap, v = .slice (some ⟨b, off, none⟩) n cap ∧ n ≤ cap ∧ ∀ i, i < n → w.cell? ⟨b, off + i, none⟩ = some (.int .i64 ((f i : Nat) : Int))) :
    Calls Try.prog 109 #[.int .i64 (n : Int), v, .int .i64 s] w fun r w' => ∃ g, r = .returned (.slice (some ⟨g, 0, none⟩) n n) ∧ w.heap.size ≤ g ∧ Out w g n (fun k => if k < n then smF n e f k n else 0) w' := by
  have hmx : Try.prog.follows .mixedOrders = true := by kernel_rfl
  obtain ⟨fb, fo, fc, rfl, hfc, hfd⟩ := hv
  have HFd := Lib.hid hfd
  have hn17 := h.2
  have hn0 := h.pos
  have hq := h.q_le
  have hq0 := h.q_pos
  have hqn := h.n_lt
  have hwl := h.w_lt
  have HPr := Lib.hid (fun W => RPrime_any n h W)
  have HRo := Lib.hid (fun W => RRoot_any n h W)
  have HPw := Lib.hid (fun k W (hk : k < n) => Rpower_any (wN n) k (qN n) (by omega) (by omega) (by omega) (by omega) W)
  have HFl := Lib.hid hf
  have HEl := Lib.hid hel
  have HSk : Hid (∀ k x : Nat, k < n → x < n → (-20 ≤ s * (k : Int) ∧ s * (k : Int) ≤ 20) ∧ (-400 ≤ s * (k : Int) * (x : Int) ∧ s * (k : Int) * (x : Int) ≤ 400)) := Lib.hid (fun k x hk hx => by
    have hm : k * x ≤ 17 * 17 := Nat.mul_le_mul (by omega) (by omega)
    have e1 : (k : Int) * (x : Int) = ((k * x : Nat) : Int) := by simp
    rcases hs with rfl | rfl
    · rw [Int.one_mul, e1]; omega
    · rw [Int.neg_mul, Int.one_mul, Int.neg_mul, e1]; omega)
  have HE := Lib.hid he
  have HSm := Lib.hid (fun k m => smF_succ (n := n) e f k m)
  have HSl := Lib.hid (fun k m => show smF n e f k m < qN n from Nat.mod_lt _ h.q_pos)
  have HS0 := Lib.hid (fun k => show smF n e f k 0 = 0 by unfold smF; simp [sumN])
  have hmk := fun W => run_make_zero n (by omega) W
  obtain ⟨G, hG⟩ : ∃ G : Nat → Nat, G = fun k => if k < n then smF n e f k n else 0 := ⟨_, rfl⟩
  have HGk := Lib.hid (fun k (hk : k < n) => show G k = smF n e f k n by rw [hG]; show (if k < n then _ else _) = _; rw [if_pos hk])
  have HGa := Lib.hid (show uptF n G = G by rw [hG]; funext x; unfold uptF; by_cases hx : x < n <;> simp [hx])
  rw [← hG]
  clear hf hel he hs hfd hG h
  have hn0' : ((n : Int) == 0) = false := by rw [beq_eq_false_iff_ne]; omega
  have hq0' : (((qN n : Nat) : Int) == 0) = false := by rw [beq_eq_false_iff_ne]; omega
  go_enter Try.func109, Try.ntmps109
  go_wp2_with fail
  refine (HPr.out _).mono ?_
  rintro r w1 ⟨rfl, rfl⟩
  go_wp2_with fail
  refine (HRo.out _).mono ?_
  rintro r w1 ⟨rfl, rfl⟩
  obtain ⟨B, hB⟩ : ∃ B, w.heap.size = B := ⟨_, rfl⟩
  have HO0 := Lib.hid (Out.new n (Below.refl w.heap.size w) hB)
  go_wp2_with fail
  go_loopw [21] (fun i wr => ∃ k : Nat, k ≤ n ∧ i = .int .i64 (k : Int) ∧ Out w B n (uptF k G) wr) (fun i _ => n - (intOf i).toNat)
  case atStart => exact ⟨0, Nat.zero_le _, rfl, by rw [uptF_zero]; exact HO0.out⟩
  case round =>
    obtain ⟨k, hk, rfl, hO⟩ := hrel
    have HO := Lib.hid hO
    clear hO
    by_cases hlt : k < n
    · go_wp2_with fail
      go_loopw [26] (fun i wr => ∃ x : Nat, x ≤ n ∧ i = .int .i64 (x : Int) ∧ Out w B n (fun j => if j = k then smF n e f k x else uptF k G j) wr) (fun i _ => n - (intOf i).toNat)
      case atStart =>
        refine ⟨0, Nat.zero_le _, rfl, ?_⟩
        have e0 : (fun j => if j = k then smF n e f k 0 else uptF k G j) = uptF k G := by
          funext j
          by_cases hj : j = k
          · rw [if_pos hj, HS0.out, hj]; simp [uptF]
          · rw [if_neg hj]
        rw [e0]; exact HO.out
      case round =>
        obtain ⟨x, hx, rfl, hO⟩ := hrel
        have HO := Lib.hid hO
        clear hO
        by_cases hlt2 : x < n
        · have c1 := cell_later (show Below w.heap.size w wr from HO.out.hb) (HFd.out x hlt2)
          have c2 := HO.out.at hlt
          rw [if_pos rfl] at c2
          have f2 := HO.out.row.frozen k
          have hE := HE.out k x
          have hek := HEl.out k x
          have HPk := Lib.hid (fun W => HPw.out (e k x) W hek)
          obtain ⟨⟨s1, s2⟩, s3, s4⟩ := HSk.out k x hlt hlt2
          have t1 : (s * (k : Int) * (x : Int)).tmod (n : Int) < n := Int.tmod_lt_of_pos _ (by omega)
          have t2 : -(n : Int) < (s * (k : Int) * (x : Int)).tmod (n : Int) := Int.lt_tmod_of_pos _ (by omega)
          have hfx := HFl.out x
          have hsl := HSl.out k x
          have hpl := Nat.mod_lt (wN n ^ e k x) hq0
          have hmb := mul_bd (show f x ≤ 100000 by omega) (show wN n ^ e k x % qN n ≤ 100000 by omega)
          have HV := Lib.hid (show (((smF n e f k x : Nat) : Int) + ((f x : Nat) : Int) * ((wN n ^ e k x % qN n : Nat) : Int)) % ((qN n : Nat) : Int) = ((smF n e f k (x + 1) : Nat) : Int) by rw [← HSm.out]; simp)
          have HNx := Lib.hid (fun W (hO : Out w B n (fun j => if j = k then smF n e f k x else uptF k G j) W) => show Out w B n (fun j => if j = k then smF n e f k (x + 1) else uptF k G j) (W.setCell ⟨B, k, none⟩ (.int .i64 ((((smF n e f k x : Nat) : Int) + ((f x : Nat) : Int) * ((wN n ^ e k x % qN n : Nat) : Int)) % ((qN n : Nat) : Int)))) from by
            have := hO.set (by omega) hlt (smF n e f k (x + 1))
            rw [HV.out]
            have e1 : (fun j => if j = k then smF n e f k (x + 1) else if j = k then smF n e f k x else uptF k G j) = (fun j => if j = k then smF n e f k (x + 1) else uptF k G j) := by
              funext j; by_cases hj : j = k <;> simp [hj]
            rw [e1] at this
            exact this)
          generalize wN n ^ e k x % qN n = pw at *
          generalize e k x = ee at *
          generalize hsx : smF n e f k x = sx at *
          generalize f x = fx at *
          clear HV
          go_upto_region 9 with fail
          refine region_calm_tail 25 hmx (by kernel_rfl) ?_
          simp only [List.take_succ_cons, List.take_zero, List.drop_succ_cons, List.drop_zero]
          intro S hSn fw hS1 hS2
          have l0 := fun z => cell_later (hS1 z) c1
          have l1 := fun z => cell_later (hS1 z) c2
          have hC0 := Lib.hid (calm_call0 (fun z => HPk.out (fw z)))
          repeat (go_big_quiet_step (exact hC0.out _))
          refine wpQuiet_nil ?_
          rintro _ ⟨z, rfl⟩
          have hO4 := HO.out.later (hS1 z)
          generalize fw z = w4 at hO4
          have HO5 := Lib.hid (HNx.out _ hO4)
          have e1 := hO4.at hlt
          rw [if_pos rfl] at e1
          have e2 := hO4.row.frozen k
          clear l0 l1 hC0 hS1 hS2 hO4 c1 c2 f2
          try dsimp only [Exit.then]
          go_wp2
          go_roundw
          case rel => exact ⟨x + 1, by omega, by go_num, HO5.out⟩
          case measure => simp only [intOf]; omega
        · obtain rfl : x = n := by omega
          rw [show (fun j => if j = k then smF x e f k x else uptF k G j) = uptF (k + 1) G from by rw [← HGk.out k hlt]; exact uptF_succ k G] at HO
          go_wp2
          go_roundw
          case rel => exact ⟨k + 1, by omega, by go_num, HO.out⟩
          case measure => simp only [intOf]; omega
    · obtain rfl : k = n := by omega
      rw [HGa.out] at HO
      go_wp2
      go_ret
      exact ⟨B, rfl, by omega, HO.out⟩
end Go.Proofs.Ytlmfmfbnbbooaaa

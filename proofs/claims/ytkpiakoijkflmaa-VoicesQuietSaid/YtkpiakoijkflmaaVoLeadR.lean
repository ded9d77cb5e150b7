/-
  The reference's leadings, one after another; the first of the cheapest ones; the cost.
-/
import Derived.Test.YtkpiakoijkflmaaVoRise
import Derived.Lib.AppendZeros
namespace Go.Proofs.Ytkpiakoijkflmaa
open Go.ChangeShapes Go.WideShapes Go.ChangeAt Go.RowKit
set_option maxRecDepth 100000

/-- All leadings that begin with some places, f places more. -/
def leadL (k : Nat) : Nat → List Nat → List (List Nat)
  | 0, l => [l]
  | f + 1, l => (List.range k).flatMap fun x => if x ∈ l then [] else leadL k f (l ++ [x])
def partLd (k f : Nat) (l : List Nat) (j : Nat) : List (List Nat) := (List.range j).flatMap fun x => if x ∈ l then [] else leadL k f (l ++ [x])
theorem partLd_succ (k f : Nat) (l : List Nat) (j : Nat) : partLd k f l (j + 1) = partLd k f l j ++ if j ∈ l then [] else leadL k f (l ++ [j]) := by
  unfold partLd; rw [List.range_succ, List.flatMap_append, List.flatMap_singleton]
theorem leadL_len (k : Nat) : ∀ (f : Nat) (l : List Nat), (leadL k f l).length ≤ k ^ f
  | 0, _ => by simp [leadL]
  | f + 1, l => by
    have key : ∀ j, (partLd k f l j).length ≤ j * k ^ f := fun j => by
      induction j with
      | zero => simp [partLd]
      | succ j ih =>
        rw [partLd_succ, List.length_append, Nat.succ_mul]
        have := leadL_len k f (l ++ [j])
        split <;> simp <;> omega
    have := key k
    rw [Nat.pow_succ, Nat.mul_comm]
    exact this
theorem partLd_len (k f : Nat) (l : List Nat) (j : Nat) : (partLd k f l j).length ≤ j * k ^ f := by
  induction j with
  | zero => simp [partLd]
  | succ j ih =>
    rw [partLd_succ, List.length_append, Nat.succ_mul]
    have := leadL_len k f (l ++ [j])
    split <;> simp <;> omega
theorem pow_small {k f : Nat} (hk : k ≤ 6) (hf : f ≤ 6) : k ^ f ≤ 46656 := by
  have h1 : k ^ f ≤ 6 ^ f := Nat.pow_le_pow_left hk f
  have h2 : 6 ^ f ≤ 6 ^ 6 := Nat.pow_le_pow_right (by omega) hf
  omega

/-- A slice of integers that lies in a block of integers. -/
def IntsT (W : World) (v : Value) (xs : List Int) : Prop := IntsV W v xs ∧ ∀ a n c, v = .slice (some a) n c → ∃ cs fr, W.heap[a.block]? = some (.cells cs 3 fr)
theorem IntsT.later {W W' : World} {v : Value} {xs : List Int} (h : IntsT W v xs) (hb : Below W.heap.size W W') : IntsT W' v xs :=
  ⟨h.1.later hb, fun a n c e => by
    obtain ⟨cs, fr, hc⟩ := h.2 a n c e
    exact ⟨cs, fr, (hb.block a.block (Array.getElem?_eq_some_iff.1 hc).1).trans hc⟩⟩
theorem IntsT.grown {W W' : World} {v o : Value} {xs : List Int} {lo n : Nat} {vs : List Value} (h : IntsT W v xs) (hg : W.grownBy W' o.ownBlock) (ho : W.ownsRow lo 22 1 o n vs) : IntsT W' v xs := by
  have key : ∀ a m c, v = .slice (some a) m c → W'.heap[a.block]? = W.heap[a.block]? := fun a m c e => by
    obtain ⟨cs, fr, hc⟩ := h.2 a m c e
    refine hg.block a.block (Array.getElem?_eq_some_iff.1 hc).1 (fun e2 => ?_)
    obtain ⟨_, ⟨rfl, _⟩ | ⟨g, cap, cur, rfl, _, hh, _⟩⟩ := ho
    · cases e2
    · have e3 : a.block = g := by simpa [Value.ownBlock] using e2
      rw [e3, hh] at hc
      cases hc
  refine ⟨?_, fun a m c e => by
    obtain ⟨cs, fr, hc⟩ := h.2 a m c e
    exact ⟨cs, fr, (key a m c e).trans hc⟩⟩
  obtain ⟨ao, cap, e, hlc, hc⟩ := h.1
  refine ⟨ao, cap, e, hlc, fun h0 => ?_⟩
  obtain ⟨b, off, rfl, hd⟩ := hc h0
  refine ⟨b, off, rfl, fun i hi => ?_⟩
  exact (World.cell?_of_block (w := W) (a := ⟨b, off + i, none⟩) (key ⟨b, off, none⟩ _ _ e)).trans (hd i hi)
theorem IntsT.nil (W : World) : IntsT W (.slice none 0 0) [] := ⟨⟨none, 0, rfl, Nat.le_refl _, fun h => by simp at h⟩, fun a n c e => by rw [Value.slice.injEq] at e; cases e.1⟩

/-- Slices that read as such lists. -/
def AllN (W : World) : List Value → List (List Nat) → Prop
  | v :: vs, l :: ls => IntsT W v (natI l) ∧ AllN W vs ls
  | [], [] => True
  | _, _ => False
theorem AllN.len {W : World} : ∀ {vs : List Value} {ls : List (List Nat)}, AllN W vs ls → vs.length = ls.length
  | [], [], _ => rfl
  | _ :: _, _ :: _, h => by simp [h.2.len]
  | [], _ :: _, h => h.elim
  | _ :: _, [], h => h.elim
theorem AllN.later {W W' : World} (hb : Below W.heap.size W W') : ∀ {vs : List Value} {ls : List (List Nat)}, AllN W vs ls → AllN W' vs ls
  | [], [], _ => trivial
  | _ :: _, _ :: _, h => ⟨h.1.later hb, h.2.later hb⟩
  | [], _ :: _, h => h.elim
  | _ :: _, [], h => h.elim
theorem AllN.grown {W W' : World} {o : Value} {lo n : Nat} {os : List Value} (hg : W.grownBy W' o.ownBlock) (ho : W.ownsRow lo 22 1 o n os) : ∀ {vs : List Value} {ls : List (List Nat)}, AllN W vs ls → AllN W' vs ls
  | [], [], _ => trivial
  | _ :: _, _ :: _, h => ⟨h.1.grown hg ho, h.2.grown hg ho⟩
  | [], _ :: _, h => h.elim
  | _ :: _, [], h => h.elim
theorem AllN.append {W : World} : ∀ {vs us : List Value} {ls ms : List (List Nat)}, AllN W vs ls → AllN W us ms → AllN W (vs ++ us) (ls ++ ms)
  | [], _, [], _, _, h2 => h2
  | _ :: _, _, _ :: _, _, h, h2 => ⟨h.1, h.2.append h2⟩
  | [], _, _ :: _, _, h, _ => h.elim
  | _ :: _, _, [], _, h, _ => h.elim
theorem AllN.one {W : World} : ∀ {vs : List Value} {ls : List (List Nat)}, AllN W vs ls → ∀ u ∈ vs, u.oneCell' = true
  | [], _, _, u, hu => by simp at hu
  | v :: vs, l :: ls, h, u, hu => by
    rcases List.mem_cons.1 hu with rfl | hu
    · obtain ⟨ao, cap, e, _⟩ := h.1.1; rw [e]; rfl
    · exact h.2.one u hu
  | _ :: _, [], h, _, _ => h.elim
theorem AllN.at {W : World} : ∀ {vs : List Value} {ls : List (List Nat)}, AllN W vs ls → ∀ i, i < vs.length → ∃ u l, vs[i]? = some u ∧ ls[i]? = some l ∧ IntsT W u (natI l)
  | [], _, _, i, hi => by simp at hi
  | v :: vs, l :: ls, h, 0, _ => ⟨v, l, rfl, rfl, h.1⟩
  | v :: vs, l :: ls, h, i + 1, hi => by simpa using h.2.at i (by simpa using hi)
  | _ :: _, [], h, _, _ => h.elim

theorem info_ints : (Try.prog.info? 22).map (fun i => (i.zero, i.size, i.bytes)) = some (some (.slice none 0 0), 1, 24) := by kernel_rfl

/-- A copy with one number more. -/
theorem run_copyapp (ty : TypeId) (l : List Nat) (hl : l.length ≤ 6) (ao : Option Addr) (x b : Nat) (W : World) (h : IntsV W (.slice ao l.length l.length) (natI l)) (h0 : l.length = 0 → ao = none) (hx : W.cell? ⟨b, 0, none⟩ = some (.int .i64 (x : Int))) :
    ∃ v' W', (Builtin.append_ #[22, 22] ty #[.slice ao l.length l.length, .slice (some ⟨b, 0, none⟩) 1 1]).run Try.prog W = .ok v' W' ∧ IntsT W' v' (natI (l ++ [x])) ∧ Below W.heap.size W W' := by
  obtain ⟨i0, hi, hz0, hz1, hz2⟩ := info_parts info_intV
  have hnews : ∀ j v, [Value.int .i64 (x : Int)][j]? = some v → W.cell? ((⟨b, 0, none⟩ : Addr).add j) = some v := fun j v hv => by
    rcases j with _ | j
    · rw [add_addr]; simpa using hx.trans (by simpa using hv)
    · simp at hv
  have hread : ∀ (c : Array Value) (V : World) (cap : Nat) (hc : ∀ i, i < (natI (l ++ [x])).length → c[i]? = some (.int .i64 ((natI (l ++ [x]))[i]?.getD 0))) (hcap : (natI (l ++ [x])).length ≤ cap), IntsT (V.alloc (.cells c 3)) (.slice (some ⟨V.heap.size, 0, none⟩) (natI (l ++ [x])).length cap) (natI (l ++ [x])) := fun c V cap hc hcap =>
    ⟨⟨_, cap, rfl, hcap, fun _ => ⟨_, 0, rfl, fun i hi' => by
      rw [Nat.zero_add]
      have : (V.alloc (.cells c 3)).cell? ⟨V.heap.size, i, none⟩ = c[i]? := cell_of_row _ _ i c 3 (0, 0) (World.alloc_heap_new V _)
      rw [this, hc i hi']⟩⟩, fun a n c' e => by
      rw [Value.slice.injEq] at e
      obtain ⟨e, _, _⟩ := e
      cases e
      exact ⟨_, _, World.alloc_heap_new V _⟩⟩
  have hge : ∀ need old, need ≤ grownCap W need old 3 := fun need old => grownCap_ge W need old _
  by_cases hz : l.length = 0
  · obtain rfl := h0 hz
    have hl0 : l = [] := List.eq_nil_of_length_eq_zero hz
    subst hl0
    refine ⟨_, _, run_append_nil W 22 ty 3 i0 (.int .i64 0) Try.underlying22 hi hz0 ⟨b, 0, none⟩ 1 1 [.int .i64 (x : Int)] (by rw [hz1]; rfl) hnews (by omega) (by omega) (by rw [hz2]; omega), ?_, (Below.refl _ _).drew.alloc (Nat.le_refl _) _⟩
    exact hread _ W.drew _ (fun i hi' => by
      rcases i with _ | i
      · rw [Array.getElem?_append_left (by simp)]; rfl
      · simp [natI] at hi') (by simpa [natI] using hge 1 0)
  · obtain ⟨b', off, cap', e, _, hd2⟩ := ints_nat h (by omega)
    rw [Value.slice.injEq] at e
    obtain ⟨rfl, _, _⟩ := e
    have hd : ∀ i, i < l.length → W.cell? ⟨b', off + i, none⟩ = some (.int .i64 ((natI l)[i]?.getD 0)) := fun i hi => (hd2 i hi).trans (by rw [natI_at])
    refine ⟨_, _, run_append_grow W 22 ty 3 i0 (.int .i64 0) Try.underlying22 hi hz0 ⟨b', off, none⟩ l.length l.length (ivals (natI l)) (by rw [hz1]; simp [ivals, natI]) (fun j v hv => by
      obtain ⟨hq, rfl⟩ := ivals_at hv
      rw [add_addr]
      exact hd j (by rw [natI_length] at hq; exact hq)) ⟨b, 0, none⟩ 1 1 [.int .i64 (x : Int)] (by rw [hz1]; rfl) hnews (by omega) (by omega) (by rw [hz2]; exact growslice_fits_succ (by omega) (by omega)), ?_, (Below.refl _ _).drew.alloc (Nat.le_refl _) _⟩
    have := hread ((ivals (natI l)).toArray ++ #[Value.int .i64 (x : Int)] ++ Builtin.zeroCells (Value.int .i64 0).cells (grownCap W (l.length + 1) l.length 3 - (l.length + 1))) W.drew (grownCap W (l.length + 1) l.length 3) (fun i hi' => by
      rw [natI_length, List.length_append, List.length_singleton] at hi'
      have hs1 : ((ivals (natI l)).toArray ++ #[Value.int .i64 (x : Int)]).size = l.length + 1 := by simp [ivals, natI]
      rw [Array.getElem?_append_left (by rw [hs1]; omega)]
      have e2 : ((ivals (natI l)).toArray ++ #[Value.int .i64 (x : Int)]) = (ivals (natI (l ++ [x]))).toArray := by simp [ivals, natI]
      rw [e2, List.getElem?_toArray]
      unfold ivals
      have h5 : i < (natI (l ++ [x])).length := by rw [natI_length, List.length_append, List.length_singleton]; omega
      rw [List.getElem?_map, List.getElem?_eq_getElem h5]; rfl) (by rw [natI_length, List.length_append, List.length_singleton]; exact hge _ _)
    rw [natI_length, List.length_append, List.length_singleton] at this
    exact this

theorem own_news {W : World} {lo n : Nat} {t : TypeId} {v : Value} {xs : List Value} {ao : Option Addr} {m c : Nat} (h : W.ownsRow lo t 1 v n xs) (e : v = .slice ao m c) : (ao = none → m = 0) ∧ ∀ ad, ao = some ad → ∀ j u, xs[j]? = some u → W.cell? (ad.add j) = some u := by
  obtain ⟨h1, ⟨rfl, rfl⟩ | ⟨g, cap, cur, rfl, hg, hh, h2⟩⟩ := id h
  · rw [Value.slice.injEq] at e
    obtain ⟨rfl, rfl, _⟩ := e
    exact ⟨fun _ => rfl, fun ad e => by cases e⟩
  · rw [Value.slice.injEq] at e
    obtain ⟨rfl, _, _⟩ := e
    exact ⟨fun e => (by cases e), fun ad e => by cases e; exact h.cells rfl⟩
theorem own_form {W : World} {lo n : Nat} {t : TypeId} {v : Value} {xs : List Value} (h : W.ownsRow lo t 1 v n xs) : ∃ ao c, v = .slice ao n c := by
  obtain ⟨_, ⟨rfl, rfl⟩ | ⟨g, cap, cur, rfl, _⟩⟩ := h
  · exact ⟨none, 0, rfl⟩
  · exact ⟨_, cap, rfl⟩

/-- The contract, so many places before the end. -/
def LdAt (k f : Nat) : Prop := ∀ (l : List Nat) (v : Value) (W : World), l.length + f = k → (∀ x ∈ l, x < k) → (l.length = 0 → v = .slice none 0 0) → IntsT W v (natI l) →
  Calls Try.prog 64 #[.int .i64 k, v] W fun e w' => ∃ v' vs, e = .returned v' ∧ w'.ownsRow W.heap.size 22 1 v' vs.length vs ∧ AllN w' vs (leadL k f l) ∧ Below W.heap.size W w'

theorem ld_base (k : Nat) (hk : k ≤ 6) : LdAt k 0 := by
  intro l v W hl hlt hnil h
  have hm := World.ownsRow_made (base := W.heap.size) (e := 22) (size := 1) W #[v] 1 (Nat.le_refl _) (by unfold maxLen; omega) rfl
  have hb := (Below.refl W.heap.size W).alloc (Nat.le_refl _) (.cells #[v] 22)
  have HI := Lib.hid (h.later hb)
  have HB := Lib.hid hb
  obtain ⟨ao, cap, rfl, _, _⟩ := h.1
  rw [natI_length] at *
  have q : ((l.length : Int) == (k : Int)) = true := by rw [beq_iff_eq]; omega
  have HO := Lib.hid (show (W.alloc (.cells #[.slice ao l.length cap] 22)).ownsRow W.heap.size 22 1 (.slice (some ⟨W.heap.size, 0, none⟩) 1 1) 1 [.slice ao l.length cap] from ⟨rfl, .inr ⟨W.heap.size, 1, _, rfl, Nat.le_refl _, World.alloc_heap_new W _, Nat.le_refl _, by unfold maxLen; omega, rfl, rfl⟩⟩)
  clear hm hnil hlt hb hl
  go_enter Try.func64, Try.ntmps64
  go_wp2
  go_ret
  exact ⟨_, [_], rfl, HO.out, ⟨HI.out, trivial⟩, HB.out⟩

theorem mem_take_succ {l : List Nat} {i x : Nat} (hi : i < l.length) : x ∈ l.take (i + 1) ↔ (x ∈ l.take i ∨ x = l[i]?.getD 0) := by
  rw [List.take_succ_eq_append_getElem hi, List.mem_append, List.mem_singleton, List.getElem?_eq_getElem hi]; rfl

set_option maxHeartbeats 2000000 in
theorem ld_step (k : Nat) (hk : k ≤ 6) (f : Nat) (ih : LdAt k f) : LdAt k (f + 1) := by
  intro l v W hl hlt hnil h
  obtain ⟨i1, hi1, hy0, hy1, hy2⟩ := info_parts info_ints
  have hf : f ≤ 6 := by omega
  have HL := Lib.hid (fun j (hj : j ≤ 6) => show (partLd k f l j).length ≤ 279936 from Nat.le_trans (partLd_len k f l j) (Nat.mul_le_mul hj (pow_small hk hf)))
  have HLx := Lib.hid (fun x => show (leadL k f (l ++ [x])).length ≤ 46656 from Nat.le_trans (leadL_len k f (l ++ [x])) (pow_small hk hf))
  have HS := Lib.hid (fun j => partLd_succ k f l j)
  have HE := Lib.hid (show partLd k f l k = leadL k (f + 1) l from rfl)
  have H := Lib.hid h
  have HIH := Lib.hid (fun x (hx : x < k) v W (hv : IntsT W v (natI (l ++ [x]))) => ih (l ++ [x]) v W (by rw [List.length_append, List.length_singleton]; omega) (fun y hy => by
    rcases List.mem_append.1 hy with hy | hy
    · exact hlt y hy
    · rw [List.mem_singleton] at hy; omega) (fun e => by rw [List.length_append, List.length_singleton] at e; omega) hv)
  have HX := Lib.hid (fun i => getD_lt hlt (show 0 < k by omega) i)
  obtain ⟨ao, cap, rfl, hlc, hc⟩ := h.1
  rw [natI_length] at hlc hc hnil ⊢
  have q : ((l.length : Int) == (k : Int)) = false := by rw [beq_eq_false_iff_ne]; omega
  have HC := Lib.hid (fun (j : Nat) (hj : j < l.length) V (hV : Below W.heap.size W V) => show ∃ b off, ao = some ⟨b, off, none⟩ ∧ V.cell? ⟨b, off + j, none⟩ = some (.int .i64 ((l[j]?.getD 0 : Nat) : Int)) from by
    obtain ⟨b, off, e, hd⟩ := hc (by omega)
    exact ⟨b, off, e, cell_later hV ((hd j hj).trans (by rw [natI_at]))⟩)
  have hao : l.length = 0 → ao = none := fun h => by have := hnil h; rw [Value.slice.injEq] at this; exact this.1
  have HApp := Lib.hid (fun ty x b V (hV : Below W.heap.size W V) (hx : V.cell? ⟨b, 0, none⟩ = some (.int .i64 ((x : Nat) : Int))) => run_copyapp ty l (by omega) ao x b V (by
    have hh := (H.out.1.later hV)
    refine ⟨ao, l.length, by rw [natI_length], by rw [natI_length]; exact Nat.le_refl _, fun h0 => ?_⟩
    obtain ⟨ao', cap', e, _, hd⟩ := hh
    rw [Value.slice.injEq] at e
    obtain ⟨rfl, _, _⟩ := e
    exact hd h0) hao hx)
  have hsl : ∀ V : World, (Instr.slice 22 (.slice ao l.length cap) none (some (.int .i64 (l.length : Int))) (some (.int .i64 (l.length : Int)))).run Try.prog V = .ok (.slice ao l.length l.length) V := fun V => by
    rw [run_slice_hm (ht := slice_elem) (h0 := by omega) (h2 := by omega) (h3 := by omega), size_elem]
    unfold sliced
    cases ao with
    | none => simp [Result.andThen]
    | some a => simp [Result.andThen, Addr.add]
  have hln : l.length ≤ 6 := by omega
  obtain ⟨B, hB⟩ : ∃ B, W.heap.size = B := ⟨_, rfl⟩
  rw [hB] at HC HApp
  have HBB := Lib.hid hB
  rw [hB]
  have HHk := Lib.hid hl
  clear hc hlt hnil hao ih H h hB hl
  go_enter Try.func64, Try.ntmps64
  go_wp2
  go_loopw [5, 17] (fun o i wr => ∃ (j : Nat) (vs : List Value), j ≤ k ∧ i = .int .i64 j ∧ wr.ownsRow B 22 1 o vs.length vs ∧ AllN wr vs (partLd k f l j) ∧ Below B W wr) (fun _ i _ => k - (intOf i).toNat)
  case atStart => exact ⟨0, [], Nat.zero_le _, rfl, World.ownsRow_nil _ _ _ _, trivial, by rw [← HBB.out]; exact Below.refl _ _⟩
  case round =>
    obtain ⟨j, vs, hj, rfl, hown, hall, hb⟩ := hrel
    have HO := Lib.hid hown
    have HAl := Lib.hid hall
    have HBw := Lib.hid hb
    have hle : B ≤ wr.heap.size := by have := HBB.out; have := hb.size; omega
    have hvl : vs.length ≤ 279936 := by rw [hall.len]; exact HL.out j (by omega)
    clear hown hall hb
    by_cases hlk : j < k
    · go_wp2_with fail
      go_loopw [7, 22] (fun d i wq => ∃ (q : Nat), q ≤ l.length ∧ i = .int .i64 q ∧ d = .bool (decide (j ∈ l.take q)) ∧ wr = wq) (fun _ i _ => l.length - (intOf i).toNat)
      case atStart => exact ⟨0, Nat.zero_le _, rfl, by simp, rfl⟩
      case round =>
        obtain ⟨q, hq, rfl, rfl, rfl⟩ := hrel
        by_cases hql : q < l.length
        · obtain ⟨b, off, rfl, cq⟩ := HC.out q hql wr HBw.out
          have hy := HX.out q
          have HM := Lib.hid (mem_take_succ (l := l) (i := q) (x := j) hql)
          generalize l[q]?.getD 0 = y at cq hy HM
          by_cases hm : j ∈ l.take q
          · have HN := Lib.hid (show decide (j ∈ l.take (q + 1)) = true from decide_eq_true (HM.out.2 (.inl hm)))
            rw [decide_eq_true hm]
            clear hm
            go_wp2
            go_roundw
            case rel => exact ⟨q + 1, by omega, by go_num, by rw [HN.out], trivial⟩
            case measure => simp only [intOf]; omega
          · rw [decide_eq_false hm]
            by_cases he : j = y
            · have HN := Lib.hid (show decide (j ∈ l.take (q + 1)) = true from decide_eq_true (HM.out.2 (.inr he)))
              have qe : ((j : Int) == (y : Int)) = true := by rw [beq_iff_eq]; omega
              clear hm he
              go_wp2
              go_roundw
              case rel => exact ⟨q + 1, by omega, by go_num, by rw [HN.out], trivial⟩
              case measure => simp only [intOf]; omega
            · have HN := Lib.hid (show decide (j ∈ l.take (q + 1)) = false from decide_eq_false (fun h => (HM.out.1 h).elim hm he))
              have qe : ((j : Int) == (y : Int)) = false := by rw [beq_eq_false_iff_ne]; omega
              clear hm he
              go_wp2
              go_roundw
              case rel => exact ⟨q + 1, by omega, by go_num, by rw [HN.out], trivial⟩
              case measure => simp only [intOf]; omega
        · obtain rfl : q = l.length := by omega
          rw [List.take_length]
          by_cases hm : j ∈ l
          · have HSj := Lib.hid (show partLd k f l (j + 1) = partLd k f l j by rw [HS.out, if_pos hm, List.append_nil])
            rw [decide_eq_true hm]
            clear hm
            go_wp2
            go_roundw
            case rel => exact ⟨j + 1, vs, by omega, by go_num, HO.out, by rw [HSj.out]; exact HAl.out, HBw.out⟩
            case measure => simp only [intOf]; omega
          · have HSj := Lib.hid (show partLd k f l (j + 1) = partLd k f l j ++ leadL k f (l ++ [j]) by rw [HS.out, if_neg hm])
            rw [decide_eq_false hm]
            clear hm
            have hba := HBw.out.alloc hle (.cells #[.int .i64 (j : Int)] 3)
            have HBa := Lib.hid hba
            obtain ⟨v1, W1, hr1, it1, b1⟩ := HApp.out 22 j wr.heap.size (wr.alloc (.cells #[.int .i64 (j : Int)] 3)) hba (by simp)
            have HT1 := Lib.hid it1
            have hs1 := b1.size
            have HB1 := Lib.hid (show Below wr.heap.size wr W1 from ((Below.refl _ wr).alloc (Nat.le_refl _) _).trans (b1.mono (by simp)))
            clear hba it1 b1 hs1
            go_wp2_with (at_builtin; refine Lib.wpList_append_run _ rfl _ _ 22 22 rfl _ _ rfl rfl v1 W1 hr1 ?_)
            refine (HIH.out j hlk v1 W1 HT1.out).mono ?_
            rintro e w2 ⟨v2, vs2, rfl, own2, all2, b2⟩
            obtain ⟨a2, c2, rfl⟩ := own_form own2
            obtain ⟨hn2, hc2⟩ := own_news own2 rfl
            have hb12 := HB1.out.trans (b2.mono HB1.out.size)
            have own1 := owns_laterV HO.out hb12
            have hl2 : vs2.length ≤ 46656 := by rw [all2.len]; exact HLx.out j
            obtain ⟨v3, w3, hr3, own3, grow3⟩ := run_append_any w2 34 34 B 22 i1 (.slice none 0 0) 1 24 Try.underlying34 hi1 hy0 hy1 hy2 rfl (by decide) _ vs.length vs own1 a2 vs2.length c2 vs2 (by rw [Nat.mul_one]) hn2 hc2 all2.one (by unfold maxLen; omega) (by omega) (Nat.le_trans hle hb12.size)
            have HO3 := Lib.hid own3
            have HB3 := Lib.hid (show Below B W w3 from ((HBw.out.trans (hb12.mono hle))).grown grow3 (Nat.le_trans hle hb12.size) (fun q e => (own1.lt q e).1))
            have HA3 := Lib.hid (((HAl.out.later hb12).append all2).grown grow3 own1)
            clear own2 all2 b2 hn2 hc2 own1 own3 grow3 hb12
            go_wp2_with (at_builtin; refine Lib.wpList_append_run _ rfl _ _ 34 34 rfl _ _ rfl rfl v3 w3 hr3 ?_)
            go_roundw
            case rel => exact ⟨j + 1, vs ++ vs2, by omega, by go_num, by rw [List.length_append]; exact HO3.out, by rw [HSj.out]; exact HA3.out, HB3.out⟩
            case measure => simp only [intOf]; omega
    · obtain rfl : j = k := by omega
      go_wp2
      go_ret
      exact ⟨_, vs, rfl, HO.out, by rw [← HE.out]; exact HAl.out, HBw.out⟩

theorem RLeadings_any (k : Nat) (hk : k ≤ 6) : ∀ f, LdAt k f
  | 0 => ld_base k hk
  | f + 1 => ld_step k hk f (RLeadings_any k hk f)
end Go.Proofs.Ytkpiakoijkflmaa

/-
  The iterators over the beginnings and over the right second parts: their contracts.
-/
import Derived.Test.YtlmfmfbnbbooaaaDuExt
import Derived.Laws.EntriesVeiled
namespace Go.Proofs.Ytlmfmfbnbbooaaa
open Go.RowKit Go.Shelf Go.ChangeShapes Go.WideShapes Go.ChangeAt
attribute [local go_sem] Oper.semAt_some
set_option maxRecDepth 100000

/-- More than there are beginnings. -/
def manyN : Nat := 22 ^ 8
theorem many_le {n : Nat} (h : n ≤ 8) : 22 ^ n ≤ manyN := Nat.pow_le_pow_right (by omega) h

theorem begin_any (ao : Option Addr) (m c : Nat) (w : World) :
    Calls Try.prog 94 #[.slice ao m c] w fun e w' => e = .returned (.func (.func 122) #[] #[.pointer (some ⟨w.heap.size, 0, none⟩)]) ∧ w.alloc (.cells #[.slice ao m c] 22) = w' := by
  go_enter Try.func94, Try.ntmps94
  go_wp2
  go_ret
  exact ⟨rfl, rfl⟩
theorem right_any (ao : Option Addr) (m c : Nat) (w : World) :
    Calls Try.prog 87 #[.slice ao m c] w fun e w' => e = .returned (.func (.func 117) #[] #[.pointer (some ⟨w.heap.size, 0, none⟩)]) ∧ w.alloc (.cells #[.slice ao m c] 22) = w' := by
  go_enter Try.func87, Try.ntmps87
  go_wp2
  go_ret
  exact ⟨rfl, rfl⟩

set_option maxHeartbeats 2000000 in
theorem begin1_seq (gs : List Int) (gB : Nat) (S : Nat → Prop) (gv : Value) (w : World) (g8 : gs.length ≤ 8) (hgn : notesB gs = true) (hgi : IntsV w gv gs) (hcg : w.cell? ⟨gB, 0, none⟩ = some gv) (sg : S gB) (sv : ∀ a m c, gv = .slice (some a) m c → S a.block) (hS : ∀ k, S k → k < w.heap.size) :
    SeqSepX Try.prog 122 #[.pointer (some ⟨gB, 0, none⟩)] encD (VDP fun m => m ∈ begL gs gs.length []) (KeptOn S) (fun xs => xs.map Prod.fst = begL gs gs.length []) (fun p => ∃ q, begL gs gs.length [] = p.map Prod.fst ++ q) manyN w :=
  fun l J Jx W hbw hl hJ hJx hY hj => by
  obtain ⟨H, hH⟩ : ∃ H, W.heap.size = H := ⟨_, rfl⟩
  have hSW : ∀ k, S k → k < W.heap.size := fun k hk => by have := hS k hk; have := hbw.size; omega
  have hg := cell_later hbw hcg
  have hgW := hgi.later hbw
  obtain ⟨W2, hW2⟩ : ∃ W2, (W.alloc (.cells #[.func (.yield l) #[] #[]] 50)).alloc (.cells #[extF gB H (H + 1)] 50) = W2 := ⟨_, rfl⟩
  have bW : Below W.heap.size W W2 := by rw [← hW2]; exact ((Below.refl _ W).alloc (Nat.le_refl _) _).alloc (by simp) _
  have hs2 : W2.heap.size = H + 2 := by rw [← hW2, ← hH]; simp
  have c1 : W2.cell? ⟨H, 0, none⟩ = some (.func (.yield l) #[] #[]) := by rw [← hW2, ← hH]; exact ((Row.new W _ [_]).alloc _).cell 0
  have c2 : W2.cell? ⟨H + 1, 0, none⟩ = some (extF gB H (H + 1)) := by
    have := Row.new (W.alloc (.cells #[.func (.yield l) #[] #[]] 50)) 50 [extF gB H (H + 1)]
    rw [World.size_alloc, hH] at this
    rw [← hW2]; exact this.cell 0
  have j2 := hJ.take _ _ _ (.cells #[extF gB H (H + 1)] 50) (hJ.take _ _ _ (.cells #[.func (.yield l) #[] #[]] 50) hj)
  rw [hW2, World.size_alloc, hH] at j2
  have HE := Lib.hid (extend_any gs gv gB H (H + 1) l W.heap.size manyN (fun m => m ∈ begL gs gs.length []) S J Jx hSW hJ hJx g8 hgn sg sv hY gs.length [] (.slice none 0 0) [] _ W2 (Nat.zero_add _) rfl (by rw [List.length_nil, Nat.zero_add]; exact many_le g8) (fun m h => h) (by omega)
    c1 c2 (cell_later bW hg) (hgW.later bW) ⟨none, 0, rfl, Nat.le_refl _, fun h => by cases h⟩ (fun a m c e => by cases e) (.inl (.inr rfl)) (.inr rfl) (fun k h => by
      rcases h with (h | h) | h
      · exact h.elim
      · omega
      · omega) j2)
  unfold extF at hW2 c2
  have HW2 := Lib.hid hW2
  clear j2 bW hg hgW hJ hJx hY hj hgi hcg c1 hs2 hW2
  show Calls Try.prog 122 #[.func (.yield l) #[] #[], .pointer (some ⟨gB, 0, none⟩)] W _
  go_enter Try.func122, Try.ntmps122
  go_wp2_with fail
  try rw [HW2.out]
  refine HE.out.mono ?_
  rintro e W3 ⟨_, _, _, Z3, add, _, (⟨rfl, hm, hj3⟩ | ⟨rfl, hq, hj3⟩)⟩
  · have HX := Lib.hid (And.intro hm hj3)
    clear hm hj3
    go_wp2
    go_end0
    exact ⟨⟨_, rfl⟩, .inl ⟨add, Z3, HX.out.1, HX.out.2⟩⟩
  · have HX := Lib.hid (And.intro hq hj3)
    clear hq hj3
    go_wp2
    go_end0
    exact ⟨⟨_, rfl⟩, .inr ⟨add, Z3, HX.out.1, HX.out.2⟩⟩

theorem begin_enters : ∀ args w, (callFunc 122 args).run Try.prog w = .ok (.enter 122 args) w := fun args w => enters_of Try.func122 (by kernel_rfl) rfl args w
theorem right_enters : ∀ args w, (callFunc 117 args).run Try.prog w = .ok (.enter 117 args) w := fun args w => enters_of Try.func117 (by kernel_rfl) rfl args w

/-- What holds between the rounds of the range over the beginnings. -/
def RHold (K : List DX → (Nat → Prop) → World → Prop) (H : Nat) (S : Nat → Prop) (W : World) (ok : List DX → List DX → Prop) (yv : Value) (pre' : List DX) (Z' : Nat → Prop) (V : World) : Prop :=
  ∃ add : List DX, K add (fun k => (k = H ∨ k = H + 1) ∨ Z' k) V ∧ ok pre' add ∧ KeptOn S W V ∧ Row V H 50 [yv] ∧ (∀ k, Z' k → H + 2 ≤ k) ∧ H + 2 ≤ V.heap.size
theorem RHold.step {K : List DX → (Nat → Prop) → World → Prop} {S : Nat → Prop} {H : Nat} {W : World} {ok : List DX → List DX → Prop} {yv : Value} {pre' : List DX} {Z' Z'' : Nat → Prop} {V V' : World} {row : Option Nat}
    (hS : ∀ k, S k → k < H) (h : RHold K H S W ok yv pre' Z' V) (hg : V.grownBy V' row) (hr : ∀ r, row = some r → H + 2 ≤ r) (hz : ∀ k, Z'' k → H + 2 ≤ k)
    (hK : ∀ (s : List DX), K s (fun k => (k = H ∨ k = H + 1) ∨ Z' k) V → K s (fun k => (k = H ∨ k = H + 1) ∨ Z'' k) V') : RHold K H S W ok yv pre' Z'' V' := by
  obtain ⟨add, h1, h2, h5, h6, h7, h8⟩ := h
  exact ⟨add, hK _ h1, h2, h5.grown hg (fun k hk => by have := hS k hk; omega) (fun k e hk => by have := hr k e; have := hS k hk; omega), h6.alone hg (fun r e => by have := hr r e; omega), hz, Nat.le_trans h8 hg.size⟩
theorem RHold.sep {K : List DX → (Nat → Prop) → World → Prop} {S : Nat → Prop} {H B0 : Nat} {W : World} {ok : List DX → List DX → Prop} {yv : Value} (hK : SepO B0 K) (hB : B0 ≤ H) (hS : ∀ k, S k → k < H) : SepO (H + 2) (RHold K H S W ok yv) :=
  { grow := fun s Z' V V' row h hg hr => by
      have h7 := h
      obtain ⟨_, _, _, _, _, hz, _⟩ := h7
      exact h.step hS hg (fun r e => (hr r e).1) hz (fun s hk => hK.grow s _ V V' row hk hg (fun r e => ⟨by have := (hr r e).1; omega, (hr r e).2⟩))
    priv := fun s Z' V r i u h hz' => by
      have h7 := h
      obtain ⟨_, _, _, _, _, hz, _⟩ := h7
      exact h.step hS (set_grown V r i u) (fun r' e => by cases e; exact hz r hz') hz (fun s hk => hK.priv s _ V r i u hk (.inr hz'))
    take := fun s Z' V o h => by
      have h7 := h
      obtain ⟨_, _, _, _, _, hz, hsz⟩ := h7
      refine h.step hS (alloc_grown V o) (fun r e => by cases e) (fun k hk => ?_) (fun s hk => ?_)
      · rcases hk with hk | rfl
        · exact hz k hk
        · exact hsz
      · have := hK.take s _ V o hk
        rwa [show (fun k => ((k = H ∨ k = H + 1) ∨ Z' k) ∨ k = V.heap.size) = (fun k => (k = H ∨ k = H + 1) ∨ (Z' k ∨ k = V.heap.size)) from pred_ext fun k => or_assoc] at this
    draw := fun s Z' V ⟨add, h1, h2, h5, h6, h7, h8⟩ => ⟨add, hK.draw _ _ V h1, h2, h5.drew, h6, h7, h8⟩
    own := fun s Z' V V' row N h hg hr hN => by
      have h7 := h
      obtain ⟨_, _, _, _, _, hz, hsz⟩ := h7
      refine h.step hS hg (fun r e => hz r (hr r e)) (fun k hk => ?_) (fun s hk => ?_)
      · rcases hk with hk | ⟨hk, _⟩
        · exact hz k hk
        · have := hN k hk; omega
      · have := hK.own s _ V V' row N hk hg (fun r e => .inr (hr r e)) hN
        rwa [show (fun k => ((k = H ∨ k = H + 1) ∨ Z' k) ∨ (N k ∧ k < V'.heap.size)) = (fun k => (k = H ∨ k = H + 1) ∨ (Z' k ∨ (N k ∧ k < V'.heap.size))) from pred_ext fun k => or_assoc] at this }
def okR (gs : List Int) (pre' add : List DX) : Prop := add.map Prod.fst = (pre'.map Prod.fst).filter fun s => decide (s.length = gs.length)

set_option maxHeartbeats 2000000 in
theorem right1_seq (gs : List Int) (gB : Nat) (S : Nat → Prop) (gv : Value) (w : World) (g8 : gs.length ≤ 8) (hgn : notesB gs = true) (hgi : IntsV w gv gs) (hcg : w.cell? ⟨gB, 0, none⟩ = some gv) (sg : S gB) (sv : ∀ a m c, gv = .slice (some a) m c → S a.block) (hS : ∀ k, S k → k < w.heap.size) :
    SeqSepX Try.prog 117 #[.pointer (some ⟨gB, 0, none⟩)] encD (VDP fun m => m ∈ rightL gs) (KeptOn S) (fun xs => xs.map Prod.fst = rightL gs) (fun p => ∃ q, rightL gs = p.map Prod.fst ++ q) manyN w :=
  fun l J Jx W hbw hl hJ hJx hY hj => by
  obtain ⟨H, hH⟩ : ∃ H, W.heap.size = H := ⟨_, rfl⟩
  have hSW : ∀ k, S k → k < H := fun k hk => by have := hS k hk; have := hbw.size; omega
  have hg := cell_later hbw hcg
  have hgW := hgi.later hbw
  obtain ⟨ga, gc, hgf, _⟩ := id hgi
  subst hgf
  have HI := begin_any ga gs.length gc (W.alloc (.cells #[.func (.yield l) #[] #[]] 50))
  rw [World.size_alloc, hH] at HI
  obtain ⟨W0, hW0⟩ : ∃ W0, (W.alloc (.cells #[.func (.yield l) #[] #[]] 50)).alloc (.cells #[.slice ga gs.length gc] 22) = W0 := ⟨_, rfl⟩
  have bW0 : Below W.heap.size W W0 := by rw [← hW0]; exact ((Below.refl _ W).alloc (Nat.le_refl _) _).alloc (by simp) _
  have hs0 : W0.heap.size = H + 2 := by rw [← hW0, ← hH]; simp
  have r0 : Row W0 H 50 [.func (.yield l) #[] #[]] := by rw [← hW0, ← hH]; exact (Row.new W _ [_]).alloc _
  have c1 : W0.cell? ⟨H + 1, 0, none⟩ = some (.slice ga gs.length gc) := by
    have := Row.new (W.alloc (.cells #[.func (.yield l) #[] #[]] 50)) 22 [.slice ga gs.length gc]
    rw [World.size_alloc, hH] at this
    rw [← hW0]; exact this.cell 0
  have j2 := hJ.take _ _ _ (.cells #[.slice ga gs.length gc] 22) (hJ.take _ _ _ (.cells #[.func (.yield l) #[] #[]] 50) hj)
  rw [hW0] at j2
  have h0 : RHold J H S W (okR gs) (.func (.yield l) #[] #[]) [] (fun _ => False) W0 := ⟨[], by
    rwa [show (fun k => ((False ∨ k = W.heap.size) ∨ k = (W.alloc (.cells #[.func (.yield l) #[] #[]] 50)).heap.size)) = (fun k => (k = H ∨ k = H + 1) ∨ False) from pred_ext fun k => by
      simp only [World.size_alloc, hH, or_false, false_or]] at j2, rfl, (KeptOn.refl S W).below bW0 (fun k hk => by have := hSW k hk; omega), r0, fun _ h => h.elim, by omega⟩
  have hg1 := cell_later ((Below.refl W.heap.size W).alloc (Nat.le_refl _) (.cells #[.func (.yield l) #[] #[]] 50)) hg
  have HI := Lib.hid HI
  have HW0 := Lib.hid hW0
  have H0 := Lib.hid h0
  have HGI := Lib.hid (hgW.later bW0)
  have HHH := Lib.hid hH
  have HYY := Lib.hid hY
  have HSH := Lib.hid hSW
  have Hg := Lib.hid hg
  clear j2 h0 hW0 hgW bW0 hj hg hY hgi hcg hbw hS
  show Calls Try.prog 117 #[.func (.yield l) #[] #[], .pointer (some ⟨gB, 0, none⟩)] W _
  refine (callsIn_wide (n := 9)).1 ?_
  refine callsIn_of_wp_marks Try.func117 rfl trivial ?_ rfl
  simp only [Try.ntmps117, List.size_toArray, List.length_cons, List.length_nil, Nat.reduceAdd, Nat.reduceSub, Array.replicate_succ, Array.replicate_zero, List.push_toArray, List.append_toArray, List.nil_append, List.cons_append]
  gi_wp2_with (refine ⟨trivial, ?_⟩; gi_at_call 94; refine (callsIn_wide.2 HI.out).mono ?_; rintro e w' ⟨rfl, rfl⟩)
  try rw [HW0.out]
  have hSS : ∀ k, (S k ∨ k = H + 1) → k < W0.heap.size := fun k h => by
    rcases h with h | h
    · have := HSH.out k h; omega
    · omega
  refine wpIn_rangeFunc_sepX (α := DX) (by omega) (gf := 122) (lb := #[.pointer (some ⟨H + 1, 0, none⟩)]) rfl begin_enters
    (begin1_seq gs (H + 1) (fun k => S k ∨ k = H + 1) _ W0 g8 hgn HGI.out c1 (.inr rfl) (fun a m c e => .inl (sv a m c e)) hSS) VDP_put keptOn_t (keptOn_b hSS) (Below.refl _ _) (fun _ => rfl)
    (RHold J H S W (okR gs) (.func (.yield l) #[] #[])) (fun c pre' Z' V => c = .ret ∧ RHold Jx H S W (okR gs) (.func (.yield l) #[] #[]) pre' Z' V) (by rw [hs0]; exact RHold.sep hJ (by omega) HSH.out) (fun c => by rw [hs0]; exact (RHold.sep hJx (by omega) HSH.out).with _)
    H0.out
    (fun x => { tmps := #[.func (.yield l) #[] #[], .pointer (some ⟨gB, 0, none⟩), .pointer (some ⟨H, 0, none⟩), x.2, .slice ga gs.length gc, .func (.func 122) #[] #[.pointer (some ⟨H + 1, 0, none⟩)], x.2, undef, undef, undef, undef, undef, undef, undef, undef, undef, undef, undef], defers := [] }) ?assign ?body ?done ?stop
  case assign =>
    intro l x W K hK
    simp only [encD]
    gi_wp2
    simpa using hK
  case body =>
    rintro l' pre' ⟨xl, xv⟩ Z' V hl' hrec ⟨add, hJV, hok, hk3, hrow, hz', hszV⟩ ⟨hiv, hvz, hin⟩ hZb hlen
    dsimp only at hiv hvz hin
    obtain ⟨xa, xc, hxv, _⟩ := id hiv
    subst hxv
    have cg : V.cell? ⟨gB, 0, none⟩ = some (.slice ga gs.length gc) := (hk3.cell (p := ⟨gB, 0, none⟩) sg).trans Hg.out
    have cy := hrow.cell 0
    have hlen2 : add.length < manyN := by
      have e := congrArg List.length (show add.map Prod.fst = (pre'.map Prod.fst).filter fun s => decide (s.length = gs.length) from hok)
      rw [List.length_map] at e
      have := List.length_filter_le (fun s : List Int => decide (s.length = gs.length)) (pre'.map Prod.fst)
      rw [List.length_map] at this
      omega
    by_cases hll : xl.length = gs.length
    · obtain ⟨fn, tmps, assign, body, hyy, hR⟩ := HYY.out add (xl, .slice xa xl.length xc) (fun k => (k = H ∨ k = H + 1) ∨ Z' k) V hJV ⟨hiv, fun a m c e => .inr (hvz a m c e), List.mem_filter.2 ⟨hin, decide_eq_true hll⟩⟩ hlen2 8
      dsimp only [encD] at hyy
      have hq : ((xl.length : Int) == (gs.length : Int)) = true := by rw [beq_iff_eq, hll]
      have HR' := Lib.hid hR
      have HOK := Lib.hid (show ∀ v : Value, okR gs (pre' ++ [(xl, v)]) (add ++ [(xl, v)]) from fun v => by
        have h1 : add.map Prod.fst = (pre'.map Prod.fst).filter fun s => decide (s.length = gs.length) := hok
        unfold okR
        rw [List.map_append, List.map_append, List.filter_append, h1]
        simp [hll])
      have HK3 := Lib.hid hk3
      have HROW := Lib.hid hrow
      have HZ' := Lib.hid hz'
      clear hR hok hk3 hrow hz' hiv hvz hin hll
      gi_wp2
      refine (roundIn_wide HR'.out).mono ?_
      rintro e V1 ⟨kb, kz, kp, (⟨rfl, hj1⟩ | ⟨rfl, hj1⟩)⟩
      · have HE := Lib.hid (And.intro kb (And.intro kz (And.intro kp hj1)))
        clear kb kz kp hj1 hyy
        gi_wp2
        obtain ⟨kb, kz, kp, hj1⟩ := HE.out
        exact ⟨keepsFrom_mono kb (by omega), keptOn_mono kz (fun k h => .inr h), ⟨kz.size, fun k h => by
          rcases h with h | h
          · exact kp.block k h
          · exact kz.block k (.inl (.inr h))⟩, _, hj1, HOK.out _, HK3.out.trans kp, (kz.block H (.inl (.inl rfl))).trans HROW.out, HZ'.out, Nat.le_trans hszV kz.size⟩
      · have HE := Lib.hid (And.intro kb (And.intro kz (And.intro kp hj1)))
        clear kb kz kp hj1 hyy
        gi_wp2
        obtain ⟨kb, kz, kp, hj1⟩ := HE.out
        exact ⟨keepsFrom_mono kb (by omega), keptOn_mono kz (fun k h => .inr h), ⟨kz.size, fun k h => by
          rcases h with h | h
          · exact kp.block k h
          · exact kz.block k (.inl (.inr h))⟩, rfl, _, hj1, HOK.out _, HK3.out.trans kp, (kz.block H (.inl (.inl rfl))).trans HROW.out, HZ'.out, Nat.le_trans hszV kz.size⟩
    · have hq : ((xl.length : Int) == (gs.length : Int)) = false := by rw [beq_eq_false_iff_ne]; omega
      have HOK := Lib.hid (show ∀ v : Value, okR gs (pre' ++ [(xl, v)]) add from fun v => by
        have h1 : add.map Prod.fst = (pre'.map Prod.fst).filter fun s => decide (s.length = gs.length) := hok
        unfold okR
        rw [List.map_append, List.filter_append, h1]
        simp [hll])
      have HE := Lib.hid (And.intro hJV (And.intro hk3 (And.intro hrow hz')))
      clear hok hk3 hrow hz' hiv hvz hin hll hJV
      gi_wp2_with fail
      refine ⟨fun _ h => (by cases h), ?_⟩
      gi_wp2
      obtain ⟨hJV, hk3, hrow, hz'⟩ := HE.out
      exact ⟨KeepsFrom.refl _ _, KeptOn.refl _ _, KeptOn.refl _ _, add, hJV, HOK.out _, hk3, hrow, hz', hszV⟩
  case done =>
    rintro D xs Z' V hD hS' ⟨add, hJV, hok, hk3, hrow, hz', hszV⟩ hK
    have HX := Lib.hid (show add.map Prod.fst = rightL gs by
      have h1 : add.map Prod.fst = (xs.map Prod.fst).filter fun s => decide (s.length = gs.length) := hok
      rw [h1, hS']; rfl)
    have HJV := Lib.hid hJV
    clear hJV hok hk3 hrow hz' hS'
    gi_wp2
    refine ⟨by simp, .inl ⟨_, _, rfl, run_takeDeferred hK, ?_⟩⟩
    have J' := hJ.grow _ _ _ _ (some D) HJV.out (grownBy_putObj' V D (.deferred none)) (fun r e => by cases e; exact ⟨by omega, _, hK, rfl⟩)
    exact ⟨_, results_none rfl _ _ _, ⟨_, rfl⟩, .inl ⟨add, _, HX.out, J'⟩⟩
  case stop =>
    rintro D c pre' Z' V hD ⟨q, hq⟩ ⟨rfl, add, hJV, hok, hk3, hrow, hz', hszV⟩ hK
    have HX := Lib.hid (show ∃ q, rightL gs = add.map Prod.fst ++ q by
      have h1 : add.map Prod.fst = (pre'.map Prod.fst).filter fun s => decide (s.length = gs.length) := hok
      exact ⟨q.filter fun s => decide (s.length = gs.length), by rw [h1]; unfold rightL; rw [hq, List.filter_append]⟩)
    have HJV := Lib.hid hJV
    clear hJV hok hk3 hrow hz' hq
    gi_wp2
    refine ⟨by simp, .inl ⟨_, _, rfl, run_takeDeferred hK, ?_⟩⟩
    have J' := hJx.grow _ _ _ _ (some D) HJV.out (grownBy_putObj' V D (.deferred none)) (fun r e => by cases e; exact ⟨by omega, _, hK, rfl⟩)
    exact ⟨_, results_none rfl _ _ _, ⟨_, rfl⟩, .inr ⟨add, _, HX.out, J'⟩⟩
end Go.Proofs.Ytlmfmfbnbbooaaa

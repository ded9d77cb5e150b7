/-
  extend: its contract.
-/
import Derived.Test.YtlmfmfbnbbooaaaDuBeg
namespace Go.Proofs.Ytlmfmfbnbbooaaa
open Go.RowKit Go.Shelf Go.ChangeShapes Go.WideShapes Go.ChangeAt
attribute [local go_sem] Oper.semAt_some
set_option maxRecDepth 100000

theorem ext_results (tmps : Array Value) (w : World) (g : Nat) (b : Value) (hp : tmps.getD 5 undef = .pointer (some ⟨g, 0, none⟩)) (h1 : Row w g 4 [b]) : (results Try.f123 tmps).run Try.prog w = .ok b w := by
  have c0 : w.cell? ⟨g, 0, none⟩ = some b := h1.cell 0
  have hp' : tmps[5]?.getD undef = .pointer (some ⟨g, 0, none⟩) := by simpa using hp
  simp [results, Try.f123, go_sem, hp', c0]

theorem extend_zero (gs : List Int) (gv : Value) (gB yB eB l B0 N : Nat) (P : List Int → Prop) (S : Nat → Prop) (J Jx : List DX → (Nat → Prop) → World → Prop) (hS : ∀ k, S k → k < B0) (hJ : SepO B0 J) (g8 : gs.length ≤ 8) :
    ExtAt gs gv gB yB eB l B0 N P S J Jx 0 := by
  intro b bv pre Z W hf hbn hN hP hB hy he hg hgi hbi hbz hzy hze hZ hj
  obtain ⟨ga, gc, rfl, _⟩ := id hgi
  obtain ⟨ba, bc, rfl, _⟩ := id hbi
  obtain ⟨H, hH⟩ : ∃ H, W.heap.size = H := ⟨_, rfl⟩
  have hl : b.length = gs.length := by omega
  have HJ0 := Lib.hid hj
  have HZ := Lib.hid hZ
  have HH := Lib.hid hH
  have hq : ((gs.length : Int) == (gs.length : Int)) = true := by rw [beq_iff_eq]
  have hqz : ∀ k, Z k → k < H := fun k hk => by rw [← hH]; exact hZ k hk
  have HQZ := Lib.hid hqz
  have hg1 := cell_later ((Below.refl W.heap.size W).alloc (Nat.le_refl _) (.cells #[.bool false] 4)) hg
  rw [hl]
  clear hg hgi hbi hZ hj hl hy he hqz hbz
  go_enter Try.func123, Try.ntmps123
  go_wp2
  have r1 := Row.new W 4 [.bool true]
  have j1 := hJ.take _ _ _ (.cells #[.bool true] 4) HJ0.out
  have bW := (Below.refl W.heap.size W).alloc (Nat.le_refl _) (.cells #[.bool true] 4)
  refine bodyPost_ret (ext_results _ _ H (.bool true) rfl (by rw [← HH.out]; exact r1)) rfl ?_
  refine ⟨keepsFrom_below bW, (KeptOn.refl Z W).below bW HZ.out, (KeptOn.refl S W).below bW (fun k hk => by have := hS k hk; omega), fun k => Z k ∨ k = W.heap.size, [], ⟨fun k h => .inl h, fun k h => ?_, fun k h => ?_⟩, .inl ⟨rfl, rfl, by rw [List.append_nil]; exact j1⟩⟩
  · rw [World.size_alloc]
    rcases h with h | h
    · have := HZ.out k h; omega
    · omega
  · rcases h with h | h
    · exact .inl h
    · exact .inr (by omega)

theorem SepO.with {α : Type} {B : Nat} {I : List α → (Nat → Prop) → World → Prop} (h : SepO B I) (p : Prop) : SepO B (fun s Z W => p ∧ I s Z W) :=
  { grow := fun s Z W W' row k hg hr => ⟨k.1, h.grow s Z W W' row k.2 hg hr⟩
    priv := fun s Z W r i u k hz => ⟨k.1, h.priv s Z W r i u k.2 hz⟩
    take := fun s Z W o k => ⟨k.1, h.take s Z W o k.2⟩
    draw := fun s Z W k => ⟨k.1, h.draw s Z W k.2⟩
    own := fun s Z W W' row N k hg hr hN => ⟨k.1, h.own s Z W W' row N k.2 hg hr hN⟩ }
def belowX (gs : List Int) (f : Nat) (x : List Int) : List (List Int) := x :: begL gs f x
theorem begL_flat (gs : List Int) (f : Nat) (b : List Int) : begL gs (f + 1) b = (longL gs b 21).flatMap (belowX gs f) := by
  rw [longL_next, List.flatMap_map]; rfl
def okI (gs : List Int) (f : Nat) (pre' add : List DX) : Prop := add.map Prod.fst = (pre'.map Prod.fst).flatMap (belowX gs f)
def okX (gs : List Int) (f : Nat) (pre' add : List DX) : Prop := ∃ (p : List DX) (x : DX) (t q : List (List Int)), pre' = p ++ [x] ∧ add.map Prod.fst = (p.map Prod.fst).flatMap (belowX gs f) ++ t ∧ belowX gs f x.1 = t ++ q
theorem okI_len {gs : List Int} {f : Nat} {pre' add : List DX} (h : okI gs f pre' add) : add.length ≤ pre'.length * 22 ^ f := by
  have e := congrArg List.length h
  rw [List.length_map] at e
  have := flat_le (belowX gs f) (22 ^ f) (pre'.map Prod.fst) (fun a _ => by unfold belowX; rw [List.length_cons]; exact begL_length gs f a)
  rw [List.length_map] at this
  omega

set_option maxHeartbeats 4000000 in
theorem extend_succ (gs : List Int) (gv : Value) (gB yB eB l B0 N : Nat) (P : List Int → Prop) (S : Nat → Prop) (J Jx : List DX → (Nat → Prop) → World → Prop) (hS : ∀ k, S k → k < B0) (hJ : SepO B0 J) (hJx : SepO B0 Jx) (g8 : gs.length ≤ 8) (hgn : notesB gs = true)
    (sg : S gB) (sv : ∀ a m c, gv = .slice (some a) m c → S a.block) (hY : YieldSepX Try.prog l encD (VDP P) (KeptOn S) J Jx N B0) (f : Nat) (ih : ExtAt gs gv gB yB eB l B0 N P S J Jx f) :
    ExtAt gs gv gB yB eB l B0 N P S J Jx (f + 1) := by
  intro b bv pre Z W hf hbn hN hP hB hy he hg hgi hbi hbz hzy hze hZ hj
  obtain ⟨ga, gc, hgf, _⟩ := id hgi
  obtain ⟨ba, bc, hbf, _⟩ := id hbi
  subst hgf hbf
  obtain ⟨H, hH⟩ : ∃ H, W.heap.size = H := ⟨_, rfl⟩
  have hlt : b.length < gs.length := by omega
  have hZH : ∀ k, Z k → k < H := fun k hk => by rw [← hH]; exact hZ k hk
  have hSH : ∀ k, S k → k < H := fun k hk => by have := hS k hk; omega
  have HI := longer_any ga ba gs.length gc b.length bc (W.alloc (.cells #[.bool false] 4))
  rw [World.size_alloc, hH] at HI
  obtain ⟨W0, hW0⟩ : ∃ W0, ((W.alloc (.cells #[.bool false] 4)).alloc (.cells #[.slice ga gs.length gc] 22)).alloc (.cells #[.slice ba b.length bc] 22) = W0 := ⟨_, rfl⟩
  have hs0 : W0.heap.size = H + 3 := by rw [← hW0, ← hH]; simp
  have bW0 : Below W.heap.size W W0 := by rw [← hW0]; exact (((Below.refl _ W).alloc (Nat.le_refl _) _).alloc (by simp) _).alloc (by simp; omega) _
  have r0 : Row W0 H 4 [.bool false] := by rw [← hW0, ← hH]; exact ((Row.new W _ _).alloc _).alloc _
  have c1 : W0.cell? ⟨H + 1, 0, none⟩ = some (.slice ga gs.length gc) := by
    have := Row.new (W.alloc (.cells #[.bool false] 4)) 22 [.slice ga gs.length gc]
    rw [World.size_alloc, hH] at this
    rw [← hW0]; exact (this.alloc _).cell 0
  have c2 : W0.cell? ⟨H + 1 + 1, 0, none⟩ = some (.slice ba b.length bc) := by
    have := Row.new ((W.alloc (.cells #[.bool false] 4)).alloc (.cells #[.slice ga gs.length gc] 22)) 22 [.slice ba b.length bc]
    rw [World.size_alloc, World.size_alloc, hH] at this
    rw [← hW0]; exact this.cell 0
  have j3 := hJ.take _ _ _ (.cells #[.slice ba b.length bc] 22) (hJ.take _ _ _ (.cells #[.slice ga gs.length gc] 22) (hJ.take _ _ _ (.cells #[.bool false] 4) hj))
  rw [hW0] at j3
  have j0 : J (pre ++ []) (fun k => (Z k ∨ (H ≤ k ∧ k < H + 3)) ∨ False) W0 := by
    rw [List.append_nil]
    rwa [show (fun k => (((Z k ∨ k = W.heap.size) ∨ k = (W.alloc (.cells #[.bool false] 4)).heap.size) ∨ k = ((W.alloc (.cells #[.bool false] 4)).alloc (.cells #[.slice ga gs.length gc] 22)).heap.size)) = (fun k => (Z k ∨ (H ≤ k ∧ k < H + 3)) ∨ False) from pred_ext fun k => by
      simp only [World.size_alloc, hH, or_false]
      constructor
      · rintro (((h | h) | h) | h)
        · exact .inl h
        · exact .inr (by omega)
        · exact .inr (by omega)
        · exact .inr (by omega)
      · rintro (h | h)
        · exact .inl (.inl (.inl h))
        · rcases (show k = H ∨ k = H + 1 ∨ k = H + 1 + 1 by omega) with h | h | h
          · exact .inl (.inl (.inr h))
          · exact .inl (.inr h)
          · exact .inr h] at j3
  have h0 : BHold J Z H B0 S W (okI gs f) pre [] (fun _ => False) W0 :=
    ⟨[], fun k => Z k ∨ (H ≤ k ∧ k < H + 3), ⟨fun k h => .inl h, fun k h1 h2 => .inr ⟨h1, h2⟩, fun k h => by
      rcases h with h | h
      · have := hZH k h; exact ⟨by omega, .inl h⟩
      · exact ⟨by omega, .inr h.1⟩⟩, j0, rfl, ⟨keepsFrom_below bW0, (KeptOn.refl Z W).below bW0 hZ, (KeptOn.refl S W).below bW0 (fun k hk => by have := hSH k hk; omega)⟩, r0, fun _ h => h.elim, by omega⟩
  have hq : ((b.length : Int) == (gs.length : Int)) = false := by rw [beq_eq_false_iff_ne]; omega
  have hg1 := cell_later ((Below.refl W.heap.size W).alloc (Nat.le_refl _) (.cells #[.bool false] 4)) hg
  have HI := Lib.hid HI
  have HW0 := Lib.hid hW0
  have H0 := Lib.hid h0
  have HGI := Lib.hid hgi
  have HBI := Lib.hid hbi
  have HBW := Lib.hid bW0
  have HHH := Lib.hid hH
  have HYY := Lib.hid hY
  have HIH := Lib.hid ih
  have HNN := Lib.hid hN
  have HPP := Lib.hid hP
  have HZH := Lib.hid hZH
  have HSH := Lib.hid hSH
  have Hy := Lib.hid hy
  have He := Lib.hid he
  have Hg := Lib.hid hg
  have hf' := hf
  clear j3 j0 h0 hW0 hgi hbi bW0 hj hy he hg hY ih hN hP hZ
  refine (callsIn_wide (n := 9)).1 ?_
  refine callsIn_of_wp_marks Try.func123 rfl trivial ?_ rfl
  simp only [Try.ntmps123, List.size_toArray, List.length_cons, List.length_nil, Nat.reduceAdd, Nat.reduceSub, Array.replicate_succ, Array.replicate_zero, List.push_toArray, List.append_toArray, List.nil_append, List.cons_append]
  gi_wp2_with (refine ⟨trivial, ?_⟩; gi_at_call 93; refine (callsIn_wide.2 HI.out).mono ?_; rintro e w' ⟨rfl, rfl⟩)
  try rw [HW0.out]
  have hSS : ∀ k, (S k ∨ k = H + 1) → k < W0.heap.size := fun k h => by
    rcases h with h | h
    · have := HSH.out k h; omega
    · omega
  refine wpIn_rangeFunc_sepX (α := DX) (by omega) (gf := 121) (lb := #[.pointer (some ⟨H + 1 + 1, 0, none⟩), .pointer (some ⟨H + 1, 0, none⟩)]) rfl longer_enters
    (longer1_seq gs b (H + 1) (H + 1 + 1) (fun k => S k ∨ k = H + 1) (fun m => ∃ y ∈ nextL gs b, m = b ++ [((y : Nat) : Int)]) _ _ W0 g8 hlt hgn hbn (HGI.out.later HBW.out) (HBI.out.later HBW.out) c1 c2 (.inr rfl) (fun a m c e => .inl (sv a m c e)) hSS (fun x hx => ⟨x, hx, rfl⟩)) VDP_put keptOn_t (keptOn_b hSS) (Below.refl _ _) (fun _ => rfl)
    (BHold J Z H B0 S W (okI gs f) pre) (fun c pre' Z' V => c = .ret ∧ BHold Jx Z H B0 S W (okX gs f) pre pre' Z' V) (by rw [hs0]; exact BHold.sep hJ HHH.out (by omega) HZH.out HSH.out) (fun c => by rw [hs0]; exact (BHold.sep hJx HHH.out (by omega) HZH.out HSH.out).with _)
    H0.out
    (fun x => { tmps := #[.slice ba b.length bc, .pointer (some ⟨gB, 0, none⟩), .pointer (some ⟨yB, 0, none⟩), .pointer (some ⟨eB, 0, none⟩), undef, .pointer (some ⟨H, 0, none⟩), x.2, .slice ba b.length bc, .int .i64 b.length, .slice ga gs.length gc, .int .i64 gs.length, .bool false, .slice ga gs.length gc, .slice ba b.length bc, .func (.func 121) #[] #[.pointer (some ⟨H + 1 + 1, 0, none⟩), .pointer (some ⟨H + 1, 0, none⟩)], x.2, undef, undef, undef, undef, undef, undef, undef, undef, undef, undef], defers := [] }) ?assign ?body ?done ?stop
  case assign =>
    intro l x W K hK
    simp only [encD]
    gi_wp2
    simpa using hK
  case body =>
    rintro l' pre' ⟨xl, xv⟩ Z' V hl' hrec ⟨add, ZB, ⟨z1, z2, z3⟩, hJV, hok, ⟨hk1, hk2, hk3⟩, hrow, hz', hszV⟩ ⟨hiv, hvz, y, hy, hxl⟩ hZb hlen
    dsimp only at hiv hvz hxl
    subst hxl
    have cy : V.cell? ⟨yB, 0, none⟩ = some (.func (.yield l) #[] #[]) := (hk2.cell (p := ⟨yB, 0, none⟩) hzy).trans Hy.out
    have ce : V.cell? ⟨eB, 0, none⟩ = some (extF gB yB eB) := (hk2.cell (p := ⟨eB, 0, none⟩) hze).trans He.out
    have cg : V.cell? ⟨gB, 0, none⟩ = some (.slice ga gs.length gc) := (hk3.cell (p := ⟨gB, 0, none⟩) sg).trans Hg.out
    have hyl : y < 21 := by
      unfold nextL at hy
      exact List.mem_range.1 (List.mem_filter.1 hy).1
    have hin : ∀ m ∈ belowX gs f (b ++ [(y : Int)]), m ∈ begL gs (f + 1) b := fun m hm => by
      unfold begL
      exact List.mem_flatMap.2 ⟨y, hy, hm⟩
    have hPx : P (b ++ [(y : Int)]) := HPP.out _ (hin _ (by unfold belowX; simp))
    have hPs : ∀ m ∈ begL gs f (b ++ [(y : Int)]), P m := fun m hm => HPP.out m (hin m (by unfold belowX; simp [hm]))
    have hol := okI_len hok
    have hpw : 0 < 22 ^ f := Nat.pow_pos (by omega)
    have hps : 22 ^ (f + 1) = 22 * 22 ^ f := by rw [Nat.pow_succ, Nat.mul_comm]
    have hml : pre'.length * 22 ^ f ≤ 20 * 22 ^ f := Nat.mul_le_mul_right _ (by omega)
    have hNN := HNN.out
    obtain ⟨xa, xc, hxv, hxf⟩ := id hiv
    subst hxv
    have hyl1 : (pre ++ add).length < N := by rw [List.length_append]; omega
    obtain ⟨fn, tmps, assign, body, hyy, hR⟩ := HYY.out (pre ++ add) (b ++ [(y : Int)], .slice xa (b ++ [(y : Int)]).length xc) (fun k => ZB k ∨ Z' k) V hJV ⟨hiv, fun a m c e => .inr (hvz a m c e), hPx⟩ hyl1 8
    dsimp only [encD] at hyy
    have HR' := Lib.hid hR
    have HOK := Lib.hid hok
    have HK1 := Lib.hid hk1
    have HK2 := Lib.hid hk2
    have HK3 := Lib.hid hk3
    have HZ3 := Lib.hid z3
    have HZ1 := Lib.hid z1
    have HZ2 := Lib.hid z2
    have HZ' := Lib.hid hz'
    have HROW := Lib.hid hrow
    have HIV := Lib.hid hiv
    have HVZ := Lib.hid hvz
    have HCE := Lib.hid ce
    have HCG := Lib.hid cg
    have HCY := Lib.hid cy
    have hbn2 := notes_snoc hbn hyl
    have hbl : (b ++ [(y : Int)]).length + f = gs.length := by rw [List.length_append, List.length_singleton]; omega
    have HEX := Lib.hid (fun (V1 : World) (kz : KeptOn (fun k => ZB k ∨ Z' k) V V1) (kp : KeptOn S V V1) (hj1 : J (pre ++ add ++ [(b ++ [(y : Int)], .slice xa (b ++ [(y : Int)]).length xc)]) (fun k => ZB k ∨ Z' k) V1) =>
      HIH.out (b ++ [(y : Int)]) (.slice xa (b ++ [(y : Int)]).length xc) (pre ++ add ++ [(b ++ [(y : Int)], .slice xa (b ++ [(y : Int)]).length xc)]) (fun k => ZB k ∨ Z' k) V1 hbl hbn2 (by rw [List.length_append, List.length_append, List.length_singleton]; omega) hPs (by have := kz.size; have := HHH.out; omega)
        ((kz.cell (p := ⟨yB, 0, none⟩) (.inl (z1 _ hzy))).trans cy) ((kz.cell (p := ⟨eB, 0, none⟩) (.inl (z1 _ hze))).trans ce) ((kp.cell (p := ⟨gB, 0, none⟩) sg).trans cg) ((HGI.out.keptZ sv hk3).keptZ sv kp) (hiv.keptZ (fun a m c e => .inr (hvz a m c e)) kz)
        (fun a m c e => .inr (hvz a m c e)) (.inl (z1 _ hzy)) (.inl (z1 _ hze)) (fun k h => by
          have := kz.size
          rcases h with h | h
          · have := (z3 k h).1; omega
          · have := (hz' k h).2; omega) hj1)
    clear hR hok hk1 hk2 hk3 z1 z2 z3 hz' hrow hiv hvz ce cg hPx hPs hol hml hNN hin hJV hxf
    generalize hxx : (b ++ [(y : Int)]) = xs at *
    gi_wp2
    refine (roundIn_wide HR'.out).mono ?_
    rintro e V1 ⟨kb, kz, kp, (⟨rfl, hj1⟩ | ⟨rfl, hj1⟩)⟩
    · have HX1 := Lib.hid (HEX.out V1 kz kp hj1)
      have ce1 : V1.cell? ⟨eB, 0, none⟩ = some (extF gB yB eB) := (kz.cell (p := ⟨eB, 0, none⟩) (.inl (HZ1.out _ hze))).trans HCE.out
      unfold extF at ce1
      have HKB := Lib.hid kb
      have HKZ := Lib.hid kz
      have HKP := Lib.hid kp
      clear kb kz kp hj1 hyy
      gi_wp2_with fail
      refine ⟨trivial, ?_⟩
      refine (CallsIn.inRound l' (callsIn_wide.2 HX1.out)).mono ?_
      rintro e V2 ⟨kb2, kz2, kp2, Z2, add2, ⟨w1, w2, w3⟩, (⟨rfl, hm, hj2⟩ | ⟨rfl, ⟨q, hq2⟩, hj2⟩)⟩
      · have HE := Lib.hid (And.intro kb2 (And.intro kz2 (And.intro kp2 (And.intro w1 (And.intro w2 (And.intro w3 (And.intro hm hj2)))))))
        clear kb2 kz2 kp2 w1 w2 w3 hm hj2
        gi_wp2
        obtain ⟨kb2, kz2, kp2, w1, w2, w3, hm, hj2⟩ := HE.out
        have kz12 := HKZ.out.trans kz2
        have kp12 := HKP.out.trans kp2
        have kb12 := HKB.out.trans kb2
        have hH1 := HZ2.out (H + 1) (by omega) (by omega)
        have hH0 := HZ2.out H (Nat.le_refl H) (by omega)
        have hj3 : J (pre ++ (add ++ [(xs, .slice xa xs.length xc)] ++ add2)) (fun k => Z2 k ∨ Z' k) V2 := by
          rw [show (fun k => Z2 k ∨ Z' k) = Z2 from pred_ext fun k => ⟨fun h => h.elim id (fun h => w1 k (.inr h)), .inl⟩, ← List.append_assoc, ← List.append_assoc]
          exact hj2
        refine ⟨keepsFrom_mono kb12 (by omega), keptOn_mono kz12 (fun k h => .inr h), ⟨kz12.size, fun k h => ?_⟩, add ++ [(xs, .slice xa xs.length xc)] ++ add2, Z2,
          ⟨fun k h => w1 k (.inl (HZ1.out k h)), fun k h1 h2 => w1 k (.inl (HZ2.out k h1 h2)), fun k h => ⟨w2 k h, ?_⟩⟩, hj3, ?_,
          ⟨HK1.out.trans kb12, HK2.out.trans (keptOn_mono kz12 (fun k h => .inl (HZ1.out k h))), HK3.out.trans kp12⟩, (kz12.block H (.inl hH0)).trans HROW.out, fun k h => ⟨(HZ'.out k h).1, Nat.lt_of_lt_of_le (HZ'.out k h).2 kz12.size⟩, Nat.le_trans hszV kz12.size⟩
        · rcases h with h | rfl
          · exact kp12.block k h
          · exact kz12.block _ (.inl hH1)
        · rcases w3 k h with (h | h) | h
          · exact (HZ3.out k h).2
          · exact .inr (by have := (HZ'.out k h).1; omega)
          · exact .inr (by have := HKZ.out.size; omega)
        · have h1 : add.map Prod.fst = (pre'.map Prod.fst).flatMap (belowX gs f) := HOK.out
          show (add ++ [(xs, _)] ++ add2).map Prod.fst = ((pre' ++ [(xs, _)]).map Prod.fst).flatMap (belowX gs f)
          rw [List.map_append, List.map_append, List.map_append, List.flatMap_append, h1, hm, List.append_assoc]
          congr 1
          simp [belowX]
      · have HE := Lib.hid (And.intro kb2 (And.intro kz2 (And.intro kp2 (And.intro w1 (And.intro w2 (And.intro w3 (And.intro hq2 hj2)))))))
        have hHB := HZ2.out H (Nat.le_refl H) (by omega)
        have rw2 : Row V2 H 4 [.bool false] := ((kz2.block H (.inl hHB)).trans (HKZ.out.block H (.inl hHB))).trans HROW.out
        have k1 := rw2.cell 0
        have f1 := rw2.frozen 0
        have HRW := Lib.hid rw2
        clear kb2 kz2 kp2 w1 w2 w3 hq2 hj2 rw2
        gi_wp2
        obtain ⟨kb2, kz2, kp2, w1, w2, w3, hq2, hj2⟩ := HE.out
        have kz12 := HKZ.out.trans kz2
        have kp12 := HKP.out.trans kp2
        have kb12 := HKB.out.trans kb2
        have hH1 := HZ2.out (H + 1) (by omega) (by omega)
        have hnS : ¬ S H := fun h => by have := HSH.out H h; omega
        have hnZ : ¬ Z H := fun h => by have := HZH.out H h; omega
        have hj3 : Jx (pre ++ (add ++ [(xs, .slice xa xs.length xc)] ++ add2)) (fun k => Z2 k ∨ Z' k) (V2.setCell ⟨H, 0, none⟩ (.bool false)) := by
          rw [show (fun k => Z2 k ∨ Z' k) = Z2 from pred_ext fun k => ⟨fun h => h.elim id (fun h => w1 k (.inr h)), .inl⟩, ← List.append_assoc, ← List.append_assoc]
          exact hJx.priv _ _ V2 H 0 (.bool false) hj2 (w1 H (.inl hHB))
        have hsz : (V2.setCell ⟨H, 0, none⟩ (.bool false)).heap.size = V2.heap.size := by simp [World.setCell]
        refine ⟨(keepsFrom_mono kb12 (by omega)).trans ((KeepsOthers.setCell V2 ⟨H, 0, none⟩ _).from _), (keptOn_mono kz12 (fun k h => .inr h)).setCell (p := ⟨H, 0, none⟩) (fun h => by have := (HZ'.out H h).1; omega) _, ?_, rfl, add ++ [(xs, .slice xa xs.length xc)] ++ add2, Z2,
          ⟨fun k h => w1 k (.inl (HZ1.out k h)), fun k h1 h2 => w1 k (.inl (HZ2.out k h1 h2)), fun k h => ⟨by rw [hsz]; exact w2 k h, ?_⟩⟩, hj3, ⟨pre', (xs, .slice xa xs.length xc), xs :: add2.map Prod.fst, q, rfl, ?_, by rw [List.cons_append, ← hq2]; rfl⟩,
          ⟨keepsFrom_grown (HK1.out.trans kb12) (set_grown V2 H 0 _) (fun r e => by cases e; rw [HHH.out]; exact Nat.le_refl _), (HK2.out.trans (keptOn_mono kz12 (fun k h => .inl (HZ1.out k h)))).setCell (p := ⟨H, 0, none⟩) hnZ _, (HK3.out.trans kp12).setCell (p := ⟨H, 0, none⟩) hnS _⟩,
          HRW.out.set 0 (.bool false), fun k h => ⟨(HZ'.out k h).1, by rw [hsz]; exact Nat.lt_of_lt_of_le (HZ'.out k h).2 kz12.size⟩, by rw [hsz]; exact Nat.le_trans hszV kz12.size⟩
        · have hk : KeptOn (fun k => S k ∨ k = H + 1) V V2 := ⟨kz12.size, fun k h => by
            rcases h with h | rfl
            · exact kp12.block k h
            · exact kz12.block _ (.inl hH1)⟩
          exact hk.setCell (p := ⟨H, 0, none⟩) (fun h => by rcases h with h | h; exact hnS h; dsimp only at h; omega) _
        · rcases w3 k h with (h | h) | h
          · exact (HZ3.out k h).2
          · exact .inr (by have := (HZ'.out k h).1; omega)
          · exact .inr (by have := HKZ.out.size; omega)
        · have h1 : add.map Prod.fst = (pre'.map Prod.fst).flatMap (belowX gs f) := HOK.out
          rw [List.map_append, List.map_append, h1, List.append_assoc]; rfl
    · have hHB := HZ2.out H (Nat.le_refl H) (by omega)
      have rw1 : Row V1 H 4 [.bool false] := (kz.block H (.inl hHB)).trans HROW.out
      have k1 := rw1.cell 0
      have f1 := rw1.frozen 0
      have HRW := Lib.hid rw1
      have HE := Lib.hid (And.intro kb (And.intro kz (And.intro kp hj1)))
      clear kb kz kp hj1 hyy rw1
      gi_wp2_with fail
      refine ⟨fun _ h => (by cases h), ?_⟩
      gi_wp2
      obtain ⟨kb, kz, kp, hj1⟩ := HE.out
      have hH1 := HZ2.out (H + 1) (by omega) (by omega)
      have hnS : ¬ S H := fun h => by have := HSH.out H h; omega
      have hnZ : ¬ Z H := fun h => by have := HZH.out H h; omega
      have hj3 : Jx (pre ++ (add ++ [(xs, .slice xa xs.length xc)])) (fun k => ZB k ∨ Z' k) (V1.setCell ⟨H, 0, none⟩ (.bool false)) := by
        rw [← List.append_assoc]
        exact hJx.priv _ _ V1 H 0 (.bool false) hj1 (.inl hHB)
      have hsz : (V1.setCell ⟨H, 0, none⟩ (.bool false)).heap.size = V1.heap.size := by simp [World.setCell]
      refine ⟨(keepsFrom_mono kb (by omega)).trans ((KeepsOthers.setCell V1 ⟨H, 0, none⟩ _).from _), (keptOn_mono kz (fun k h => .inr h)).setCell (p := ⟨H, 0, none⟩) (fun h => by have := (HZ'.out H h).1; omega) _, ?_, rfl, add ++ [(xs, .slice xa xs.length xc)], ZB,
        ⟨HZ1.out, HZ2.out, fun k h => ⟨by rw [hsz]; exact Nat.lt_of_lt_of_le (HZ3.out k h).1 kz.size, (HZ3.out k h).2⟩⟩, hj3, ⟨pre', (xs, .slice xa xs.length xc), [xs], begL gs f xs, rfl, ?_, rfl⟩,
        ⟨keepsFrom_grown (HK1.out.trans kb) (set_grown V1 H 0 _) (fun r e => by cases e; rw [HHH.out]; exact Nat.le_refl _), (HK2.out.trans (keptOn_mono kz (fun k h => .inl (HZ1.out k h)))).setCell (p := ⟨H, 0, none⟩) hnZ _, (HK3.out.trans kp).setCell (p := ⟨H, 0, none⟩) hnS _⟩,
        HRW.out.set 0 (.bool false), fun k h => ⟨(HZ'.out k h).1, by rw [hsz]; exact Nat.lt_of_lt_of_le (HZ'.out k h).2 kz.size⟩, by rw [hsz]; exact Nat.le_trans hszV kz.size⟩
      · have hk : KeptOn (fun k => S k ∨ k = H + 1) V V1 := ⟨kz.size, fun k h => by
          rcases h with h | rfl
          · exact kp.block k h
          · exact kz.block _ (.inl hH1)⟩
        exact hk.setCell (p := ⟨H, 0, none⟩) (fun h => by rcases h with h | h; exact hnS h; dsimp only at h; omega) _
      · have h1 : add.map Prod.fst = (pre'.map Prod.fst).flatMap (belowX gs f) := HOK.out
        rw [List.map_append, h1]; rfl
  case done =>
    rintro D xs Z' V hD hS' ⟨add, ZB, ⟨z1, z2, z3⟩, hJV, hok, ⟨hk1, hk2, hk3⟩, hrow, hz', hszV⟩ hK
    have k1 := hrow.cell 0
    have f1 := hrow.frozen 0
    have HR := Lib.hid hrow
    have HJV := Lib.hid hJV
    have HOK := Lib.hid (show add.map Prod.fst = begL gs (f + 1) b by
      have h1 : add.map Prod.fst = (xs.map Prod.fst).flatMap (belowX gs f) := hok
      rw [h1, hS', begL_flat])
    have HK1 := Lib.hid hk1
    have HK2 := Lib.hid hk2
    have HK3 := Lib.hid hk3
    have HZ3 := Lib.hid z3
    clear hrow hJV hok hk1 hk2 hk3 hS' z3
    have HZ1 := Lib.hid z1
    have HZ' := Lib.hid hz'
    have hHB := z2 H (Nat.le_refl H) (by omega)
    clear z1 z2 hz'
    gi_wp2
    have hDH : H + 3 ≤ D := by omega
    have hK' : (V.setCell ⟨H, 0, none⟩ (.bool true)).heap[D]? = some (.deferred (some [])) := (Below.heap_setCell V ⟨H, 0, none⟩ (.bool true) D (show D ≠ H by omega)).trans hK
    refine ⟨by simp, .inl ⟨_, _, rfl, run_takeDeferred hK', ?_⟩⟩
    have hgA := set_grown V H 0 (.bool true)
    have hgB := grownBy_putObj' (V.setCell ⟨H, 0, none⟩ (.bool true)) D (.deferred none)
    have hsA : (V.setCell ⟨H, 0, none⟩ (.bool true)).heap.size = V.heap.size := by simp [World.setCell]
    have R' := (HR.out.set 0 (.bool true)).alone hgB (fun r e => by cases e; omega)
    have J' := hJ.grow _ _ _ _ (some D) (hJ.priv _ _ V H 0 (.bool true) HJV.out (.inl hHB)) hgB (fun r e => by cases e; exact ⟨by omega, _, hK', rfl⟩)
    refine ⟨.bool true, ext_results _ _ H (.bool true) rfl R', keepsFrom_grown (keepsFrom_grown HK1.out hgA (fun r e => by cases e; rw [HHH.out]; exact Nat.le_refl _)) hgB (fun r e => by cases e; rw [HHH.out]; omega),
      (HK2.out.grown hgA (fun k hk => by have := HZH.out k hk; omega) (fun k e hk => by cases e; have := HZH.out _ hk; omega)).grown hgB (fun k hk => by have := HZH.out k hk; omega) (fun k e hk => by cases e; have := HZH.out _ hk; omega),
      (HK3.out.grown hgA (fun k hk => by have := HSH.out k hk; omega) (fun k e hk => by cases e; have := HSH.out _ hk; omega)).grown hgB (fun k hk => by have := HSH.out k hk; omega) (fun k e hk => by cases e; have := HSH.out _ hk; omega),
      fun k => ZB k ∨ Z' k, add, ⟨fun k h => .inl (HZ1.out k h), fun k h => ?_, fun k h => ?_⟩, .inl ⟨rfl, HOK.out, J'⟩⟩
    · have := hgB.size
      rcases h with h | h
      · have := (HZ3.out k h).1; omega
      · have := (HZ'.out k h).2; omega
    · rcases h with h | h
      · rcases (HZ3.out k h).2 with h | h
        · exact .inl h
        · exact .inr (by rw [HHH.out]; exact h)
      · exact .inr (by have := (HZ'.out k h).1; rw [HHH.out]; omega)
  case stop =>
    rintro D c pre' Z' V hD ⟨q, hq⟩ ⟨rfl, add, ZB, ⟨z1, z2, z3⟩, hJV, ⟨p, x, t, q2, e1, e2, e3⟩, ⟨hk1, hk2, hk3⟩, hrow, hz', hszV⟩ hK
    have HR := Lib.hid hrow
    have HJV := Lib.hid hJV
    have HOK := Lib.hid (show ∃ q, begL gs (f + 1) b = add.map Prod.fst ++ q by
      rw [begL_flat, hq, e1, List.map_append, e2, List.flatMap_append, List.flatMap_append]
      refine ⟨q2 ++ q.flatMap (belowX gs f), ?_⟩
      rw [show (List.map Prod.fst [x]).flatMap (belowX gs f) = t ++ q2 by simp [e3]]
      simp only [List.append_assoc])
    have HK1 := Lib.hid hk1
    have HK2 := Lib.hid hk2
    have HK3 := Lib.hid hk3
    have HZ3 := Lib.hid z3
    have HZ1 := Lib.hid z1
    have HZ' := Lib.hid hz'
    clear hrow hJV hk1 hk2 hk3 z3 z1 z2 hz' e1 e2 e3 hq
    gi_wp2
    have hDH : H + 3 ≤ D := by omega
    refine ⟨by simp, .inl ⟨_, _, rfl, run_takeDeferred hK, ?_⟩⟩
    have hgB := grownBy_putObj' V D (.deferred none)
    have R' := HR.out.alone hgB (fun r e => by cases e; omega)
    have J' := hJx.grow _ _ _ _ (some D) HJV.out hgB (fun r e => by cases e; exact ⟨by omega, _, hK, rfl⟩)
    refine ⟨.bool false, ext_results _ _ H (.bool false) rfl R', keepsFrom_grown HK1.out hgB (fun r e => by cases e; rw [HHH.out]; omega),
      HK2.out.grown hgB (fun k hk => by have := HZH.out k hk; omega) (fun k e hk => by cases e; have := HZH.out _ hk; omega),
      HK3.out.grown hgB (fun k hk => by have := HSH.out k hk; omega) (fun k e hk => by cases e; have := HSH.out _ hk; omega),
      fun k => ZB k ∨ Z' k, add, ⟨fun k h => .inl (HZ1.out k h), fun k h => ?_, fun k h => ?_⟩, .inr ⟨rfl, HOK.out, J'⟩⟩
    · have := hgB.size
      rcases h with h | h
      · have := (HZ3.out k h).1; omega
      · have := (HZ'.out k h).2; omega
    · rcases h with h | h
      · rcases (HZ3.out k h).2 with h | h
        · exact .inl h
        · exact .inr (by rw [HHH.out]; exact h)
      · exact .inr (by have := (HZ'.out k h).1; rw [HHH.out]; omega)

theorem extend_any (gs : List Int) (gv : Value) (gB yB eB l B0 N : Nat) (P : List Int → Prop) (S : Nat → Prop) (J Jx : List DX → (Nat → Prop) → World → Prop) (hS : ∀ k, S k → k < B0) (hJ : SepO B0 J) (hJx : SepO B0 Jx) (g8 : gs.length ≤ 8) (hgn : notesB gs = true)
    (sg : S gB) (sv : ∀ a m c, gv = .slice (some a) m c → S a.block) (hY : YieldSepX Try.prog l encD (VDP P) (KeptOn S) J Jx N B0) : ∀ f, ExtAt gs gv gB yB eB l B0 N P S J Jx f
  | 0 => extend_zero gs gv gB yB eB l B0 N P S J Jx hS hJ g8
  | f + 1 => extend_succ gs gv gB yB eB l B0 N P S J Jx hS hJ hJx g8 hgn sg sv hY f (extend_any gs gv gB yB eB l B0 N P S J Jx hS hJ hJx g8 hgn sg sv hY f)
end Go.Proofs.Ytlmfmfbnbbooaaa

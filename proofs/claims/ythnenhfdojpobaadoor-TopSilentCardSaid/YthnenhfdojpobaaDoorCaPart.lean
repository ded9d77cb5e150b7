/-
  The search for partners, as a list: each time the first empty beat must be filled by just one voice. Plain mathematics: it finds just the partners, each once.
-/
import Derived.Test.YthnenhfdojpobaaDoorCaMath
namespace Go.Proofs.YthnenhfdojpobaaDoor

/-- The first beat that is not filled. -/
def emptyN (filled : Nat) : Nat := Lib.ctz 64 (2 ^ 64 - 1 - filled)

theorem empty_spec {n filled : Nat} (hn : n ≤ 62) (hf : filled < 2 ^ n) (h : filled ≠ 2 ^ n - 1) : emptyN filled < n ∧ filled.testBit (emptyN filled) = false := by
  have hp : 2 ^ n ≤ 2 ^ 62 := Nat.pow_le_pow_right (by omega) hn
  have hb : ∀ i, (2 ^ 64 - 1 - filled).testBit i = (decide (i < 64) && !filled.testBit i) := fun i => by
    rw [show 2 ^ 64 - 1 - filled = 2 ^ 64 - (filled + 1) from by omega, Nat.testBit_two_pow_sub_succ (by omega)]
  obtain ⟨h1, h2, h3, _⟩ := ctz_bits (2 ^ 64 - 1 - filled) (by omega) (by omega)
  change (2 ^ 64 - 1 - filled).testBit (emptyN filled) = true at h2
  change ∀ i, i < emptyN filled → _ at h3
  rw [hb, Bool.and_eq_true] at h2
  have h4 : filled.testBit (emptyN filled) = false := by simpa using h2.2
  refine ⟨?_, h4⟩
  apply Nat.lt_of_not_le
  intro hle
  apply h
  rw [full_iff hf]
  intro i hi
  have := h3 i (by omega)
  rw [hb, decide_eq_true (show i < 64 by omega), Bool.true_and] at this
  simpa using this

/-- Where the voice enters that has the beat e as its beat x. -/
def backN (n e x : Nat) : Nat := (e + n - x) % n
theorem back_lt {n e x : Nat} (hn : 0 < n) : backN n e x < n := Nat.mod_lt _ hn
theorem back_two {n e x : Nat} (he : e < n) (hx : x < n) : backN n e (backN n e x) = x := by
  unfold backN
  by_cases h : x ≤ e
  · rw [show e + n - x = (e - x) + n from by omega, Nat.add_mod_right, Nat.mod_eq_of_lt (show e - x < n by omega), show e + n - (e - x) = x + n from by omega, Nat.add_mod_right, Nat.mod_eq_of_lt hx]
  · rw [Nat.mod_eq_of_lt (show e + n - x < n by omega), show e + n - (e + n - x) = x from by omega, Nat.mod_eq_of_lt hx]

def partL (n a : Nat) : Nat → Nat → Nat → List Nat
  | 0, b, filled => if filled = 2 ^ n - 1 then [b] else []
  | f + 1, b, filled => if filled = 2 ^ n - 1 then [b] else (tonesB n a).flatMap fun x =>
      if mvN n a (backN n (emptyN filled) x) &&& filled = 0 then partL n a f (b ||| 2 ^ backN n (emptyN filled) x) (filled ||| mvN n a (backN n (emptyN filled) x)) else []
/-- What one beat brings. -/
def partX (n a f b filled x : Nat) : List Nat :=
  if mvN n a (backN n (emptyN filled) x) &&& filled = 0 then partL n a f (b ||| 2 ^ backN n (emptyN filled) x) (filled ||| mvN n a (backN n (emptyN filled) x)) else []
theorem partL_full (n a f b : Nat) : partL n a f b (2 ^ n - 1) = [b] := by cases f <;> simp [partL]
theorem partL_more {n a f b filled : Nat} (h : filled ≠ 2 ^ n - 1) : partL n a (f + 1) b filled = (tonesB n a).flatMap (partX n a f b filled) := by
  show (if filled = 2 ^ n - 1 then [b] else _) = _
  rw [if_neg h]; rfl

/-! ### counts of what is filled -/

theorem bI_or (p q i : Nat) (h : p &&& q = 0) : bI (p ||| q) i = bI p i + bI q i := by
  have h2 : (p &&& q).testBit i = false := by rw [h]; simp
  rw [Nat.testBit_and] at h2
  unfold bI
  rw [Nat.testBit_or]
  revert h2
  cases p.testBit i <;> cases q.testBit i <;> simp
theorem card_or (n p q : Nat) (h : p &&& q = 0) : cardN n (p ||| q) = cardN n p + cardN n q := by
  unfold cardN
  rw [← sum_add]
  exact sum_congr (fun i _ => bI_or p q i h)
theorem card_le (n p : Nat) : cardN n p ≤ n := by
  have := sum_leq (n := n) (f := bI p) (g := fun _ => 1) (fun i _ => bI01 p i)
  rwa [sum_const, Nat.mul_one] at this
theorem card_full {n p : Nat} (hp : p < 2 ^ n) (h : n ≤ cardN n p) : p = 2 ^ n - 1 := by
  rw [full_iff hp]
  intro i hi
  apply Classical.byContradiction
  intro hne
  have h0 : bI p i = 0 := bI_zero.2 (by simpa using hne)
  have e : sumN n (fun j => bI p j + if j = i then 1 else 0) ≤ sumN n (fun _ => 1) := sum_leq (fun j hj => by
    by_cases h2 : j = i
    · rw [if_pos h2, h2, h0]; omega
    · rw [if_neg h2]; have := bI01 p j; omega)
  rw [sum_add, sum_single n i (fun _ => 1), if_pos hi, sum_const, Nat.mul_one] at e
  unfold cardN at h
  omega
theorem card_pos {n p i : Nat} (hi : i < n) (h : p.testBit i = true) : 1 ≤ cardN n p := by
  have := sum_at (bI p) hi
  rw [bI_one.2 h] at this
  exact this

/-- A voice has its first beat. -/
theorem voice_bit {n a e x : Nat} (ha : a < 2 ^ n) (he : e < n) (hx : x < n) (hb : a.testBit x = true) : (mvN n a (backN n e x)).testBit e = true := by
  rw [testBit_mv (back_lt (by omega)) ha, decide_eq_true he, Bool.true_and]
  show a.testBit (backN n e (backN n e x)) = true
  rw [back_two he hx, hb]
theorem tone_mem {n a x : Nat} : x ∈ tonesB n a ↔ x < n ∧ a.testBit x = true := by unfold tonesB; rw [List.mem_filter, List.mem_range]

theorem fuel_step {n a f filled x : Nat} (ha : a < 2 ^ n) (hf : filled < 2 ^ n) (hn : n ≤ 62) (hne : filled ≠ 2 ^ n - 1) (hx : x ∈ tonesB n a) (hv : mvN n a (backN n (emptyN filled) x) &&& filled = 0) (h : n ≤ f + 1 + cardN n filled) :
    n ≤ f + cardN n (filled ||| mvN n a (backN n (emptyN filled) x)) := by
  obtain ⟨h1, h2⟩ := empty_spec hn hf hne
  obtain ⟨x1, x2⟩ := tone_mem.1 hx
  have hc := card_pos h1 (voice_bit ha h1 x1 x2)
  rw [Nat.and_comm] at hv
  rw [card_or n _ _ hv]
  omega
theorem fuel_zero {n filled : Nat} (hf : filled < 2 ^ n) (h : n ≤ 0 + cardN n filled) : filled = 2 ^ n - 1 := card_full hf (by omega)

/-! ### the search is right -/

/-- What is filled is what the entries fill, each beat once. -/
def Inv (n a b filled : Nat) : Prop := b < 2 ^ n ∧ filled < 2 ^ n ∧ ∀ i, i < n → cntN n a b i = bI filled i

theorem bit_new (b y z : Nat) : (b ||| 2 ^ y).testBit z = (b.testBit z || decide (y = z)) := by rw [Nat.testBit_or, Nat.testBit_two_pow]

theorem cnt_new {n a b y i : Nat} (hy : y < n) (hb : b.testBit y = false) : cntN n a (b ||| 2 ^ y) i = cntN n a b i + bI a ((i + n - y) % n) := by
  unfold cntN cntK
  have e := sum_single n y (fun z => bI a ((i + n - z) % n))
  rw [if_pos hy] at e
  rw [← e, ← sum_add]
  refine sum_congr (fun z _ => ?_)
  by_cases h : z = y
  · subst h
    rw [if_pos rfl, bI_zero.2 hb, bI_one.2 (by rw [bit_new]; simp)]
    omega
  · rw [if_neg h, Nat.add_zero]
    congr 1
    unfold bI
    rw [bit_new, decide_eq_false (fun e => h e.symm), Bool.or_false]

theorem voice_bI {n a y i : Nat} (ha : a < 2 ^ n) (hy : y < n) (hi : i < n) : bI (mvN n a y) i = bI a ((i + n - y) % n) := by
  unfold bI
  rw [testBit_mv hy ha, decide_eq_true hi, Bool.true_and]

theorem inv_step {n a b filled y e : Nat} (ha : a < 2 ^ n) (hy : y < n) (he : e < n) (hve : (mvN n a y).testBit e = true) (hv : mvN n a y &&& filled = 0) (h : Inv n a b filled) : Inv n a (b ||| 2 ^ y) (filled ||| mvN n a y) := by
  obtain ⟨h1, h2, h3⟩ := h
  have hby : b.testBit y = false := by
    cases hb : b.testBit y
    · rfl
    · exfalso
      have hc := sum_at (fun z => bI b z * bI a ((e + n - z) % n)) hy
      have h4 := h3 e he
      have h5 : (mvN n a y &&& filled).testBit e = false := by rw [hv]; simp
      rw [Nat.testBit_and, hve, Bool.true_and] at h5
      rw [bI_zero.2 h5] at h4
      have h6 := voice_bI ha hy he
      rw [bI_one.2 hve] at h6
      simp only [bI_one.2 hb, ← h6] at hc
      unfold cntN cntK at h4
      omega
  refine ⟨Nat.or_lt_two_pow h1 (Nat.pow_lt_pow_right (by omega) hy), Nat.or_lt_two_pow h2 mv_lt, fun i hi => ?_⟩
  rw [cnt_new hy hby, h3 i hi, bI_or _ _ _ (by rw [Nat.and_comm]; exact hv), voice_bI ha hy hi]

theorem inv_full {n a b : Nat} (h : Inv n a b (2 ^ n - 1)) : Tile n a b := fun i hi => by
  rw [h.2.2 i hi]
  refine bI_one.2 ?_
  rw [Nat.testBit_two_pow_sub_one]; simp [hi]

/-- All that it finds. -/
theorem part_sound {n a : Nat} (ha : a < 2 ^ n) (hn : n ≤ 62) (f : Nat) : ∀ {b filled c : Nat}, Inv n a b filled → c ∈ partL n a f b filled → c < 2 ^ n ∧ Tile n a c ∧ ∀ z, b.testBit z = true → c.testBit z = true := by
  induction f with
  | zero =>
    intro b filled c h hc
    simp only [partL] at hc
    by_cases hf : filled = 2 ^ n - 1
    · rw [if_pos hf, List.mem_singleton] at hc
      subst hc; subst hf
      exact ⟨h.1, inv_full h, fun z hz => hz⟩
    · rw [if_neg hf] at hc; cases hc
  | succ f ih =>
    intro b filled c h hc
    by_cases hf : filled = 2 ^ n - 1
    · subst hf
      rw [partL_full, List.mem_singleton] at hc
      subst hc
      exact ⟨h.1, inv_full h, fun z hz => hz⟩
    · rw [partL_more hf, List.mem_flatMap] at hc
      obtain ⟨x, hx, hc⟩ := hc
      unfold partX at hc
      by_cases hv : mvN n a (backN n (emptyN filled) x) &&& filled = 0
      · rw [if_pos hv] at hc
        obtain ⟨h1, _⟩ := empty_spec hn h.2.1 hf
        obtain ⟨x1, x2⟩ := tone_mem.1 hx
        obtain ⟨c1, c2, c3⟩ := ih (inv_step ha (back_lt (by omega)) h1 (voice_bit ha h1 x1 x2) hv h) hc
        exact ⟨c1, c2, fun z hz => c3 z (by rw [bit_new, hz, Bool.true_or])⟩
      · rw [if_neg hv] at hc; cases hc

/-- More entries than those of a partner are too many. -/
theorem tile_more {n a b c : Nat} (hb : b < 2 ^ n) (hc : c < 2 ^ n) (ha1 : a.testBit 0 = true) (tb : Tile n a b) (tc : Tile n a c) (h : ∀ z, b.testBit z = true → c.testBit z = true) : c = b := by
  apply Nat.eq_of_testBit_eq
  intro z
  cases hz : c.testBit z
  · cases hbz : b.testBit z
    · rfl
    · rw [h z hbz] at hz; cases hz
  · cases hbz : b.testBit z
    · exfalso
      have hzn : z < n := by
        apply Nat.lt_of_not_le
        intro hle
        rw [Nat.testBit_lt_two_pow (Nat.lt_of_lt_of_le hc (Nat.pow_le_pow_right (by omega) hle))] at hz
        cases hz
      obtain ⟨y, hy, hcy, _⟩ := tile_entry tb hzn
      unfold comes at hcy
      rw [Bool.and_eq_true] at hcy
      have hne : y ≠ z := fun e => by rw [e, hbz] at hcy; exact absurd hcy.1 (by decide)
      have h2 := sum_two (fun w => bI c w * bI a ((z + n - w) % n)) hy hzn hne
      have e1 : bI c y * bI a ((z + n - y) % n) = 1 := by rw [bI_one.2 (h y hcy.1), bI_one.2 hcy.2]
      have e2 : bI c z * bI a ((z + n - z) % n) = 1 := by
        rw [bI_one.2 hz, show z + n - z = n from by omega, Nat.mod_self, bI_one.2 ha1]
      simp only [e1, e2] at h2
      have := tc z hzn
      unfold cntN cntK at this
      omega
    · rfl

/-- It finds all. -/
theorem part_complete {n a : Nat} (ha : a < 2 ^ n) (ha1 : a.testBit 0 = true) (hn : n ≤ 62) (f : Nat) : ∀ {b filled c : Nat}, Inv n a b filled → n ≤ f + cardN n filled → c < 2 ^ n → Tile n a c → (∀ z, b.testBit z = true → c.testBit z = true) → c ∈ partL n a f b filled := by
  have full : ∀ (f : Nat) {b filled c : Nat}, Inv n a b filled → filled = 2 ^ n - 1 → c < 2 ^ n → Tile n a c → (∀ z, b.testBit z = true → c.testBit z = true) → c ∈ partL n a f b filled := by
    intro f b filled c h hf hc tc hs
    subst hf
    rw [partL_full, List.mem_singleton]
    exact tile_more h.1 hc ha1 (inv_full h) tc hs
  induction f with
  | zero =>
    intro b filled c h hfu hc tc hs
    exact full 0 h (fuel_zero h.2.1 hfu) hc tc hs
  | succ f ih =>
    intro b filled c h hfu hc tc hs
    by_cases hf : filled = 2 ^ n - 1
    · exact full _ h hf hc tc hs
    · rw [partL_more hf, List.mem_flatMap]
      obtain ⟨h1, h2⟩ := empty_spec hn h.2.1 hf
      obtain ⟨z, hz, hcz, hu⟩ := tile_entry tc h1
      have hcz' := hcz
      unfold comes at hcz'
      rw [Bool.and_eq_true] at hcz'
      have hxn : backN n (emptyN filled) z < n := back_lt (by omega)
      have hxm : backN n (emptyN filled) z ∈ tonesB n a := tone_mem.2 ⟨hxn, hcz'.2⟩
      refine ⟨backN n (emptyN filled) z, hxm, ?_⟩
      have hbz : b.testBit z = false := by
        cases hb : b.testBit z
        · rfl
        · exfalso
          have hs1 := sum_at (fun w => bI b w * bI a ((emptyN filled + n - w) % n)) hz
          simp only [bI_one.2 hb, bI_one.2 hcz'.2] at hs1
          have := h.2.2 _ h1
          rw [bI_zero.2 h2] at this
          unfold cntN cntK at this
          omega
      have hv : mvN n a z &&& filled = 0 := by
        apply Nat.eq_of_testBit_eq
        intro i
        rw [Nat.zero_testBit, Nat.testBit_and]
        cases hvi : (mvN n a z).testBit i
        · rfl
        · cases hfi : filled.testBit i
          · rfl
          · exfalso
            have hin : i < n := by
              rw [testBit_mv hz ha, Bool.and_eq_true, decide_eq_true_eq] at hvi; exact hvi.1
            have h5 := h.2.2 i hin
            rw [bI_one.2 hfi] at h5
            obtain ⟨y, hy, hy1, _⟩ := sum_one h5
            have hy2 := bI01 b y
            have hy3 := bI01 a ((i + n - y) % n)
            have hyb : bI b y = 1 := by
              rcases Nat.eq_zero_or_pos (bI b y) with e | e
              · rw [e] at hy1; simp at hy1
              · omega
            have hya : bI a ((i + n - y) % n) = 1 := by rw [hyb, Nat.one_mul] at hy1; exact hy1
            have hne : y ≠ z := fun e => by rw [e, bI_zero.2 hbz] at hyb; cases hyb
            have h6 := sum_two (fun w => bI c w * bI a ((i + n - w) % n)) hy hz hne
            have e1 : bI c y * bI a ((i + n - y) % n) = 1 := by rw [bI_one.2 (hs y (bI_one.1 hyb)), hya]
            have e2 : bI c z * bI a ((i + n - z) % n) = 1 := by
              rw [bI_one.2 hcz'.1, ← voice_bI ha hz hin, bI_one.2 hvi]
            simp only [e1, e2] at h6
            have := tc i hin
            unfold cntN cntK at this
            omega
      unfold partX
      have hbk : backN n (emptyN filled) (backN n (emptyN filled) z) = z := back_two h1 hz
      rw [hbk, if_pos hv]
      refine ih (inv_step ha hz h1 ?_ hv h) ?_ hc tc (fun w hw => ?_)
      · have := voice_bit ha h1 hxn hcz'.2
        rwa [hbk] at this
      · have := fuel_step (f := f) ha h.2.1 hn hf hxm (by rw [hbk]; exact hv) hfu
        rwa [hbk] at this
      · rw [bit_new, Bool.or_eq_true, decide_eq_true_eq] at hw
        rcases hw with hw | hw
        · exact hs w hw
        · rw [← hw]; exact hcz'.1

/-- Each once. -/
theorem part_nodup {n a : Nat} (ha : a < 2 ^ n) (hn : n ≤ 62) (f : Nat) : ∀ {b filled : Nat}, Inv n a b filled → (partL n a f b filled).Nodup := by
  induction f with
  | zero =>
    intro b filled _
    simp only [partL]
    split <;> simp
  | succ f ih =>
    intro b filled h
    by_cases hf : filled = 2 ^ n - 1
    · subst hf; rw [partL_full]; simp
    · rw [partL_more hf]
      obtain ⟨h1, h2⟩ := empty_spec hn h.2.1 hf
      have step : ∀ x, x ∈ tonesB n a → mvN n a (backN n (emptyN filled) x) &&& filled = 0 → Inv n a (b ||| 2 ^ backN n (emptyN filled) x) (filled ||| mvN n a (backN n (emptyN filled) x)) := fun x hx hv => by
        obtain ⟨x1, x2⟩ := tone_mem.1 hx
        exact inv_step ha (back_lt (by omega)) h1 (voice_bit ha h1 x1 x2) hv h
      have part : ∀ x, x ∈ tonesB n a → ∀ c, c ∈ partX n a f b filled x → Tile n a c ∧ c.testBit (backN n (emptyN filled) x) = true := fun x hx c hc => by
        unfold partX at hc
        by_cases hv : mvN n a (backN n (emptyN filled) x) &&& filled = 0
        · rw [if_pos hv] at hc
          obtain ⟨_, c2, c3⟩ := part_sound ha hn f (step x hx hv) hc
          exact ⟨c2, c3 _ (by rw [bit_new]; simp)⟩
        · rw [if_neg hv] at hc; cases hc
      have hnd : (tonesB n a).Nodup := by unfold tonesB; exact List.Pairwise.filter _ List.nodup_range
      have key : ∀ l : List Nat, l.Nodup → (∀ x ∈ l, x ∈ tonesB n a) → (l.flatMap (partX n a f b filled)).Nodup := by
        intro l
        induction l with
        | nil => intro _ _; simp
        | cons x l ihl =>
          intro hl hm
          rw [List.flatMap_cons, List.nodup_append]
          rw [List.nodup_cons] at hl
          refine ⟨?_, ihl hl.2 (fun y hy => hm y (List.mem_cons_of_mem _ hy)), ?_⟩
          · unfold partX
            by_cases hv : mvN n a (backN n (emptyN filled) x) &&& filled = 0
            · rw [if_pos hv]; exact ih (step x (hm x (List.mem_cons_self ..)) hv)
            · rw [if_neg hv]; simp
          · intro c hc c' hc' e
            subst e
            obtain ⟨x', hx', hc2⟩ := List.mem_flatMap.1 hc'
            have hxm := hm x (List.mem_cons_self ..)
            have hxm' := hm x' (List.mem_cons_of_mem _ hx')
            obtain ⟨t1, b1⟩ := part x hxm c hc
            obtain ⟨_, b2⟩ := part x' hxm' c hc2
            obtain ⟨x1, x2⟩ := tone_mem.1 hxm
            obtain ⟨x1', x2'⟩ := tone_mem.1 hxm'
            have hne : backN n (emptyN filled) x ≠ backN n (emptyN filled) x' := fun e => by
              have : x = x' := by rw [← back_two h1 x1, e, back_two h1 x1']
              subst this
              exact hl.1 hx'
            have h6 := sum_two (fun w => bI c w * bI a ((emptyN filled + n - w) % n)) (back_lt (by omega)) (back_lt (by omega)) hne
            have e1 : bI c (backN n (emptyN filled) x) * bI a ((emptyN filled + n - backN n (emptyN filled) x) % n) = 1 := by
              rw [bI_one.2 b1, show (emptyN filled + n - backN n (emptyN filled) x) % n = x from back_two h1 x1, bI_one.2 x2]
            have e2 : bI c (backN n (emptyN filled) x') * bI a ((emptyN filled + n - backN n (emptyN filled) x') % n) = 1 := by
              rw [bI_one.2 b2, show (emptyN filled + n - backN n (emptyN filled) x') % n = x' from back_two h1 x1', bI_one.2 x2']
            simp only [e1, e2] at h6
            have := t1 _ h1
            unfold cntN cntK at this
            omega
      exact key _ hnd (fun x hx => hx)

theorem inv_start {n a : Nat} (hn : 1 ≤ n) (ha : a < 2 ^ n) : Inv n a 1 a := by
  refine ⟨Nat.one_lt_two_pow (by omega), ha, fun i hi => ?_⟩
  unfold cntN cntK
  have e := sum_single n 0 (fun z => bI a ((i + n - z) % n))
  rw [if_pos (by omega)] at e
  have e2 : (i + n - 0) % n = i := by rw [Nat.sub_zero, Nat.add_mod_right, Nat.mod_eq_of_lt hi]
  rw [e2] at e
  rw [← e]
  refine sum_congr (fun z _ => ?_)
  by_cases h : z = 0
  · subst h; rw [if_pos rfl]; show bI 1 0 * _ = _; rw [show bI 1 0 = 1 from rfl, Nat.one_mul]
  · rw [if_neg h]
    have : bI 1 z = 0 := bI_zero.2 (by rw [show (1 : Nat) = 2 ^ 0 from rfl, Nat.testBit_two_pow]; simp; omega)
    rw [this, Nat.zero_mul]

/-- All partners, as the program finds them. -/
def partners (n a : Nat) : List Nat := if n % cardN n a = 0 then partL n a n 1 a else []

theorem mem_partners {n a c : Nat} (hn1 : 1 ≤ n) (hn : n ≤ 62) (ha : a < 2 ^ n) (ha1 : a % 2 = 1) : c ∈ partners n a ↔ c < 2 ^ n ∧ c % 2 = 1 ∧ Tile n a c := by
  have h0 : a.testBit 0 = true := by rw [Nat.testBit_zero]; simp [ha1]
  have od : ∀ c : Nat, c % 2 = 1 ↔ c.testBit 0 = true := fun c => by rw [Nat.testBit_zero]; simp
  unfold partners
  constructor
  · intro h
    by_cases hd : n % cardN n a = 0
    · rw [if_pos hd] at h
      obtain ⟨h1, h2, h3⟩ := part_sound ha hn n (inv_start hn1 ha) h
      exact ⟨h1, (od c).2 (h3 0 (by decide)), h2⟩
    · rw [if_neg hd] at h; cases h
  · rintro ⟨h1, h2, h3⟩
    have hd : n % cardN n a = 0 := by
      have := ((tile_prog ha).2 h3).2
      have h9 : n % cardN n a = (cardN n a * cardN n c) % cardN n a := by rw [this]
      rw [h9, Nat.mul_mod_right]
    rw [if_pos hd]
    refine part_complete ha h0 hn n (inv_start hn1 ha) (by omega) h1 h3 (fun z hz => ?_)
    rw [show (1 : Nat) = 2 ^ 0 from rfl, Nat.testBit_two_pow, decide_eq_true_eq] at hz
    have : z = 0 := hz.symm
    subst this
    exact (od c).1 h2
theorem partners_nodup {n a : Nat} (hn1 : 1 ≤ n) (hn : n ≤ 62) (ha : a < 2 ^ n) : (partners n a).Nodup := by
  unfold partners
  split
  · exact part_nodup ha hn n (inv_start hn1 ha)
  · simp
theorem nodup_length {B : Nat} : ∀ {l : List Nat}, l.Nodup → (∀ x ∈ l, x < B) → l.length ≤ B := by
  induction B with
  | zero =>
    intro l _ hb
    cases l with
    | nil => simp
    | cons x l => exact absurd (hb x (List.mem_cons_self ..)) (by omega)
  | succ B ih =>
    intro l h hb
    by_cases hm : B ∈ l
    · have h1 := ih (l := l.erase B) (h.erase B) (fun x hx => by
        have := hb x (List.mem_of_mem_erase hx)
        have hne : x ≠ B := fun e => by subst e; exact h.not_mem_erase hx
        omega)
      rw [List.length_erase_of_mem hm] at h1
      omega
    · have := ih h (fun x hx => by
        have := hb x hx
        have hne : x ≠ B := fun e => hm (e ▸ hx)
        omega)
      omega
theorem partL_length {n a : Nat} (hn1 : 1 ≤ n) (hn : n ≤ 62) (ha : a < 2 ^ n) : (partL n a n 1 a).length ≤ 2 ^ n :=
  nodup_length (part_nodup ha hn n (inv_start hn1 ha)) (fun _ hx => (part_sound ha hn n (inv_start hn1 ha) hx).1)

end Go.Proofs.YthnenhfdojpobaaDoor

/-
  The least cost of two voicings, told by the orders in which the second one may be taken: it is the same both ways round, goes by no third one for less, and does not hang on the order of the voices. Plain mathematics.
-/
import Derived.Test.YtkpiakoijkflmaaVoMath
namespace Go.Proofs.Ytkpiakoijkflmaa

/-- The cost of leading voice after voice. -/
def zs (n : Nat) : List Nat → List Nat → Nat
  | x :: as, y :: bs => dsN n x y + zs n as bs
  | _, _ => 0
def subL (bs l : List Nat) : List Nat := l.map fun p => bs[p]?.getD 0

theorem prT_zs (n : Nat) (bs : List Nat) : ∀ as l, prT n bs as l = zs n as (subL bs l)
  | [], _ => by simp [prT, zs]
  | _ :: _, [] => by simp [prT, zs, subL]
  | x :: as, p :: l => by
    rw [prT, prT_zs n bs as l]; rfl
theorem sub_range (bs : List Nat) : subL bs (List.range bs.length) = bs := by
  unfold subL
  apply List.ext_getElem
  · simp
  · intro i h1 h2
    simp only [List.getElem_map, List.getElem_range]
    rw [List.getElem?_eq_getElem h2]; rfl

theorem fits_subset : ∀ {l m : List Nat}, l.Nodup → (∀ x ∈ l, x ∈ m) → m.length ≤ l.length → l.Perm m
  | [], m, _, _, h => by
    have : m = [] := List.eq_nil_of_length_eq_zero (by simpa using h)
    rw [this]
  | x :: l, m, hn, h, hl => by
    rw [List.nodup_cons] at hn
    have hm := h x (by simp)
    have h1 := fits_subset (l := l) (m := m.erase x) hn.2 (fun y hy => by
      refine (List.mem_erase_of_ne ?_).2 (h y (by simp [hy]))
      rintro rfl; exact hn.1 hy) (by rw [List.length_erase_of_mem hm]; rw [List.length_cons] at hl; omega)
    exact (List.Perm.cons x h1).trans (List.perm_cons_erase hm).symm
theorem fits_perm {k : Nat} {l : List Nat} (h : l.length = k) (hf : Fits k 0 l) : l.Perm (List.range k) :=
  fits_subset hf.1 (fun x hx => List.mem_range.2 (hf.2 x hx).1) (by rw [List.length_range]; omega)
theorem perm_fits {k : Nat} {l : List Nat} (h : l.Perm (List.range k)) : l.length = k ∧ Fits k 0 l :=
  ⟨by rw [h.length_eq, List.length_range], h.nodup_iff.2 List.nodup_range, fun p hp => ⟨List.mem_range.1 (h.mem_iff.1 hp), Nat.zero_testBit _⟩⟩

theorem perm_map_inv {α β : Type} {f : α → β} {cs ds : List β} (h : cs.Perm ds) : ∀ l : List α, ds = l.map f → ∃ l' : List α, l'.Perm l ∧ cs = l'.map f := by
  induction h with
  | nil => intro l h; exact ⟨l, .refl l, h⟩
  | cons x _ ih =>
    intro l h
    cases l with
    | nil => simp at h
    | cons y l =>
      rw [List.map_cons, List.cons.injEq] at h
      obtain ⟨l', h1, h2⟩ := ih l h.2
      exact ⟨y :: l', h1.cons y, by rw [List.map_cons, ← h2, h.1]⟩
  | swap x y r =>
    intro l h
    match l, h with
    | a :: b :: l, h =>
      rw [List.map_cons, List.map_cons, List.cons.injEq, List.cons.injEq] at h
      exact ⟨b :: a :: l, .swap a b l, by rw [List.map_cons, List.map_cons, ← h.1, ← h.2.1, ← h.2.2]⟩
  | trans _ _ ih1 ih2 =>
    intro l h
    obtain ⟨l1, h1, h2⟩ := ih2 l h
    obtain ⟨l2, h3, h4⟩ := ih1 l1 h2
    exact ⟨l2, h3.trans h1, h4⟩

theorem free_all (k : Nat) : (freeP 0 k).length = k := by
  unfold freeP
  rw [List.filter_eq_self.2 (fun p _ => by simp), List.length_range]

theorem costN_le {n : Nat} {as bs cs : List Nat} (hl : as.length = bs.length) (h : cs.Perm bs) : costN n as bs ≤ zs n as cs := by
  obtain ⟨l, h1, h2⟩ := perm_map_inv (f := fun p => bs[p]?.getD 0) h (List.range bs.length) (sub_range bs).symm
  obtain ⟨h3, h4⟩ := perm_fits h1
  rw [h2]
  have := cost_le (n := n) (as := as) (by omega) h4
  rw [prT_zs] at this
  exact this
theorem costN_ex (n : Nat) {as bs : List Nat} (hl : as.length = bs.length) : ∃ cs, cs.Perm bs ∧ costN n as bs = zs n as cs := by
  obtain ⟨l, h1, h2, h3⟩ := cost_ex (n := n) (bs := bs) (as := as) (T := 0) (by rw [free_all]; omega)
  have hp := fits_perm (by omega) h2
  refine ⟨subL bs l, ?_, by rw [← prT_zs]; exact h3⟩
  have := hp.map (fun p => bs[p]?.getD 0)
  have e := sub_range bs
  unfold subL at e ⊢
  rwa [e] at this

theorem zs_comm (n : Nat) : ∀ as bs, zs n as bs = zs n bs as
  | [], [] => rfl
  | [], _ :: _ => rfl
  | _ :: _, [] => rfl
  | x :: as, y :: bs => by rw [zs, zs, dsN_comm, zs_comm n as bs]
theorem zs_perm {n : Nat} {cs bs : List Nat} (h : cs.Perm bs) : ∀ {as : List Nat}, as.length = cs.length → ∃ as', as'.Perm as ∧ zs n as' bs = zs n as cs := by
  induction h with
  | nil => intro as _; exact ⟨as, .refl _, rfl⟩
  | cons x _ ih =>
    intro as hl
    match as, hl with
    | a :: as, hl =>
      obtain ⟨r, h1, h2⟩ := ih (as := as) (by simpa using hl)
      exact ⟨a :: r, h1.cons a, by rw [zs, zs, h2]⟩
  | swap x y r =>
    intro as hl
    match as, hl with
    | a :: b :: as, hl => exact ⟨b :: a :: as, .swap a b as, by simp only [zs]; omega⟩
  | trans h1 h2 ih1 ih2 =>
    intro as hl
    obtain ⟨r, h3, h4⟩ := ih1 hl
    obtain ⟨s, h5, h6⟩ := ih2 (as := r) (by rw [h3.length_eq, hl, h1.length_eq])
    exact ⟨s, h5.trans h3, h6.trans h4⟩

theorem costN_sym (n : Nat) {as bs : List Nat} (hl : as.length = bs.length) : costN n as bs = costN n bs as := by
  have key : ∀ as bs : List Nat, as.length = bs.length → costN n bs as ≤ costN n as bs := by
    intro as bs hl
    obtain ⟨cs, h1, h2⟩ := costN_ex n hl
    obtain ⟨as', h3, h4⟩ := zs_perm (n := n) h1 (as := as) (by rw [h1.length_eq, hl])
    rw [h2, ← h4, zs_comm]
    exact costN_le hl.symm h3
  exact Nat.le_antisymm (key bs as hl.symm) (key as bs hl)

theorem costN_perm_left (n : Nat) {as as2 bs : List Nat} (hl : as.length = bs.length) (h : as.Perm as2) : costN n as bs = costN n as2 bs := by
  have key : ∀ as as2 : List Nat, as2.length = bs.length → as2.Perm as → costN n as bs ≤ costN n as2 bs := by
    intro as as2 hl h
    obtain ⟨cs, h1, h2⟩ := costN_ex n hl
    obtain ⟨ds, h3, h4⟩ := zs_perm (n := n) h (as := cs) (by rw [h1.length_eq, hl])
    rw [h2, zs_comm n as2 cs, ← h4, zs_comm]
    exact costN_le (by rw [← h.length_eq, hl]) (h3.trans h1)
  exact Nat.le_antisymm (key as as2 (by rw [← h.length_eq, hl]) h.symm) (key as2 as hl h)
theorem costN_perm (n : Nat) {as as2 bs bs2 : List Nat} (hl : as.length = bs.length) (h : as.Perm as2) (k : bs.Perm bs2) : costN n as bs = costN n as2 bs2 := by
  rw [costN_perm_left n hl h, costN_sym n (by rw [← h.length_eq, hl]), costN_perm_left n (by rw [← h.length_eq, hl]) k, costN_sym n (by rw [← h.length_eq, hl, k.length_eq])]

theorem dsN_tri {n x y z : Nat} (hx : x < n) (hy : y < n) (hz : z < n) : dsN n x z ≤ dsN n x y + dsN n y z := by
  have e : ∀ a b, a < n → b < n → dsN n a b = if a ≤ b then min (b - a) (a + n - b) else min (a - b) (b + n - a) := fun a b ha hb => by
    split
    · rename_i h; rw [dsN_ge h hb]
    · rename_i h; rw [dsN_comm, dsN_ge (by omega) ha]
  rw [e x z hx hz, e x y hx hy, e y z hy hz]
  split <;> split <;> split <;> omega
theorem zs_tri {n : Nat} : ∀ {as bs cs : List Nat}, as.length = bs.length → bs.length = cs.length → (∀ x ∈ as, x < n) → (∀ x ∈ bs, x < n) → (∀ x ∈ cs, x < n) → zs n as cs ≤ zs n as bs + zs n bs cs
  | [], _, _, _, _, _, _, _ => by simp [zs]
  | _ :: _, [], _, h, _, _, _, _ => by simp at h
  | _ :: _, _ :: _, [], _, h, _, _, _ => by simp at h
  | x :: as, y :: bs, z :: cs, h1, h2, h3, h4, h5 => by
    have := dsN_tri (h3 x (by simp)) (h4 y (by simp)) (h5 z (by simp))
    have := zs_tri (n := n) (as := as) (bs := bs) (cs := cs) (by simpa using h1) (by simpa using h2) (fun x hx => h3 x (by simp [hx])) (fun x hx => h4 x (by simp [hx])) (fun x hx => h5 x (by simp [hx]))
    simp only [zs]; omega
theorem costN_tri {n : Nat} {as bs cs : List Nat} (h1 : as.length = cs.length) (h2 : cs.length = bs.length) (ha : ∀ x ∈ as, x < n) (hb : ∀ x ∈ bs, x < n) (hc : ∀ x ∈ cs, x < n) :
    costN n as bs ≤ costN n as cs + costN n cs bs := by
  obtain ⟨cs', e1, e2⟩ := costN_ex n h1
  obtain ⟨bs', e3, e4⟩ := costN_ex n h2
  obtain ⟨bs'', e5, e6⟩ := zs_perm (n := n) e1.symm (as := bs') (by rw [e3.length_eq, h2])
  have h3 := costN_le (n := n) (h1.trans h2) (e5.trans e3)
  have h4 := zs_tri (n := n) (as := as) (bs := cs') (cs := bs'') (by rw [e1.length_eq, h1]) (by rw [e1.length_eq, e5.length_eq, e3.length_eq, h2]) ha (fun x hx => hc x (e1.mem_iff.1 hx)) (fun x hx => hb x ((e5.trans e3).mem_iff.1 hx))
  rw [e2, e4, ← zs_comm n bs' cs, ← e6, zs_comm n bs'' cs']
  omega

theorem zs_zero {n : Nat} : ∀ {as bs : List Nat}, as.length = bs.length → (∀ x ∈ as, x < n) → (∀ x ∈ bs, x < n) → (zs n as bs = 0 ↔ as = bs)
  | [], [], _, _, _ => by simp [zs]
  | [], _ :: _, h, _, _ => by simp at h
  | _ :: _, [], h, _, _ => by simp at h
  | x :: as, y :: bs, h, ha, hb => by
    rw [zs, Nat.add_eq_zero_iff, dsN_zero (ha x (by simp)) (hb y (by simp)), zs_zero (by simpa using h) (fun x hx => ha x (by simp [hx])) (fun x hx => hb x (by simp [hx])), List.cons.injEq]
theorem costN_zero {n : Nat} {as bs : List Nat} (hl : as.length = bs.length) (ha : ∀ x ∈ as, x < n) (hb : ∀ x ∈ bs, x < n) : costN n as bs = 0 ↔ as.Perm bs := by
  constructor
  · intro h
    obtain ⟨cs, h1, h2⟩ := costN_ex n hl
    rw [h2, zs_zero (by rw [h1.length_eq, hl]) ha (fun x hx => hb x (h1.mem_iff.1 hx))] at h
    exact h ▸ h1
  · intro h
    have := costN_le (n := n) hl h
    rw [(zs_zero (n := n) rfl ha ha).2 rfl] at this
    omega

theorem zs_map {n : Nat} {f : Nat → Nat} (hf : ∀ x y, x < n → y < n → dsN n (f x) (f y) = dsN n x y) : ∀ {as bs : List Nat}, (∀ x ∈ as, x < n) → (∀ x ∈ bs, x < n) → zs n (as.map f) (bs.map f) = zs n as bs
  | [], _, _, _ => by simp [zs]
  | _ :: _, [], _, _ => by simp [zs]
  | x :: as, y :: bs, ha, hb => by
    simp only [List.map_cons, zs]
    rw [hf x y (ha x (by simp)) (hb y (by simp)), zs_map hf (fun x hx => ha x (by simp [hx])) (fun x hx => hb x (by simp [hx]))]
theorem costN_map {n : Nat} {f : Nat → Nat} (hf : ∀ x y, x < n → y < n → dsN n (f x) (f y) = dsN n x y) {as bs : List Nat} (hl : as.length = bs.length) (ha : ∀ x ∈ as, x < n) (hb : ∀ x ∈ bs, x < n) :
    costN n (as.map f) (bs.map f) = costN n as bs := by
  have hl' : (as.map f).length = (bs.map f).length := by simp [hl]
  apply Nat.le_antisymm
  · obtain ⟨cs, h1, h2⟩ := costN_ex n hl
    rw [h2, ← zs_map hf ha (fun x hx => hb x (h1.mem_iff.1 hx))]
    exact costN_le hl' (h1.map f)
  · obtain ⟨cs, h1, h2⟩ := costN_ex n hl'
    obtain ⟨ds, h3, h4⟩ := perm_map_inv h1 bs rfl
    rw [h2, h4, zs_map hf ha (fun x hx => hb x (h3.mem_iff.1 hx))]
    exact costN_le hl h3

/-- An image of a tone: moved, or turned and moved. -/
def imN (n k : Nat) (t : Bool) (x : Nat) : Nat := if t then (n - x + k) % n else (x + k) % n
theorem imN_lt {n : Nat} (h : 0 < n) (k : Nat) (t : Bool) (x : Nat) : imN n k t x < n := by unfold imN; split <;> exact Nat.mod_lt _ h
theorem up_move {n k x y : Nat} (hx : x < n) : upN n ((x + k) % n) ((y + k) % n) = upN n x y := by
  have h1 : (x + k) % n < n := Nat.mod_lt _ (by omega)
  have e1 := up_int (n := n) (x := (x + k) % n) (y := (y + k) % n) h1
  have e2 := up_int (n := n) (x := x) (y := y) hx
  have e3 : ((((y + k) % n : Nat) : Int) - (((x + k) % n : Nat) : Int)) % (n : Int) = ((y : Int) - x) % n := by
    rw [Int.natCast_emod, Int.natCast_emod, Int.emod_sub_emod, Int.sub_emod_emod]
    congr 1
    omega
  rw [e3, e2] at e1
  omega
theorem up_turn {n k x y : Nat} (hx : x < n) (hy : y < n) : upN n ((n - x + k) % n) ((n - y + k) % n) = upN n y x := by
  have h1 : (n - x + k) % n < n := Nat.mod_lt _ (by omega)
  have e1 := up_int (n := n) (x := (n - x + k) % n) (y := (n - y + k) % n) h1
  have e2 := up_int (n := n) (x := y) (y := x) hy
  have e3 : ((((n - y + k) % n : Nat) : Int) - (((n - x + k) % n : Nat) : Int)) % (n : Int) = ((x : Int) - y) % n := by
    rw [Int.natCast_emod, Int.natCast_emod, Int.emod_sub_emod, Int.sub_emod_emod]
    congr 1
    omega
  rw [e3, e2] at e1
  omega
theorem ds_im {n k x y : Nat} (t : Bool) (hx : x < n) (hy : y < n) : dsN n (imN n k t x) (imN n k t y) = dsN n x y := by
  unfold imN dsN
  cases t
  · simp only [Bool.false_eq_true, if_false]; rw [up_move hx, up_move hy]
  · simp only [if_true]; rw [up_turn hx hy, up_turn hy hx]; omega

/-! ### tones in rising order -/
/-- Put in behind those that are not greater. -/
def insT (x : Nat) : List Nat → List Nat
  | [] => [x]
  | y :: l => if y ≤ x then y :: insT x l else x :: y :: l
def riseT (l : List Nat) : List Nat := l.foldl (fun o x => insT x o) []
theorem insT_perm (x : Nat) : ∀ l, (insT x l).Perm (x :: l)
  | [] => .refl _
  | y :: l => by
    unfold insT
    split
    · exact ((insT_perm x l).cons y).trans (.swap x y l)
    · exact .refl _
theorem riseT_snoc (l : List Nat) (x : Nat) : riseT (l ++ [x]) = insT x (riseT l) := by unfold riseT; rw [List.foldl_append]; rfl
theorem riseT_perm (l : List Nat) : (riseT l).Perm l := by
  refine snoc_ind (P := fun l => (riseT l).Perm l) (.refl _) (fun l x ih => ?_) l
  rw [riseT_snoc]
  exact (insT_perm x _).trans ((ih.cons x).trans (List.perm_append_singleton x l).symm)
theorem insT_sorted (x : Nat) : ∀ {l : List Nat}, l.Pairwise (· ≤ ·) → (insT x l).Pairwise (· ≤ ·)
  | [], _ => by simp [insT]
  | y :: l, h => by
    rw [List.pairwise_cons] at h
    unfold insT
    split
    · rename_i hy
      rw [List.pairwise_cons]
      refine ⟨fun z hz => ?_, insT_sorted x h.2⟩
      rcases List.mem_cons.1 ((insT_perm x l).mem_iff.1 hz) with rfl | hz
      · exact hy
      · exact h.1 z hz
    · rename_i hy
      rw [List.pairwise_cons, List.pairwise_cons]
      refine ⟨fun z hz => ?_, h.1, h.2⟩
      rcases List.mem_cons.1 hz with rfl | hz
      · omega
      · have := h.1 z hz; omega
theorem riseT_sorted (l : List Nat) : (riseT l).Pairwise (· ≤ ·) := by
  refine snoc_ind (P := fun l => (riseT l).Pairwise (· ≤ ·)) .nil (fun l x ih => ?_) l
  rw [riseT_snoc]; exact insT_sorted x ih
theorem sorted_perm_eq : ∀ {l m : List Nat}, l.Pairwise (· ≤ ·) → m.Pairwise (· ≤ ·) → l.Perm m → l = m := by
  intro l m h1 h2 h
  exact h.eq_of_pairwise (fun a b _ _ h3 h4 => by omega) h1 h2
theorem rise_eq {l m : List Nat} : riseT l = riseT m ↔ l.Perm m := by
  constructor
  · intro h; exact ((riseT_perm l).symm.trans (by rw [h])).trans (riseT_perm m)
  · intro h; exact sorted_perm_eq (riseT_sorted l) (riseT_sorted m) (((riseT_perm l).trans h).trans (riseT_perm m).symm)
end Go.Proofs.Ytkpiakoijkflmaa

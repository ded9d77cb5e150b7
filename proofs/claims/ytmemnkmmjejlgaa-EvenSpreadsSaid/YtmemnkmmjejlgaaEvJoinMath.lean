/-
  slices.Repeat of one integer; groups of package even; groups of strokes in memory and what a join does to them.
-/
import Derived.Test.YtmemnkmmjejlgaaEsBase
import Derived.Laws.CopyOwn
import Derived.Deep.RegionLaw
import Derived.Maps.AppendAt
import Derived.Lib.AppendZeros
namespace Go.Proofs.Ytmemnkmmjejlgaa
open Go.RowKit Go.Shelf
attribute [local go_sem] Oper.semAt_some
set_option maxRecDepth 100000

/-- The first a of c are s. -/
def repl (s c a : Nat) : List Value := ints (List.replicate a s ++ List.replicate (c - a) 0)
theorem repl_length {s c a : Nat} (h : a ≤ c) : (repl s c a).length = c := by simp [repl, ints_length]; omega
theorem repl_full (s c : Nat) : repl s c c = ints (List.replicate c s) := by simp [repl]
theorem repl_none (s c : Nat) : repl s c 0 = ints (List.replicate c 0) := by simp [repl]
theorem repl_splice {s c a b : Nat} (h : a + b ≤ c) : splice (repl s c a) a (ints (List.replicate b s)) = repl s c (a + b) := by
  unfold splice repl ints
  rw [← List.map_take, ← List.map_drop, ← List.map_append, ← List.map_append]
  congr 1
  simp only [List.length_map, List.length_replicate]
  rw [List.take_append_of_le_length (by simp), List.take_of_length_le (by simp), List.drop_append, List.drop_eq_nil_of_le (by simp)]
  simp only [List.length_replicate, List.nil_append, List.drop_replicate]
  rw [← List.append_assoc, List.replicate_append_replicate]
  congr 2
  omega
theorem repl_at {s c a i : Nat} (h : i < a) : (repl s c a)[i]? = some (.int .i64 (s : Int)) := by
  simp [repl, ints, List.getElem?_append, h]
theorem repl_one (s b : Nat) : ∀ v ∈ ints (List.replicate b s), v.oneCell' = true := by
  intro v hv
  simp [ints] at hv
  rw [hv.2]; rfl

theorem Repeat_any (s X c1 c : Nat) (hc : c ≤ 64) (w : World) (hX : w.cell? ⟨X, 0, none⟩ = some (.int .i64 (s : Nat))) :
    Calls Try.prog 17 #[.slice (some ⟨X, 0, none⟩) 1 c1, .int .i64 c] w fun e w' => ∃ g, e = .returned (.slice (some ⟨g, 0, none⟩) c c) ∧ w.heap.size ≤ g ∧ Row w' g 3 (ints (List.replicate c s)) ∧ Below w.heap.size w w' := by
  have HM := Lib.hid (Try.bits_Mul 1 c (by omega) (by omega))
  rw [show 1 * c / 18446744073709551616 = 0 from by omega, show 1 * c % 18446744073709551616 = c from by omega] at HM
  have hXl := World.block_lt_of_cell? w _ hX
  dsimp only at hXl
  have hmk : ∀ W : World, (Instr.makeSlice 25 (.int .i64 (c : Int)) (.int .i64 (c : Int))).run Try.prog W = .ok (.slice (some ⟨W.heap.size, 0, none⟩) c c) (W.alloc (.cells (ints (List.replicate c 0)).toArray 3)) := run_make_ints c (by omega)
  have hR0 := Lib.hid (Row.new w 3 (ints (List.replicate c 0)))
  have hB0 : Below w.heap.size w (w.alloc (.cells (ints (List.replicate c 0)).toArray 3)) := (Below.refl _ w).alloc (Nat.le_refl _) _
  have hX0 : (w.alloc (.cells (ints (List.replicate c 0)).toArray 3)).cell? ⟨X, 0, none⟩ = some (.int .i64 (s : Nat)) := cell_later hB0 hX
  obtain ⟨g, hg⟩ : ∃ g, w.heap.size = g := ⟨_, rfl⟩
  rw [hg] at hR0 hB0
  obtain ⟨m0, hm0⟩ : ∃ m0, m0 = Nat.min 1 c := ⟨_, rfl⟩
  obtain ⟨cs, hcs⟩ : ∃ cs, cs = ints (List.replicate m0 s) := ⟨_, rfl⟩
  have hm0' : (c = 0 ∧ m0 = 0) ∨ (1 ≤ c ∧ m0 = 1) := by rw [hm0]; show (c = 0 ∧ min 1 c = 0) ∨ (1 ≤ c ∧ min 1 c = 1); omega
  have hL : cs.length = m0 := by rw [hcs, ints_length, List.length_replicate]
  have HCS := Lib.hid hcs
  have HM0 := Lib.hid hm0
  have HG := Lib.hid hg
  have HL := Lib.hid hL
  have hone : ∀ v ∈ cs, v.oneCell' = true := by rw [hcs]; exact repl_one _ _
  have hsrc : ∀ j v, cs[j]? = some v → (w.alloc (.cells (ints (List.replicate c 0)).toArray 3)).cell? ((⟨X, 0, none⟩ : Addr).add j) = some v := by
    intro j v hv
    have hj := (List.getElem?_eq_some_iff.1 hv).1
    have hj0 : j = 0 := by omega
    subst hj0
    rw [hcs] at hv
    rw [ints_at (by rw [List.length_replicate]; omega)] at hv
    have e : (List.replicate m0 s)[0]?.getD 0 = s := by rw [List.getElem?_replicate_of_lt (by omega)]; rfl
    rw [e] at hv
    cases hv
    exact hX0
  clear hm0 hL hcs
  have HS := Lib.hid hsrc
  have HO := Lib.hid hone
  clear hsrc hone hX0 hX hXl
  go_enter Try.func17, Try.ntmps17
  rw [hg]
  go_wp2_with fail
  refine (HM.out _).mono ?_
  rintro e w1 ⟨rfl, rfl⟩
  go_wp2_with (refine wpList_copy_splice rfl _ _ 25 25 rfl 3 Try.underlying25 (by kernel_rfl) _ _ c c 1 c1 rfl rfl g 0 (ints (List.replicate c 0)) 3 hR0.out cs (by rw [HL.out, HM0.out]) (fun _ => ⟨rfl, _, rfl, HS.out⟩) (by rw [HL.out, ints_length, List.length_replicate]; omega) HO.out g w1 hB0 (Nat.le_refl _) ?_; intro w2 hR2 hB2; rw [HL.out])
  go_loopw [8] (fun v wr => ∃ a : Nat, a ≤ c ∧ (c = 0 ∨ 1 ≤ a) ∧ v = .int .i64 a ∧ Row wr g 3 (repl s c a) ∧ Below g w1 wr) (fun v _ => c - (intOf v).toNat)
  case atStart =>
    refine ⟨m0, by omega, by omega, rfl, ?_, hB2⟩
    have h := hR2.out
    rw [HCS.out, ← repl_none s, repl_splice (by omega), Nat.zero_add] at h
    exact h
  case round =>
    obtain ⟨a, ha, ha1, rfl, hr, hb⟩ := hrel
    by_cases hlt : a < c
    · obtain ⟨b, hb0⟩ : ∃ b, b = Nat.min a (c - a) := ⟨_, rfl⟩
      have hb1 : b ≤ c - a ∧ 1 ≤ b := by rw [hb0]; show min a (c - a) ≤ c - a ∧ 1 ≤ min a (c - a); omega
      have hb2 : b ≤ a := by rw [hb0]; exact Nat.min_le_left _ _
      obtain ⟨cs2, hcs2⟩ : ∃ cs2, cs2 = ints (List.replicate b s) := ⟨_, rfl⟩
      have HL2 := Lib.hid (show cs2.length = b by rw [hcs2, ints_length, List.length_replicate])
      have HB0 := Lib.hid hb0
      have HC2 := Lib.hid hcs2
      have HO2 : Hid (∀ v ∈ cs2, v.oneCell' = true) := by rw [hcs2]; exact Lib.hid (repl_one _ _)
      have HS2 : Hid (∀ j v, cs2[j]? = some v → wr.drew.cell? ((⟨g, 0, none⟩ : Addr).add j) = some v) := Lib.hid (by
        intro j v hv
        have hj := (List.getElem?_eq_some_iff.1 hv).1
        rw [HL2.out] at hj
        rw [hcs2, ints_at (by rw [List.length_replicate]; omega), List.getElem?_replicate_of_lt hj] at hv
        cases hv
        rw [Addr.add_lit, Nat.zero_add]
        refine (hr.cell _).trans ?_
        rw [repl_at (by omega)]; rfl)
      have HR : Hid (wr.drew.heap[g]? = some (.cells (repl s c a).toArray 3 (0, 0))) := Lib.hid hr
      have HLR := Lib.hid (repl_length (s := s) ha)
      have HSp := Lib.hid (repl_splice (s := s) (c := c) (a := a) (b := b) (by omega))
      have n1 : ((c : Int) - (a : Int)).toNat = c - a := by omega
      have hbd := hb.drew
      have hca : ¬ c = a := by omega
      have hwr : IntKind.i64.wrap ((a : Int) + (b : Int)) = (a : Int) + (b : Int) := IntWalk.i64_in _ (by omega)
      clear hr hb0 hcs2
      go_wp2_with fail
      go_region_law (refine step_copy_splice rfl (.tmp 41) (.tmp 44) 25 25 rfl 3 Try.underlying25 (by kernel_rfl) (some ⟨g, a, none⟩) (some ⟨g, 0, none⟩) (c - a) (c - a) a c (by simp [Act.eval, Act.put]) (by simp [Act.eval, Act.put]) g a (repl s c a) 3 HR.out cs2 (by rw [HL2.out, HB0.out]) (fun _ => ⟨rfl, _, rfl, HS2.out⟩) (by rw [HL2.out, HLR.out]; omega) HO2.out g w1 hbd (Nat.le_refl _) ?_; intro w4 hg4 hb4; rw [HL2.out])
      simp [Act.put, Exit.inBlock]
      refine ⟨⟨.int .i64 ((a : Int) + (b : Int)), _, _, _, _, _, _, _, _, _, _, _, _, _, ⟨a + b, by omega, by omega, by simp, ?_, hb4⟩, rfl⟩, ?_⟩
      · have h := hg4.out
        rw [HC2.out, HSp.out] at h
        exact h
      · simp [intOf]
        omega
    · obtain rfl : a = c := by omega
      have HR := Lib.hid hr
      clear hr
      go_wp2
      go_ret
      have h := HR.out
      rw [repl_full] at h
      exact ⟨g, rfl, Nat.le_refl _, h, hb⟩

def oneAt (R i : Nat) : Value := .slice (some ⟨R, i, none⟩) 1 1
/-- The first a of c groups are cut. -/
def cutN (R c a : Nat) : List Value := (List.range a).map (oneAt R) ++ List.replicate (c - a) (.slice none 0 0)
theorem cutN_none (R c : Nat) : cutN R c 0 = List.replicate c (.slice none 0 0) := by simp [cutN]
theorem cutN_length {R c a : Nat} (h : a ≤ c) : (cutN R c a).length = c := by simp [cutN]; omega
theorem cutN_set {R c a : Nat} (h : a < c) : (cutN R c a).set a (oneAt R a) = cutN R c (a + 1) := by
  unfold cutN
  rw [List.set_append_right _ _ (by simp)]
  simp only [List.length_map, List.length_range, Nat.sub_self]
  obtain ⟨d, hd⟩ : ∃ d, c - a = d + 1 := ⟨c - a - 1, by omega⟩
  rw [hd, show c - (a + 1) = d from by omega, List.replicate_succ, List.set_cons_zero, List.range_succ, List.map_append]
  simp
theorem cutN_at {R c i : Nat} (h : i < c) : (cutN R c c)[i]? = some (oneAt R i) := by
  simp [cutN, h]

theorem madeCells_nils (k : Nat) : madeCells #[Value.slice none 0 0] k = (List.replicate k (Value.slice none 0 0)).toArray := by
  apply Array.ext
  · rw [size_madeCells]; simp
  · intro i h1 h2
    simp [madeCells, Nat.mod_one]

theorem run_make_lists (k : Nat) (hk : k ≤ 65536) (W : World) : (Instr.makeSlice 34 (.int .i64 (k : Int)) (.int .i64 (k : Int))).run Try.prog W = .ok (.slice (some ⟨W.heap.size, 0, none⟩) k k) (W.alloc (.cells (List.replicate k (Value.slice none 0 0)).toArray 25)) := by
  rw [← madeCells_nils]
  exact run_make_row' 34 25 (.slice none 0 0) 24 Try.underlying34 (by kernel_rfl) rfl .i64 .i64 k (by omega) (by omega) W

theorem groups_any (s c : Nat) (hs : s < 2) (hc : c ≤ 64) (w : World) :
    Calls Try.prog 12 #[.int .i64 s, .int .i64 c] w fun e w' => ∃ R L, e = .returned (.slice (some ⟨L, 0, none⟩) c c) ∧ w.heap.size ≤ R ∧ R < L ∧ Row w' R 3 (ints (List.replicate c s)) ∧ Row w' L 25 (cutN R c c) ∧ Below w.heap.size w w' := by
  have HRp := Lib.hid (fun X c1 w h => Repeat_any s X c1 c hc w h)
  have hmk := run_make_lists c (by omega)
  go_enter Try.func12, Try.ntmps12
  go_wp2_with (go_at_call 17; refine (HRp.out _ _ _ (cell_at rfl)).mono ?_; rintro e w1 ⟨R, rfl, hR1, hR2, hb1⟩)
  have hRow : Row (w1.alloc (Obj.cells (Array.replicate c (Value.slice none 0 0)) 25)) w1.heap.size 25 (cutN R c 0) := by
    rw [cutN_none]
    have h := Row.new w1 25 (List.replicate c (.slice none 0 0))
    rwa [List.toArray_replicate] at h
  have hb2 := below_next (below_next (below_two w _) hb1) (below_two w1 (Obj.cells (Array.replicate c (Value.slice none 0 0)) 25))
  have hR3 := hR2.alloc (Obj.cells (Array.replicate c (Value.slice none 0 0)) 25)
  have hRl := hR2.lt
  have hwl := hb1.size
  obtain ⟨L, hL⟩ : ∃ L, w1.heap.size = L := ⟨_, rfl⟩
  rw [hL] at hRow hRl
  have hb3 : Below w.heap.size w (w1.alloc (Obj.cells (Array.replicate c (Value.slice none 0 0)) 25)) := hb2
  clear hb2 hb1 hR2 hmk
  simp only [World.size_alloc] at hwl hR1
  go_loopw [16] (fun v wr => ∃ a : Nat, a ≤ c ∧ v = .int .i64 a ∧ Row wr R 3 (ints (List.replicate c s)) ∧ Row wr L 25 (cutN R c a) ∧ Below w.heap.size w wr) (fun v _ => c - (intOf v).toNat)
  case atStart => exact ⟨0, Nat.zero_le _, rfl, hR3, hRow, hb3⟩
  case round =>
    obtain ⟨a, ha, rfl, h1, h2, h3⟩ := hrel
    have H1 := Lib.hid h1
    have H2 := Lib.hid h2
    by_cases hlt : a < c
    · have cl := h2.cell a
      rw [show (cutN R c a)[a]? = some (.slice none 0 0) from by simp [cutN, show 0 < c - a by omega]] at cl
      have fl := h2.frozen a
      clear h1 h2
      go_wp2
      go_roundw
      case rel =>
        refine ⟨a + 1, by omega, by go_num, H1.out.other (by omega) _, ?_, h3.setCell (show w.heap.size ≤ L by omega) _⟩
        have h := H2.out.set a (oneAt R a)
        rw [cutN_set hlt] at h
        exact h
      case measure => simp only [intOf]; omega
    · obtain rfl : a = c := by omega
      clear h1 h2
      go_wp2
      go_ret
      exact ⟨R, L, by rw [← hL]; rfl, by omega, by omega, H1.out, H2.out, h3⟩

/-- A group: whether its row is its own, its value, what it holds. -/
structure G where
  own : Bool
  v : Value
  xs : List Nat

def GOk (W : World) (lo : Nat) (g : G) : Prop :=
  g.xs ≠ [] ∧ ((g.own = true ∧ W.ownsRow lo 3 1 g.v g.xs.length (ints g.xs)) ∨ (g.own = false ∧ ∃ R i s, g.v = oneAt R i ∧ g.xs = [s] ∧ lo ≤ R ∧ W.cell? ⟨R, i, none⟩ = some (.int .i64 ((s : Nat) : Int))))

def Apart (g h : G) : Prop := g.v.ownBlock ≠ h.v.ownBlock ∨ (g.own = false ∧ h.own = false)

theorem GOk.shape {W : World} {lo : Nat} {g : G} (h : GOk W lo g) : ∃ b o c, g.v = .slice (some ⟨b, o, none⟩) g.xs.length c ∧ lo ≤ b ∧ b < W.heap.size ∧ g.xs.length ≤ c ∧ ∀ j u, (ints g.xs)[j]? = some u → W.cell? ((⟨b, o, none⟩ : Addr).add j) = some u := by
  obtain ⟨h0, ⟨_, h1⟩ | ⟨_, R, i, s, h2, h3, h4, h5⟩⟩ := h
  · have hp : 0 < g.xs.length := List.length_pos_iff.2 h0
    have h1' := h1
    rcases h1.2 with ⟨_, e⟩ | ⟨b, c, cur, hv, hb, hh, hle, _⟩
    · omega
    · exact ⟨b, 0, c, hv, hb, (Array.getElem?_eq_some_iff.1 hh).1, hle, h1'.cells (by rw [hv]; rfl)⟩
  · refine ⟨R, i, 1, by rw [h2, h3]; rfl, h4, World.block_lt_of_cell? W _ h5, by rw [h3]; exact Nat.le_refl _, fun j u hu => ?_⟩
    rw [h3] at hu
    have hj := (List.getElem?_eq_some_iff.1 hu).1
    simp [ints] at hj
    subst hj
    simp [ints] at hu
    subst hu
    exact h5

theorem GOk.block {W : World} {lo : Nat} {g : G} (h : GOk W lo g) : ∃ b, g.v.ownBlock = some b ∧ lo ≤ b ∧ b < W.heap.size := by
  obtain ⟨b, o, c, hv, h1, h2, _⟩ := h.shape
  exact ⟨b, by rw [hv]; rfl, h1, h2⟩

theorem GOk.kept {W W' : World} {row : Option Nat} {lo : Nat} {g : G} (h : GOk W lo g) (hg : W.grownBy W' row) (hne : g.v.ownBlock ≠ row) : GOk W' lo g := by
  obtain ⟨h0, ⟨h1, h2⟩ | ⟨h1, R, i, s, h2, h3, h4, h5⟩⟩ := h
  · exact ⟨h0, Or.inl ⟨h1, h2.kept hg (Or.inr hne)⟩⟩
  · exact ⟨h0, Or.inr ⟨h1, R, i, s, h2, h3, h4, hg.cell h5 (by rw [h2] at hne; exact hne)⟩⟩

theorem ints_one (xs : List Nat) : ∀ u ∈ ints xs, u.oneCell' = true := by
  intro v hv
  simp [ints] at hv
  obtain ⟨a, _, rfl⟩ := hv
  rfl

theorem append_group {W : World} {lo : Nat} {g h : G} (hg : GOk W lo g) (hh : GOk W lo h) (hlo : lo ≤ W.heap.size) (hb : g.xs.length + h.xs.length ≤ 1048576) (ty : TypeId) :
    ∃ (g' : G) (w' : World), (Builtin.append_ #[25, 25] ty #[g.v, h.v]).run Try.prog W = .ok g'.v w' ∧ GOk w' lo g' ∧ g'.xs = g.xs ++ h.xs ∧ g'.own = true ∧ W.grownBy w' (if g.own = true then g.v.ownBlock else none) ∧
      ((g.own = true ∧ g'.v.ownBlock = g.v.ownBlock) ∨ g'.v.ownBlock = some W.heap.size) := by
  obtain ⟨i0, hi, hz0, hz1, hz2⟩ := info_parts info_int
  obtain ⟨b2, o2, c2, hv2, _, _, _, hc2⟩ := hh.shape
  have hl2 : (ints h.xs).length = h.xs.length * 1 := by rw [ints_length, Nat.mul_one]
  have hne : g.xs ++ h.xs ≠ [] := by simp [hg.1]
  have hm : ∀ x : Nat, x ≤ 1048576 → x ≤ maxLen := fun x hx => by simp only [maxLen]; omega
  obtain ⟨h0, ⟨k1, k2⟩ | ⟨k1, R, i, s, k2, k3, k4, k5⟩⟩ := hg
  · obtain ⟨v', w', r1, r2, r3, _, r5⟩ := run_append_own_at (P := Try.prog) W lo 25 ty 3 i0 (.int .i64 0) 1 8 Try.underlying25 hi hz0 hz1 hz2 rfl (by decide) g.v g.xs.length (ints g.xs) k2 ⟨b2, o2, none⟩ h.xs.length c2 (ints h.xs) hl2 hc2 (ints_one _) (hm _ hb) (by omega) hlo
    rw [← hv2] at r1
    refine ⟨⟨true, v', g.xs ++ h.xs⟩, w', r1, ⟨hne, Or.inl ⟨rfl, ?_⟩⟩, rfl, rfl, by rw [if_pos k1]; exact r3, ?_⟩
    · rw [List.length_append]
      have e : ints (g.xs ++ h.xs) = ints g.xs ++ ints h.xs := by simp [ints]
      rw [e]
      exact r2
    · rcases r5 with r5 | r5
      · exact Or.inl ⟨k1, r5⟩
      · exact Or.inr r5
  · have hp2 : 0 < h.xs.length := List.length_pos_iff.2 hh.1
    rw [k3] at hb
    have hb' : 1 + h.xs.length ≤ 1048576 := hb
    have hr := run_append_grow (P := Try.prog) W 25 ty 3 i0 (.int .i64 0) Try.underlying25 hi hz0 ⟨R, i, none⟩ 1 1 (ints [s]) (by rw [hz1]; rfl) (by
      intro j u hu
      have hj := (List.getElem?_eq_some_iff.1 hu).1
      simp [ints] at hj
      subst hj
      simp [ints] at hu
      subst hu
      exact k5) ⟨b2, o2, none⟩ h.xs.length c2 (ints h.xs) (by rw [hz1]; exact hl2) hc2 (by omega) (by omega) (growslice_fits (by omega) (by rw [hz2]; omega))
    rw [← hv2] at hr
    have hge := grownCap_ge W (1 + h.xs.length) 1 3
    have hcm : grownCap W (1 + h.xs.length) 1 3 ≤ maxLen := grownCap_le_maxLen W (1 + h.xs.length) 1 3 (hm _ hb')
    have e : ints (g.xs ++ h.xs) = ints [s] ++ ints h.xs := by rw [k3]; simp [ints]
    have en : (g.xs ++ h.xs).length = 1 + h.xs.length := by rw [k3]; simp; omega
    refine ⟨⟨true, .slice (some ⟨W.heap.size, 0, none⟩) (1 + h.xs.length) (grownCap W (1 + h.xs.length) 1 3), g.xs ++ h.xs⟩, _, by rw [k2]; exact hr, ⟨hne, Or.inl ⟨rfl, ?_⟩⟩, rfl, rfl, ?_, Or.inr rfl⟩
    · show World.ownsRow _ lo _ 1 _ (g.xs ++ h.xs).length (ints (g.xs ++ h.xs))
      rw [en, e]
      have hlen : (ints [s] ++ ints h.xs).length = (1 + h.xs.length) * 1 := by simp [ints]; omega
      refine ⟨hlen, .inr ⟨W.heap.size, _, _, rfl, hlo, heap_alloc_new W.drew _, hge, hcm, ?_, ?_⟩⟩
      · simp only [Array.size_append, List.size_toArray, size_zeroCells, ints_length, List.length_cons, List.length_nil]
        have : (Value.int IntKind.i64 0).cells.size = 1 := rfl
        rw [this]
        omega
      · simp only [Array.toList_append, List.append_assoc]
        rw [← List.append_assoc, ← hlen]
        exact List.take_left
    · rw [if_neg (by rw [k1]; decide)]
      exact ⟨rfl, rfl, rfl, by simp, fun k hk _ => Below.heap_alloc W.drew _ k hk⟩

/-- Two rows of groups: first, second. -/
structure St (W : World) (lo A o1 f B o2 s : Nat) (gs : Nat → G) : Prop where
  ok : ∀ i, i < f + s → GOk W lo (gs i)
  ap : ∀ i j, i < f + s → j < f + s → i ≠ j → Apart (gs i) (gs j)
  na : ∀ i, i < f + s → (gs i).v.ownBlock ≠ some A ∧ (gs i).v.ownBlock ≠ some B
  cA : ∀ i, i < f → W.cell? ⟨A, o1 + i, none⟩ = some (gs i).v
  fA : ∀ i, i < f → W.frozen? ⟨A, o1 + i, none⟩ = false
  cB : ∀ j, j < s → W.cell? ⟨B, o2 + j, none⟩ = some (gs (f + j)).v
  dis : A ≠ B ∨ o1 + f ≤ o2
  lA : lo ≤ A ∧ A < W.heap.size
  lB : lo ≤ B ∧ B < W.heap.size

def putG (gs : Nat → G) (i : Nat) (g : G) (j : Nat) : G := if j = i then g else gs j

theorem St.put {W w' : World} {lo A o1 f B o2 s i : Nat} {gs : Nat → G} {g' : G} (h : St W lo A o1 f B o2 s gs) (hi : i < f) (hw : W.grownBy w' (if (gs i).own = true then (gs i).v.ownBlock else none)) (hg' : GOk w' lo g') (ho : g'.own = true)
    (hb : ((gs i).own = true ∧ g'.v.ownBlock = (gs i).v.ownBlock) ∨ g'.v.ownBlock = some W.heap.size) :
    St (w'.setCell ⟨A, o1 + i, none⟩ g'.v) lo A o1 f B o2 s (putG gs i g') ∧ Below lo W (w'.setCell ⟨A, o1 + i, none⟩ g'.v) := by
  have hii : i < f + s := by omega
  have hs1 : W.heap.size ≤ w'.heap.size := hw.size
  have hset := grow_set w' A (o1 + i) g'.v
  -- the rows of the others are not written
  have hrow : ∀ j, j < f + s → j ≠ i → (gs j).v.ownBlock ≠ (if (gs i).own = true then (gs i).v.ownBlock else none) := by
    intro j hj hji
    by_cases ho1 : (gs i).own = true
    · rw [if_pos ho1]
      rcases h.ap j i hj hii hji with h1 | ⟨_, h1⟩
      · exact h1
      · rw [h1] at ho1; cases ho1
    · rw [if_neg ho1]
      obtain ⟨b, hb, _⟩ := (h.ok j hj).block
      rw [hb]
      intro e
      cases e
  have hnb : ∀ b, (∀ k, k < f + s → (gs k).v.ownBlock ≠ some b) → some b ≠ (if (gs i).own = true then (gs i).v.ownBlock else none) := by
    intro b hk
    by_cases ho1 : (gs i).own = true
    · rw [if_pos ho1]
      exact fun e => hk i hii e.symm
    · rw [if_neg ho1]
      intro e
      cases e
  have nA : some A ≠ (if (gs i).own = true then (gs i).v.ownBlock else none) := hnb A (fun k hk => (h.na k hk).1)
  have nB : some B ≠ (if (gs i).own = true then (gs i).v.ownBlock else none) := hnb B (fun k hk => (h.na k hk).2)
  have g'A : g'.v.ownBlock ≠ some A ∧ g'.v.ownBlock ≠ some B := by
    have hA := h.lA.2
    have hB := h.lB.2
    rcases hb with ⟨_, hb⟩ | hb
    · rw [hb]; exact h.na i hii
    · rw [hb]
      exact ⟨fun e => by cases e; omega, fun e => by cases e; omega⟩
  have okk : ∀ j, j < f + s → j ≠ i → GOk (w'.setCell ⟨A, o1 + i, none⟩ g'.v) lo (gs j) := fun j hj hji => ((h.ok j hj).kept hw (hrow j hj hji)).kept hset (h.na j hj).1
  have apk : ∀ j, j < f + s → j ≠ i → Apart g' (gs j) := by
    intro j hj hji
    refine Or.inl ?_
    rcases hb with ⟨h1, hb⟩ | hb
    · rw [hb]
      rcases h.ap i j hii hj (fun e => hji e.symm) with h2 | ⟨h2, _⟩
      · exact h2
      · rw [h2] at h1; cases h1
    · rw [hb]
      obtain ⟨b, hb1, _, hb2⟩ := (h.ok j hj).block
      rw [hb1]
      intro e
      cases e
      omega
  have apart_symm : ∀ {a b : G}, Apart a b → Apart b a := fun h => h.imp (fun h e => h e.symm) (fun ⟨a, b⟩ => ⟨b, a⟩)
  have cA' : ∀ j, j < f → w'.cell? ⟨A, o1 + j, none⟩ = some (gs j).v := fun j hj => hw.cell (h.cA j hj) nA
  refine ⟨⟨?_, ?_, ?_, ?_, ?_, ?_, h.dis, ⟨h.lA.1, by rw [World.size_setCell]; have := h.lA.2; omega⟩, ⟨h.lB.1, by rw [World.size_setCell]; have := h.lB.2; omega⟩⟩, ?_⟩
  · intro j hj
    unfold putG
    by_cases e : j = i
    · rw [if_pos e]
      exact hg'.kept hset g'A.1
    · rw [if_neg e]
      exact okk j hj e
  · intro j k hj hk hjk
    unfold putG
    by_cases e : j = i
    · rw [if_pos e, if_neg (by omega)]
      exact apk k hk (by omega)
    · rw [if_neg e]
      by_cases e2 : k = i
      · rw [if_pos e2]
        exact apart_symm (apk j hj e)
      · rw [if_neg e2]
        exact h.ap j k hj hk hjk
  · intro j hj
    unfold putG
    by_cases e : j = i
    · rw [if_pos e]; exact g'A
    · rw [if_neg e]; exact h.na j hj
  · intro j hj
    unfold putG
    by_cases e : j = i
    · rw [if_pos e, e]
      exact cell_set_same (cA' i hi)
    · rw [if_neg e]
      exact (World.cell?_setCell_other _ _ _ _ (fun e2 => by injection e2 with _ e3; omega)).trans (cA' j hj)
  · intro j hj
    rw [World.frozen?_setCell]
    have hA := h.lA.2
    exact (World.frozen?_of_block (a := ⟨A, o1 + j, none⟩) (hw.block A hA nA)).trans (h.fA j hj)
  · intro j hj
    unfold putG
    rw [if_neg (by omega)]
    exact (World.cell?_setCell_other _ _ _ _ (fun e2 => by injection e2 with e3 e4; rcases h.dis with h1 | h1; exact h1 e3; omega)).trans (hw.cell (h.cB j hj) nB)
  · have b1 : Below lo W w' := (Below.refl lo W).grown hw (by have := h.lA; omega) (fun k hk => by
      by_cases ho1 : (gs i).own = true
      · rw [if_pos ho1] at hk
        obtain ⟨b, hb1, hb2, _⟩ := (h.ok i hii).block
        rw [hb1] at hk
        cases hk
        exact hb2
      · rw [if_neg ho1] at hk
        cases hk)
    exact b1.setCell (show lo ≤ A from h.lA.1) _

theorem St.place {W w' : World} {lo A o1 f B o2 s i : Nat} {gs : Nat → G} (h : St W lo A o1 f B o2 s gs) (hi : i < f) (hw : W.grownBy w' (if (gs i).own = true then (gs i).v.ownBlock else none)) :
    w'.cell? ⟨A, o1 + i, none⟩ = some (gs i).v ∧ w'.frozen? ⟨A, o1 + i, none⟩ = false := by
  have nA : some A ≠ (if (gs i).own = true then (gs i).v.ownBlock else none) := by
    by_cases ho1 : (gs i).own = true
    · rw [if_pos ho1]
      exact fun e => (h.na i (by omega)).1 e.symm
    · rw [if_neg ho1]
      intro e
      cases e
  exact ⟨hw.cell (h.cA i hi) nA, (World.frozen?_of_block (a := ⟨A, o1 + i, none⟩) (hw.block A h.lA.2 nA)).trans (h.fA i hi)⟩

/-- What is left of a join where the second row is longer. -/
theorem St.longer {W : World} {lo A o1 f B o2 s : Nat} {gs : Nat → G} (h : St W lo A o1 f B o2 s gs) (hfs : f ≤ s) : St W lo A o1 f B (o2 + f) (s - f) (fun j => if j < f then gs j else gs (j + f)) := by
  have idx : ∀ j, j < f + (s - f) → ∃ k, k < f + s ∧ (if j < f then gs j else gs (j + f)) = gs k ∧ k = (if j < f then j else j + f) := by
    intro j hj
    by_cases e : j < f
    · exact ⟨j, by omega, by rw [if_pos e], by rw [if_pos e]⟩
    · exact ⟨j + f, by omega, by rw [if_neg e], by rw [if_neg e]⟩
  refine ⟨fun j hj => ?_, fun j k hj hk hjk => ?_, fun j hj => ?_, fun j hj => ?_, h.fA, fun j hj => ?_, ?_, h.lA, h.lB⟩
  · obtain ⟨k, hk, e, _⟩ := idx j hj
    show GOk W lo (if j < f then gs j else gs (j + f))
    rw [e]; exact h.ok k hk
  · obtain ⟨j', hj', e, ej⟩ := idx j hj
    obtain ⟨k', hk', e2, ek⟩ := idx k hk
    show Apart (if j < f then gs j else gs (j + f)) (if k < f then gs k else gs (k + f))
    rw [e, e2]
    refine h.ap j' k' hj' hk' (fun e3 => hjk ?_)
    rw [ej, ek] at e3
    split at e3 <;> split at e3 <;> omega
  · obtain ⟨k, hk, e, _⟩ := idx j hj
    show (if j < f then gs j else gs (j + f)).v.ownBlock ≠ _ ∧ (if j < f then gs j else gs (j + f)).v.ownBlock ≠ _
    rw [e]; exact h.na k hk
  · show _ = some (if j < f then gs j else gs (j + f)).v
    rw [if_pos hj]; exact h.cA j hj
  · show _ = some (if f + j < f then gs (f + j) else gs (f + j + f)).v
    rw [if_neg (by omega), show o2 + f + j = o2 + (f + j) from by omega, show f + j + f = f + (f + j) from by omega]
    exact h.cB (f + j) (by omega)
  · rcases h.dis with h1 | h1
    · exact Or.inl h1
    · exact Or.inr (by omega)

/-- What is left of a join where the first row is as long or longer. -/
theorem St.shorter {W : World} {lo A o1 f B o2 s : Nat} {gs : Nat → G} (h : St W lo A o1 f B o2 s gs) (hfs : s ≤ f) : St W lo A o1 s A (o1 + s) (f - s) gs := by
  refine ⟨fun j hj => h.ok j (by omega), fun j k hj hk => h.ap j k (by omega) (by omega), fun j hj => ⟨(h.na j (by omega)).1, (h.na j (by omega)).1⟩, fun j hj => h.cA j (by omega), fun j hj => h.fA j (by omega), fun j hj => ?_, Or.inr (Nat.le_refl _), h.lA, h.lA⟩
  rw [show o1 + s + j = o1 + (s + j) from by omega]
  exact h.cA (s + j) (by omega)

end Go.Proofs.Ytmemnkmmjejlgaa

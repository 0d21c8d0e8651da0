/-
  Texts, together: WkS, WkT, WkU.
  Conditions: none but sizes.
-/
import Derived.Test.YtpmafabphlejeaaGreatWkKZ
import Derived.Test.YtpmafabphlejeaaGreatEnIZ
import Derived.Test.YtpmafabphlejeaaGreatWkEZ
import Derived.Test.YtpmafabphlejeaaGreatXiAZ
/-
  A put's number in a row of the call's own; entries as boxes.
  Conditions: none.
-/
namespace Go.Proofs.YtpmafabphlejeaaGreat
open Go.RowKit
set_option linter.unusedVariables false
set_option linter.unusedSimpArgs false
set_option maxRecDepth 100000

theorem low_to (B : Nat) (w : World) : Sub (lowm B w) w := by
  refine ⟨by rw [lowm_size]; exact Nat.le_refl _, fun k i v h => ?_⟩
  obtain ⟨hB, hk⟩ := low_lt h
  rw [← h]
  exact (World.cell?_of_block (w := lowm B w) (by show w.heap[k]? = (lowm B w).heap[k]?; rw [lowm_hi hB]))
def PutC.num (c : PutC) (v : Nat) : PutC := ⟨{ c.e with id := v }, c.x⟩
theorem putC_num (c : PutC) (v : Nat) : putC.enc (c.num v) = (putC.enc c).set 1 (.int .u64 (v : Int)) := rfl
theorem PutAt.num {w : World} {c : PutC} (h : PutAt w c) {v : Nat} (hv : v < 18446744073709551616) : PutAt w (c.num v) := ⟨h.q, hv, h.pr, h.body⟩
/-- What a row of the call's own lies in. -/
theorem OwnW.at_ {w : World} {base : Nat} {y : WorkC} (h : OwnW w base y) (j : Nat) (hj : j < y.cs.length) : ∃ g, y.A1 = some ⟨g, 0, none⟩ ∧ base ≤ g ∧ g < w.heap.size ∧
    w.cell? ⟨g, j * 12 + 1, none⟩ = some (.int .u64 (y.cs[j].e.id : Nat)) ∧ w.frozen? ⟨g, j * 12 + 1, none⟩ = false ∧
    ∀ v : Nat, v < 18446744073709551616 → OwnW (w.setCell ⟨g, j * 12 + 1, none⟩ (.int .u64 (v : Int))) base ⟨y.A1, y.c1, y.cs.set j (y.cs[j].num v), y.A2, y.c2, y.rs⟩ := by
  obtain ⟨⟨c, hc⟩, ⟨d, hd⟩, e1, e2⟩ := h
  have hc2 := hc
  obtain ⟨hown, hsh⟩ := hc2
  rcases hown.2 with ⟨hv, hn⟩ | ⟨g, cap, cur, hv, hb, hg, hnc, hcm, hcs, hct⟩
  · omega
  · injection hv with hA _ hcap
    subst hcap
    have hsz : putC.sz = 12 := rfl
    have hat := hown.shows
    obtain ⟨g2, _, hs2⟩ := hat
    obtain ⟨o, ho, hgl, hcell⟩ := hs2.at_ (by omega)
    rw [hA] at ho
    injection ho with ho
    injection ho with ho1 ho2
    subst ho1
    subst ho2
    have hc1 := hcell j hj 1 (by decide)
    have he : 0 + (j * putC.sz + 1) = j * 12 + 1 := by rw [hsz]; omega
    rw [he] at hc1
    refine ⟨g, hA, hb, (Array.getElem?_eq_some_iff.1 hg).1, hc1, frozen_of_row w g _ _ 35 hg, fun v hvl => ?_⟩
    have hrow : OwnG putC 35 w base (.slice (some ⟨g, 0, none⟩) y.cs.length c) y.cs := by rw [← hA]; exact hown
    have hset := hrow.set_ j 1 hj (by decide) (y.cs[j].num v) (.int .u64 (v : Int)) (putC_num _ _)
    have he2 : j * putC.sz + 1 = j * 12 + 1 := by rw [hsz]
    rw [he2] at hset
    have hoth : ∀ k, k ≠ g → (w.setCell ⟨g, j * 12 + 1, none⟩ (.int .u64 (v : Int))).heap[k]? = w.heap[k]? := fun k hk => Below.heap_setCell _ _ _ _ (by show k ≠ g; exact hk)
    have hblk : (Value.slice (some ⟨g, 0, none⟩) y.cs.length c).ownBlock = some g := rfl
    refine ⟨⟨c, ?_, ?_⟩, ⟨d, hd.keep fun k hk => hoth k ?_⟩, ?_, e2⟩
    · show OwnG putC _ _ base (.slice y.A1 (y.cs.set j (y.cs[j].num v)).length c) (y.cs.set j (y.cs[j].num v))
      rw [hA, List.length_set]
      exact hset
    · intro i hi
      simp only [List.length_set] at hi
      have hS : Sub (pm (Free base (.slice (some ⟨g, 0, none⟩) y.cs.length c) (.slice none 0 0)) w) (pm (Free base (.slice (some ⟨g, 0, none⟩) (y.cs.set j (y.cs[j].num v)).length c) (.slice none 0 0)) (w.setCell ⟨g, j * 12 + 1, none⟩ (.int .u64 (v : Int)))) :=
        pm_pm (by simp) fun k hk _ => ⟨hk, hoth k (fun e => hk.2.1 (by rw [hblk, e]))⟩
      show PutS (pm (Free base (.slice y.A1 _ c) _) _) i ((y.cs.set j (y.cs[j].num v))[i]'(by simpa using hi))
      rw [hA]
      by_cases hij : j = i
      · subst hij
        rw [List.getElem_set_self]
        have := hsh j hj
        rw [hA] at this
        exact (PutAt.num this hvl).sub hS
      · rw [List.getElem_set_ne hij]
        have := hsh i hi
        rw [hA] at this
        exact PutAt.sub this hS
    · rintro rfl
      rcases hd.2 with ⟨hv2, _⟩ | ⟨g3, cap3, cur3, hv3, _, hg3, _⟩
      · rw [hv2] at hk; cases hk
      · rw [hv3] at hk
        have := Option.some.inj hk
        simp only at this
        rw [this, hg] at hg3
        injection hg3 with hg3
        injection hg3 with _ ht _
        exact absurd ht (by decide)
    · show y.c1 = (y.cs.set j (y.cs[j].num v)).length
      rw [List.length_set]; exact e1

end Go.Proofs.YtpmafabphlejeaaGreat
/-
  The contracts of the program's Do and Prep.
  Conditions: at most 400 values in each put.
-/
namespace Go.Proofs.YtpmafabphlejeaaGreat
open Go.RowKit
set_option linter.unusedVariables false
set_option linter.unusedSimpArgs false
set_option maxRecDepth 100000

def zEC : EntC := ⟨0, ⟨#[]⟩, 0, 0, ⟨#[]⟩, ⟨#[]⟩, none, 0, [], none, 0, []⟩
theorem zEC_shows (w : World) : ShowsE w zEC := ⟨by decide, by decide, by decide, by decide, by decide, by decide, RowP.nil _, RowR.nil _⟩
def EntSaid (E : EntE) (er : Nat) (w : World) (e : Ending) (w' : World) : Prop := ∃ z : EntC, e = .returned (.tuple #[entV z, .int .i64 er]) ∧ z.e = E ∧ ShowsE w' z ∧ FewS z.cs ∧ Below w.heap.size w w'
theorem zEC_said {er : Nat} {w w' : World} {e : Ending} (he : e = .returned (.tuple #[entV zEC, .int .i64 er])) (hb : Below w.heap.size w w') : EntSaid zE er w e w' := ⟨zEC, he, rfl, zEC_shows _, fun j hj => absurd hj (by simp [zEC]), hb⟩
structure AtD (w0 : World) (v1 v2 : Value) (w : World) : Prop where
  a : BoxK w w0.heap.size v1 v2
  z : w.heap[w0.heap.size + 1]? = some zEnt
  bel : Below w0.heap.size w0 w
section
variable {w0 w w' : World} {v1 v2 : Value}
theorem AtD.step (h : AtD w0 v1 v2 w) (hb : Below w.heap.size w w') : AtD w0 v1 v2 w' := ⟨h.a.kept hb (Nat.le_refl _), (hb.block _ (Array.getElem?_eq_some_iff.1 h.z).1).trans h.z, h.bel.trans (hb.mono h.bel.size)⟩
theorem AtD.new (w : World) (v1 v2 : Value) : AtD w v1 v2 ((w.alloc (Obj.cells #[v1, v2] 25)).alloc zEnt) := by
  refine ⟨(BoxK.new w v1 v2).kept ((Below.refl _ _).alloc (Nat.le_refl _) _) (Nat.le_refl _), ?_, (below_boxV _ _).alloc (by simp) _⟩
  have := heap_alloc_new (w.alloc (Obj.cells #[v1, v2] 25)) zEnt
  rw [World.size_alloc] at this
  exact this
theorem AtD.fin (h : AtD w0 v1 v2 w) (x0 x1 x2 x3 x4 x5 x6 x7 : Value) : (set8 w (w0.heap.size + 1) x0 x1 x2 x3 x4 x5 x6 x7).heap[w0.heap.size + 1]? = some (.cells #[x0, x1, x2, x3, x4, x5, x6, x7] 57 (0, 0)) ∧ Below w0.heap.size w0 (set8 w (w0.heap.size + 1) x0 x1 x2 x3 x4 x5 x6 x7) :=
  ⟨set8_row x0 x1 x2 x3 x4 x5 x6 x7 h.z, set8_below h.bel (by omega) x0 x1 x2 x3 x4 x5 x6 x7⟩
end

set_option maxHeartbeats 4000000 in
theorem do_bad (x : WorkC) (n : Nat) (w : World) (h : ShowsW w x) (hf : FewS x.cs) (hv : wB x.ps x.rs = false) :
    Calls Tryz.prog 18 #[workVal x, .int .u64 n] w (EntSaid zE 130 w) := by
  have HC := Lib.hid (fun w' (hb : Below w.heap.size w w') => wcheck_any x w' (h.kept hb (Nat.le_refl _)) hf.few)
  rw [errW_no hv] at HC
  clear h hf hv
  obtain ⟨A1, c1, cs, A2, c2, rs⟩ := x
  unfold workVal at *
  simp only [] at *
  have hA := AtD.new w (.slice A1 cs.length c1) (.slice A2 rs.length c2)
  obtain ⟨W1, hW1⟩ : ∃ W1, W1 = (w.alloc (Obj.cells #[.slice A1 cs.length c1, .slice A2 rs.length c2] 25)).alloc zEnt := ⟨_, rfl⟩
  rw [← hW1] at hA
  have k0 := hA.a.c0
  have k1 := hA.a.c1
  have HA := Lib.hid hA
  have HW1 := Lib.hid hW1.symm
  clear hA hW1
  go_enter Tryz.func18, Tryz.ntmps18
  go_upto_region 1 with fail
  rw [HW1.out]
  go_wp2_with fail
  refine (HC.out _ HA.out.bel).mono ?_
  rintro e w2 ⟨rfl, hb2⟩
  have hA2 := HA.out.step hb2
  obtain ⟨⟨⟨z0, z1, z2, z3⟩, ⟨z4, z5, z6, z7⟩⟩, ⟨⟨f0, f1, f2, f3⟩, ⟨f4, f5, f6, f7⟩⟩⟩ := ent_zero hA2.z
  have hX := hA2.fin (.int .u8 0) (.string ⟨#[]⟩) (.int .u64 0) (.int .u32 0) (.string ⟨#[]⟩) (.string ⟨#[]⟩) (.slice none 0 0) (.slice none 0 0)
  unfold set8 at hX
  have HX := Lib.hid hX
  clear hb2 hA2 hX k0 k1
  go_wp2_with fail
  exact bodyPost_ret (results_row_tmp rfl _ _ (w.heap.size + 1) 57 _ (0, 0) _ rfl HX.out.1 Tryz.underlying57 rfl (by kernel_rfl)) rfl (zEC_said rfl HX.out.2)

set_option maxHeartbeats 4000000 in
theorem do_full (x : WorkC) (n : Nat) (w : World) (h : ShowsW w x) (hf : FewS x.cs) (hv : wB x.ps x.rs = true) (hn : n < 18446744073709551616) (hk : hasNum x.ps.length n = false) :
    Calls Tryz.prog 18 #[workVal x, .int .u64 n] w (EntSaid zE 6 w) := by
  have HC := Lib.hid (fun w' (hb : Below w.heap.size w w') => wcheck_any x w' (h.kept hb (Nat.le_refl _)) hf.few)
  rw [errW_ok hv] at HC
  have hl := (wB_iff.1 hv).1
  have HN := Lib.hid (fun w' => hasnum_any x.ps.length n w' (by omega) hn)
  rw [hk] at HN
  clear h hf hv hl hk
  obtain ⟨A1, c1, cs, A2, c2, rs⟩ := x
  unfold workVal WorkC.ps at *
  simp only [esOf_len] at *
  have hA := AtD.new w (.slice A1 cs.length c1) (.slice A2 rs.length c2)
  obtain ⟨W1, hW1⟩ : ∃ W1, W1 = (w.alloc (Obj.cells #[.slice A1 cs.length c1, .slice A2 rs.length c2] 25)).alloc zEnt := ⟨_, rfl⟩
  rw [← hW1] at hA
  have k0 := hA.a.c0
  have k1 := hA.a.c1
  have HA := Lib.hid hA
  have HW1 := Lib.hid hW1.symm
  clear hA hW1
  go_enter Tryz.func18, Tryz.ntmps18
  go_upto_region 1 with fail
  rw [HW1.out]
  go_wp2_with fail
  refine (HC.out _ HA.out.bel).mono ?_
  rintro e w2 ⟨rfl, hb2⟩
  have hA2 := HA.out.step hb2
  clear k0 k1
  have k0 := hA2.a.c0
  obtain ⟨⟨⟨z0, z1, z2, z3⟩, ⟨z4, z5, z6, z7⟩⟩, ⟨⟨f0, f1, f2, f3⟩, ⟨f4, f5, f6, f7⟩⟩⟩ := ent_zero hA2.z
  have hX := hA2.fin (.int .u8 0) (.string ⟨#[]⟩) (.int .u64 0) (.int .u32 0) (.string ⟨#[]⟩) (.string ⟨#[]⟩) (.slice none 0 0) (.slice none 0 0)
  unfold set8 at hX
  have HX := Lib.hid hX
  clear hb2 hA2 hX
  go_wp2_with (go_at_call 46; refine (HN.out _).mono ?_; rintro e w3 ⟨rfl, rfl⟩)
  exact bodyPost_ret (results_row_tmp rfl _ _ (w.heap.size + 1) 57 _ (0, 0) _ rfl HX.out.1 Tryz.underlying57 rfl (by kernel_rfl)) rfl (zEC_said rfl HX.out.2)

theorem numE_upto (n : Nat) (l : List PutE) (j : Nat) (h : j < l.length) : numE n 0 (l.take (j + 1)) ++ l.drop (j + 1) = (numE n 0 (l.take j) ++ l.drop j).set j { l[j] with id := n + j } := by
  apply List.ext_getElem
  · simp [numE_len]; omega
  · intro i h1 h2
    have hi : i < l.length := by simp [numE_len] at h1; omega
    have hg : ∀ (m : Nat) (hm : m ≤ l.length) (hx : i < (numE n 0 (l.take m) ++ l.drop m).length), (numE n 0 (l.take m) ++ l.drop m)[i] = if i < m then { l[i] with id := n + i } else l[i] := by
      intro m hm hx
      by_cases c : i < m
      · rw [if_pos c, List.getElem_append_left (by rw [numE_len, List.length_take]; omega), numE_get n 0 (l.take m) i (by rw [List.length_take]; omega), List.getElem_take, Nat.zero_add]
      · rw [if_neg c, List.getElem_append_right (by rw [numE_len, List.length_take]; omega), List.getElem_drop]
        congr 1
        rw [numE_len, List.length_take]
        omega
    rw [hg (j + 1) (by omega) h1, List.getElem_set]
    by_cases c : j = i
    · subst c
      rw [if_pos (by omega), if_pos rfl]
    · rw [if_neg c, hg j (by omega) (by simpa using h2)]
      by_cases c2 : i < j
      · rw [if_pos (by omega), if_pos c2]
      · rw [if_neg (by omega), if_neg c2]

theorem fewE_num {n : Nat} {l : List PutE} (h : FewE l) : ∀ k, FewE (numE n k l) := by
  induction l with
  | nil => intro k p hp; cases hp
  | cons a r ih =>
    intro k p hp
    rw [numE] at hp
    rcases List.mem_cons.1 hp with rfl | hp
    · exact h a (by simp)
    · exact ih (fun q hq => h q (List.mem_cons_of_mem _ hq)) (k + 1) p hp
theorem AtD.set {w0 w : World} {v1 v2 : Value} (h : AtD w0 v1 v2 w) {g i : Nat} (hg : w0.heap.size + 1 + 1 ≤ g) (u : Value) : AtD w0 v1 v2 (w.setCell ⟨g, i, none⟩ u) :=
  ⟨(Below.heap_setCell _ _ _ _ (by show w0.heap.size ≠ g; omega)).trans h.a, (Below.heap_setCell _ _ _ _ (by show w0.heap.size + 1 ≠ g; omega)).trans h.z, below_set h.bel (by omega) _⟩
theorem esOf_set (cs : List PutC) (j : Nat) (v : Nat) (h : j < cs.length) : esOf (cs.set j (cs[j].num v)) = (esOf cs).set j { cs[j].e with id := v } := by
  unfold esOf
  rw [List.map_set]
  rfl

set_option maxHeartbeats 8000000 in
theorem do_ok (x : WorkC) (n : Nat) (w : World) (h : ShowsW w x) (hf : FewS x.cs) (hv : wB x.ps x.rs = true) (hn : n < 18446744073709551616) (hk : hasNum x.ps.length n = true) :
    Calls Tryz.prog 18 #[workVal x, .int .u64 n] w (EntSaid (doE x.ps x.rs n) 0 w) := by
  have HC := Lib.hid (fun w' (hb : Below w.heap.size w w') => wcheck_any x w' (h.kept hb (Nat.le_refl _)) hf.few)
  rw [errW_ok hv] at HC
  have hl := (wB_iff.1 hv).1
  have hl2 := (wB_iff.1 hv).2.1
  have HN := Lib.hid (fun w' => hasnum_any x.ps.length n w' (by omega) hn)
  rw [hk] at HN
  have HNUM := Lib.hid (show ∀ j : Nat, j < x.ps.length → n + j < 18446744073709551616 ∧ n + j ≤ 1099511627776 from fun j hj => by
    unfold hasNum at hk
    rw [decide_eq_true_eq] at hk
    omega)
  have hlc : x.cs.length ≤ 100 := by unfold WorkC.ps at hl; rwa [esOf_len] at hl
  have HCO := Lib.hid (fun w' (hb : Below w.heap.size w w') => copied_any x w' (h.kept hb (Nat.le_refl _)) (by omega) (by omega) hf)
  unfold CopWSaid at HCO
  have HRF := Lib.hid h.takes.refs
  have HFE := Lib.hid (fewS_iff.1 hf)
  have HPS := Lib.hid (show x.ps = esOf x.cs from rfl)
  obtain ⟨PS, hPS⟩ : ∃ PS, PS = x.ps := ⟨_, rfl⟩
  obtain ⟨RS, hRS⟩ : ∃ RS, RS = x.rs := ⟨_, rfl⟩
  rw [← hPS, ← hRS] at HCO ⊢
  rw [← hPS] at HNUM hl
  rw [← hRS] at HRF hl2
  have HFE2 := Lib.hid (show FewE PS by rw [hPS]; exact HFE.out)
  clear h hf hv hk HFE HPS
  obtain ⟨A1, c1, cs, A2, c2, rs⟩ := x
  unfold workVal WorkC.ps at *
  simp only [esOf_len] at HC HN HCO hlc
  have hA := AtD.new w (.slice A1 cs.length c1) (.slice A2 rs.length c2)
  obtain ⟨W1, hW1⟩ : ∃ W1, W1 = (w.alloc (Obj.cells #[.slice A1 cs.length c1, .slice A2 rs.length c2] 25)).alloc zEnt := ⟨_, rfl⟩
  rw [← hW1] at hA
  have k0 := hA.a.c0
  have k1 := hA.a.c1
  have HA := Lib.hid hA
  have HW1 := Lib.hid hW1.symm
  clear hA hW1 hPS hRS
  go_enter Tryz.func18, Tryz.ntmps18
  go_upto_region 1 with fail
  rw [HW1.out]
  go_wp2_with fail
  refine (HC.out _ HA.out.bel).mono ?_
  rintro e w2 ⟨rfl, hb2⟩
  have hA2 := HA.out.step hb2
  clear k0 k1
  have k0 := hA2.a.c0
  have k1 := hA2.a.c1
  have HA2 := Lib.hid hA2
  clear hb2 hA2
  go_wp2_with (go_at_call 46; refine (HN.out _).mono ?_; rintro e w3 ⟨rfl, rfl⟩)
  refine (HCO.out _ HA2.out.bel).mono ?_
  rintro e w4 ⟨⟨F1, f1, gs, F2, f2, hs⟩, rfl, hp4, hr4, ho4, hb4⟩
  have hA4 := HA2.out.step hb4
  clear k0 k1
  have k0 := hA4.a.c0
  have k1 := hA4.a.c1
  have g0 := hA4.a.fr 0
  have g1 := hA4.a.fr 1
  obtain ⟨W5, hW5⟩ : ∃ W5, W5 = (w4.setCell ⟨w.heap.size, 0, none⟩ (.slice F1 gs.length f1)).setCell ⟨w.heap.size, 1, none⟩ (.slice F2 hs.length f2) := ⟨_, rfl⟩
  have hz2 := (Array.getElem?_eq_some_iff.1 HA2.out.z).1
  obtain ⟨hX5, hB5, hk5⟩ := set2_box hA4.a (.slice F1 gs.length f1) (.slice F2 hs.length f2) (Nat.le_refl w.heap.size) hA4.bel
  rw [← hW5] at hX5 hB5 hk5
  have hA5 : AtD w (.slice F1 gs.length f1) (.slice F2 hs.length f2) W5 := ⟨hX5, (hk5 _ (by omega)).trans hA4.z, hB5⟩
  have hO5 : OwnW W5 (w.heap.size + 1 + 1) ⟨F1, f1, gs, F2, f2, hs⟩ := (ho4.keep (by rw [hW5]; simp) (fun k hk _ => hk5 k (by omega))).mono (by omega)
  have HP := Lib.hid (show PS = esOf gs from hp4.symm)
  have HR := Lib.hid (show RS = hs from hr4.symm)
  have hgl : gs.length ≤ 100 := by have := congrArg List.length HP.out; rw [esOf_len] at this; omega
  have HGL := Lib.hid (show PS.length = gs.length by rw [HP.out, esOf_len])
  have m0 := hA5.a.c0
  have m1 := hA5.a.c1
  have HA5 := Lib.hid hA5
  have HO5 := Lib.hid hO5
  have HW5 := Lib.hid hW5.symm
  clear hA4 hX5 hB5 hk5 hA5 hO5 hp4 hr4 ho4 hb4 hz2 hW5
  go_upto_region 7 with fail
  rw [HW5.out]
  clear k0 k1 g0 g1
  go_wp2_with fail
  go_loopw [26] (fun iv wr => ∃ (j : Nat) (es : List PutC), j ≤ gs.length ∧ iv = .int .i64 j ∧ Hid (es.length = gs.length) ∧ Hid (esOf es = numE n 0 (PS.take j) ++ PS.drop j) ∧ Hid (OwnW wr (w.heap.size + 1 + 1) ⟨F1, f1, es, F2, f2, hs⟩) ∧ Hid (AtD w (.slice F1 gs.length f1) (.slice F2 hs.length f2) wr)) (fun i _ => gs.length - (intOf i).toNat)
  case atStart => exact ⟨0, gs, by omega, rfl, Lib.hid rfl, Lib.hid (by rw [HP.out]; simp [numE]), HO5, HA5⟩
  case round =>
    rename World => wr
    obtain ⟨j, es, hj, rfl, hel, hes, ho, ha⟩ := hrel
    have k0 := ha.out.a.c0
    have k1 := ha.out.a.c1
    by_cases hlt : j < gs.length
    · obtain ⟨g, hA1, hgb, hgl2, hcell, hfr, hset⟩ := ho.out.at_ j (by show j < es.length; rw [hel.out]; exact hlt)
      simp only [] at hA1 hcell hset
      subst hA1
      have hnum := HNUM.out j (by rw [HGL.out]; exact hlt)
      have hj1 : (j : Int) < (gs.length : Int) := by omega
      have hj0 : (0 : Int) ≤ (j : Int) := by omega
      have b3 : IntKind.i64.wrap ((j : Int) + 1) = (j : Int) + 1 := i64_id _ (by omega) (by omega)
      have b4 : IntKind.u64.wrap (j : Int) = (j : Int) := by rw [IntKind.wrap_u64]; omega
      have b5 : IntKind.u64.wrap ((n : Int) + (j : Int)) = ((n + j : Nat) : Int) := by rw [IntKind.wrap_u64]; omega
      have hset2 := hset (n + j) hnum.1
      have hjl : j < es.length := by rw [hel.out]; exact hlt
      have hes2 : esOf (es.set j (es[j].num (n + j))) = numE n 0 (PS.take (j + 1)) ++ PS.drop (j + 1) := by
        have hjp : j < PS.length := by rw [HGL.out]; exact hlt
        rw [esOf_set es j (n + j) hjl, numE_upto n PS j hjp, hes.out]
        congr 1
        have : es[j].e = PS[j] := by
          rw [← esOf_get es j hjl]
          have hq : (numE n 0 (PS.take j) ++ PS.drop j)[j]'(by simp [numE_len]; omega) = PS[j] := by
            rw [List.getElem_append_right (by rw [numE_len, List.length_take]; omega), List.getElem_drop]
            congr 1
            rw [numE_len, List.length_take]
            omega
          rw [← hq]
          congr 1
        rw [this]
      have HS2 := Lib.hid (And.intro hset2 hes2)
      have HA2' := Lib.hid (ha.out.set (g := g) (i := j * 12 + 1) hgb (.int .u64 ((n + j : Nat) : Int)))
      have HEL := Lib.hid (show (es.set j (es[j].num (n + j))).length = gs.length by rw [List.length_set, hel.out])
      generalize hNJ : n + j = NJ at *
      clear hset hset2 hes2 hnum hgb hgl2 hNJ
      go_wp2_with fail
      go_roundw
      case rel => exact ⟨j + 1, _, by omega, by go_num, HEL, Lib.hid HS2.out.2, Lib.hid HS2.out.1, HA2'⟩
      case measure => simp [intOf]; omega
    · have hj1 : ¬ (j : Int) < (gs.length : Int) := by omega
      have hes2 : esOf es = numE n 0 PS := by
        have := hes.out
        rw [List.take_of_length_le (by rw [HGL.out]; omega), List.drop_eq_nil_of_le (by rw [HGL.out]; omega), List.append_nil] at this
        exact this
      obtain ⟨⟨⟨z0, z1, z2, z3⟩, ⟨z4, z5, z6, z7⟩⟩, ⟨⟨q0, q1, q2, q3⟩, ⟨q4, q5, q6, q7⟩⟩⟩ := ent_zero ha.out.z
      have hX := ha.out.fin (.int .u8 3) (.string ⟨#[]⟩) (.int .u64 0) (.int .u32 0) (.string ⟨#[]⟩) (.string ⟨#[]⟩) (.slice F1 gs.length f1) (.slice F2 hs.length f2)
      have hO : OwnW (set8 wr (w.heap.size + 1) (.int .u8 3) (.string ⟨#[]⟩) (.int .u64 0) (.int .u32 0) (.string ⟨#[]⟩) (.string ⟨#[]⟩) (.slice F1 gs.length f1) (.slice F2 hs.length f2)) (w.heap.size + 1 + 1) ⟨F1, f1, es, F2, f2, hs⟩ :=
        ho.out.keep (by have := (set8_below (Below.refl wr.heap.size wr) (Nat.le_refl _) (.int .u8 3) (.string ⟨#[]⟩) (.int .u64 0) (.int .u32 0) (.string ⟨#[]⟩) (.string ⟨#[]⟩) (.slice F1 gs.length f1) (.slice F2 hs.length f2)).size; rw [set8_eq] at *; exact (setN_below (B := 0) (Nat.zero_le _) _ 0 wr wr (Below.refl 0 wr)).size) (fun k hk _ => by rw [set8_eq]; exact setN_other (by omega) _ 0 _)
      have hsh := (hO.shows (by show es.length ≤ _; rw [hel.out]; omega) (by intro r hr; exact HRF.out r (by rw [HR.out]; exact hr)) (by show hs.length ≤ _; rw [← HR.out]; omega)).sub (low_out _ _)
      have hfew : FewS es := by rw [fewS_iff, hes2]; exact fewE_num HFE2.out 0
      unfold set8 at hX hsh
      have HX := Lib.hid (And.intro hX (And.intro hsh (And.intro hfew hes2)))
      clear hX hO hsh hfew hes2 ho
      go_wp2_with fail
      exact bodyPost_ret (results_row_tmp rfl _ _ (w.heap.size + 1) 57 _ (0, 0) _ rfl HX.out.1.1 Tryz.underlying57 rfl (by kernel_rfl)) rfl
        ⟨⟨3, ⟨#[]⟩, 0, 0, ⟨#[]⟩, ⟨#[]⟩, F1, f1, es, F2, f2, hs⟩, by unfold entV; simp only [hel.out]; rfl, by unfold EntC.e doE; simp only [HX.out.2.2.2, HR.out], ⟨(show (3 : Nat) < 256 by decide), (show (0 : Nat) ≤ _ by decide), (show (0 : Nat) < _ by decide), (show (0 : Nat) < _ by decide), (show (0 : Nat) ≤ _ by decide), (show (0 : Nat) ≤ _ by decide), HX.out.2.1.puts, HX.out.2.1.takes⟩, HX.out.2.2.1, HX.out.1.2⟩

theorem do_any (x : WorkC) (n : Nat) (w : World) (h : ShowsW w x) (hf : FewS x.cs) (hn : n < 18446744073709551616) :
    Calls Tryz.prog 18 #[workVal x, .int .u64 n] w (EntSaid (doneE x.ps x.rs n) (errD x.ps x.rs n) w) := by
  cases hv : wB x.ps x.rs with
  | false =>
    have e : errD x.ps x.rs n = 130 := by unfold errD; rw [if_pos hv]
    have e2 : doneE x.ps x.rs n = zE := by unfold doneE; rw [e]; rfl
    rw [e2, e]
    exact do_bad x n w h hf hv
  | true =>
    cases hk : hasNum x.ps.length n with
    | false =>
      have e : errD x.ps x.rs n = 6 := by unfold errD; rw [if_neg (by rw [hv]; decide), if_pos hk]
      have e2 : doneE x.ps x.rs n = zE := by unfold doneE; rw [e]; rfl
      rw [e2, e]
      exact do_full x n w h hf hv hn hk
    | true =>
      have e : errD x.ps x.rs n = 0 := by unfold errD; rw [if_neg (by rw [hv]; decide), if_neg (by rw [hk]; decide)]
      have e2 : doneE x.ps x.rs n = doE x.ps x.rs n := by unfold doneE; rw [e]; rfl
      rw [e2, e]
      exact do_ok x n w h hf hv hn hk

end Go.Proofs.YtpmafabphlejeaaGreat
/-
  The contract of the program's Prep.
  Conditions: at most 400 values in each put.
-/
namespace Go.Proofs.YtpmafabphlejeaaGreat
open Go.RowKit
set_option linter.unusedVariables false
set_option linter.unusedSimpArgs false
set_option maxRecDepth 100000

def BoxX (w : World) (b f : Nat) (g h : ByteArray) : Prop := w.heap[b]? = some (.cells #[.int .u32 f, .string g, .string h] 55 (0, 0))
theorem BoxX.kept {w w' : World} {B b f : Nat} {g h : ByteArray} (hx : BoxX w b f g h) (hb : Below B w w') (hB : w.heap.size ≤ B) : BoxX w' b f g h := (hb.block b (Nat.lt_of_lt_of_le (Array.getElem?_eq_some_iff.1 hx).1 hB)).trans hx
theorem BoxX.cs {w : World} {b f : Nat} {g h : ByteArray} (hx : BoxX w b f g h) : w.cell? ⟨b, 0, none⟩ = some (.int .u32 f) ∧ w.cell? ⟨b, 1, none⟩ = some (.string g) ∧ w.cell? ⟨b, 2, none⟩ = some (.string h) :=
  ⟨cell_of_row w b 0 _ 55 (0, 0) hx, cell_of_row w b 1 _ 55 (0, 0) hx, cell_of_row w b 2 _ 55 (0, 0) hx⟩
structure AtX (w0 : World) (v1 v2 : Value) (f : Nat) (g h : ByteArray) (w : World) : Prop where
  a : BoxK w w0.heap.size v1 v2
  x : BoxX w (w0.heap.size + 1) f g h
  z : w.heap[w0.heap.size + 1 + 1]? = some zEnt
  bel : Below w0.heap.size w0 w
section
variable {w0 w w' : World} {v1 v2 : Value} {f : Nat} {g h : ByteArray}
theorem AtX.step (hh : AtX w0 v1 v2 f g h w) (hb : Below w.heap.size w w') : AtX w0 v1 v2 f g h w' := ⟨hh.a.kept hb (Nat.le_refl _), hh.x.kept hb (Nat.le_refl _), (hb.block _ (Array.getElem?_eq_some_iff.1 hh.z).1).trans hh.z, hh.bel.trans (hb.mono hh.bel.size)⟩
theorem AtX.drw (hh : AtX w0 v1 v2 f g h w) : AtX w0 v1 v2 f g h w.drew := hh.step (below_drew1 (Below.refl _ _))
theorem AtX.cs (hh : AtX w0 v1 v2 f g h w) : (w.cell? ⟨w0.heap.size, 0, none⟩ = some v1 ∧ w.cell? ⟨w0.heap.size, 1, none⟩ = some v2) ∧ w.cell? ⟨w0.heap.size + 1, 0, none⟩ = some (.int .u32 f) ∧ w.cell? ⟨w0.heap.size + 1, 1, none⟩ = some (.string g) ∧ w.cell? ⟨w0.heap.size + 1, 2, none⟩ = some (.string h) := ⟨⟨hh.a.c0, hh.a.c1⟩, hh.x.cs⟩
theorem AtX.fin (hh : AtX w0 v1 v2 f g h w) (x0 x1 x2 x3 x4 x5 x6 x7 : Value) : (set8 w (w0.heap.size + 1 + 1) x0 x1 x2 x3 x4 x5 x6 x7).heap[w0.heap.size + 1 + 1]? = some (.cells #[x0, x1, x2, x3, x4, x5, x6, x7] 57 (0, 0)) ∧ Below w0.heap.size w0 (set8 w (w0.heap.size + 1 + 1) x0 x1 x2 x3 x4 x5 x6 x7) :=
  ⟨set8_row x0 x1 x2 x3 x4 x5 x6 x7 hh.z, set8_below hh.bel (by omega) x0 x1 x2 x3 x4 x5 x6 x7⟩
theorem AtX.cs8 (hh : AtX w0 v1 v2 f g h w) (x0 x1 x2 x3 x4 x5 x6 x7 : Value) : ((set8 w (w0.heap.size + 1 + 1) x0 x1 x2 x3 x4 x5 x6 x7).cell? ⟨w0.heap.size, 0, none⟩ = some v1 ∧ (set8 w (w0.heap.size + 1 + 1) x0 x1 x2 x3 x4 x5 x6 x7).cell? ⟨w0.heap.size, 1, none⟩ = some v2) ∧ (set8 w (w0.heap.size + 1 + 1) x0 x1 x2 x3 x4 x5 x6 x7).cell? ⟨w0.heap.size + 1, 0, none⟩ = some (.int .u32 f) ∧ (set8 w (w0.heap.size + 1 + 1) x0 x1 x2 x3 x4 x5 x6 x7).cell? ⟨w0.heap.size + 1, 1, none⟩ = some (.string g) ∧ (set8 w (w0.heap.size + 1 + 1) x0 x1 x2 x3 x4 x5 x6 x7).cell? ⟨w0.heap.size + 1, 2, none⟩ = some (.string h) := by
  have ha : BoxK (set8 w (w0.heap.size + 1 + 1) x0 x1 x2 x3 x4 x5 x6 x7) w0.heap.size v1 v2 := by rw [set8_eq]; exact (setN_other (by omega) _ 0 _).trans hh.a
  have hx : BoxX (set8 w (w0.heap.size + 1 + 1) x0 x1 x2 x3 x4 x5 x6 x7) (w0.heap.size + 1) f g h := by rw [set8_eq]; exact (setN_other (by omega) _ 0 _).trans hh.x
  exact ⟨⟨ha.c0, ha.c1⟩, hx.cs⟩
theorem AtX.new (w : World) (v1 v2 : Value) (f : Nat) (g h : ByteArray) : AtX w v1 v2 f g h (((w.alloc (Obj.cells #[v1, v2] 25)).alloc (Obj.cells #[.int .u32 f, .string g, .string h] 55)).alloc zEnt) := by
  refine ⟨((BoxK.new w v1 v2).kept ((Below.refl _ _).alloc (Nat.le_refl _) _) (Nat.le_refl _)).kept ((Below.refl _ _).alloc (Nat.le_refl _) _) (Nat.le_refl _), ?_, ?_, ((below_boxV _ _).alloc (by simp) _).alloc (by simp; omega) _⟩
  · have : BoxX ((w.alloc (Obj.cells #[v1, v2] 25)).alloc (Obj.cells #[.int .u32 f, .string g, .string h] 55)) (w.alloc (Obj.cells #[v1, v2] 25)).heap.size f g h := heap_alloc_new _ _
    rw [World.size_alloc] at this
    exact this.kept ((Below.refl _ _).alloc (Nat.le_refl _) _) (Nat.le_refl _)
  · have := heap_alloc_new ((w.alloc (Obj.cells #[v1, v2] 25)).alloc (Obj.cells #[.int .u32 f, .string g, .string h] 55)) zEnt
    rw [World.size_alloc, World.size_alloc] at this
    exact this
end

theorem prep2_any (f : Nat) (g h : ByteArray) (F1 : Option Addr) (f1 : Nat) (gs : List PutC) (F2 : Option Addr) (f2 : Nat) (hs : List RefE) (w : World) : Calls Tryz.prog 44 #[.agg #[.slice F1 gs.length f1, .slice F2 hs.length f2], .agg #[.int .u32 f, .string g, .string h]] w fun e w' => e = .returned (.agg #[.int .u8 4, .string ⟨#[]⟩, .int .u64 0, .int .u32 f, .string g, .string h, .slice F1 gs.length f1, .slice F2 hs.length f2]) ∧ Below w.heap.size w w' := prepared_any f g h ⟨F1, f1, gs, F2, f2, hs⟩ w
set_option maxHeartbeats 4000000 in
theorem prep_bad (x : WorkC) (f : Nat) (g h : ByteArray) (w : World) (hx : ShowsW w x) (hf : FewS x.cs) (hv : wB x.ps x.rs = false) :
    Calls Tryz.prog 20 #[workVal x, .agg #[.int .u32 f, .string g, .string h]] w (EntSaid zE 130 w) := by
  have HC := Lib.hid (fun w' (hb : Below w.heap.size w w') => wcheck_any x w' (hx.kept hb (Nat.le_refl _)) hf.few)
  rw [errW_no hv] at HC
  clear hx hf hv
  obtain ⟨A1, c1, cs, A2, c2, rs⟩ := x
  unfold workVal at *
  simp only [] at *
  have hA := AtX.new w (.slice A1 cs.length c1) (.slice A2 rs.length c2) f g h
  obtain ⟨W1, hW1⟩ : ∃ W1, W1 = ((w.alloc (Obj.cells #[.slice A1 cs.length c1, .slice A2 rs.length c2] 25)).alloc (Obj.cells #[.int .u32 f, .string g, .string h] 55)).alloc zEnt := ⟨_, rfl⟩
  rw [← hW1] at hA
  obtain ⟨⟨k0, k1⟩, k2, k3, k4⟩ := hA.cs
  have HA := Lib.hid hA
  have HW1 := Lib.hid hW1.symm
  clear hA hW1
  go_enter Tryz.func20, Tryz.ntmps20
  go_upto_region 1 with fail
  rw [HW1.out]
  go_wp2_with fail
  refine (HC.out _ HA.out.bel).mono ?_
  rintro e w2 ⟨rfl, hb2⟩
  have hA2 := HA.out.step hb2
  obtain ⟨⟨⟨z0, z1, z2, z3⟩, ⟨z4, z5, z6, z7⟩⟩, ⟨⟨f0, f1, f2, f3⟩, ⟨f4, f5, f6, f7⟩⟩⟩ := ent_zero hA2.z
  have hX := hA2.fin (.int .u8 0) (.string ⟨#[]⟩) (.int .u64 0) (.int .u32 0) (.string ⟨#[]⟩) (.string ⟨#[]⟩) (.slice none 0 0) (.slice none 0 0)
  unfold set8 at hX
  have HX := Lib.hid hX
  clear hb2 hA2 hX k0 k1 k2 k3 k4
  go_wp2_with fail
  exact bodyPost_ret (results_row_tmp rfl _ _ (w.heap.size + 1 + 1) 57 _ (0, 0) _ rfl HX.out.1 Tryz.underlying57 rfl (by kernel_rfl)) rfl (zEC_said rfl HX.out.2)

set_option maxHeartbeats 4000000 in
theorem prep_x (x : WorkC) (f : Nat) (g h : ByteArray) (w : World) (hx : ShowsW w x) (hf : FewS x.cs) (hv : wB x.ps x.rs = true) (hm : ¬ mayX g h) (hg : g.size ≤ 140737488351232) (hh : h.size ≤ 140737488351232) :
    Calls Tryz.prog 20 #[workVal x, .agg #[.int .u32 f, .string g, .string h]] w (EntSaid zE 40 w) := by
  have HC := Lib.hid (fun w' (hb : Below w.heap.size w w') => wcheck_any x w' (hx.kept hb (Nat.le_refl _)) hf.few)
  have HXC := Lib.hid (fun w' => check_no f g h w' hm (by omega) (by omega))
  rw [errW_ok hv] at HC
  clear hx hf hv hm
  obtain ⟨A1, c1, cs, A2, c2, rs⟩ := x
  unfold workVal at *
  simp only [] at *
  have hA := AtX.new w (.slice A1 cs.length c1) (.slice A2 rs.length c2) f g h
  obtain ⟨W1, hW1⟩ : ∃ W1, W1 = ((w.alloc (Obj.cells #[.slice A1 cs.length c1, .slice A2 rs.length c2] 25)).alloc (Obj.cells #[.int .u32 f, .string g, .string h] 55)).alloc zEnt := ⟨_, rfl⟩
  rw [← hW1] at hA
  obtain ⟨⟨k0, k1⟩, k2, k3, k4⟩ := hA.cs
  have HA := Lib.hid hA
  have HW1 := Lib.hid hW1.symm
  clear hA hW1
  go_enter Tryz.func20, Tryz.ntmps20
  go_upto_region 1 with fail
  rw [HW1.out]
  go_wp2_with fail
  refine (HC.out _ HA.out.bel).mono ?_
  rintro e w2 ⟨rfl, hb2⟩
  have hA2 := HA.out.step hb2
  clear k0 k1 k2 k3 k4
  obtain ⟨⟨k0, k1⟩, k2, k3, k4⟩ := hA2.cs
  have HA2 := Lib.hid hA2
  clear hb2 hA2
  go_wp2_with fail
  refine (HXC.out _).mono ?_
  rintro e w3 ⟨rfl, hb3⟩
  have hA3 := HA2.out.step hb3
  obtain ⟨⟨⟨z0, z1, z2, z3⟩, ⟨z4, z5, z6, z7⟩⟩, ⟨⟨f0, f1, f2, f3⟩, ⟨f4, f5, f6, f7⟩⟩⟩ := ent_zero hA3.z
  have hX := hA3.fin (.int .u8 0) (.string ⟨#[]⟩) (.int .u64 0) (.int .u32 0) (.string ⟨#[]⟩) (.string ⟨#[]⟩) (.slice none 0 0) (.slice none 0 0)
  unfold set8 at hX
  have HX := Lib.hid hX
  clear hb3 hA3 hX k0 k1 k2 k3 k4
  go_wp2_with fail
  exact bodyPost_ret (results_row_tmp rfl _ _ (w.heap.size + 1 + 1) 57 _ (0, 0) _ rfl HX.out.1 Tryz.underlying57 rfl (by kernel_rfl)) rfl (zEC_said rfl HX.out.2)

set_option maxHeartbeats 8000000 in
theorem prep_ok (x : WorkC) (f : Nat) (g h : ByteArray) (w : World) (hx : ShowsW w x) (hf : FewS x.cs) (hv : wB x.ps x.rs = true) (hm : mayX g h) (hfl : f < 4294967296) (hg : g.size ≤ 140737488351232) (hh : h.size ≤ 140737488351232) :
    Calls Tryz.prog 20 #[workVal x, .agg #[.int .u32 f, .string g, .string h]] w (EntSaid (prepE f g h x.ps x.rs) 0 w) := by
  have HC := Lib.hid (fun w' (hb : Below w.heap.size w w') => wcheck_any x w' (hx.kept hb (Nat.le_refl _)) hf.few)
  have HXC := Lib.hid (fun w' => x_check_ok f g h w' hm)
  rw [errW_ok hv] at HC
  have hl := (wB_iff.1 hv).1
  have hl2 := (wB_iff.1 hv).2.1
  have hlc : x.cs.length ≤ 100 := by unfold WorkC.ps at hl; rwa [esOf_len] at hl
  have HCO := Lib.hid (fun w' (hb : AtX w (.slice x.A1 x.cs.length x.c1) (.slice x.A2 x.rs.length x.c2) f g h w') => copied_any x w' (hx.kept hb.bel (Nat.le_refl _)) (by omega) (by omega) hf)
  unfold CopWSaid at HCO
  have HPR := Lib.hid (fun F1 f1 gs F2 f2 hs w' => prep2_any f g h F1 f1 gs F2 f2 hs w')
  have HRF := Lib.hid hx.takes.refs
  have HFE := Lib.hid (fewS_iff.1 hf)
  have HFL := Lib.hid (And.intro hfl (And.intro hg hh))
  have HFE2 := HFE
  clear hx hf hv hm HFE hfl hg hh
  obtain ⟨A1, c1, cs, A2, c2, rs⟩ := x
  unfold workVal at *
  unfold WorkC.ps at *
  simp only [] at HC HCO hlc hl hl2 HRF HFE2 ⊢
  have hA := AtX.new w (.slice A1 cs.length c1) (.slice A2 rs.length c2) f g h
  obtain ⟨W1, hW1⟩ : ∃ W1, W1 = ((w.alloc (Obj.cells #[.slice A1 cs.length c1, .slice A2 rs.length c2] 25)).alloc (Obj.cells #[.int .u32 f, .string g, .string h] 55)).alloc zEnt := ⟨_, rfl⟩
  rw [← hW1] at hA
  obtain ⟨⟨k0, k1⟩, k2, k3, k4⟩ := hA.cs
  have HA := Lib.hid hA
  have HW1 := Lib.hid hW1.symm
  clear hA hW1
  go_enter Tryz.func20, Tryz.ntmps20
  go_upto_region 1 with fail
  rw [HW1.out]
  go_wp2_with fail
  refine (HC.out _ HA.out.bel).mono ?_
  rintro e w2 ⟨rfl, hb2⟩
  have hA2 := HA.out.step hb2
  clear k0 k1 k2 k3 k4
  obtain ⟨⟨k0, k1⟩, k2, k3, k4⟩ := hA2.cs
  have HA2 := Lib.hid hA2
  clear hb2 hA2
  go_wp2_with fail
  refine (HXC.out _).mono ?_
  rintro e w3 ⟨rfl, hb3⟩
  have hA3 := HA2.out.step hb3
  have hA0 := hA3.drw
  have HLN := Lib.hid (And.intro hl hl2)
  clear k0 k1 k2 k3 k4 hb3 hA3 hl hl2 hlc
  go_upto_region 7 with fail
  go_region_held3 (fun w' => (w'.cell? ⟨w.heap.size, 0, none⟩ = some (.slice A1 cs.length c1) ∧ w'.cell? ⟨w.heap.size, 1, none⟩ = some (.slice A2 rs.length c2)) ∧ w'.cell? ⟨w.heap.size + 1, 0, none⟩ = some (.int .u32 f) ∧ w'.cell? ⟨w.heap.size + 1, 1, none⟩ = some (.string g) ∧ w'.cell? ⟨w.heap.size + 1, 2, none⟩ = some (.string h)) (first | with_reducible exact hS9 | with_reducible exact hA9.cs | with_reducible exact hA8.cs | with_reducible exact hA0.cs)
    (first
      | (go_at_call 47
         refine (HCO.out _ hA0).mono ?_
         rintro e8 w8 ⟨⟨F1, f1, gs, F2, f2, hs⟩, rfl, hp8, hr8, ho8, hb8⟩
         simp only [] at hr8
         subst hr8
         have HP8 := Lib.hid hp8
         have HO8 := Lib.hid ho8
         clear hp8 ho8
         have hA8 := hA0.step hb8)
      | (go_at_call 44
         with_reducible refine (HPR.out _ _ _ _ _ _ _).mono ?_
         rintro e9 w9 ⟨rfl, hb9⟩
         have hA9 := hA8.step hb9
         obtain ⟨⟨⟨z0, z1, z2, z3⟩, ⟨z4, z5, z6, z7⟩⟩, ⟨⟨q0, q1, q2, q3⟩, ⟨q4, q5, q6, q7⟩⟩⟩ := ent_zero hA9.z
         have hS9 := hA9.cs8 (.int .u8 4) (.string ⟨#[]⟩) (.int .u64 0) (.int .u32 f) (.string g) (.string h) (.slice F1 gs.length f1) (.slice F2 hs.length f2)
         unfold set8 at hS9))
  all_goals
    have hl8 : gs.length ≤ 100 := by have := congrArg List.length HP8.out; have h2 := HLN.out.1; simp only [esOf_len] at this h2; omega
    have hX := hA9.fin (.int .u8 4) (.string ⟨#[]⟩) (.int .u64 0) (.int .u32 f) (.string g) (.string h) (.slice F1 gs.length f1) (.slice F2 hs.length f2)
    have hz0 : w.heap.size + 1 + 1 < w3.drew.heap.size := (Array.getElem?_eq_some_iff.1 hA0.z).1
    have hO9 := HO8.out.step hb9
    have hO : OwnW (set8 w9 (w.heap.size + 1 + 1) (.int .u8 4) (.string ⟨#[]⟩) (.int .u64 0) (.int .u32 f) (.string g) (.string h) (.slice F1 gs.length f1) (.slice F2 hs.length f2)) w3.drew.heap.size ⟨F1, f1, gs, F2, f2, hs⟩ :=
      hO9.keep (by rw [set8_eq]; exact (setN_below (B := 0) (Nat.zero_le _) _ 0 w9 w9 (Below.refl 0 w9)).size) (fun k hk _ => by rw [set8_eq]; exact setN_other (by omega) _ 0 _)
    have hsh := (hO.shows (by show gs.length ≤ _; omega) HRF.out (by show hs.length ≤ _; have := HLN.out.2; omega)).sub (low_out _ _)
    have hfew : FewS gs := by rw [fewS_iff]; have : esOf gs = esOf cs := HP8.out; rw [this]; exact HFE2.out
    unfold set8 at hX hsh
    have HX := Lib.hid (And.intro hX (And.intro hsh (And.intro hfew HP8.out)))
    clear hX hO hO9 hsh hfew hz0 hl8 hA9 hb9 hA8 hb8 hS9 hA0
    go_wp2_with fail
    exact bodyPost_ret (results_row_tmp rfl _ _ (w.heap.size + 1 + 1) 57 _ (0, 0) _ rfl HX.out.1.1 Tryz.underlying57 rfl (by kernel_rfl)) rfl
      ⟨⟨4, ⟨#[]⟩, 0, f, g, h, F1, f1, gs, F2, f2, hs⟩, rfl, by unfold EntC.e prepE; have : esOf gs = esOf cs := HX.out.2.2.2; simp only [this], ⟨(show (4 : Nat) < 256 by decide), (show (0 : Nat) ≤ _ by decide), (show (0 : Nat) < _ by decide), HFL.out.1, HFL.out.2.1, HFL.out.2.2, HX.out.2.1.puts, HX.out.2.1.takes⟩, HX.out.2.2.1, HX.out.1.2⟩

theorem prep_any (x : WorkC) (f : Nat) (g h : ByteArray) (w : World) (hx : ShowsW w x) (hf : FewS x.cs) (hfl : f < 4294967296) (hg : g.size ≤ 140737488351232) (hh : h.size ≤ 140737488351232) :
    Calls Tryz.prog 20 #[workVal x, .agg #[.int .u32 f, .string g, .string h]] w (EntSaid (prepdE x.ps x.rs f g h) (errP2 x.ps x.rs g h) w) := by
  cases hv : wB x.ps x.rs with
  | false =>
    have e : errP2 x.ps x.rs g h = 130 := by unfold errP2; rw [if_pos hv]
    have e2 : prepdE x.ps x.rs f g h = zE := by unfold prepdE; rw [e]; rfl
    rw [e2, e]
    exact prep_bad x f g h w hx hf hv
  | true =>
    by_cases hm : mayX g h
    · have e : errP2 x.ps x.rs g h = 0 := by unfold errP2; rw [if_neg (by rw [hv]; decide), if_neg (fun h => h hm)]
      have e2 : prepdE x.ps x.rs f g h = prepE f g h x.ps x.rs := by unfold prepdE; rw [e]; rfl
      rw [e2, e]
      exact prep_ok x f g h w hx hf hv hm hfl hg hh
    · have e : errP2 x.ps x.rs g h = 40 := by unfold errP2; rw [if_neg (by rw [hv]; decide), if_pos hm]
      have e2 : prepdE x.ps x.rs f g h = zE := by unfold prepdE; rw [e]; rfl
      rw [e2, e]
      exact prep_x x f g h w hx hf hv hm hg hh

end Go.Proofs.YtpmafabphlejeaaGreat

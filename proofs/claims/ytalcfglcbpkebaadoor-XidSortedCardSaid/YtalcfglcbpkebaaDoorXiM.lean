/-
  The contract of Parse of xid.
  Conditions: at most 2^47 bytes.
-/
import Derived.Test.YtalcfglcbpkebaaDoorXiL
namespace Go.Proofs.YtalcfglcbpkebaaDoor
open Go.RowKit
set_option linter.unusedVariables false
set_option linter.unusedSimpArgs false

theorem results_cellt {P : Program} {fn : Func} {p u : Tmp} {ty : TypeId} (h : fn.results = #[.cell p ty, .tmp u]) (tmps : Array Value) (w : World) (g : Nat) (t : TypeId) (cs : Array Value) (fr : Nat × Nat) (d : TypeDesc)
    (hp : tmps.getD p undef = .pointer (some ⟨g, 0, none⟩)) (hg : w.heap[g]? = some (.cells cs t fr))
    (hu : P.underlying ty = some d) (hd : (match d with | .struct _ | .array _ _ => true | _ => false) = true) (hi : (P.info? ty).map (·.size) = some cs.size) :
    (results fn tmps).run P w = .ok (.tuple #[.agg cs, tmps.getD u undef]) w := by
  have hp' : tmps[p]?.getD undef = .pointer (some ⟨g, 0, none⟩) := by simpa using hp
  simp [results, h, hp', asAddr, run_loadVar_row w g t ty cs fr d hg hu hd hi]

/-- Parse, of what parsed told. -/
theorem parse_of (s : ByteArray) (w : World) (f : Nat) (g h : ByteArray) (ans : Int) (hc : ∀ w, Calls Tryd.prog 47 #[.string s] w fun e w' => e = .returned (xidV f g h) ∧ Below w.heap.size w w')
    (ha : (f = 0 ∧ g = ⟨#[]⟩ ∧ h = ⟨#[]⟩ ∧ ans = 5) ∨ (¬ (f = 0 ∧ g = ⟨#[]⟩ ∧ h = ⟨#[]⟩) ∧ ans = 0)) :
    Calls Tryd.prog 23 #[.string s] w fun e w' => e = .returned (.tuple #[xidV f g h, .int .i64 ans]) ∧ Below w.heap.size w w' := by
  unfold xidV at *
  have HC := Lib.hid hc
  clear hc
  rcases ha with ⟨rfl, rfl, rfl, rfl⟩ | ⟨hne, rfl⟩
  · go_enter Tryd.func23, Tryd.ntmps23
    go_wp2_with fail
    refine (HC.out _).mono ?_
    rintro e w1 ⟨rfl, hb1⟩
    have hX1 : Boxed w1 w.heap.size 0 ⟨#[]⟩ ⟨#[]⟩ := (Boxed.new w).below hb1 (by simp)
    have hw1 : Below w.heap.size w w1 := (below_box w _).trans (hb1.mono (by simp))
    have x0 := hX1.c0
    have x1 := hX1.c1
    have x2 := hX1.c2
    have f0 := hX1.froz 0
    have f1 := hX1.froz 1
    have f2 := hX1.froz 2
    have hlt := hX1.lt
    have r5 := heap_setCell_same w1 w.heap.size 0 _ 24 (.int .u32 (0 : Nat)) hX1
    have r6 := heap_setCell_same _ w.heap.size 1 _ 24 (.string ⟨#[]⟩) r5
    have r7 := heap_setCell_same _ w.heap.size 2 _ 24 (.string ⟨#[]⟩) r6
    have HR := Lib.hid r7
    clear r5 r6 r7 hX1 hb1
    go_wp2_with fail
    (try simp only [Exit.inBlock, Exit.then])
    exact bodyPost_ret (results_cellt rfl _ _ w.heap.size 24 _ (0, 0) _ rfl ((Below.heap_alloc _ _ _ (by simpa using hlt)).trans HR.out) Tryd.underlying24 rfl (by kernel_rfl)) rfl ⟨rfl, (below_set (below_set (below_set hw1 (Nat.le_refl _) _) (Nat.le_refl _) _) (Nat.le_refl _) _).alloc (by simp; omega) _⟩
  · by_cases c1 : f = 0
    · subst c1
      by_cases c2 : g = ⟨#[]⟩
      · subst c2
        have c3 : ¬ h = ⟨#[]⟩ := fun e => hne ⟨rfl, rfl, e⟩
        have t3 := toList_ne c3
        have t3' : (h.toList == []) = false := by simpa using t3
        clear c3 hne
        go_enter Tryd.func23, Tryd.ntmps23
        go_wp2_with fail
        refine (HC.out _).mono ?_
        rintro e w1 ⟨rfl, hb1⟩
        have hX1 : Boxed w1 w.heap.size 0 ⟨#[]⟩ ⟨#[]⟩ := (Boxed.new w).below hb1 (by simp)
        have hw1 : Below w.heap.size w w1 := (below_box w _).trans (hb1.mono (by simp))
        have x0 := hX1.c0
        have x1 := hX1.c1
        have x2 := hX1.c2
        have f0 := hX1.froz 0
        have f1 := hX1.froz 1
        have f2 := hX1.froz 2
        have hlt := hX1.lt
        have r5 := heap_setCell_same w1 w.heap.size 0 _ 24 (.int .u32 (0 : Nat)) hX1
        have r6 := heap_setCell_same _ w.heap.size 1 _ 24 (.string ⟨#[]⟩) r5
        have r7 := heap_setCell_same _ w.heap.size 2 _ 24 (.string h) r6
        have HR := Lib.hid r7
        clear r5 r6 r7 hX1 hb1
        go_wp2_with fail
        (try simp only [Exit.inBlock, Exit.then])
        exact bodyPost_ret (results_cellt rfl _ _ w.heap.size 24 _ (0, 0) _ rfl ((Below.heap_alloc _ _ _ (by simpa using hlt)).trans HR.out) Tryd.underlying24 rfl (by kernel_rfl)) rfl ⟨rfl, (below_set (below_set (below_set hw1 (Nat.le_refl _) _) (Nat.le_refl _) _) (Nat.le_refl _) _).alloc (by simp; omega) _⟩
      · have t2 := toList_ne c2
        have t2' : (g.toList == []) = false := by simpa using t2
        have t2b : g.toList.isEmpty = false := by simpa using t2
        have t2c : ¬ g.toList = [] := by simpa using t2
        clear c2 hne
        go_enter Tryd.func23, Tryd.ntmps23
        go_wp2_with fail
        refine (HC.out _).mono ?_
        rintro e w1 ⟨rfl, hb1⟩
        have hX1 : Boxed w1 w.heap.size 0 ⟨#[]⟩ ⟨#[]⟩ := (Boxed.new w).below hb1 (by simp)
        have hw1 : Below w.heap.size w w1 := (below_box w _).trans (hb1.mono (by simp))
        have x0 := hX1.c0
        have x1 := hX1.c1
        have x2 := hX1.c2
        have f0 := hX1.froz 0
        have f1 := hX1.froz 1
        have f2 := hX1.froz 2
        have hlt := hX1.lt
        have r5 := heap_setCell_same w1 w.heap.size 0 _ 24 (.int .u32 (0 : Nat)) hX1
        have r6 := heap_setCell_same _ w.heap.size 1 _ 24 (.string g) r5
        have r7 := heap_setCell_same _ w.heap.size 2 _ 24 (.string h) r6
        have HR := Lib.hid r7
        clear r5 r6 r7 hX1 hb1
        go_wp2_with fail
        (try simp only [Exit.inBlock, Exit.then])
        exact bodyPost_ret (results_cellt rfl _ _ w.heap.size 24 _ (0, 0) _ rfl ((Below.heap_alloc _ _ _ (by simpa using hlt)).trans HR.out) Tryd.underlying24 rfl (by kernel_rfl)) rfl ⟨rfl, (below_set (below_set (below_set hw1 (Nat.le_refl _) _) (Nat.le_refl _) _) (Nat.le_refl _) _).alloc (by simp; omega) _⟩
    · have t1 : ((f : Int) == 0) = false := by simp; omega
      have t1' : ¬ (f : Int) = 0 := by omega
      clear c1 hne
      go_enter Tryd.func23, Tryd.ntmps23
      go_wp2_with fail
      refine (HC.out _).mono ?_
      rintro e w1 ⟨rfl, hb1⟩
      have hX1 : Boxed w1 w.heap.size 0 ⟨#[]⟩ ⟨#[]⟩ := (Boxed.new w).below hb1 (by simp)
      have hw1 : Below w.heap.size w w1 := (below_box w _).trans (hb1.mono (by simp))
      have x0 := hX1.c0
      have x1 := hX1.c1
      have x2 := hX1.c2
      have f0 := hX1.froz 0
      have f1 := hX1.froz 1
      have f2 := hX1.froz 2
      have hlt := hX1.lt
      have r5 := heap_setCell_same w1 w.heap.size 0 _ 24 (.int .u32 (f : Nat)) hX1
      have r6 := heap_setCell_same _ w.heap.size 1 _ 24 (.string g) r5
      have r7 := heap_setCell_same _ w.heap.size 2 _ 24 (.string h) r6
      have HR := Lib.hid r7
      clear r5 r6 r7 hX1 hb1
      go_wp2_with fail
      (try simp only [Exit.inBlock, Exit.then])
      exact bodyPost_ret (results_cellt rfl _ _ w.heap.size 24 _ (0, 0) _ rfl ((Below.heap_alloc _ _ _ (by simpa using hlt)).trans HR.out) Tryd.underlying24 rfl (by kernel_rfl)) rfl ⟨rfl, (below_set (below_set (below_set hw1 (Nat.le_refl _) _) (Nat.le_refl _) _) (Nat.le_refl _) _).alloc (by simp; omega) _⟩

/-- The text of a name that may be, read: the name; else the zero name and ErrForm. -/
theorem parse_any (s : ByteArray) (w : World) (hs : s.size ≤ 140737488351232) :
    Calls Tryd.prog 23 #[.string s] w fun e w' => e = .returned (.tuple #[xidV (parsedD (sb s)).1 (str8 (parsedD (sb s)).2.1) (str8 (parsedD (sb s)).2.2), .int .i64 (if parsedD (sb s) = (0, [], []) then 5 else 0)]) ∧ Below w.heap.size w w' := by
  refine parse_of s w _ _ _ _ (fun w => parsed_any s w hs) ?_
  by_cases h : parsedD (sb s) = (0, [], [])
  · rw [if_pos h, h]
    exact .inl ⟨rfl, rfl, rfl, rfl⟩
  · rw [if_neg h]
    refine .inr ⟨fun ⟨h1, h2, h3⟩ => h ?_, rfl⟩
    have e2 : (parsedD (sb s)).2.1 = [] := by rw [← sb_str8 (parsedD (sb s)).2.1, h2]; rfl
    have e3 : (parsedD (sb s)).2.2 = [] := by rw [← sb_str8 (parsedD (sb s)).2.2, h3]; rfl
    exact Prod.ext h1 (Prod.ext e2 e3)

end Go.Proofs.YtalcfglcbpkebaaDoor

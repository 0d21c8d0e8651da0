/-
  slices.Insert of one number into a row that may begin anywhere in its block.
  Conditions: none but sizes.
-/
import Derived.Test.YtkcbkimconaegaaQpH
import Derived.Shelf.Spec.SlicesInsertGrow
import Derived.Deep.RegionLaw
namespace Go.Proofs.Ytkcbkimconaegaa
open Go.RowKit
set_option linter.unusedVariables false
set_option linter.unusedSimpArgs false
set_option maxRecDepth 100000

theorem sub_wrap {n i z : Nat} (ez : z = n - i) (hi : i ≤ n) (h : n ≤ 1000000) : IntKind.i64.wrap ((n : Int) - (i : Int)) = (z : Int) := by
  rw [show (n : Int) - (i : Int) = (z : Int) by omega]
  exact i64_id _ (by omega) (by omega)
theorem sizeU (w : World) : (Go.sizeOf 22).run Try.prog w = .ok 1 w := Try.sizeOf22 w
section
variable {w w1 w2 w3 w' : World} {B g off vb n n1 c i i1 z x G H : Nat} {r s : List Nat} {v9 : Value}
set_option maxHeartbeats 2000000 in
/-- At the end. -/
theorem pins_end (A : Option Addr) (hap : ∀ ty, (Builtin.append_ #[42, 42] ty #[.slice A n c, .slice (some ⟨vb, 0, none⟩) 1 1]).run Try.prog w = .ok v9 w1) (hnc : n ≤ c) (hc : c ≤ maxLen) :
    Calls Try.prog 46 #[.slice A n c, .int .i64 n, .slice (some ⟨vb, 0, none⟩) 1 1] w fun e w' => e = .returned v9 ∧ w' = w1 := by
  have h1 : (n : Int) ≤ (c : Int) := by omega
  have h63 := maxLen_int hc
  have HA := Lib.hid hap
  clear hap hnc hc
  go_enter Try.func46, Try.ntmps46
  go_wp2_with (at_builtin; refine Lib.wpList_append_run _ rfl _ _ 42 42 rfl (.slice A n c) (.slice (some ⟨vb, 0, none⟩) 1 1) rfl rfl _ _ (HA.out _) ?_)
  all_goals
    go_ret
    exact ⟨rfl, rfl⟩
set_option maxHeartbeats 2000000 in
/-- There is room. -/
theorem pins_room (hov : ∀ lb cb, (callFunc 56 #[.slice (some ⟨vb, 0, none⟩) 1 1, .slice (some ⟨g, off + i1, none⟩) lb cb]).run Try.prog w = .ok (.value (.bool false)) w)
    (hc1 : ∀ ty dc sc, (Builtin.copy_ #[42, 42] ty #[.slice (some ⟨g, off + i1, none⟩) (n1 - i1) dc, .slice (some ⟨g, off + i, none⟩) (n1 - i) sc]).run Try.prog w.drew = .ok (goInt z) w1)
    (hc2 : ∀ ty dc, (Builtin.copy_ #[42, 42] ty #[.slice (some ⟨g, off + i, none⟩) (n1 - i) dc, .slice (some ⟨vb, 0, none⟩) 1 1]).run Try.prog w1 = .ok (goInt 1) w2)
    (en : n1 = n + 1) (ei : i1 = i + 1) (hin : i < n) (hn1 : n1 ≤ c) (hnM : n1 ≤ 1000000) (hc : c ≤ maxLen) :
    Calls Try.prog 46 #[.slice (some ⟨g, off, none⟩) n c, .int .i64 i, .slice (some ⟨vb, 0, none⟩) 1 1] w fun e w' => e = .returned (.slice (some ⟨g, off, none⟩) n1 c) ∧ w' = w2 := by
  have h63 := maxLen_int hc
  obtain ⟨a1, a2⟩ := succ_wraps en hnM
  obtain ⟨a3, a4⟩ := succ_wraps ei (by omega)
  have b1 : (i : Int) ≤ (n : Int) := by omega
  have b2 : (n : Int) ≤ (c : Int) := by omega
  have b3 : (n1 : Int) ≤ (c : Int) := by omega
  have b4 : (i1 : Int) ≤ (n1 : Int) := by omega
  have b5 : (i : Int) ≤ (n1 : Int) := by omega
  have b6 : ¬ (c : Int) < (n1 : Int) := by omega
  have b7 : ¬ c = i1 := by omega
  have b8 : ¬ c = i := by omega
  have b9 : ((i : Int) == (n : Int)) = false := by rw [beq_eq_false_iff_ne]; omega
  have b10 : ¬ (i : Int) = (n : Int) := by omega
  have H1 := Lib.hid hc1
  have HZ := Lib.hid (And.intro en (And.intro ei (And.intro hin (And.intro hn1 (And.intro hnM hc)))))
  clear hc1 en ei hin hn1 hnM hc
  go_enter Try.func46, Try.ntmps46
  go_wp2_with (simp only [hov])
  go_region_law (refine step_copy_runI rfl (.tmp 73) (.tmp 76) 42 42 rfl (.slice (some ⟨g, off + i1, none⟩) (n1 - i1) (c - i1)) (.slice (some ⟨g, off + i, none⟩) (n1 - i) (c - i)) (by simp [Act.eval, Act.put]) (by simp [Act.eval, Act.put]) (v' := goInt z) (w' := w1) (H1.out _ _ _) ?_)
  go_wp2_with fail
  all_goals
    go_ret
    exact ⟨rfl, rfl⟩
theorem grow_facts {n n1 i i1 z c G : Nat} (en : n1 = n + 1) (ei : i1 = i + 1) (ez : z = n1 - i) (hin : i < n) (hnc : n ≤ c) (hn1 : c < n1) (hG : n1 ≤ G) (hnM : n1 ≤ 1000000) :
    IntKind.i64.wrap ((n : Int) + 1) = (n1 : Int) ∧ wrap64 ((n : Int) + 1) = (n1 : Int) ∧ IntKind.i64.wrap ((i : Int) + 1) = (i1 : Int) ∧ wrap64 ((i : Int) + 1) = (i1 : Int) ∧ IntKind.i64.wrap ((n1 : Int) - (i : Int)) = (z : Int) ∧
    (i : Int) ≤ (n : Int) ∧ (n : Int) ≤ (c : Int) ∧ (c : Int) < (n1 : Int) ∧ (i1 : Int) ≤ (n1 : Int) ∧ (i : Int) ≤ (n1 : Int) ∧ (n1 : Int) ≤ (G : Int) ∧ ¬ G = i1 ∧ ¬ G = i ∧ ¬ c = i ∧ (i : Int) ≤ (c : Int) ∧ ((i : Int) == (n : Int)) = false ∧ ¬ (i : Int) = (n : Int) :=
  ⟨(succ_wraps en hnM).1, (succ_wraps en hnM).2, (succ_wraps ei (by omega)).1, (succ_wraps ei (by omega)).2, sub_wrap ez (by omega) hnM, by omega, by omega, by omega, by omega, by omega, by omega, by omega, by omega, by omega, by omega, by rw [beq_eq_false_iff_ne]; omega, by omega⟩
set_option maxHeartbeats 2000000 in
/-- There is none. -/
theorem pins_grow (hap : ∀ ty, (Builtin.append_ #[42, 3] ty #[.slice (some ⟨g, off, none⟩) i c, .int .i64 z]).run Try.prog w = .ok (.slice (some ⟨H, 0, none⟩) n1 G) w1)
    (hc1 : ∀ ty dc, (Builtin.copy_ #[42, 42] ty #[.slice (some ⟨H, i, none⟩) (n1 - i) dc, .slice (some ⟨vb, 0, none⟩) 1 1]).run Try.prog w1 = .ok (goInt 1) w2)
    (hc2 : ∀ ty dc sc, (Builtin.copy_ #[42, 42] ty #[.slice (some ⟨H, i1, none⟩) (n1 - i1) dc, .slice (some ⟨g, off + i, none⟩) (n - i) sc]).run Try.prog w2.drew = .ok (goInt (n - i : Nat)) w3)
    (en : n1 = n + 1) (ei : i1 = i + 1) (ez : z = n1 - i) (hin : i < n) (hnc : n ≤ c) (hn1 : c < n1) (hG : n1 ≤ G) (hnM : n1 ≤ 1000000) (hc : c ≤ maxLen) (hGm : G ≤ maxLen) :
    Calls Try.prog 46 #[.slice (some ⟨g, off, none⟩) n c, .int .i64 i, .slice (some ⟨vb, 0, none⟩) 1 1] w fun e w' => e = .returned (.slice (some ⟨H, 0, none⟩) n1 G) ∧ w' = w3 := by
  have h63 := maxLen_int hc
  have h64 := maxLen_int hGm
  clear hc hGm
  obtain ⟨a1, a2, a3, a4, a5, b1, b2, b3, b4, b5, b6, b7, b8, b11, b12, b9, b10⟩ := grow_facts en ei ez hin hnc hn1 hG hnM
  have H0 := Lib.hid hap
  have H2 := Lib.hid hc2
  have HZ := Lib.hid (And.intro en (And.intro ei (And.intro hin (And.intro hn1 hnM))))
  clear hap hc2 en ei hin hn1 hnM hG hnc ez
  go_enter Try.func46, Try.ntmps46
  go_wp2_with (at_builtin; refine Lib.wpList_append_run _ rfl (.tmp 34) (.tmp 39) 42 3 rfl (.slice (some ⟨g, off, none⟩) i c) (.int .i64 z) (by simp [Act.eval, Act.put]) (by simp [Act.eval, Act.put]) (.slice (some ⟨H, 0, none⟩) n1 G) w1 (H0.out _) ?_)
  go_region_law (refine step_copy_runI rfl (.tmp 50) (.tmp 53) 42 42 rfl (.slice (some ⟨H, i1, none⟩) (n1 - i1) (G - i1)) (.slice (some ⟨g, off + i, none⟩) (n - i) (c - i)) (by simp [Act.eval, Act.put]) (by simp [Act.eval, Act.put]) (v' := goInt (n - i : Nat)) (w' := w3) (H2.out _ _ _) ?_)
  go_wp2_with fail
  all_goals
    go_ret
    exact ⟨rfl, rfl⟩
end

end Go.Proofs.Ytkcbkimconaegaa

/-
  The contract of the statements' head: calls whose answers the document fixes.
  Conditions: none.
-/
import Derived.Test.YtpchjgeehejkeaaSpH
import Derived.Test.YtpchjgeehejkeaaRef03D
namespace Go.Proofs.Ytpchjgeehejkeaa
open Go.RowKit
set_option linter.unusedVariables false
set_option linter.unusedSimpArgs false

/-- What changed answers, at a canonical list: the canonical list of these members. -/
theorem change_eq {mode : Nat} {a r' : List Sp} {n1 x y : Nat} {v : Value} {code : Int} {r : List Sp} (h : ChangeSaid mode a n1 x y v code r) (hc : canon a) (hxy : x ≤ y) (hr : canon r') (hm : ∀ n, memS r' n ↔ opM mode a [(x, y)] n) : code = 0 ∧ r = r' := by
  rcases h with ⟨_, _, h1, h2, h3, _⟩ | ⟨h, _⟩ | ⟨_, h, _⟩
  · exact ⟨h1, canon_unique (b := 0) h2 hr fun n => (h3 n).trans (hm n).symm⟩
  · exact absurd hc h
  · exact absurd hxy h
theorem change_bad {mode : Nat} {a : List Sp} {n1 x y : Nat} {v : Value} {code : Int} {r : List Sp} (h : ChangeSaid mode a n1 x y v code r) (hc : ¬ canon a) : code = 30 ∧ r = [] ∧ v = .slice none 0 0 := by
  rcases h with ⟨h, _⟩ | ⟨_, h1, h2, h3⟩ | ⟨h, _⟩
  · exact absurd h hc
  · exact ⟨h1, h2, h3⟩
  · exact absurd h hc
theorem memS_two (a b c d n : Nat) : memS [(a, b), (c, d)] n ↔ (a ≤ n ∧ n ≤ b) ∨ (c ≤ n ∧ n ≤ d) := by
  rw [memS_cons, memS_cons]; simp [memS_nil]
theorem memS_one (a b n : Nat) : memS [(a, b)] n ↔ a ≤ n ∧ n ≤ b := by
  rw [memS_cons]; simp [memS_nil]
theorem u32s_two {a b c d : Nat} (h1 : a < 4294967296) (h2 : b < 4294967296) (h3 : c < 4294967296) (h4 : d < 4294967296) : u32s [(a, b), (c, d)] := by
  intro s hs
  simp at hs
  rcases hs with rfl | rfl
  · exact ⟨h1, h2⟩
  · exact ⟨h3, h4⟩
theorem u32s_one {a b : Nat} (h1 : a < 4294967296) (h2 : b < 4294967296) : u32s [(a, b)] := by
  intro s hs
  simp at hs
  subst hs
  exact ⟨h1, h2⟩

set_option maxHeartbeats 1600000 in
theorem head_any (w : World) : Calls Try.prog 10 #[] w fun e w' => e = .returned (.bool true) ∧ Below w.heap.size w w' := by
  have hA := Lib.hid (fun W B (hs : ShowsG spanC W B (.slice (some ⟨B, 0, none⟩) 2 2) [(1, 2), (5, 5)]) => add_any _ 2 2 B 3 4 [(1, 2), (5, 5)] W rfl hs (u32s_two (by omega) (by omega) (by omega) (by omega)) (by omega) (by omega) (by omega))
  have hA2 := Lib.hid (fun W B (hs : ShowsG spanC W B (.slice (some ⟨B, 0, none⟩) 2 2) [(1, 2), (3, 4)]) => add_any _ 2 2 B 9 9 [(1, 2), (3, 4)] W rfl hs (u32s_two (by omega) (by omega) (by omega) (by omega)) (by omega) (by omega) (by omega))
  have hC := Lib.hid (fun A c W B (hs : ShowsG spanC W B (.slice A 1 c) [(1, 5)]) => cut_any A c 1 B 2 3 [(1, 5)] W rfl hs (u32s_one (by omega) (by omega)) (by omega) (by omega) (by omega))
  have hH := Lib.hid (fun A c W B x (hs : ShowsG spanC W B (.slice A 2 c) [(1, 1), (4, 5)]) (hx : x < 4294967296) => has_any A c 2 B x [(1, 1), (4, 5)] W rfl hs (u32s_two (by omega) (by omega) (by omega) (by omega)) (by omega) hx)
  go_enter Try.func10, Try.ntmps10
  go_wp2_with fail
  refine (hA.out _ _ (by exact ShowsG.lit (C := spanC) [(1, 2), (5, 5)] (by simp [Code.all, pairC]) (by simp [maxLen]))).mono ?_
  rintro e w1 ⟨v1, code1, r1, rfl, ho1, hb1, hs1⟩
  obtain ⟨rfl, rfl⟩ := change_eq (r' := [(1, 5)]) hs1 (by decide) (by omega) (by decide) (fun n => by rw [opM_one, memS_two, memS_one, memS_one]; omega)
  have hw1 : Below w.heap.size w w1 := ((Below.refl _ _).alloc (Nat.le_refl _) _).trans (hb1.mono (by simp))
  obtain ⟨A1, c1, rfl, hc1, hc1'⟩ := ho1.form
  obtain ⟨g1, _, hs1'⟩ := ho1.shows
  have HS1 := Lib.hid hs1'
  clear hs1 hb1 hs1'
  go_wp2_with fail
  refine (hC.out A1 c1 w1 g1 HS1.out).mono ?_
  rintro e w2 ⟨v2, code2, r2, rfl, ho2, hb2, hs2⟩
  obtain ⟨rfl, rfl⟩ := change_eq (r' := [(1, 1), (4, 5)]) hs2 (by decide) (by omega) (by decide) (fun n => by rw [opM_two, memS_two, memS_one, memS_one]; omega)
  have hw2 : Below w.heap.size w w2 := hw1.trans (hb2.mono hw1.size)
  have ho1' : OwnG spanC 37 w2 w.heap.size (.slice A1 1 c1) [(1, 5)] := (ho1.mono (by simp)).below hb2 (Nat.le_refl _)
  obtain ⟨A2, c2, rfl, hc2, hc2'⟩ := ho2.form
  clear hs2 hb2 ho1
  go_wp2_with fail
  refine (hA2.out _ _ (by exact ShowsG.lit (C := spanC) [(1, 2), (3, 4)] (by simp [Code.all, pairC]) (by simp [maxLen]))).mono ?_
  rintro e w3 ⟨v3, code3, r3, rfl, ho3, hb3, hs3⟩
  obtain ⟨rfl, rfl, rfl⟩ := change_bad hs3 (by decide)
  have hx2 := hw2.size
  have hb23 : Below w2.heap.size w2 w3 := ((Below.refl _ _).alloc (Nat.le_refl _) _).trans (hb3.mono (by simp))
  have hw3 : Below w.heap.size w w3 := hw2.trans (hb23.mono hx2)
  have ho1'' : OwnG spanC 37 w3 w.heap.size (.slice A1 1 c1) [(1, 5)] := ho1'.below hb23 (Nat.le_refl _)
  have ho2'' : OwnG spanC 37 w3 w.heap.size (.slice A2 2 c2) [(1, 1), (4, 5)] := (ho2.mono hw1.size).below hb23 (Nat.le_refl _)
  obtain ⟨g2, _, hs2'⟩ := ho2''.shows
  have HS2 := Lib.hid hs2'
  obtain ⟨b1, rfl, _, _, _, hcl1⟩ := ho1''.at_ (by omega)
  obtain ⟨b2, rfl, _, _, _, hcl2⟩ := ho2''.at_ (by omega)
  have k1 : w3.cell? ⟨b1, 0, none⟩ = some (.int .u32 1) := hcl1 0 (by simp) 0 (by decide)
  have k2 : w3.cell? ⟨b1, 1, none⟩ = some (.int .u32 5) := hcl1 0 (by simp) 1 (by decide)
  have k3 : w3.cell? ⟨b2, 2, none⟩ = some (.int .u32 4) := hcl2 1 (by simp) 0 (by decide)
  have hG := spanGuard
  have hE := fun w => run_eq_span 1 5 1 5 w
  simp at hE
  have hh1 := hH.out _ c2 w3 g2 4 HS2.out (by omega)
  have hh2 := Lib.hid (fun w' (hb' : Below w3.heap.size w3 w') => hH.out _ c2 w' g2 2 (HS2.out.below' hb' (Nat.le_refl _)) (by omega))
  rw [show (decide (canon [(1, 1), (4, 5)]) && decide (memS [(1, 1), (4, 5)] 4)) = true by decide] at hh1
  rw [show (decide (canon [(1, 1), (4, 5)]) && decide (memS [(1, 1), (4, 5)] 2)) = false by decide] at hh2
  have HH1 := Lib.hid hh1
  clear hs3 hb3 hcl1 hcl2 ho1' ho1'' ho2 ho2'' ho3 hh1 hs2'
  go_wp2_with fail
  refine HH1.out.mono ?_
  rintro e w4 ⟨rfl, hb4⟩
  go_wp2_with fail
  refine (hh2.out w4 hb4).mono ?_
  rintro e w5 ⟨rfl, hb5⟩
  go_wp2_with fail
  go_ret
  exact ⟨rfl, hw3.trans ((hb4.trans (hb5.mono hb4.size)).mono hw3.size)⟩

end Go.Proofs.Ytpchjgeehejkeaa

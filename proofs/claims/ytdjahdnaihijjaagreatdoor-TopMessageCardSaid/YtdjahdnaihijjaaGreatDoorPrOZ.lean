/-
  How an argument is opened that is properties.
  Conditions: none.
-/
import Derived.Test.YtdjahdnaihijjaaGreatDoorPrAZ
import Derived.Test.YtdjahdnaihijjaaGreatDoorValOZ
namespace Go.Proofs.YtdjahdnaihijjaaGreatDoor
open Go.ChangeShapes Go.WideShapes Go.ChangeAt Go.RowKit
open Go.ChangeMaps (open_string shut_string)
set_option linter.unusedVariables false
set_option linter.unusedSimpArgs false

section
variable {H : Type} {enc : TypeId × Value → H} {w : World} {base : Nat} {spare : Nat → Bool} {held : Bool}
set_option maxRecDepth 100000 in
/-- Properties that came in. -/
theorem open_props {r : Reach} {b0 : Nat} {v : Value} {d : DataW H} {p : List MemPlace} (hv : Value.okWide Tryz.prog w r b0 29 v) (h : DataW.Trod enc Tryz.prog w base spare held 29 v d p)
    {ts : List TypeId} {ds : List (DataW H)} (hsz : (DataW.weightsEach Tryz.prog ts ds).all (· ≤ reachBytes) = true) (j : Nat) (hj : ts[j]? = some 29) (hd : ds[j]? = some d) :
    ∃ (q : PropP) (v0 v1 v2 v3 v4 : Value), v = propV q v0 v1 v2 v3 v4 ∧ ShowsP w q v0 v1 v2 v3 v4 := by
  have hb : reachBytes = 140737488351232 := by decide
  have hw : ∀ x, x ∈ DataW.weights (H := H) Tryz.prog 29 d → x ≤ 140737488351232 := fun x hx => by
    have := List.all_eq_true.1 hsz _ (DataW.weights_mem_each hj hd x hx)
    rw [← hb]
    simpa using this
  obtain ⟨fuel, hf⟩ := h
  obtain ⟨cs0, rfl, _⟩ := okWide_struct Tryz.underlying29 hv
  obtain ⟨xs, n, hfn, hdx, hl, hlen, hfld⟩ := DataW.trod_struct Tryz.underlying29 hf
  have hC : Tryz.prog.cellsOf 29 = 9 := by kernel_rfl
  have k27 : Tryz.prog.cellsOf 27 = 5 := by kernel_rfl
  have k4 : Tryz.prog.cellsOf 4 = 1 := by kernel_rfl
  have k9 : Tryz.prog.cellsOf 9 = 1 := by kernel_rfl
  rw [hC] at hl
  have hl9 : cs0.toList.length = 9 := hl
  obtain ⟨cs, rfl⟩ : ∃ cs : List Value, cs0 = cs.toArray := ⟨cs0.toList, by simp⟩
  have hl9 : cs.length = 9 := by simpa using hl9
  obtain ⟨c0, c1, c2, c3, c4, c5, c6, c7, c8, rfl⟩ : ∃ c0 c1 c2 c3 c4 c5 c6 c7 c8, cs = [c0, c1, c2, c3, c4, c5, c6, c7, c8] := by
    match cs, hl9 with
    | [a, b, c, d, e, f, g, h, i], _ => exact ⟨a, b, c, d, e, f, g, h, i, rfl⟩
  obtain ⟨y0, y1, y2, y3, y4, rfl⟩ : ∃ y0 y1 y2 y3 y4, xs = [y0, y1, y2, y3, y4] := by
    match xs, hlen with
    | [a, b, c, d, e], _ => exact ⟨a, b, c, d, e, rfl⟩
  have h0 : DataW.trod enc Tryz.prog w base spare held n 9 (([c0, c1, c2, c3, c4, c5, c6, c7, c8].drop 0).take (Tryz.prog.cellsOf 9)) = some y0 := hfld 0 _ rfl
  have h1 : DataW.trod enc Tryz.prog w base spare held n 4 (([c0, c1, c2, c3, c4, c5, c6, c7, c8].drop 1).take (Tryz.prog.cellsOf 4)) = some y1 := hfld 1 _ rfl
  have h2 : DataW.trod enc Tryz.prog w base spare held n 4 (([c0, c1, c2, c3, c4, c5, c6, c7, c8].drop 2).take (Tryz.prog.cellsOf 4)) = some y2 := hfld 2 _ rfl
  have h3 : DataW.trod enc Tryz.prog w base spare held n 9 (([c0, c1, c2, c3, c4, c5, c6, c7, c8].drop 3).take (Tryz.prog.cellsOf 9)) = some y3 := hfld 3 _ rfl
  have h4 : DataW.trod enc Tryz.prog w base spare held n 27 (([c0, c1, c2, c3, c4, c5, c6, c7, c8].drop 4).take (Tryz.prog.cellsOf 27)) = some y4 := hfld 4 _ rfl
  simp only [k27, k4, k9, List.drop_zero, List.drop_succ_cons, List.take_succ_cons, List.take_zero] at h0 h1 h2 h3 h4
  obtain ⟨a, e0, ha, _⟩ := DataW.trod_string Tryz.underlying9 h0
  obtain ⟨b, e1, _⟩ := DataW.trod_bool Tryz.underlying4 h1
  obtain ⟨c, e2, _⟩ := DataW.trod_bool Tryz.underlying4 h2
  obtain ⟨s, e3, hs, _⟩ := DataW.trod_string Tryz.underlying9 h3
  simp at e0 e1 e2 e3
  subst e0 e1 e2 e3
  rw [(Prod.mk.inj hdx).1] at hw
  simp only [List.map_cons, List.map_nil] at hw
  have hw2 : ∀ y, (y ∈ DataW.weights (H := H) Tryz.prog 9 y0.1 ∨ y ∈ DataW.weights (H := H) Tryz.prog 9 y3.1 ∨ y ∈ DataW.weights (H := H) Tryz.prog 27 y4.1) → y ≤ 140737488351232 := fun y hy => hw y (by
    simp only [DataW.weights, Tryz.underlying29, DataW.weightsEach, List.map_cons, List.map_nil, List.mem_append]
    rcases hy with h | h | h
    · exact .inl h
    · exact .inr (.inr (.inr (.inl h)))
    · exact .inr (.inr (.inr (.inr (.inl h)))))
  obtain ⟨t, ht⟩ := open_val n _ _ h4 (fun y hy => hw2 y (.inr (.inr hy)))
  have hz0 : a.size ≤ 140737488351232 := by
    refine hw2 a.size (.inl ?_)
    rw [ha]
    simp [DataW.weights]
  have hz3 : s.size ≤ 140737488351232 := by
    refine hw2 s.size (.inr (.inl ?_))
    rw [hs]
    simp [DataW.weights]
  exact ⟨⟨a, b, c, s, t⟩, c4, c5, c6, c7, c8, rfl, hz0, hz3, ht⟩
end

end Go.Proofs.YtdjahdnaihijjaaGreatDoor

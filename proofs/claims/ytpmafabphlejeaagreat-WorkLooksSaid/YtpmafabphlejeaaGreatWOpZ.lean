/-
  How arguments are opened that are works, puts, names of messages.
  Conditions: none.
-/
import Derived.Test.YtpmafabphlejeaaGreatEnOpZ
import Derived.Test.YtpmafabphlejeaaGreatWkPZ
namespace Go.Proofs.YtpmafabphlejeaaGreat
open Go.ChangeShapes Go.WideShapes Go.ChangeAt Go.RowKit
set_option linter.unusedVariables false
set_option linter.unusedSimpArgs false

section
variable {H : Type} {enc : TypeId × Value → H} {w : World} {base : Nat} {spare : Nat → Bool} {held : Bool}
set_option maxRecDepth 100000 in
theorem open_work {r : Reach} {b0 : Nat} {v : Value} {d : DataW H} {p : List MemPlace} (hv : Value.okWide Tryz.prog w r b0 25 v) (h : DataW.Trod enc Tryz.prog w base spare held 25 v d p)
    {ts : List TypeId} {ds : List (DataW H)} (hsz : (DataW.weightsEach Tryz.prog ts ds).all (· ≤ reachBytes) = true) (j : Nat) (hj : ts[j]? = some 25) (hd : ds[j]? = some d) :
    ∃ x : WorkC, v = workVal x ∧ ShowsW w x := by
  have hb : reachBytes = 140737488351232 := by decide
  have hw : ∀ x, x ∈ DataW.weights (H := H) Tryz.prog 25 d → x ≤ 140737488351232 := fun x hx => by
    have := List.all_eq_true.1 hsz _ (DataW.weights_mem_each hj hd x hx)
    rw [← hb]
    simpa using this
  obtain ⟨fuel, hf⟩ := h
  obtain ⟨cs0, rfl, _⟩ := okWide_struct Tryz.underlying25 hv
  obtain ⟨xs, n, hfn, hdx, hl, hlen, hfld⟩ := DataW.trod_struct Tryz.underlying25 hf
  have hC : Tryz.prog.cellsOf 25 = 2 := by kernel_rfl
  have kP : Tryz.prog.cellsOf 22 = 1 := by kernel_rfl
  have kR : Tryz.prog.cellsOf 23 = 1 := by kernel_rfl
  rw [hC] at hl
  have hl9 : cs0.toList.length = 2 := hl
  obtain ⟨cs, rfl⟩ : ∃ cs : List Value, cs0 = cs.toArray := ⟨cs0.toList, by simp⟩
  have hl9 : cs.length = 2 := by simpa using hl9
  obtain ⟨c0, c1, rfl⟩ : ∃ c0 c1, cs = [c0, c1] := by
    match cs, hl9 with
    | [a, b], _ => exact ⟨a, b, rfl⟩
  obtain ⟨y0, y1, rfl⟩ : ∃ y0 y1, xs = [y0, y1] := by
    match xs, hlen with
    | [a, b], _ => exact ⟨a, b, rfl⟩
  have h4 : DataW.trod enc Tryz.prog w base spare held n 22 (([c0, c1].drop 0).take (Tryz.prog.cellsOf 22)) = some y0 := hfld 0 _ rfl
  have h5 : DataW.trod enc Tryz.prog w base spare held n 23 (([c0, c1].drop 1).take (Tryz.prog.cellsOf 23)) = some y1 := hfld 1 _ rfl
  simp only [kP, kR, List.drop_zero, List.drop_succ_cons, List.take_succ_cons, List.take_zero] at h4 h5
  rw [(Prod.mk.inj hdx).1] at hw
  simp only [List.map_cons, List.map_nil] at hw
  have hw2 : ∀ y, (y ∈ DataW.weights (H := H) Tryz.prog 22 y0.1 ∨ y ∈ DataW.weights (H := H) Tryz.prog 23 y1.1) → y ≤ 140737488351232 := fun y hy => hw y (by
    simp only [DataW.weights, Tryz.underlying25, DataW.weightsEach, List.map_cons, List.map_nil, List.mem_append]
    rcases hy with h | h
    · exact .inl h
    · exact .inr (.inl h))
  obtain ⟨A1, q1, l1, hc6, hP⟩ := open_puts h4 (fun y hy => hw2 y (.inl hy))
  obtain ⟨A2, q2, l2, hc7, hR⟩ := open_refs h5 (fun y hy => hw2 y (.inr hy))
  simp only [List.cons.injEq, and_true] at hc6 hc7
  subst hc6 hc7
  exact ⟨⟨A1, q1, l1, A2, q2, l2⟩, rfl, hP, hR⟩
set_option maxRecDepth 100000 in
theorem open_put1 {r : Reach} {b0 : Nat} {v : Value} {d : DataW H} {p : List MemPlace} (hv : Value.okWide Tryz.prog w r b0 35 v) (h : DataW.Trod enc Tryz.prog w base spare held 35 v d p)
    {ts : List TypeId} {ds : List (DataW H)} (hsz : (DataW.weightsEach Tryz.prog ts ds).all (· ≤ reachBytes) = true) (j : Nat) (hj : ts[j]? = some 35) (hd : ds[j]? = some d) :
    ∃ c : PutC, v = putV c ∧ PutAt w c := by
  have hb : reachBytes = 140737488351232 := by decide
  have hw : ∀ x, x ∈ DataW.weights (H := H) Tryz.prog 35 d → x ≤ 140737488351232 := fun x hx => by
    have := List.all_eq_true.1 hsz _ (DataW.weights_mem_each hj hd x hx)
    rw [← hb]
    simpa using this
  obtain ⟨fuel, hf⟩ := h
  obtain ⟨cs0, rfl, _⟩ := okWide_struct Tryz.underlying35 hv
  obtain ⟨c, hc, he⟩ := open_putc hf hw
  refine ⟨c, ?_, hc⟩
  obtain ⟨cs, rfl⟩ : ∃ cs : List Value, cs0 = cs.toArray := ⟨cs0.toList, by simp⟩
  have he2 : cs = putC.enc c := by simpa [Value.cells] using he
  rw [he2]
  rfl
set_option maxRecDepth 100000 in
theorem open_ref1 {r : Reach} {b0 : Nat} {v : Value} {d : DataW H} {p : List MemPlace} (hv : Value.okWide Tryz.prog w r b0 37 v) (h : DataW.Trod enc Tryz.prog w base spare held 37 v d p)
    {ts : List TypeId} {ds : List (DataW H)} (hsz : (DataW.weightsEach Tryz.prog ts ds).all (· ≤ reachBytes) = true) (j : Nat) (hj : ts[j]? = some 37) (hd : ds[j]? = some d) :
    ∃ c : RefE, v = refV c ∧ RefAt c := by
  have hb : reachBytes = 140737488351232 := by decide
  have hw : ∀ x, x ∈ DataW.weights (H := H) Tryz.prog 37 d → x ≤ 140737488351232 := fun x hx => by
    have := List.all_eq_true.1 hsz _ (DataW.weights_mem_each hj hd x hx)
    rw [← hb]
    simpa using this
  obtain ⟨fuel, hf⟩ := h
  obtain ⟨cs0, rfl, _⟩ := okWide_struct Tryz.underlying37 hv
  obtain ⟨c, hc, he⟩ := open_refc hf hw
  refine ⟨c, ?_, hc⟩
  obtain ⟨cs, rfl⟩ : ∃ cs : List Value, cs0 = cs.toArray := ⟨cs0.toList, by simp⟩
  have he2 : cs = refC.enc c := by simpa [Value.cells] using he
  rw [he2]
  rfl
end

end Go.Proofs.YtpmafabphlejeaaGreat

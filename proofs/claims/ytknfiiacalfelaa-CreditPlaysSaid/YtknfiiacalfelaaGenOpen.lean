/-
  How arguments are opened that are slices of pairs of unsigned numbers (structs of two such fields).
  Conditions: none.
-/
import Derived.Test.YtknfiiacalfelaaGen
import Derived.Test.YtknfiiacalfelaaRowkit
namespace Go.Proofs.Ytknfiiacalfelaa
open Go.ChangeShapes Go.WideShapes Go.ChangeAt Go.RowKit
set_option linter.unusedVariables false
set_option linter.unusedSimpArgs false

section
variable {H : Type} {enc : TypeId × Value → H} {P : Program} {w : World} {base : Nat} {spare : Nat → Bool} {held : Bool}
theorem open_pairs {t e : TypeId} {k : IntKind} {fs : Array Field} (ht : P.underlying t = some (.slice e)) (he : P.underlying e = some (.struct fs)) (hone : Deep.oneCellFields P fs = true) (hC : P.cellsOf e = fs.size) (h2 : fs.size = 2)
    (hf : ∀ (i : Nat) (f : Field), fs[i]? = some f → P.underlying f.type = some (.int k)) (hk : ∀ z : Int, (Lit.int k z).wf = true → 0 ≤ z) {r : Reach} {b0 : Nat} {v : Value} {d : DataW H} {p : List MemPlace}
    (hv : Value.okWide P w r b0 t v) (h : DataW.Trod enc P w base spare held t v d p) {ts : List TypeId} {ds : List (DataW H)} (hsz : (DataW.weightsEach P ts ds).all (· ≤ reachBytes) = true) (j : Nat) (hj : ts[j]? = some t) (hd : ds[j]? = some d) :
    ∃ (A : Option Addr) (c d0 : Nat) (l : List (Nat × Nat)), v = .slice A l.length c ∧ ShowsG (pairC k) w d0 (.slice A l.length c) l ∧ l.length * P.bytesOf e ≤ 140737488351232 ∧
      ∀ s ∈ l, (Lit.int k s.1).wf = true ∧ (Lit.int k s.2).wf = true := by
  obtain ⟨A, n, c, d0, F, rfl, hs, hl, hel⟩ := open_structs ht he hone hC (by omega) hv h hsz j hj hd
  have each : ∀ i, ∃ y : Nat × Nat, i < n → F i 0 = .int k y.1 ∧ F i 1 = .int k y.2 ∧ (Lit.int k y.1).wf = true ∧ (Lit.int k y.2).wf = true := fun i => by
    by_cases hi : i < n
    · have hx : ∀ q, q < 2 → ∃ z : Nat, F i q = .int k z ∧ (Lit.int k z).wf = true := fun q hq => by
        have hq' : q < fs.size := by omega
        obtain ⟨fu, y, hy⟩ := hel i hi q fs[q] (Array.getElem?_eq_getElem hq')
        obtain ⟨z, hc, _, hw⟩ := DataW.trod_int (hf q fs[q] (Array.getElem?_eq_getElem hq')) hy
        obtain ⟨m, rfl⟩ := Int.eq_ofNat_of_zero_le (hk z hw)
        simp at hc
        exact ⟨m, hc, hw⟩
      obtain ⟨a, ha, hwa⟩ := hx 0 (by omega)
      obtain ⟨b, hb, hwb⟩ := hx 1 (by omega)
      exact ⟨(a, b), fun _ => ⟨ha, hb, hwa, hwb⟩⟩
    · exact ⟨(0, 0), fun h => absurd h hi⟩
  obtain ⟨l, hll⟩ : ∃ l : List (Nat × Nat), l = (List.range n).map fun i => (each i).choose := ⟨_, rfl⟩
  have hlen : l.length = n := by rw [hll]; simp
  have hget : ∀ i (hi : i < l.length), F i 0 = .int k l[i].1 ∧ F i 1 = .int k l[i].2 ∧ (Lit.int k l[i].1).wf = true ∧ (Lit.int k l[i].2).wf = true := fun i hi => by
    have := (each i).choose_spec (by omega)
    simpa [hll] using this
  clear hll each hel
  subst hlen
  obtain ⟨A', c', e1, e2, e3, e4⟩ := hs
  cases e1
  refine ⟨A, c, d0, l, rfl, ⟨A, c, rfl, e2, e3, fun hp => ?_⟩, hl, fun s hs => ?_⟩
  · obtain ⟨o, g1, g2, g3⟩ := e4 hp
    refine ⟨o, g1, g2, fun i hi q hq => ?_⟩
    have hq2 : q < 2 := hq
    obtain ⟨h0, h1, _⟩ := hget i hi
    have hcell := g3 i q hi (by omega)
    rw [h2] at hcell
    show w.cell? ⟨d0, o + (i * 2 + q), none⟩ = _
    rw [hcell]
    rcases (show q = 0 ∨ q = 1 by omega) with rfl | rfl
    · rw [h0]; rfl
    · rw [h1]; rfl
  · obtain ⟨i, hi, rfl⟩ := List.getElem_of_mem hs
    exact (hget i hi).2.2
end
end Go.Proofs.Ytknfiiacalfelaa

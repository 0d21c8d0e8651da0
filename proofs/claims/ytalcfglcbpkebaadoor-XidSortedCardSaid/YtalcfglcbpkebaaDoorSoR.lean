/-
  How an argument is opened that is a slice of names.
  Conditions: none.
-/
import Derived.Test.YtalcfglcbpkebaaDoorR
import Derived.Test.YtalcfglcbpkebaaDoorSoF
namespace Go.Proofs.YtalcfglcbpkebaaDoor
open Go.ChangeShapes Go.WideShapes Go.ChangeAt Go.RowKit
open Go.ChangeMaps (open_string shut_string)
set_option linter.unusedVariables false
set_option linter.unusedSimpArgs false

theorem weightsAll_mem {H : Type} {P : Program} {e : TypeId} {x : Nat} : ∀ {l : List (DataW H)} {d : DataW H}, d ∈ l → x ∈ DataW.weights P e d → x ∈ DataW.weightsAll P e l
  | y :: l, d, hd, hx => by
    rw [DataW.weightsAll, List.mem_append]
    rcases List.mem_cons.1 hd with rfl | hd
    · exact .inl hx
    · exact .inr (weightsAll_mem hd hx)

section
variable {H : Type} {enc : TypeId × Value → H} {w : World} {base : Nat} {spare : Nat → Bool} {held : Bool}
set_option maxRecDepth 100000 in
theorem open_elem {fuel : Nat} {cs : List Value} {x : DataW H × List MemPlace} (h : DataW.trod enc Tryd.prog w base spare held fuel 24 cs = some x) :
    ∃ y : XV, cs = xidC.enc y ∧ y.1 < 4294967296 ∧ DataW.weights Tryd.prog 24 x.1 = [y.2.1.size, y.2.2.size] := by
  obtain ⟨y0, y1, y2, n, rfl, hl, h0, h1, h2⟩ := Go.Deep.trod_struct3 Tryd.underlying24 h
  rw [show Tryd.prog.cellsOf 24 = 3 by kernel_rfl] at hl
  obtain ⟨c0, c1, c2, rfl⟩ : ∃ c0 c1 c2, cs = [c0, c1, c2] := by
    match cs, hl with
    | [a, b, c], _ => exact ⟨a, b, c, rfl⟩
  have k22 : Tryd.prog.cellsOf 22 = 1 := by kernel_rfl
  have k9 : Tryd.prog.cellsOf 9 = 1 := by kernel_rfl
  simp only [k22, k9, List.drop_zero, List.drop_succ_cons, List.take_succ_cons, List.take_zero] at h0 h1 h2
  obtain ⟨a, e0, rfl, wa⟩ := DataW.trod_int Tryd.underlying22 h0
  obtain ⟨s1, e1, rfl, z1⟩ := DataW.trod_string Tryd.underlying9 h1
  obtain ⟨s2, e2, rfl, z2⟩ := DataW.trod_string Tryd.underlying9 h2
  simp at e0 e1 e2
  subst e0 e1 e2
  obtain ⟨a0, a1⟩ := u32_range wa
  obtain ⟨f, rfl⟩ := Int.eq_ofNat_of_zero_le a0
  refine ⟨(f, s1, s2), rfl, by simp only; omega, ?_⟩
  simp [DataW.weights, DataW.weightsEach, Tryd.underlying24]

set_option maxRecDepth 100000 in
/-- A slice of names that came in. -/
theorem open_xids {r : Reach} {b0 : Nat} {v : Value} {d : DataW H} {p : List MemPlace} (hv : Value.okWide Tryd.prog w r b0 51 v) (h : DataW.Trod enc Tryd.prog w base spare held 51 v d p)
    {ts : List TypeId} {ds : List (DataW H)} (hsz : (DataW.weightsEach Tryd.prog ts ds).all (· ≤ reachBytes) = true) (j : Nat) (hj : ts[j]? = some 51) (hd : ds[j]? = some d) :
    ∃ (A : Option Addr) (c d0 : Nat) (l : List XV), v = .slice A l.length c ∧ ShowsG xidC w d0 (.slice A l.length c) l ∧ ∀ x ∈ l, xOK x := by
  obtain ⟨A, n, c, rfl⟩ := okWide_slice Tryd.underlying51 hv
  have hb : reachBytes = 140737488351232 := by decide
  have hw : ∀ x, x ∈ DataW.weights (H := H) Tryd.prog 51 d → x ≤ 140737488351232 := fun x hx => by
    have := List.all_eq_true.1 hsz _ (DataW.weights_mem_each hj hd x hx)
    rw [← hb]
    simpa using this
  obtain ⟨fuel, hf⟩ := h
  rcases Deep.open_slice Tryd.underlying51 hf with ⟨hcs, _⟩ | ⟨a, len, cap, m, fu, D, Pl, hcs, _, hl, hm, hmm, hx, hel⟩
  · simp [Value.cells] at hcs
    obtain ⟨rfl, rfl, rfl⟩ := hcs
    exact ⟨none, 0, 0, [], rfl, ShowsG.nil_ _ _ _, fun x hx => absurd hx (by simp)⟩
  · simp [Value.cells] at hcs
    obtain ⟨rfl, rfl, rfl⟩ := hcs
    simp only [Prod.mk.injEq] at hx
    obtain ⟨rfl, _⟩ := hx
    have hnm : n ≤ m := by rw [hmm]; split <;> omega
    have hC : Tryd.prog.cellsOf 24 = 3 := by kernel_rfl
    have each : ∀ i, ∃ y : XV, i < n → (∀ j, j < 3 → w.cell? ((a.add (i * 3)).add j) = (xidC.enc y)[j]?) ∧ xOK y := fun i => by
      by_cases hi : i < n
      · obtain ⟨cs', h1, h2⟩ := hel i (by omega)
        obtain ⟨_, h3, h4⟩ := World.cells?_some h1
        rw [hC] at h3 h4
        obtain ⟨y, rfl, hy1, hy2⟩ := open_elem h2
        refine ⟨y, fun _ => ⟨h4, hy1, ?_⟩⟩
        have hmem : ∀ x, x ∈ DataW.weights Tryd.prog 24 (D i) → x ≤ 140737488351232 := fun x hx => hw x (by
          simp only [DataW.weights, Tryd.underlying51, List.mem_cons, List.mem_append]
          exact .inr (.inl (weightsAll_mem (List.mem_map.2 ⟨i, List.mem_range.2 hi, rfl⟩) hx)))
        rw [hy2] at hmem
        exact ⟨hmem _ (by simp), hmem _ (by simp)⟩
      · exact ⟨(0, ByteArray.empty, ByteArray.empty), fun h => absurd h hi⟩
    obtain ⟨l, hll⟩ : ∃ l : List XV, l = (List.range n).map fun i => (each i).choose := ⟨_, rfl⟩
    have hlen : l.length = n := by rw [hll]; simp
    have hget : ∀ i (hi : i < l.length), (∀ j, j < 3 → w.cell? ((a.add (i * 3)).add j) = (xidC.enc l[i])[j]?) ∧ xOK l[i] := fun i hi => by
      have := (each i).choose_spec (by omega)
      simpa [hll] using this
    clear hll each hel
    subst hlen
    refine ⟨some a, c, a.block, l, rfl, ⟨some a, c, rfl, hl, hm, fun hp => ?_⟩, fun x hx => ?_⟩
    · obtain ⟨b, o, spot⟩ := a
      have h0 := (hget 0 hp).1 0 (by omega)
      have h0' : w.cell? (((⟨b, o, spot⟩ : Addr).add (0 * 3)).add 0) = some (.int .u32 (l[0].1 : Nat)) := h0
      have hs : spot = none := by
        have := World.cell?_spot h0'
        simpa [Addr.add] using this
      subst hs
      have hlt := World.block_lt_of_cell? w _ h0'
      rw [add_plain', add_plain'] at hlt
      refine ⟨o, rfl, hlt, fun i hi k hk => ?_⟩
      have := (hget i hi).1 k hk
      rw [add_plain', add_plain'] at this
      rw [← Nat.add_assoc]
      exact this
    · obtain ⟨i, hi, rfl⟩ := List.getElem_of_mem hx
      exact (hget i hi).2
end

end Go.Proofs.YtalcfglcbpkebaaDoor

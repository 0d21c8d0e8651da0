/-
  How an argument is opened that is a value: it shows a tree.
  Conditions: none.
-/
import Derived.Test.YtpmafabphlejeaaGreatRowkitZ
import Derived.Test.YtpmafabphlejeaaGreatValGZ
namespace Go.Proofs.YtpmafabphlejeaaGreat
open Go.ChangeShapes Go.WideShapes Go.ChangeAt Go.RowKit
open Go.ChangeMaps (open_string shut_string)
set_option linter.unusedVariables false
set_option linter.unusedSimpArgs false

theorem u16_range {b : Int} (h : (Lit.int .u16 b).wf = true) : 0 ≤ b ∧ b < 65536 := by
  simp only [Lit.wf, IntKind.min, IntKind.max, IntKind.signed, IntKind.bits, Bool.and_eq_true, decide_eq_true_eq] at h
  simp at h
  omega
theorem weightsAll_mem {H : Type} {P : Program} {e : TypeId} {x : Nat} : ∀ {l : List (DataW H)} {d : DataW H}, d ∈ l → x ∈ DataW.weights P e d → x ∈ DataW.weightsAll P e l
  | y :: l, d, hd, hx => by
    rw [DataW.weightsAll, List.mem_append]
    rcases List.mem_cons.1 hd with rfl | hd
    · exact .inl hx
    · exact .inr (weightsAll_mem hd hx)

section
variable {H : Type} {enc : TypeId × Value → H} {w : World} {base : Nat} {spare : Nat → Bool} {held : Bool}

/-- A slice's first elements, each with its cells. -/
theorem open_first {t e : TypeId} (ht : Tryz.prog.underlying t = some (.slice e)) {fuel : Nat} {cs : List Value} {x : DataW H × List MemPlace} (h : DataW.trod enc Tryz.prog w base spare held fuel t cs = some x) :
    cs = [.slice none 0 0] ∨ ∃ (a : Addr) (len cap n : Nat) (elems rest : List (DataW H × List MemPlace)), fuel = n + 1 ∧ cs = [.slice (some a) len cap] ∧ len ≤ cap ∧ cap ≤ maxLen ∧ elems.length = len ∧ x.1 = .slice (elems.map (·.1)) (rest.map (·.1)) ∧
      ∀ i (hi : i < elems.length), ∃ cs', cs'.length = Tryz.prog.cellsOf e ∧ (∀ j, j < Tryz.prog.cellsOf e → w.cell? ((a.add (i * Tryz.prog.cellsOf e)).add j) = cs'[j]?) ∧ DataW.trod enc Tryz.prog w base spare held n e cs' = some elems[i] := by
  rcases DataW.trod_slice ht h with ⟨h0, _⟩ | ⟨a, len, cap, elems, rest, n, hf, rfl, rfl, _, hl, hm, hlen, hel, _⟩
  · exact .inl h0
  · refine .inr ⟨a, len, cap, n, elems, rest, hf, rfl, hl, hm, hlen, rfl, fun i hi => ?_⟩
    have h1 := hel i (by omega)
    rw [List.getElem?_eq_getElem hi] at h1
    obtain ⟨cs', h2, h3⟩ := Option.bind_eq_some_iff.1 h1
    obtain ⟨_, h4, h5⟩ := World.cells?_some h2
    exact ⟨cs', h4, h5, h3⟩

set_option maxRecDepth 100000 in
theorem open_strs {fuel : Nat} {cs : List Value} {x : DataW H × List MemPlace} (h : DataW.trod enc Tryz.prog w base spare held fuel 28 cs = some x) (hw : ∀ y, y ∈ DataW.weights (H := H) Tryz.prog 28 x.1 → y ≤ 140737488351232) :
    ∃ (kv : Value) (d0 : Nat) (ks : List ByteArray), cs = [kv] ∧ ShowsG strC w d0 kv ks ∧ ks.length ≤ 8796093022208 ∧ ∀ y ∈ ks, y.size ≤ 140737488351232 := by
  have hC : Tryz.prog.cellsOf 9 = 1 := by kernel_rfl
  have hB : Tryz.prog.bytesOf 9 = 16 := by kernel_rfl
  rcases open_first Tryz.underlying28 h with rfl | ⟨a, len, cap, n, elems, rest, _, rfl, hl, hm, hlen, hx, hel⟩
  · exact ⟨_, 0, [], rfl, ShowsG.nil_ _ _ _, by simp, fun y hy => absurd hy (by simp)⟩
  · rw [hx] at hw
    simp only [DataW.weights, Tryz.underlying28, List.mem_cons, List.mem_append] at hw
    have hn := hw _ (.inl rfl)
    rw [hB] at hn
    simp only [List.length_map] at hn
    have each : ∀ i, ∃ y : ByteArray, ∀ (hi : i < elems.length), w.cell? (a.add i) = some (.string y) ∧ y.size ≤ 140737488351232 := fun i => by
      by_cases hi : i < elems.length
      · obtain ⟨cs', h1, h2, h3⟩ := hel i hi
        rw [hC] at h1 h2
        obtain ⟨y, rfl, hy, _⟩ := DataW.trod_string Tryz.underlying9 h3
        refine ⟨y, fun _ => ⟨?_, ?_⟩⟩
        · have := h2 0 (by omega)
          rw [Nat.mul_one, Deep.add_add, Nat.add_zero] at this
          exact this
        · refine hw y.size (.inr (.inl (weightsAll_mem (List.mem_map.2 ⟨elems[i], List.getElem_mem hi, rfl⟩) ?_)))
          rw [hy]
          simp [DataW.weights]
      · exact ⟨ByteArray.empty, fun h => absurd h hi⟩
    obtain ⟨l, hll⟩ : ∃ l : List ByteArray, l = (List.range len).map fun i => (each i).choose := ⟨_, rfl⟩
    have hlen' : l.length = len := by rw [hll]; simp
    have hget : ∀ i (hi : i < l.length), w.cell? (a.add i) = some (.string l[i]) ∧ l[i].size ≤ 140737488351232 := fun i hi => by
      have := (each i).choose_spec (by omega)
      simpa [hll] using this
    clear hll each hel
    subst hlen'
    refine ⟨_, a.block, l, rfl, ⟨some a, cap, rfl, hl, hm, fun hp => ?_⟩, by omega, fun y hy => ?_⟩
    · obtain ⟨b, o, rfl⟩ : ∃ b o, a = ⟨b, o, none⟩ := by
        obtain ⟨b, o, hbo⟩ := addr_plain (hget 0 hp).1
        obtain ⟨b', o', spot⟩ := a
        have h0 := (hget 0 hp).1
        have := World.cell?_spot h0
        refine ⟨b', o', ?_⟩
        have hs : spot = none := by simpa [Addr.add] using this
        rw [hs]
      have h0 := (hget 0 hp).1
      rw [add_plain'] at h0
      refine ⟨o, rfl, World.block_lt_of_cell? w _ h0, fun i hi k hk => ?_⟩
      have hk0 : k = 0 := by simp only [strC] at hk; omega
      subst hk0
      have := (hget i hi).1
      rw [add_plain'] at this
      show w.cell? ⟨b, o + (i * 1 + 0), none⟩ = _
      rw [Nat.mul_one, Nat.add_zero, this]
      rfl
    · obtain ⟨i, hi, rfl⟩ := List.getElem_of_mem hy
      exact (hget i hi).2

set_option maxRecDepth 100000 in
/-- A value's cells, as deep as they are. -/
theorem open_val : ∀ (fuel : Nat) (cs : List Value) (x : DataW H × List MemPlace), DataW.trod enc Tryz.prog w base spare held fuel 31 cs = some x → (∀ y, y ∈ DataW.weights (H := H) Tryz.prog 31 x.1 → y ≤ 140737488351232) → ∃ t : Tree, ShowsT w t cs := by
  intro fuel
  induction fuel using Nat.strongRecOn with
  | ind fuel ih =>
  intro cs x h hw
  obtain ⟨xs, n, hfn, rfl, hl, hlen, hf⟩ := DataW.trod_struct Tryz.underlying31 h
  have hC : Tryz.prog.cellsOf 31 = 5 := by kernel_rfl
  have k22 : Tryz.prog.cellsOf 27 = 1 := by kernel_rfl
  have k23 : Tryz.prog.cellsOf 26 = 1 := by kernel_rfl
  have k9 : Tryz.prog.cellsOf 9 = 1 := by kernel_rfl
  have k24 : Tryz.prog.cellsOf 28 = 1 := by kernel_rfl
  have k25 : Tryz.prog.cellsOf 29 = 1 := by kernel_rfl
  have hB : Tryz.prog.bytesOf 31 = 80 := by kernel_rfl
  rw [hC] at hl
  obtain ⟨c0, c1, c2, c3, c4, rfl⟩ : ∃ c0 c1 c2 c3 c4, cs = [c0, c1, c2, c3, c4] := by
    match cs, hl with
    | [a, b, c, d, e], _ => exact ⟨a, b, c, d, e, rfl⟩
  obtain ⟨y0, y1, y2, y3, y4, rfl⟩ : ∃ y0 y1 y2 y3 y4, xs = [y0, y1, y2, y3, y4] := by
    match xs, hlen with
    | [a, b, c, d, e], _ => exact ⟨a, b, c, d, e, rfl⟩
  have h0 : DataW.trod enc Tryz.prog w base spare held n 27 (([c0, c1, c2, c3, c4].drop 0).take (Tryz.prog.cellsOf 27)) = some y0 := hf 0 _ rfl
  have h1 : DataW.trod enc Tryz.prog w base spare held n 26 (([c0, c1, c2, c3, c4].drop 1).take (Tryz.prog.cellsOf 26)) = some y1 := hf 1 _ rfl
  have h2 : DataW.trod enc Tryz.prog w base spare held n 9 (([c0, c1, c2, c3, c4].drop 2).take (Tryz.prog.cellsOf 9)) = some y2 := hf 2 _ rfl
  have h3 : DataW.trod enc Tryz.prog w base spare held n 28 (([c0, c1, c2, c3, c4].drop 3).take (Tryz.prog.cellsOf 28)) = some y3 := hf 3 _ rfl
  have h4 : DataW.trod enc Tryz.prog w base spare held n 29 (([c0, c1, c2, c3, c4].drop 4).take (Tryz.prog.cellsOf 29)) = some y4 := hf 4 _ rfl
  simp only [k22, k23, k9, k24, k25, List.drop_zero, List.drop_succ_cons, List.take_succ_cons, List.take_zero, List.getElem?_cons_zero, List.getElem?_cons_succ] at h0 h1 h2 h3 h4
  obtain ⟨a, e0, _, wa⟩ := DataW.trod_int Tryz.underlying27 h0
  obtain ⟨b, e1, _, wb⟩ := DataW.trod_int Tryz.underlying26 h1
  obtain ⟨s, e2, hs, _⟩ := DataW.trod_string Tryz.underlying9 h2
  simp at e0 e1 e2
  subst e0 e1 e2
  obtain ⟨a0, a1⟩ := u8_range wa
  obtain ⟨b0, b1⟩ := u64_range wb
  obtain ⟨k, rfl⟩ := Int.eq_ofNat_of_zero_le a0
  obtain ⟨m, rfl⟩ := Int.eq_ofNat_of_zero_le b0
  simp only [List.map_cons, List.map_nil] at hw
  have hw2 : ∀ y, (y ∈ DataW.weights (H := H) Tryz.prog 9 y2.1 ∨ y ∈ DataW.weights (H := H) Tryz.prog 28 y3.1 ∨ y ∈ DataW.weights (H := H) Tryz.prog 29 y4.1) → y ≤ 140737488351232 := fun y hy => hw y (by
    simp only [DataW.weights, Tryz.underlying31, DataW.weightsEach, List.map_cons, List.map_nil, List.mem_append]
    rcases hy with h | h | h
    · exact .inr (.inr (.inl h))
    · exact .inr (.inr (.inr (.inl h)))
    · exact .inr (.inr (.inr (.inr (.inl h)))))
  obtain ⟨kv, d0, ks, e3, hks, hkl, hkz⟩ := open_strs h3 (fun y hy => hw2 y (.inr (.inl hy)))
  simp at e3
  subst e3
  have hsz : s.size ≤ 140737488351232 := by
    refine hw2 s.size (.inl ?_)
    rw [hs]
    simp [DataW.weights]
  have hlist : ∃ (l : List Tree) (A : Option Addr) (c : Nat), c4 = .slice A l.length c ∧ ListT w l A c := by
    rcases open_first Tryz.underlying29 h4 with e4 | ⟨ad, len, cap, n', elems, rest, hn', e4, hlc, hcm, hel, hx, hall⟩
    · simp at e4
      exact ⟨[], none, 0, e4, ListT.nil w⟩
    · simp at e4
      have hw3 : ∀ y, y ∈ DataW.weights (H := H) Tryz.prog 29 y4.1 → y ≤ 140737488351232 := fun y hy => hw2 y (.inr (.inr hy))
      rw [hx] at hw3
      simp only [DataW.weights, Tryz.underlying29, List.mem_cons, List.mem_append] at hw3
      have hn := hw3 _ (.inl rfl)
      rw [hB] at hn
      simp only [List.length_map] at hn
      have each : ∀ i, ∃ t : Tree, ∀ (hi : i < elems.length), ∃ cs', (∀ j, j < 5 → w.cell? ((ad.add (i * 5)).add j) = cs'[j]?) ∧ ShowsT w t cs' := fun i => by
        by_cases hi : i < elems.length
        · obtain ⟨cs', q1, q2, q3⟩ := hall i hi
          rw [hC] at q1 q2
          obtain ⟨t, ht⟩ := ih n' (by omega) cs' elems[i] q3 (fun y hy => hw3 y (.inr (.inl (weightsAll_mem (List.mem_map.2 ⟨elems[i], List.getElem_mem hi, rfl⟩) hy))))
          exact ⟨t, fun _ => ⟨cs', q2, ht⟩⟩
        · exact ⟨.node 0 0 ⟨#[]⟩ [] [], fun h => absurd h hi⟩
      obtain ⟨l, hll⟩ : ∃ l : List Tree, l = (List.range len).map fun i => (each i).choose := ⟨_, rfl⟩
      have hlen' : l.length = len := by rw [hll]; simp
      have hget : ∀ i (hi : i < l.length), ∃ cs', (∀ j, j < 5 → w.cell? ((ad.add (i * 5)).add j) = cs'[j]?) ∧ ShowsT w l[i] cs' := fun i hi => by
        have := (each i).choose_spec (by omega)
        simpa [hll] using this
      clear hll each hall
      subst hlen'
      refine ⟨l, some ad, cap, e4, by omega, hlc, hcm, fun j hj => ?_⟩
      obtain ⟨cs', g1, g2⟩ := hget j hj
      have hcl := g2.len
      obtain ⟨v0, v1, v2, v3, v4, rfl⟩ : ∃ v0 v1 v2 v3 v4, cs' = [v0, v1, v2, v3, v4] := by
        match cs', hcl with
        | [a, b, c, d, e], _ => exact ⟨a, b, c, d, e, rfl⟩
      obtain ⟨bb, o, spot⟩ := ad
      have hspot : spot = none := by
        obtain ⟨cs0, z1, z2⟩ := hget 0 (by omega)
        have hz := z2.len
        have z3 := z1 0 (by omega)
        rw [List.getElem?_eq_getElem (by omega)] at z3
        have := World.cell?_spot z3
        simpa [Addr.add] using this
      subst hspot
      have p0 := g1 0 (by omega)
      have p1 := g1 1 (by omega)
      have p2 := g1 2 (by omega)
      have p3 := g1 3 (by omega)
      have p4 := g1 4 (by omega)
      simp only [add_plain'] at p0 p1 p2 p3 p4
      exact ⟨bb, o, v0, v1, v2, v3, v4, rfl, World.block_lt_of_cell? w ⟨bb, o + j * 5 + 0, none⟩ p0, g2, p0, p1, p2, p3, p4⟩
  obtain ⟨l, A, c, rfl, hL⟩ := hlist
  exact ⟨.node k m s ks l, ShowsT.make (by omega) (by omega) hks hkl hkz hsz hL⟩

set_option maxRecDepth 100000 in
/-- A value that came in. -/
theorem open_value {r : Reach} {b0 : Nat} {v : Value} {d : DataW H} {p : List MemPlace} (hv : Value.okWide Tryz.prog w r b0 31 v) (h : DataW.Trod enc Tryz.prog w base spare held 31 v d p)
    {ts : List TypeId} {ds : List (DataW H)} (hsz : (DataW.weightsEach Tryz.prog ts ds).all (· ≤ reachBytes) = true) (j : Nat) (hj : ts[j]? = some 31) (hd : ds[j]? = some d) :
    ∃ (t : Tree) (vs : List Value), v = .agg vs.toArray ∧ ShowsT w t vs := by
  have hb : reachBytes = 140737488351232 := by decide
  have hw : ∀ x, x ∈ DataW.weights (H := H) Tryz.prog 31 d → x ≤ 140737488351232 := fun x hx => by
    have := List.all_eq_true.1 hsz _ (DataW.weights_mem_each hj hd x hx)
    rw [← hb]
    simpa using this
  obtain ⟨fuel, hf⟩ := h
  obtain ⟨t, ht⟩ := open_val fuel _ _ hf hw
  obtain ⟨cs, rfl, _⟩ := okWide_struct Tryz.underlying31 hv
  exact ⟨t, cs.toList, by simp, ht⟩
end

end Go.Proofs.YtpmafabphlejeaaGreat

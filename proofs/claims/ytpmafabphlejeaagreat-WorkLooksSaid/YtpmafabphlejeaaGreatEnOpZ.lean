/-
  How an argument is opened that is an entry.
  Conditions: none.
-/
import Derived.Test.YtpmafabphlejeaaGreatEnPZ
import Derived.Test.YtpmafabphlejeaaGreatValOZ
import Derived.Test.YtpmafabphlejeaaGreatXiAZ
namespace Go.Proofs.YtpmafabphlejeaaGreat
open Go.ChangeShapes Go.WideShapes Go.ChangeAt Go.RowKit
open Go.ChangeMaps (open_string shut_string)
set_option linter.unusedVariables false
set_option linter.unusedSimpArgs false

section
variable {H : Type} {enc : TypeId × Value → H} {w : World} {base : Nat} {spare : Nat → Bool} {held : Bool}
set_option maxRecDepth 100000 in
/-- Properties' cells. -/
theorem open_prc {fuel : Nat} {cs : List Value} {x : DataW H × List MemPlace} (h : DataW.trod enc Tryz.prog w base spare held fuel 33 cs = some x) (hw : ∀ y, y ∈ DataW.weights (H := H) Tryz.prog 33 x.1 → y ≤ 140737488351232) :
    ∃ (q : PropP) (v0 v1 v2 v3 v4 : Value), cs = [.string q.key, .bool q.dur, .bool q.red, .string q.id, v0, v1, v2, v3, v4] ∧ ShowsP w q v0 v1 v2 v3 v4 := by
  obtain ⟨xs, n, hfn, rfl, hl, hlen, hfld⟩ := DataW.trod_struct Tryz.underlying33 h
  have hC : Tryz.prog.cellsOf 33 = 9 := by kernel_rfl
  have k27 : Tryz.prog.cellsOf 31 = 5 := by kernel_rfl
  have k4 : Tryz.prog.cellsOf 4 = 1 := by kernel_rfl
  have k9 : Tryz.prog.cellsOf 9 = 1 := by kernel_rfl
  rw [hC] at hl
  obtain ⟨c0, c1, c2, c3, c4, c5, c6, c7, c8, rfl⟩ : ∃ c0 c1 c2 c3 c4 c5 c6 c7 c8, cs = [c0, c1, c2, c3, c4, c5, c6, c7, c8] := by
    match cs, hl with
    | [a, b, c, d, e, f, g, h, i], _ => exact ⟨a, b, c, d, e, f, g, h, i, rfl⟩
  obtain ⟨y0, y1, y2, y3, y4, rfl⟩ : ∃ y0 y1 y2 y3 y4, xs = [y0, y1, y2, y3, y4] := by
    match xs, hlen with
    | [a, b, c, d, e], _ => exact ⟨a, b, c, d, e, rfl⟩
  have h0 : DataW.trod enc Tryz.prog w base spare held n 9 (([c0, c1, c2, c3, c4, c5, c6, c7, c8].drop 0).take (Tryz.prog.cellsOf 9)) = some y0 := hfld 0 _ rfl
  have h1 : DataW.trod enc Tryz.prog w base spare held n 4 (([c0, c1, c2, c3, c4, c5, c6, c7, c8].drop 1).take (Tryz.prog.cellsOf 4)) = some y1 := hfld 1 _ rfl
  have h2 : DataW.trod enc Tryz.prog w base spare held n 4 (([c0, c1, c2, c3, c4, c5, c6, c7, c8].drop 2).take (Tryz.prog.cellsOf 4)) = some y2 := hfld 2 _ rfl
  have h3 : DataW.trod enc Tryz.prog w base spare held n 9 (([c0, c1, c2, c3, c4, c5, c6, c7, c8].drop 3).take (Tryz.prog.cellsOf 9)) = some y3 := hfld 3 _ rfl
  have h4 : DataW.trod enc Tryz.prog w base spare held n 31 (([c0, c1, c2, c3, c4, c5, c6, c7, c8].drop 4).take (Tryz.prog.cellsOf 31)) = some y4 := hfld 4 _ rfl
  simp only [k27, k4, k9, List.drop_zero, List.drop_succ_cons, List.take_succ_cons, List.take_zero] at h0 h1 h2 h3 h4
  obtain ⟨a, e0, ha, _⟩ := DataW.trod_string Tryz.underlying9 h0
  obtain ⟨b, e1, _⟩ := DataW.trod_bool Tryz.underlying4 h1
  obtain ⟨c, e2, _⟩ := DataW.trod_bool Tryz.underlying4 h2
  obtain ⟨s, e3, hs, _⟩ := DataW.trod_string Tryz.underlying9 h3
  simp at e0 e1 e2 e3
  subst e0 e1 e2 e3
  simp only [List.map_cons, List.map_nil] at hw
  have hw2 : ∀ y, (y ∈ DataW.weights (H := H) Tryz.prog 9 y0.1 ∨ y ∈ DataW.weights (H := H) Tryz.prog 9 y3.1 ∨ y ∈ DataW.weights (H := H) Tryz.prog 31 y4.1) → y ≤ 140737488351232 := fun y hy => hw y (by
    simp only [DataW.weights, Tryz.underlying33, DataW.weightsEach, List.map_cons, List.map_nil, List.mem_append]
    rcases hy with h | h | h
    · exact .inl h
    · exact .inr (.inr (.inr (.inl h)))
    · exact .inr (.inr (.inr (.inr (.inl h)))))
  obtain ⟨t, ht⟩ := open_val n _ _ h4 (fun y hy => hw2 y (.inr (.inr hy)))
  have hz0 : a.size ≤ 140737488351232 := by
    refine hw2 a.size (.inl ?_)
    rw [ha]
    simp [DataW.weights]
  have hz3 : s.size ≤ 140737488351232 := by
    refine hw2 s.size (.inr (.inl ?_))
    rw [hs]
    simp [DataW.weights]
  exact ⟨⟨a, b, c, s, t⟩, c4, c5, c6, c7, c8, rfl, hz0, hz3, ht⟩

set_option maxRecDepth 100000 in
/-- A put's cells. -/
theorem open_putc {fuel : Nat} {cs : List Value} {x : DataW H × List MemPlace} (h : DataW.trod enc Tryz.prog w base spare held fuel 35 cs = some x) (hw : ∀ y, y ∈ DataW.weights (H := H) Tryz.prog 35 x.1 → y ≤ 140737488351232) : ∃ c : PutC, PutAt w c ∧ cs = putC.enc c := by
  obtain ⟨xs, n, hfn, rfl, hl, hlen, hfld⟩ := DataW.trod_struct Tryz.underlying35 h
  have hC : Tryz.prog.cellsOf 35 = 12 := by kernel_rfl
  have k27 : Tryz.prog.cellsOf 33 = 9 := by kernel_rfl
  have k4 : Tryz.prog.cellsOf 26 = 1 := by kernel_rfl
  have k9 : Tryz.prog.cellsOf 9 = 1 := by kernel_rfl
  rw [hC] at hl
  obtain ⟨c0, c1, c2, c3, c4, c5, c6, c7, c8, c9, c10, c11, rfl⟩ : ∃ c0 c1 c2 c3 c4 c5 c6 c7 c8 c9 c10 c11, cs = [c0, c1, c2, c3, c4, c5, c6, c7, c8, c9, c10, c11] := by
    match cs, hl with
    | [a, b, c, d, e, f, g, h, i, j, k, l], _ => exact ⟨a, b, c, d, e, f, g, h, i, j, k, l, rfl⟩
  obtain ⟨y0, y1, y2, y3, rfl⟩ : ∃ y0 y1 y2 y3, xs = [y0, y1, y2, y3] := by
    match xs, hlen with
    | [a, b, c, d], _ => exact ⟨a, b, c, d, rfl⟩
  have h0 : DataW.trod enc Tryz.prog w base spare held n 9 (([c0, c1, c2, c3, c4, c5, c6, c7, c8, c9, c10, c11].drop 0).take (Tryz.prog.cellsOf 9)) = some y0 := hfld 0 _ rfl
  have h1 : DataW.trod enc Tryz.prog w base spare held n 26 (([c0, c1, c2, c3, c4, c5, c6, c7, c8, c9, c10, c11].drop 1).take (Tryz.prog.cellsOf 26)) = some y1 := hfld 1 _ rfl
  have h2 : DataW.trod enc Tryz.prog w base spare held n 33 (([c0, c1, c2, c3, c4, c5, c6, c7, c8, c9, c10, c11].drop 2).take (Tryz.prog.cellsOf 33)) = some y2 := hfld 2 _ rfl
  have h3 : DataW.trod enc Tryz.prog w base spare held n 9 (([c0, c1, c2, c3, c4, c5, c6, c7, c8, c9, c10, c11].drop 11).take (Tryz.prog.cellsOf 9)) = some y3 := hfld 3 _ rfl
  simp only [k27, k4, k9, List.drop_zero, List.drop_succ_cons, List.take_succ_cons, List.take_zero] at h0 h1 h2 h3
  obtain ⟨a, e0, ha, _⟩ := DataW.trod_string Tryz.underlying9 h0
  obtain ⟨b, e1, _, wb⟩ := DataW.trod_int Tryz.underlying26 h1
  obtain ⟨s, e3, hs, _⟩ := DataW.trod_string Tryz.underlying9 h3
  simp at e0 e1 e3
  subst e0 e1 e3
  obtain ⟨b0, b1⟩ := u64_range wb
  obtain ⟨m, rfl⟩ := Int.eq_ofNat_of_zero_le b0
  simp only [List.map_cons, List.map_nil] at hw
  have hw2 : ∀ y, (y ∈ DataW.weights (H := H) Tryz.prog 9 y0.1 ∨ y ∈ DataW.weights (H := H) Tryz.prog 33 y2.1 ∨ y ∈ DataW.weights (H := H) Tryz.prog 9 y3.1) → y ≤ 140737488351232 := fun y hy => hw y (by
    simp only [DataW.weights, Tryz.underlying35, DataW.weightsEach, List.map_cons, List.map_nil, List.mem_append]
    rcases hy with h | h | h
    · exact .inl h
    · exact .inr (.inr (.inl h))
    · exact .inr (.inr (.inr (.inl h))))
  obtain ⟨p, v0, v1, v2, v3, v4, hcs, hsh⟩ := open_prc h2 (fun y hy => hw2 y (.inr (.inl hy)))
  simp only [List.cons.injEq, and_true] at hcs
  obtain ⟨rfl, rfl, rfl, rfl, rfl, rfl, rfl, rfl, rfl⟩ := hcs
  obtain ⟨xx, hxx⟩ := hsh.app.cell5
  simp only [Cell5.vs, List.cons.injEq, and_true] at hxx
  obtain ⟨rfl, rfl, rfl, rfl, rfl⟩ := hxx
  have hz0 : a.size ≤ 140737488351232 := by
    refine hw2 a.size (.inl ?_)
    rw [ha]
    simp [DataW.weights]
  have hz3 : s.size ≤ 140737488351232 := by
    refine hw2 s.size (.inr (.inr ?_))
    rw [hs]
    simp [DataW.weights]
  exact ⟨⟨⟨a, m, p, s⟩, xx⟩, ⟨hz0, by simp only []; omega, hsh, hz3⟩, rfl⟩

set_option maxRecDepth 100000 in
/-- A name's cells. -/
theorem open_refc {fuel : Nat} {cs : List Value} {x : DataW H × List MemPlace} (h : DataW.trod enc Tryz.prog w base spare held fuel 37 cs = some x) (hw : ∀ y, y ∈ DataW.weights (H := H) Tryz.prog 37 x.1 → y ≤ 140737488351232) : ∃ c : RefE, RefAt c ∧ cs = refC.enc c := by
  obtain ⟨xs, n, hfn, rfl, hl, hlen, hfld⟩ := DataW.trod_struct Tryz.underlying37 h
  have hC : Tryz.prog.cellsOf 37 = 2 := by kernel_rfl
  have k4 : Tryz.prog.cellsOf 26 = 1 := by kernel_rfl
  have k9 : Tryz.prog.cellsOf 9 = 1 := by kernel_rfl
  rw [hC] at hl
  obtain ⟨c0, c1, rfl⟩ : ∃ c0 c1, cs = [c0, c1] := by
    match cs, hl with
    | [a, b], _ => exact ⟨a, b, rfl⟩
  obtain ⟨y0, y1, rfl⟩ : ∃ y0 y1, xs = [y0, y1] := by
    match xs, hlen with
    | [a, b], _ => exact ⟨a, b, rfl⟩
  have h0 : DataW.trod enc Tryz.prog w base spare held n 9 (([c0, c1].drop 0).take (Tryz.prog.cellsOf 9)) = some y0 := hfld 0 _ rfl
  have h1 : DataW.trod enc Tryz.prog w base spare held n 26 (([c0, c1].drop 1).take (Tryz.prog.cellsOf 26)) = some y1 := hfld 1 _ rfl
  simp only [k4, k9, List.drop_zero, List.drop_succ_cons, List.take_succ_cons, List.take_zero] at h0 h1
  obtain ⟨a, e0, ha, _⟩ := DataW.trod_string Tryz.underlying9 h0
  obtain ⟨b, e1, _, wb⟩ := DataW.trod_int Tryz.underlying26 h1
  simp at e0 e1
  subst e0 e1
  obtain ⟨b0, b1⟩ := u64_range wb
  obtain ⟨m, rfl⟩ := Int.eq_ofNat_of_zero_le b0
  simp only [List.map_cons, List.map_nil] at hw
  have hz0 : a.size ≤ 140737488351232 := by
    refine hw a.size ?_
    simp only [DataW.weights, Tryz.underlying37, DataW.weightsEach, List.map_cons, List.map_nil, List.mem_append]
    refine .inl ?_
    rw [ha]
    simp [DataW.weights]
  exact ⟨⟨a, m⟩, ⟨hz0, by simp only []; omega⟩, rfl⟩

set_option maxRecDepth 100000 in
theorem open_puts {fuel : Nat} {cs : List Value} {x : DataW H × List MemPlace} (hf : DataW.trod enc Tryz.prog w base spare held fuel 22 cs = some x) (hw : ∀ y, y ∈ DataW.weights (H := H) Tryz.prog 22 x.1 → y ≤ 140737488351232) :
    ∃ (A : Option Addr) (c : Nat) (l : List PutC), cs = [.slice A l.length c] ∧ RowP w A c l := by
  have hC : Tryz.prog.cellsOf 35 = 12 := by kernel_rfl
  have hB : Tryz.prog.bytesOf 35 = 160 := by kernel_rfl
  rcases open_first Tryz.underlying22 hf with h0 | ⟨a, len, cap, n', elems, rest, _, h0, hl, hm, hlen, hx, hel⟩
  · exact ⟨none, 0, [], h0, RowP.nil _⟩
  · rw [hx] at hw
    simp only [DataW.weights, Tryz.underlying22, List.mem_cons, List.mem_append] at hw
    have hn := hw _ (.inl rfl)
    rw [hB] at hn
    simp only [List.length_map] at hn
    have each : ∀ i, ∃ f : PutC, ∀ (hi : i < elems.length), PutAt w f ∧ ∀ q, q < 12 → w.cell? ((a.add (i * 12)).add q) = (putC.enc f)[q]? := fun i => by
      by_cases hi : i < elems.length
      · obtain ⟨cs', h1, h2, h3⟩ := hel i hi
        rw [hC] at h1 h2
        obtain ⟨f, g1, rfl⟩ := open_putc h3 (fun y hy => hw y (.inr (.inl (weightsAll_mem (List.mem_map.2 ⟨elems[i], List.getElem_mem hi, rfl⟩) hy))))
        exact ⟨f, fun _ => ⟨g1, h2⟩⟩
      · exact ⟨⟨⟨⟨#[]⟩, 0, zPr, ⟨#[]⟩⟩, ⟨0, 0, ⟨#[]⟩, none, 0, 0, none, 0, 0⟩⟩, fun h => absurd h hi⟩
    obtain ⟨l, hll⟩ : ∃ l : List PutC, l = (List.range len).map fun i => (each i).choose := ⟨_, rfl⟩
    have hlen' : l.length = len := by rw [hll]; simp
    have hget : ∀ i (hi : i < l.length), PutAt w l[i] ∧ ∀ q, q < 12 → w.cell? ((a.add (i * 12)).add q) = (putC.enc l[i])[q]? := fun i hi => by
      have := (each i).choose_spec (by omega)
      simpa [hll] using this
    clear hll each hel
    subst hlen'
    refine ⟨some a, cap, l, h0, ⟨⟨a.block, some a, cap, rfl, hl, hm, fun hp => ?_⟩, fun i hi => (hget i hi).1, by omega⟩⟩
    have h0 := (hget 0 hp).2 0 (by decide)
    obtain ⟨b, o, spot⟩ := a
    have hs : spot = none := by
      have : w.cell? (((⟨b, o, spot⟩ : Addr).add (0 * 12)).add 0) = some (.string l[0].e.q) := h0
      have := World.cell?_spot this
      simpa [Addr.add] using this
    subst hs
    have h00 : w.cell? (((⟨b, o, none⟩ : Addr).add (0 * 12)).add 0) = some (.string l[0].e.q) := h0
    rw [add_plain', add_plain'] at h00
    refine ⟨o, rfl, World.block_lt_of_cell? w _ h00, fun i hi q hq => ?_⟩
    have hq2 : q < 12 := hq
    have := (hget i hi).2 q hq2
    rw [add_plain', add_plain'] at this
    show w.cell? ⟨b, o + (i * 12 + q), none⟩ = _
    rw [← Nat.add_assoc, this]

set_option maxRecDepth 100000 in
theorem open_refs {fuel : Nat} {cs : List Value} {x : DataW H × List MemPlace} (hf : DataW.trod enc Tryz.prog w base spare held fuel 23 cs = some x) (hw : ∀ y, y ∈ DataW.weights (H := H) Tryz.prog 23 x.1 → y ≤ 140737488351232) :
    ∃ (A : Option Addr) (c : Nat) (l : List RefE), cs = [.slice A l.length c] ∧ RowR w A c l := by
  have hC : Tryz.prog.cellsOf 37 = 2 := by kernel_rfl
  have hB : Tryz.prog.bytesOf 37 = 24 := by kernel_rfl
  rcases open_first Tryz.underlying23 hf with h0 | ⟨a, len, cap, n', elems, rest, _, h0, hl, hm, hlen, hx, hel⟩
  · exact ⟨none, 0, [], h0, RowR.nil _⟩
  · rw [hx] at hw
    simp only [DataW.weights, Tryz.underlying23, List.mem_cons, List.mem_append] at hw
    have hn := hw _ (.inl rfl)
    rw [hB] at hn
    simp only [List.length_map] at hn
    have each : ∀ i, ∃ f : RefE, ∀ (hi : i < elems.length), RefAt f ∧ ∀ q, q < 2 → w.cell? ((a.add (i * 2)).add q) = (refC.enc f)[q]? := fun i => by
      by_cases hi : i < elems.length
      · obtain ⟨cs', h1, h2, h3⟩ := hel i hi
        rw [hC] at h1 h2
        obtain ⟨f, g1, rfl⟩ := open_refc h3 (fun y hy => hw y (.inr (.inl (weightsAll_mem (List.mem_map.2 ⟨elems[i], List.getElem_mem hi, rfl⟩) hy))))
        exact ⟨f, fun _ => ⟨g1, h2⟩⟩
      · exact ⟨⟨⟨#[]⟩, 0⟩, fun h => absurd h hi⟩
    obtain ⟨l, hll⟩ : ∃ l : List RefE, l = (List.range len).map fun i => (each i).choose := ⟨_, rfl⟩
    have hlen' : l.length = len := by rw [hll]; simp
    have hget : ∀ i (hi : i < l.length), RefAt l[i] ∧ ∀ q, q < 2 → w.cell? ((a.add (i * 2)).add q) = (refC.enc l[i])[q]? := fun i hi => by
      have := (each i).choose_spec (by omega)
      simpa [hll] using this
    clear hll each hel
    subst hlen'
    refine ⟨some a, cap, l, h0, ⟨⟨a.block, some a, cap, rfl, hl, hm, fun hp => ?_⟩, fun i hi => (hget i hi).1, by omega⟩⟩
    have h0 := (hget 0 hp).2 0 (by decide)
    obtain ⟨b, o, spot⟩ := a
    have hs : spot = none := by
      have : w.cell? (((⟨b, o, spot⟩ : Addr).add (0 * 2)).add 0) = some (.string l[0].q) := h0
      have := World.cell?_spot this
      simpa [Addr.add] using this
    subst hs
    have h00 : w.cell? (((⟨b, o, none⟩ : Addr).add (0 * 2)).add 0) = some (.string l[0].q) := h0
    rw [add_plain', add_plain'] at h00
    refine ⟨o, rfl, World.block_lt_of_cell? w _ h00, fun i hi q hq => ?_⟩
    have hq2 : q < 2 := hq
    have := (hget i hi).2 q hq2
    rw [add_plain', add_plain'] at this
    show w.cell? ⟨b, o + (i * 2 + q), none⟩ = _
    rw [← Nat.add_assoc, this]

set_option maxRecDepth 100000 in
/-- An entry that came in. -/
theorem open_entry {r : Reach} {b0 : Nat} {v : Value} {d : DataW H} {p : List MemPlace} (hv : Value.okWide Tryz.prog w r b0 57 v) (h : DataW.Trod enc Tryz.prog w base spare held 57 v d p)
    {ts : List TypeId} {ds : List (DataW H)} (hsz : (DataW.weightsEach Tryz.prog ts ds).all (· ≤ reachBytes) = true) (j : Nat) (hj : ts[j]? = some 57) (hd : ds[j]? = some d) :
    ∃ x : EntC, v = entV x ∧ ShowsE w x := by
  have hb : reachBytes = 140737488351232 := by decide
  have hw : ∀ x, x ∈ DataW.weights (H := H) Tryz.prog 57 d → x ≤ 140737488351232 := fun x hx => by
    have := List.all_eq_true.1 hsz _ (DataW.weights_mem_each hj hd x hx)
    rw [← hb]
    simpa using this
  obtain ⟨fuel, hf⟩ := h
  obtain ⟨cs0, rfl, _⟩ := okWide_struct Tryz.underlying57 hv
  obtain ⟨xs, n, hfn, hdx, hl, hlen, hfld⟩ := DataW.trod_struct Tryz.underlying57 hf
  have hC : Tryz.prog.cellsOf 57 = 8 := by kernel_rfl
  have kX : Tryz.prog.cellsOf 55 = 3 := by kernel_rfl
  have k5 : Tryz.prog.cellsOf 5 = 1 := by kernel_rfl
  have k6 : Tryz.prog.cellsOf 26 = 1 := by kernel_rfl
  have k9 : Tryz.prog.cellsOf 9 = 1 := by kernel_rfl
  have kP : Tryz.prog.cellsOf 22 = 1 := by kernel_rfl
  have kR : Tryz.prog.cellsOf 23 = 1 := by kernel_rfl
  rw [hC] at hl
  have hl9 : cs0.toList.length = 8 := hl
  obtain ⟨cs, rfl⟩ : ∃ cs : List Value, cs0 = cs.toArray := ⟨cs0.toList, by simp⟩
  have hl9 : cs.length = 8 := by simpa using hl9
  obtain ⟨c0, c1, c2, c3, c4, c5, c6, c7, rfl⟩ : ∃ c0 c1 c2 c3 c4 c5 c6 c7, cs = [c0, c1, c2, c3, c4, c5, c6, c7] := by
    match cs, hl9 with
    | [a, b, c, d, e, f, g, h], _ => exact ⟨a, b, c, d, e, f, g, h, rfl⟩
  obtain ⟨y0, y1, y2, y3, y4, y5, rfl⟩ : ∃ y0 y1 y2 y3 y4 y5, xs = [y0, y1, y2, y3, y4, y5] := by
    match xs, hlen with
    | [a, b, c, d, e, f], _ => exact ⟨a, b, c, d, e, f, rfl⟩
  have h0 : DataW.trod enc Tryz.prog w base spare held n 5 (([c0, c1, c2, c3, c4, c5, c6, c7].drop 0).take (Tryz.prog.cellsOf 5)) = some y0 := hfld 0 _ rfl
  have h1 : DataW.trod enc Tryz.prog w base spare held n 9 (([c0, c1, c2, c3, c4, c5, c6, c7].drop 1).take (Tryz.prog.cellsOf 9)) = some y1 := hfld 1 _ rfl
  have h2 : DataW.trod enc Tryz.prog w base spare held n 26 (([c0, c1, c2, c3, c4, c5, c6, c7].drop 2).take (Tryz.prog.cellsOf 26)) = some y2 := hfld 2 _ rfl
  have h3 : DataW.trod enc Tryz.prog w base spare held n 55 (([c0, c1, c2, c3, c4, c5, c6, c7].drop 3).take (Tryz.prog.cellsOf 55)) = some y3 := hfld 3 _ rfl
  have h4 : DataW.trod enc Tryz.prog w base spare held n 22 (([c0, c1, c2, c3, c4, c5, c6, c7].drop 6).take (Tryz.prog.cellsOf 22)) = some y4 := hfld 4 _ rfl
  have h5 : DataW.trod enc Tryz.prog w base spare held n 23 (([c0, c1, c2, c3, c4, c5, c6, c7].drop 7).take (Tryz.prog.cellsOf 23)) = some y5 := hfld 5 _ rfl
  simp only [kX, k5, k6, k9, kP, kR, List.drop_zero, List.drop_succ_cons, List.take_succ_cons, List.take_zero] at h0 h1 h2 h3 h4 h5
  obtain ⟨a, e0, _, wa⟩ := DataW.trod_int Tryz.underlying5 h0
  obtain ⟨s, e1, hs, _⟩ := DataW.trod_string Tryz.underlying9 h1
  obtain ⟨b, e2, _, wb⟩ := DataW.trod_int Tryz.underlying26 h2
  simp at e0 e1 e2
  subst e0 e1 e2
  obtain ⟨a0, a1⟩ := u8_range wa
  obtain ⟨k, rfl⟩ := Int.eq_ofNat_of_zero_le a0
  obtain ⟨b0, b1⟩ := u64_range wb
  obtain ⟨m, rfl⟩ := Int.eq_ofNat_of_zero_le b0
  rw [(Prod.mk.inj hdx).1] at hw
  simp only [List.map_cons, List.map_nil] at hw
  have hw2 : ∀ y, (y ∈ DataW.weights (H := H) Tryz.prog 9 y1.1 ∨ y ∈ DataW.weights (H := H) Tryz.prog 55 y3.1 ∨ y ∈ DataW.weights (H := H) Tryz.prog 22 y4.1 ∨ y ∈ DataW.weights (H := H) Tryz.prog 23 y5.1) → y ≤ 140737488351232 := fun y hy => hw y (by
    simp only [DataW.weights, Tryz.underlying57, DataW.weightsEach, List.map_cons, List.map_nil, List.mem_append]
    rcases hy with h | h | h | h
    · exact .inr (.inl h)
    · exact .inr (.inr (.inr (.inl h)))
    · exact .inr (.inr (.inr (.inr (.inl h))))
    · exact .inr (.inr (.inr (.inr (.inr (.inl h))))))
  obtain ⟨xs, n3, hfn3, hdx3, hl3, hlen3, hfld3⟩ := DataW.trod_struct Tryz.underlying55 h3
  have k7 : Tryz.prog.cellsOf 53 = 1 := by kernel_rfl
  obtain ⟨z0, z1, z2, rfl⟩ : ∃ z0 z1 z2, xs = [z0, z1, z2] := by
    match xs, hlen3 with
    | [a, b, c], _ => exact ⟨a, b, c, rfl⟩
  have g0 : DataW.trod enc Tryz.prog w base spare held n3 53 (([c3, c4, c5].drop 0).take (Tryz.prog.cellsOf 53)) = some z0 := hfld3 0 _ rfl
  have g1 : DataW.trod enc Tryz.prog w base spare held n3 9 (([c3, c4, c5].drop 1).take (Tryz.prog.cellsOf 9)) = some z1 := hfld3 1 _ rfl
  have g2 : DataW.trod enc Tryz.prog w base spare held n3 9 (([c3, c4, c5].drop 2).take (Tryz.prog.cellsOf 9)) = some z2 := hfld3 2 _ rfl
  simp only [k7, k9, List.drop_zero, List.drop_succ_cons, List.take_succ_cons, List.take_zero] at g0 g1 g2
  obtain ⟨f, e3, _, wf⟩ := DataW.trod_int Tryz.underlying53 g0
  obtain ⟨xg, e4, hxg, _⟩ := DataW.trod_string Tryz.underlying9 g1
  obtain ⟨xh, e5, hxh, _⟩ := DataW.trod_string Tryz.underlying9 g2
  simp at e3 e4 e5
  subst e3 e4 e5
  obtain ⟨f0, f1⟩ := u32_range wf
  obtain ⟨xf, rfl⟩ := Int.eq_ofNat_of_zero_le f0
  have hwx : ∀ y, (y ∈ DataW.weights (H := H) Tryz.prog 9 z1.1 ∨ y ∈ DataW.weights (H := H) Tryz.prog 9 z2.1) → y ≤ 140737488351232 := fun y hy => hw2 y (.inr (.inl (by
    rw [hdx3]
    simp only [DataW.weights, Tryz.underlying55, DataW.weightsEach, List.map_cons, List.map_nil, List.mem_append]
    rcases hy with h | h
    · exact .inr (.inl h)
    · exact .inr (.inr (.inl h)))))
  have hz1 : s.size ≤ 140737488351232 := by
    refine hw2 s.size (.inl ?_)
    rw [hs]
    simp [DataW.weights]
  have hz2 : xg.size ≤ 140737488351232 := by
    refine hwx xg.size (.inl ?_)
    rw [hxg]
    simp [DataW.weights]
  have hz3 : xh.size ≤ 140737488351232 := by
    refine hwx xh.size (.inr ?_)
    rw [hxh]
    simp [DataW.weights]
  obtain ⟨A1, q1, l1, hc6, hP⟩ := open_puts h4 (fun y hy => hw2 y (.inr (.inr (.inl hy))))
  obtain ⟨A2, q2, l2, hc7, hR⟩ := open_refs h5 (fun y hy => hw2 y (.inr (.inr (.inr hy))))
  simp only [List.cons.injEq, and_true] at hc6 hc7
  subst hc6 hc7
  exact ⟨⟨k, s, m, xf, xg, xh, A1, q1, l1, A2, q2, l2⟩, rfl, by simp only []; omega, hz1, by simp only []; omega, by simp only []; omega, hz2, hz3, hP, hR⟩
end

end Go.Proofs.YtpmafabphlejeaaGreat

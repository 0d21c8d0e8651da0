/-
  How arguments are opened that are a frame, and a row of frames.
  Conditions: none.
-/
import Derived.Test.YtocankfabgjjmaaRowkit
import Derived.Test.YtocankfabgjjmaaFrA
namespace Go.Proofs.Ytocankfabgjjmaa
open Go.ChangeShapes Go.WideShapes Go.ChangeAt Go.RowKit
open Go.ChangeMaps (open_string shut_string)
set_option linter.unusedVariables false
set_option linter.unusedSimpArgs false

theorem f_u16_range {b : Int} (h : (Lit.int .u16 b).wf = true) : 0 ≤ b ∧ b < 65536 := by
  simp only [Lit.wf, IntKind.min, IntKind.max, IntKind.signed, IntKind.bits, Bool.and_eq_true, decide_eq_true_eq] at h
  simp at h
  omega
theorem f_weightsAll_mem {H : Type} {P : Program} {e : TypeId} {x : Nat} : ∀ {l : List (DataW H)} {d : DataW H}, d ∈ l → x ∈ DataW.weights P e d → x ∈ DataW.weightsAll P e l
  | y :: l, d, hd, hx => by
    rw [DataW.weightsAll, List.mem_append]
    rcases List.mem_cons.1 hd with rfl | hd
    · exact .inl hx
    · exact .inr (f_weightsAll_mem hd hx)

section
variable {H : Type} {enc : TypeId × Value → H} {w : World} {base : Nat} {spare : Nat → Bool} {held : Bool}

/-- A slice's first elements, each with its cells. -/
theorem f_open_first {t e : TypeId} (ht : Try.prog.underlying t = some (.slice e)) {fuel : Nat} {cs : List Value} {x : DataW H × List MemPlace} (h : DataW.trod enc Try.prog w base spare held fuel t cs = some x) :
    cs = [.slice none 0 0] ∨ ∃ (a : Addr) (len cap n : Nat) (elems rest : List (DataW H × List MemPlace)), fuel = n + 1 ∧ cs = [.slice (some a) len cap] ∧ len ≤ cap ∧ cap ≤ maxLen ∧ elems.length = len ∧ x.1 = .slice (elems.map (·.1)) (rest.map (·.1)) ∧
      ∀ i (hi : i < elems.length), ∃ cs', cs'.length = Try.prog.cellsOf e ∧ (∀ j, j < Try.prog.cellsOf e → w.cell? ((a.add (i * Try.prog.cellsOf e)).add j) = cs'[j]?) ∧ DataW.trod enc Try.prog w base spare held n e cs' = some elems[i] := by
  rcases DataW.trod_slice ht h with ⟨h0, _⟩ | ⟨a, len, cap, elems, rest, n, hf, rfl, rfl, _, hl, hm, hlen, hel, _⟩
  · exact .inl h0
  · refine .inr ⟨a, len, cap, n, elems, rest, hf, rfl, hl, hm, hlen, rfl, fun i hi => ?_⟩
    have h1 := hel i (by omega)
    rw [List.getElem?_eq_getElem hi] at h1
    obtain ⟨cs', h2, h3⟩ := Option.bind_eq_some_iff.1 h1
    obtain ⟨_, h4, h5⟩ := World.cells?_some h2
    exact ⟨cs', h4, h5, h3⟩

set_option maxRecDepth 100000 in
/-- A frame's cells. -/
theorem open_fr {fuel : Nat} {cs : List Value} {x : DataW H × List MemPlace} (h : DataW.trod enc Try.prog w base spare held fuel 30 cs = some x) (hw : ∀ y, y ∈ DataW.weights (H := H) Try.prog 30 x.1 → y ≤ 140737488351232) : ∃ f : Fr, f.ok ∧ cs = f.vs := by
  obtain ⟨xs, n, hfn, rfl, hl, hlen, hf⟩ := DataW.trod_struct Try.underlying30 h
  have hC : Try.prog.cellsOf 30 = 8 := by kernel_rfl
  have k4 : Try.prog.cellsOf 4 = 1 := by kernel_rfl
  have k5 : Try.prog.cellsOf 5 = 1 := by kernel_rfl
  have k42 : Try.prog.cellsOf 28 = 1 := by kernel_rfl
  have k9 : Try.prog.cellsOf 9 = 1 := by kernel_rfl
  rw [hC] at hl
  obtain ⟨c0, c1, c2, c3, c4, c5, c6, c7, rfl⟩ : ∃ c0 c1 c2 c3 c4 c5 c6 c7, cs = [c0, c1, c2, c3, c4, c5, c6, c7] := by
    match cs, hl with
    | [a, b, c, d, e, f, g, h], _ => exact ⟨a, b, c, d, e, f, g, h, rfl⟩
  obtain ⟨y0, y1, y2, y3, y4, y5, y6, y7, rfl⟩ : ∃ y0 y1 y2 y3 y4 y5 y6 y7, xs = [y0, y1, y2, y3, y4, y5, y6, y7] := by
    match xs, hlen with
    | [a, b, c, d, e, f, g, h], _ => exact ⟨a, b, c, d, e, f, g, h, rfl⟩
  have h0 : DataW.trod enc Try.prog w base spare held n 4 (([c0, c1, c2, c3, c4, c5, c6, c7].drop 0).take (Try.prog.cellsOf 4)) = some y0 := hf 0 _ rfl
  have h1 : DataW.trod enc Try.prog w base spare held n 4 (([c0, c1, c2, c3, c4, c5, c6, c7].drop 1).take (Try.prog.cellsOf 4)) = some y1 := hf 1 _ rfl
  have h2 : DataW.trod enc Try.prog w base spare held n 4 (([c0, c1, c2, c3, c4, c5, c6, c7].drop 2).take (Try.prog.cellsOf 4)) = some y2 := hf 2 _ rfl
  have h3 : DataW.trod enc Try.prog w base spare held n 4 (([c0, c1, c2, c3, c4, c5, c6, c7].drop 3).take (Try.prog.cellsOf 4)) = some y3 := hf 3 _ rfl
  have h4 : DataW.trod enc Try.prog w base spare held n 5 (([c0, c1, c2, c3, c4, c5, c6, c7].drop 4).take (Try.prog.cellsOf 5)) = some y4 := hf 4 _ rfl
  have h5 : DataW.trod enc Try.prog w base spare held n 5 (([c0, c1, c2, c3, c4, c5, c6, c7].drop 5).take (Try.prog.cellsOf 5)) = some y5 := hf 5 _ rfl
  have h6 : DataW.trod enc Try.prog w base spare held n 28 (([c0, c1, c2, c3, c4, c5, c6, c7].drop 6).take (Try.prog.cellsOf 28)) = some y6 := hf 6 _ rfl
  have h7 : DataW.trod enc Try.prog w base spare held n 9 (([c0, c1, c2, c3, c4, c5, c6, c7].drop 7).take (Try.prog.cellsOf 9)) = some y7 := hf 7 _ rfl
  simp only [k4, k5, k42, k9, List.drop_zero, List.drop_succ_cons, List.take_succ_cons, List.take_zero] at h0 h1 h2 h3 h4 h5 h6 h7
  obtain ⟨a, e0, _⟩ := DataW.trod_bool Try.underlying4 h0
  obtain ⟨b, e1, _⟩ := DataW.trod_bool Try.underlying4 h1
  obtain ⟨c, e2, _⟩ := DataW.trod_bool Try.underlying4 h2
  obtain ⟨d, e3, _⟩ := DataW.trod_bool Try.underlying4 h3
  obtain ⟨t, e4, _, wt⟩ := DataW.trod_int Try.underlying5 h4
  obtain ⟨k, e5, _, wk⟩ := DataW.trod_int Try.underlying5 h5
  obtain ⟨ch, e6, _, wc⟩ := DataW.trod_int Try.underlying28 h6
  obtain ⟨p, e7, hp, _⟩ := DataW.trod_string Try.underlying9 h7
  simp at e0 e1 e2 e3 e4 e5 e6 e7
  subst e0 e1 e2 e3 e4 e5 e6 e7
  obtain ⟨t0, t1⟩ := u8_range wt
  obtain ⟨k0, k1⟩ := u8_range wk
  obtain ⟨q0, q1⟩ := f_u16_range wc
  obtain ⟨T, rfl⟩ := Int.eq_ofNat_of_zero_le t0
  obtain ⟨K, rfl⟩ := Int.eq_ofNat_of_zero_le k0
  obtain ⟨C, rfl⟩ := Int.eq_ofNat_of_zero_le q0
  simp only [List.map_cons, List.map_nil] at hw
  have hsz : p.size ≤ 140737488351232 := by
    refine hw p.size ?_
    simp only [DataW.weights, Try.underlying30, DataW.weightsEach, List.map_cons, List.map_nil, List.mem_append]
    refine .inr (.inr (.inr (.inr (.inr (.inr (.inr (.inl ?_)))))))
    rw [hp]
    simp [DataW.weights]
  exact ⟨⟨a, b, c, d, T, K, C, p⟩, ⟨by simp only []; omega, by simp only []; omega, by simp only []; omega, hsz⟩, rfl⟩

set_option maxRecDepth 100000 in
/-- A frame that came in. -/
theorem open_frame {r : Reach} {b0 : Nat} {v : Value} {d : DataW H} {p : List MemPlace} (hv : Value.okWide Try.prog w r b0 30 v) (h : DataW.Trod enc Try.prog w base spare held 30 v d p)
    {ts : List TypeId} {ds : List (DataW H)} (hsz : (DataW.weightsEach Try.prog ts ds).all (· ≤ reachBytes) = true) (j : Nat) (hj : ts[j]? = some 30) (hd : ds[j]? = some d) :
    ∃ f : Fr, v = .agg f.vs.toArray ∧ f.ok := by
  have hb : reachBytes = 140737488351232 := by decide
  have hw : ∀ x, x ∈ DataW.weights (H := H) Try.prog 30 d → x ≤ 140737488351232 := fun x hx => by
    have := List.all_eq_true.1 hsz _ (DataW.weights_mem_each hj hd x hx)
    rw [← hb]
    simpa using this
  obtain ⟨fuel, hf⟩ := h
  obtain ⟨f, h1, h2⟩ := open_fr hf hw
  obtain ⟨cs, rfl, _⟩ := okWide_struct Try.underlying30 hv
  refine ⟨f, ?_, h1⟩
  have h2 : cs.toList = f.vs := h2
  rw [← h2]

set_option maxRecDepth 100000 in
/-- A row of frames that came in. -/
theorem open_frames {r : Reach} {b0 : Nat} {v : Value} {d : DataW H} {p : List MemPlace} (hv : Value.okWide Try.prog w r b0 22 v) (h : DataW.Trod enc Try.prog w base spare held 22 v d p)
    {ts : List TypeId} {ds : List (DataW H)} (hsz : (DataW.weightsEach Try.prog ts ds).all (· ≤ reachBytes) = true) (j : Nat) (hj : ts[j]? = some 22) (hd : ds[j]? = some d) :
    ∃ (A : Option Addr) (c d0 : Nat) (l : List Fr), v = .slice A l.length c ∧ ShowsG frC w d0 (.slice A l.length c) l ∧ l.length ≤ 5864062014636 ∧ ∀ f ∈ l, f.ok := by
  have hb : reachBytes = 140737488351232 := by decide
  have hw : ∀ x, x ∈ DataW.weights (H := H) Try.prog 22 d → x ≤ 140737488351232 := fun x hx => by
    have := List.all_eq_true.1 hsz _ (DataW.weights_mem_each hj hd x hx)
    rw [← hb]
    simpa using this
  have hC : Try.prog.cellsOf 30 = 8 := by kernel_rfl
  have hB : Try.prog.bytesOf 30 = 24 := by kernel_rfl
  obtain ⟨fuel, hf⟩ := h
  obtain ⟨A, n, c, rfl⟩ := okWide_slice Try.underlying22 hv
  rcases f_open_first Try.underlying22 hf with h0 | ⟨a, len, cap, n', elems, rest, _, h0, hl, hm, hlen, hx, hel⟩
  · simp [Value.cells] at h0
    obtain ⟨rfl, rfl, rfl⟩ := h0
    exact ⟨none, 0, 0, [], rfl, ShowsG.nil_ _ _ _, by simp, fun y hy => absurd hy (by simp)⟩
  · simp [Value.cells] at h0
    obtain ⟨rfl, rfl, rfl⟩ := h0
    simp only [] at hx
    rw [hx] at hw
    simp only [DataW.weights, Try.underlying22, List.mem_cons, List.mem_append] at hw
    have hn := hw _ (.inl rfl)
    rw [hB] at hn
    simp only [List.length_map] at hn
    have each : ∀ i, ∃ f : Fr, ∀ (hi : i < elems.length), f.ok ∧ ∀ q, q < 8 → w.cell? ((a.add (i * 8)).add q) = (f.vs)[q]? := fun i => by
      by_cases hi : i < elems.length
      · obtain ⟨cs', h1, h2, h3⟩ := hel i hi
        rw [hC] at h1 h2
        obtain ⟨f, g1, rfl⟩ := open_fr h3 (fun y hy => hw y (.inr (.inl (f_weightsAll_mem (List.mem_map.2 ⟨elems[i], List.getElem_mem hi, rfl⟩) hy))))
        exact ⟨f, fun _ => ⟨g1, h2⟩⟩
      · exact ⟨⟨false, false, false, false, 0, 0, 0, ⟨#[]⟩⟩, fun h => absurd h hi⟩
    obtain ⟨l, hll⟩ : ∃ l : List Fr, l = (List.range n).map fun i => (each i).choose := ⟨_, rfl⟩
    have hlen' : l.length = n := by rw [hll]; simp
    have hget : ∀ i (hi : i < l.length), l[i].ok ∧ ∀ q, q < 8 → w.cell? ((a.add (i * 8)).add q) = (l[i].vs)[q]? := fun i hi => by
      have := (each i).choose_spec (by omega)
      simpa [hll] using this
    clear hll each hel
    subst hlen'
    refine ⟨some a, c, a.block, l, rfl, ⟨some a, c, rfl, hl, hm, fun hp => ?_⟩, by omega, fun y hy => ?_⟩
    · have h0 := (hget 0 hp).2 0 (by decide)
      obtain ⟨b, o, spot⟩ := a
      have hs : spot = none := by
        have : w.cell? (((⟨b, o, spot⟩ : Addr).add (0 * 8)).add 0) = some (.bool l[0].a) := h0
        have := World.cell?_spot this
        simpa [Addr.add] using this
      subst hs
      have h00 : w.cell? (((⟨b, o, none⟩ : Addr).add (0 * 8)).add 0) = some (.bool l[0].a) := h0
      rw [add_plain', add_plain'] at h00
      refine ⟨o, rfl, World.block_lt_of_cell? w _ h00, fun i hi q hq => ?_⟩
      have hq8 : q < 8 := hq
      have := (hget i hi).2 q hq8
      rw [add_plain', add_plain'] at this
      show w.cell? ⟨b, o + (i * 8 + q), none⟩ = _
      rw [← Nat.add_assoc, this]
      rfl
    · obtain ⟨i, hi, rfl⟩ := List.getElem_of_mem hy
      exact (hget i hi).1
end

end Go.Proofs.Ytocankfabgjjmaa

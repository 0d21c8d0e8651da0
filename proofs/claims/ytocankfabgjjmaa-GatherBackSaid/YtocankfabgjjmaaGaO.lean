/-
  How arguments are opened that are an assembly.
  Conditions: none.
-/
import Derived.Test.YtocankfabgjjmaaFrO
import Derived.Test.YtocankfabgjjmaaGaA
namespace Go.Proofs.Ytocankfabgjjmaa
open Go.ChangeShapes Go.WideShapes Go.ChangeAt Go.RowKit
open Go.ChangeMaps (open_string shut_string)
set_option linter.unusedVariables false
set_option linter.unusedSimpArgs false

/-- A segment's numbers are of their kinds, its payload is not greater than may come in. -/
def Sg.ok (s : Sg) : Prop := s.t < 256 ∧ s.p.size ≤ 140737488351232

section
variable {H : Type} {enc : TypeId × Value → H} {w : World} {base : Nat} {spare : Nat → Bool} {held : Bool}

set_option maxRecDepth 100000 in
/-- A segment's cells. -/
theorem open_sg {fuel : Nat} {cs : List Value} {x : DataW H × List MemPlace} (h : DataW.trod enc Try.prog w base spare held fuel 46 cs = some x) (hw : ∀ y, y ∈ DataW.weights (H := H) Try.prog 46 x.1 → y ≤ 140737488351232) : ∃ s : Sg, s.ok ∧ cs = sgC.enc s := by
  obtain ⟨xs, n, hfn, rfl, hl, hlen, hf⟩ := DataW.trod_struct Try.underlying46 h
  have hC : Try.prog.cellsOf 46 = 2 := by kernel_rfl
  have k5 : Try.prog.cellsOf 5 = 1 := by kernel_rfl
  have k9 : Try.prog.cellsOf 9 = 1 := by kernel_rfl
  rw [hC] at hl
  obtain ⟨c0, c1, rfl⟩ : ∃ c0 c1, cs = [c0, c1] := by
    match cs, hl with
    | [a, b], _ => exact ⟨a, b, rfl⟩
  obtain ⟨y0, y1, rfl⟩ : ∃ y0 y1, xs = [y0, y1] := by
    match xs, hlen with
    | [a, b], _ => exact ⟨a, b, rfl⟩
  have h0 : DataW.trod enc Try.prog w base spare held n 5 (([c0, c1].drop 0).take (Try.prog.cellsOf 5)) = some y0 := hf 0 _ rfl
  have h1 : DataW.trod enc Try.prog w base spare held n 9 (([c0, c1].drop 1).take (Try.prog.cellsOf 9)) = some y1 := hf 1 _ rfl
  simp only [k5, k9, List.drop_zero, List.drop_succ_cons, List.take_succ_cons, List.take_zero] at h0 h1
  obtain ⟨t, e0, _, wt⟩ := DataW.trod_int Try.underlying5 h0
  obtain ⟨p, e1, hp, _⟩ := DataW.trod_string Try.underlying9 h1
  simp at e0 e1
  subst e0 e1
  obtain ⟨t0, t1⟩ := u8_range wt
  obtain ⟨T, rfl⟩ := Int.eq_ofNat_of_zero_le t0
  simp only [List.map_cons, List.map_nil] at hw
  have hsz : p.size ≤ 140737488351232 := by
    refine hw p.size ?_
    simp only [DataW.weights, Try.underlying46, DataW.weightsEach, List.map_cons, List.map_nil, List.mem_append]
    refine .inr (.inl ?_)
    rw [hp]
    simp [DataW.weights]
  exact ⟨⟨T, p⟩, ⟨by simp only []; omega, hsz⟩, rfl⟩

set_option maxRecDepth 100000 in
/-- A row of segments, by its cells. -/
theorem open_segs {fuel : Nat} {cs : List Value} {x : DataW H × List MemPlace} (hf : DataW.trod enc Try.prog w base spare held fuel 32 cs = some x) (hw : ∀ y, y ∈ DataW.weights (H := H) Try.prog 32 x.1 → y ≤ 140737488351232) :
    ∃ (A : Option Addr) (c d0 : Nat) (l : List Sg), cs = [.slice A l.length c] ∧ ShowsG sgC w d0 (.slice A l.length c) l ∧ l.length ≤ 5864062014636 ∧ ∀ s ∈ l, s.ok := by
  have hC : Try.prog.cellsOf 46 = 2 := by kernel_rfl
  have hB : Try.prog.bytesOf 46 = 24 := by kernel_rfl
  rcases f_open_first Try.underlying32 hf with h0 | ⟨a, len, cap, n', elems, rest, _, h0, hl, hm, hlen, hx, hel⟩
  · exact ⟨none, 0, 0, [], h0, ShowsG.nil_ _ _ _, by simp, fun y hy => absurd hy (by simp)⟩
  · rw [hx] at hw
    simp only [DataW.weights, Try.underlying32, List.mem_cons, List.mem_append] at hw
    have hn := hw _ (.inl rfl)
    rw [hB] at hn
    simp only [List.length_map] at hn
    have each : ∀ i, ∃ f : Sg, ∀ (hi : i < elems.length), f.ok ∧ ∀ q, q < 2 → w.cell? ((a.add (i * 2)).add q) = (sgC.enc f)[q]? := fun i => by
      by_cases hi : i < elems.length
      · obtain ⟨cs', h1, h2, h3⟩ := hel i hi
        rw [hC] at h1 h2
        obtain ⟨f, g1, rfl⟩ := open_sg h3 (fun y hy => hw y (.inr (.inl (f_weightsAll_mem (List.mem_map.2 ⟨elems[i], List.getElem_mem hi, rfl⟩) hy))))
        exact ⟨f, fun _ => ⟨g1, h2⟩⟩
      · exact ⟨⟨0, ⟨#[]⟩⟩, fun h => absurd h hi⟩
    obtain ⟨l, hll⟩ : ∃ l : List Sg, l = (List.range len).map fun i => (each i).choose := ⟨_, rfl⟩
    have hlen' : l.length = len := by rw [hll]; simp
    have hget : ∀ i (hi : i < l.length), l[i].ok ∧ ∀ q, q < 2 → w.cell? ((a.add (i * 2)).add q) = (sgC.enc l[i])[q]? := fun i hi => by
      have := (each i).choose_spec (by omega)
      simpa [hll] using this
    clear hll each hel
    subst hlen'
    refine ⟨some a, cap, a.block, l, h0, ⟨some a, cap, rfl, hl, hm, fun hp => ?_⟩, by omega, fun y hy => ?_⟩
    · have h0 := (hget 0 hp).2 0 (by decide)
      obtain ⟨b, o, spot⟩ := a
      have hs : spot = none := by
        have : w.cell? (((⟨b, o, spot⟩ : Addr).add (0 * 2)).add 0) = some (.int .u8 (l[0].t : Nat)) := h0
        have := World.cell?_spot this
        simpa [Addr.add] using this
      subst hs
      have h00 : w.cell? (((⟨b, o, none⟩ : Addr).add (0 * 2)).add 0) = some (.int .u8 (l[0].t : Nat)) := h0
      rw [add_plain', add_plain'] at h00
      refine ⟨o, rfl, World.block_lt_of_cell? w _ h00, fun i hi q hq => ?_⟩
      have hq2 : q < 2 := hq
      have := (hget i hi).2 q hq2
      rw [add_plain', add_plain'] at this
      show w.cell? ⟨b, o + (i * 2 + q), none⟩ = _
      rw [← Nat.add_assoc, this]
    · obtain ⟨i, hi, rfl⟩ := List.getElem_of_mem hy
      exact (hget i hi).1

set_option maxRecDepth 100000 in
/-- An assembly that came in. -/
theorem open_asm {r : Reach} {b0 : Nat} {v : Value} {d : DataW H} {p : List MemPlace} (hv : Value.okWide Try.prog w r b0 34 v) (h : DataW.Trod enc Try.prog w base spare held 34 v d p)
    {ts : List TypeId} {ds : List (DataW H)} (hsz : (DataW.weightsEach Try.prog ts ds).all (· ≤ reachBytes) = true) (j : Nat) (hj : ts[j]? = some 34) (hd : ds[j]? = some d) :
    ∃ (ch k : Nat) (A : Option Addr) (c d0 : Nat) (l : List Sg), v = asV ch k (.slice A l.length c) ∧ ch < 65536 ∧ k < 256 ∧ ShowsG sgC w d0 (.slice A l.length c) l ∧ l.length ≤ 5864062014636 ∧ ∀ s ∈ l, s.ok := by
  have hb : reachBytes = 140737488351232 := by decide
  have hw : ∀ x, x ∈ DataW.weights (H := H) Try.prog 34 d → x ≤ 140737488351232 := fun x hx => by
    have := List.all_eq_true.1 hsz _ (DataW.weights_mem_each hj hd x hx)
    rw [← hb]
    simpa using this
  obtain ⟨fuel, hf⟩ := h
  obtain ⟨cs0, rfl, _⟩ := okWide_struct Try.underlying34 hv
  have hf : DataW.trod enc Try.prog w base spare held fuel 34 cs0.toList = some (d, p) := hf
  obtain ⟨xs, n, hfn, hxx, hl, hlen, hff⟩ := DataW.trod_struct Try.underlying34 hf
  have hC : Try.prog.cellsOf 34 = 3 := by kernel_rfl
  have k5 : Try.prog.cellsOf 5 = 1 := by kernel_rfl
  have k38 : Try.prog.cellsOf 28 = 1 := by kernel_rfl
  have k50 : Try.prog.cellsOf 32 = 1 := by kernel_rfl
  rw [hC] at hl
  obtain ⟨c0, c1, c2, hcs⟩ : ∃ c0 c1 c2, cs0.toList = [c0, c1, c2] := by
    generalize cs0.toList = cs at hl
    match cs, hl with
    | [a, b, c], _ => exact ⟨a, b, c, rfl⟩
  obtain ⟨y0, y1, y2, rfl⟩ : ∃ y0 y1 y2, xs = [y0, y1, y2] := by
    match xs, hlen with
    | [a, b, c], _ => exact ⟨a, b, c, rfl⟩
  rw [hcs] at hff
  have h0 : DataW.trod enc Try.prog w base spare held n 28 (([c0, c1, c2].drop 0).take (Try.prog.cellsOf 28)) = some y0 := hff 0 _ rfl
  have h1 : DataW.trod enc Try.prog w base spare held n 5 (([c0, c1, c2].drop 1).take (Try.prog.cellsOf 5)) = some y1 := hff 1 _ rfl
  have h2 : DataW.trod enc Try.prog w base spare held n 32 (([c0, c1, c2].drop 2).take (Try.prog.cellsOf 32)) = some y2 := hff 2 _ rfl
  simp only [k5, k38, k50, List.drop_zero, List.drop_succ_cons, List.take_succ_cons, List.take_zero] at h0 h1 h2
  obtain ⟨ch, e0, _, wc⟩ := DataW.trod_int Try.underlying28 h0
  obtain ⟨k, e1, _, wk⟩ := DataW.trod_int Try.underlying5 h1
  simp at e0 e1
  subst e0 e1
  obtain ⟨q0, q1⟩ := f_u16_range wc
  obtain ⟨k0, k1⟩ := u8_range wk
  obtain ⟨C, rfl⟩ := Int.eq_ofNat_of_zero_le q0
  obtain ⟨K, rfl⟩ := Int.eq_ofNat_of_zero_le k0
  have hd : d = _ := congrArg Prod.fst hxx
  rw [hd] at hw
  simp only [List.map_cons, List.map_nil] at hw
  obtain ⟨A, c, d0, l, e2, hsh, hll, hok⟩ := open_segs h2 (fun y hy => hw y (by
    simp only [DataW.weights, Try.underlying34, DataW.weightsEach, List.map_cons, List.map_nil, List.mem_append]
    exact .inr (.inr (.inl hy))))
  simp at e2
  subst e2
  refine ⟨C, K, A, c, d0, l, ?_, by omega, by omega, hsh, hll, hok⟩
  unfold asV
  congr 1
  apply Array.ext'
  exact hcs
end

end Go.Proofs.Ytocankfabgjjmaa

/-
  What is open where the frames of two assemblies came, in whatever order; the opening of a row of turns.
  Conditions: none.
-/
import Derived.Test.YtocankfabgjjmaaGaV
import Derived.Test.YtocankfabgjjmaaFrO
namespace Go.Proofs.Ytocankfabgjjmaa
open Go.RowKit Go.WideShapes Go.ChangeAt
set_option linter.unusedVariables false
set_option linter.unusedSimpArgs false

theorem getM_put_same {α : Type} (q : Plc) (v : α) : ∀ L : List (Plc × α), getM (putM L q v) q = some v
  | [] => by simp [putM, getM]
  | x :: r => by
    simp only [putM]
    by_cases h : x.1 = q
    · rw [if_pos h]; simp [getM]
    · rw [if_neg h]; simp only [getM]; rw [if_neg h]; exact getM_put_same q v r
theorem getM_put_ne {α : Type} {q q' : Plc} (hn : q ≠ q') (v : α) : ∀ L : List (Plc × α), getM (putM L q v) q' = getM L q'
  | [] => by simp [putM, getM, hn]
  | x :: r => by
    simp only [putM]
    by_cases h : x.1 = q
    · rw [if_pos h]
      simp only [getM]
      rw [if_neg hn, if_neg (by rw [h]; exact hn)]
    · rw [if_neg h]
      simp only [getM]
      rw [getM_put_ne hn v r]
theorem getM_del_ne {α : Type} {q q' : Plc} (hn : q ≠ q') : ∀ L : List (Plc × α), getM (delM L q) q' = getM L q'
  | [] => rfl
  | x :: r => by
    simp only [delM]
    by_cases h : x.1 = q
    · rw [if_pos h]
      simp only [getM]
      rw [if_neg (by rw [h]; exact hn)]
    · rw [if_neg h]
      simp only [getM]
      rw [getM_del_ne hn r]
theorem getM_del_same {α : Type} (q : Plc) {L : List (Plc × α)} (h : (L.map (·.1)).Nodup) : getM (delM L q) q = none := getM_none (delM_ne h)

/-- What is open at two places, and nowhere else. -/
structure Two (pa pb : Plc) (oa ob : Option Pt) (M : List (Plc × Pt)) : Prop where
  nodup : (M.map (·.1)).Nodup
  keys : ∀ x ∈ M, x.1 = pa ∨ x.1 = pb
  ga : getM M pa = oa
  gb : getM M pb = ob

theorem Two.nil (pa pb : Plc) : Two pa pb none none [] := ⟨by simp, fun x h => (by cases h), rfl, rfl⟩
theorem Two.swap {pa pb : Plc} {oa ob : Option Pt} {M : List (Plc × Pt)} (h : Two pa pb oa ob M) : Two pb pa ob oa M := ⟨h.nodup, fun x hx => (h.keys x hx).symm, h.gb, h.ga⟩
theorem Two.put {pa pb : Plc} {oa ob : Option Pt} {M : List (Plc × Pt)} (h : Two pa pb oa ob M) (hn : pa ≠ pb) (p : Pt) : Two pa pb (some p) ob (putM M pa p) :=
  ⟨putM_nodup h.nodup, fun x hx => by
    rcases mem_putM hx with rfl | ⟨hx, _⟩
    · exact .inl rfl
    · exact h.keys x hx, getM_put_same _ _ _, by rw [getM_put_ne hn]; exact h.gb⟩
theorem Two.del {pa pb : Plc} {oa ob : Option Pt} {M : List (Plc × Pt)} (h : Two pa pb oa ob M) (hn : pa ≠ pb) : Two pa pb none ob (delM M pa) :=
  ⟨delM_nodup h.nodup, fun x hx => h.keys x (delM_sub.subset hx), getM_del_same _ h.nodup, by rw [getM_del_ne hn]; exact h.gb⟩
theorem Two.none_ {pa pb : Plc} {M : List (Plc × Pt)} (h : Two pa pb none none M) : M = [] := by
  cases M with
  | nil => rfl
  | cons x r =>
    exfalso
    rcases h.keys x (by simp) with hx | hx
    · have := h.ga
      simp [getM, hx] at this
    · have := h.gb
      simp [getM, hx] at this

theorem run_feed2 {ch k : Nat} {o ob : Option Pt} {pb : Plc} {M : List (Plc × Pt)} {f : Fr} {r : List Fr} {A : List Sg} (hM : Two (ch, k) pb o ob M) (hn : (ch, k) ≠ pb) (hch : f.ch = ch) (hk : f.k = k) (h : runAll o (f :: r) A) :
    (r = [] → ∃ M', feedO (some M) f = (⟨ch, k, A, true, 0⟩, some M') ∧ Two (ch, k) pb none ob M') ∧
      (r ≠ [] → ∃ p M', feedO (some M) f = (ans0 0, some M') ∧ runAll (some p) r A ∧ Two (ch, k) pb (some p) ob M') := by
  have hq : f.plc = (ch, k) := by rw [← hch, ← hk]; rfl
  cases r with
  | nil =>
    refine ⟨fun _ => ⟨delM M (ch, k), ?_, hM.del hn⟩, fun h => absurd rfl h⟩
    obtain ⟨h1, h2, h3, h4⟩ := h
    show feedM M f = _
    unfold feedM
    simp only [hq, hM.ga]
    rw [if_neg (by omega), if_pos ⟨h2, h3⟩, h4, hch, hk]
  | cons g r =>
    refine ⟨fun h => (by cases h), fun _ => ⟨(o.getD pt0).add f, putM M (ch, k) ((o.getD pt0).add f), ?_, h.2.2, hM.put hn _⟩⟩
    show feedM M f = _
    unfold feedM
    simp only [hq, hM.ga]
    rw [if_neg (by have := h.1; omega), if_neg h.2.1]

/-- How a turn lies: one cell. -/
def boC : Code Bool := { enc := fun b => [.bool b], sz := 1, len := fun _ => rfl, one := fun x u hu => by simp at hu; rcases hu with rfl; rfl, pos := by omega }

section
variable {H : Type} {enc : TypeId × Value → H} {w : World} {base : Nat} {spare : Nat → Bool} {held : Bool}
set_option maxRecDepth 100000 in
/-- A row of turns that came in. -/
theorem open_turns {r : Reach} {b0 : Nat} {v : Value} {d : DataW H} {p : List MemPlace} (hv : Value.okWide Try.prog w r b0 43 v) (h : DataW.Trod enc Try.prog w base spare held 43 v d p)
    {ts : List TypeId} {ds : List (DataW H)} (hsz : (DataW.weightsEach Try.prog ts ds).all (· ≤ reachBytes) = true) (j : Nat) (hj : ts[j]? = some 43) (hd : ds[j]? = some d) :
    ∃ (A : Option Addr) (c d0 : Nat) (l : List Bool), v = .slice A l.length c ∧ ShowsG boC w d0 (.slice A l.length c) l ∧ l.length ≤ 140737488351232 := by
  have hb : reachBytes = 140737488351232 := by decide
  have hw : ∀ x, x ∈ DataW.weights (H := H) Try.prog 43 d → x ≤ 140737488351232 := fun x hx => by
    have := List.all_eq_true.1 hsz _ (DataW.weights_mem_each hj hd x hx)
    rw [← hb]
    simpa using this
  have hC : Try.prog.cellsOf 49 = 1 := by kernel_rfl
  have hB : Try.prog.bytesOf 49 = 1 := by kernel_rfl
  obtain ⟨fuel, hf⟩ := h
  obtain ⟨A, n, c, rfl⟩ := okWide_slice Try.underlying43 hv
  rcases f_open_first Try.underlying43 hf with h0 | ⟨a, len, cap, n', elems, rest, _, h0, hl, hm, hlen, hx, hel⟩
  · simp [Value.cells] at h0
    obtain ⟨rfl, rfl, rfl⟩ := h0
    exact ⟨none, 0, 0, [], rfl, ShowsG.nil_ _ _ _, by simp⟩
  · simp [Value.cells] at h0
    obtain ⟨rfl, rfl, rfl⟩ := h0
    simp only [] at hx
    rw [hx] at hw
    simp only [DataW.weights, Try.underlying43, List.mem_cons, List.mem_append] at hw
    have hn := hw _ (.inl rfl)
    rw [hB] at hn
    simp only [List.length_map] at hn
    have each : ∀ i, ∃ f : Bool, ∀ (hi : i < elems.length), w.cell? ((a.add (i * 1)).add 0) = some (.bool f) := fun i => by
      by_cases hi : i < elems.length
      · obtain ⟨cs', h1, h2, h3⟩ := hel i hi
        rw [hC] at h1 h2
        obtain ⟨f, e, _⟩ := DataW.trod_bool Try.underlying49 h3
        subst e
        exact ⟨f, fun _ => by have := h2 0 (by omega); simpa using this⟩
      · exact ⟨false, fun h => absurd h hi⟩
    obtain ⟨l, hll⟩ : ∃ l : List Bool, l = (List.range n).map fun i => (each i).choose := ⟨_, rfl⟩
    have hlen' : l.length = n := by rw [hll]; simp
    have hget : ∀ i (hi : i < l.length), w.cell? ((a.add (i * 1)).add 0) = some (.bool l[i]) := fun i hi => by
      have := (each i).choose_spec (by omega)
      simpa [hll] using this
    clear hll each hel
    subst hlen'
    refine ⟨some a, c, a.block, l, rfl, ⟨some a, c, rfl, hl, hm, fun hp => ?_⟩, by omega⟩
    have h0 := hget 0 hp
    obtain ⟨b, o, spot⟩ := a
    have hs : spot = none := by
      have := World.cell?_spot h0
      simpa [Addr.add] using this
    subst hs
    rw [add_plain', add_plain'] at h0
    refine ⟨o, rfl, World.block_lt_of_cell? w _ h0, fun i hi q hq => ?_⟩
    have hq1 : q = 0 := by have : q < 1 := hq; omega
    subst hq1
    have := hget i hi
    rw [add_plain', add_plain'] at this
    show w.cell? ⟨b, o + (i * 1 + 0), none⟩ = _
    rw [← Nat.add_assoc, this]
    rfl
end

end Go.Proofs.Ytocankfabgjjmaa

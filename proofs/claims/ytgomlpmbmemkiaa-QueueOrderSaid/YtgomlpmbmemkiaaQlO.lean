/-
  How arguments are opened that are a row of calls, of uint16 or of bools.
  Conditions: none.
-/
import Derived.Test.YtgomlpmbmemkiaaQlF
import Derived.Test.YtgomlpmbmemkiaaGenOpen
import Derived.Test.YtgomlpmbmemkiaaRowkit
namespace Go.Proofs.Ytgomlpmbmemkiaa
open Go.ChangeShapes Go.WideShapes Go.ChangeAt Go.RowKit
set_option linter.unusedVariables false
set_option linter.unusedSimpArgs false
set_option maxRecDepth 100000

theorem q_u16_range {b : Int} (h : (Lit.int .u16 b).wf = true) : 0 ≤ b ∧ b < 65536 := by
  simp only [Lit.wf, IntKind.min, IntKind.max, IntKind.signed, IntKind.bits, Bool.and_eq_true, decide_eq_true_eq] at h
  simp at h
  omega
section
variable {H : Type} {enc : TypeId × Value → H} {w : World} {base : Nat} {spare : Nat → Bool} {held : Bool}

/-- A row whose elements' cells are known one by one. -/
theorem open_rowC {α : Type} (C : Code α) (ok : α → Prop) (z : α) {s e : TypeId} (bytes : Nat) (hu : Try.prog.underlying s = some (.slice e)) (hC : Try.prog.cellsOf e = C.sz) (hB : Try.prog.bytesOf e = bytes)
    (h1 : ∀ {fuel : Nat} {cs : List Value} {x : DataW H × List MemPlace}, cs.length = C.sz → DataW.trod enc Try.prog w base spare held fuel e cs = some x → ∃ f : α, ok f ∧ cs = C.enc f)
    {r : Reach} {b0 : Nat} {v : Value} {d : DataW H} {p : List MemPlace} (hv : Value.okWide Try.prog w r b0 s v) (h : DataW.Trod enc Try.prog w base spare held s v d p)
    {ts : List TypeId} {ds : List (DataW H)} (hsz : (DataW.weightsEach Try.prog ts ds).all (· ≤ reachBytes) = true) (j : Nat) (hj : ts[j]? = some s) (hd : ds[j]? = some d) :
    ∃ (A : Option Addr) (c d0 : Nat) (l : List α), v = .slice A l.length c ∧ ShowsG C w d0 (.slice A l.length c) l ∧ l.length * bytes ≤ 140737488351232 ∧ ∀ y ∈ l, ok y := by
  have hb : reachBytes = 140737488351232 := by decide
  have hw : ∀ x, x ∈ DataW.weights (H := H) Try.prog s d → x ≤ 140737488351232 := fun x hx => by
    have := List.all_eq_true.1 hsz _ (DataW.weights_mem_each hj hd x hx)
    rw [← hb]
    simpa using this
  obtain ⟨fuel, hf⟩ := h
  obtain ⟨A, n, c, rfl⟩ := okWide_slice hu hv
  rcases DataW.trod_slice hu hf with ⟨h0, _⟩ | ⟨a, len, cap, elems, rest, n', hfu, h0, hx, _, hl, hm, hlen, hel, _⟩
  · simp [Value.cells] at h0
    obtain ⟨rfl, rfl, rfl⟩ := h0
    exact ⟨none, 0, 0, [], rfl, ShowsG.nil_ _ _ _, by simp, fun y hy => absurd hy (by simp)⟩
  · simp [Value.cells] at h0
    obtain ⟨rfl, rfl, rfl⟩ := h0
    have hd2 : d = _ := congrArg Prod.fst hx
    rw [hd2] at hw
    simp only [DataW.weights, hu, List.mem_cons, List.mem_append] at hw
    have hn := hw _ (.inl rfl)
    rw [hB] at hn
    simp only [List.length_map] at hn
    have each : ∀ i, ∃ f : α, ∀ (hi : i < elems.length), ok f ∧ ∀ q, q < C.sz → w.cell? ((a.add (i * C.sz)).add q) = (C.enc f)[q]? := fun i => by
      by_cases hi : i < elems.length
      · have h2 := hel i (by omega)
        rw [List.getElem?_eq_getElem hi] at h2
        obtain ⟨cs', h3, h4⟩ := Option.bind_eq_some_iff.1 h2
        obtain ⟨_, h5, h6⟩ := World.cells?_some h3
        rw [hC] at h5 h6
        obtain ⟨f, hok, rfl⟩ := h1 h5 h4
        exact ⟨f, fun _ => ⟨hok, h6⟩⟩
      · exact ⟨z, fun h => absurd h hi⟩
    obtain ⟨l, hll⟩ : ∃ l : List α, l = (List.range n).map fun i => (each i).choose := ⟨_, rfl⟩
    have hlen' : l.length = n := by rw [hll]; simp
    have hget : ∀ i (hi : i < l.length), ok l[i] ∧ ∀ q, q < C.sz → w.cell? ((a.add (i * C.sz)).add q) = (C.enc l[i])[q]? := fun i hi => by
      have := (each i).choose_spec (by omega)
      simpa [hll] using this
    clear hll each hel
    subst hlen'
    refine ⟨some a, c, a.block, l, rfl, ⟨some a, c, rfl, hl, hm, fun hp => ?_⟩, ?_, fun y hy => ?_⟩
    · have h0 := (hget 0 hp).2 0 C.pos
      rw [List.getElem?_eq_getElem (by rw [C.len]; exact C.pos)] at h0
      obtain ⟨b, o, spot⟩ := a
      have hs : spot = none := by
        have := World.cell?_spot h0
        simpa [Addr.add] using this
      subst hs
      have h00 := h0
      rw [add_plain', add_plain', Nat.zero_mul, Nat.add_zero] at h00
      refine ⟨o, rfl, World.block_lt_of_cell? w _ h00, fun i hi q hq => ?_⟩
      have := (hget i hi).2 q hq
      rw [add_plain', add_plain'] at this
      show w.cell? ⟨b, o + (i * C.sz + q), none⟩ = _
      rw [← Nat.add_assoc, this]
    · rw [hlen] at hn
      exact Nat.le_trans (Nat.mul_le_mul_right _ (Nat.le_add_right _ _)) hn
    · obtain ⟨i, hi, rfl⟩ := List.getElem_of_mem hy
      exact (hget i hi).1

section
variable {r : Reach} {b0 : Nat} {v : Value} {d : DataW H} {p : List MemPlace} {ts : List TypeId} {ds : List (DataW H)}
theorem open_u16s (hv : Value.okWide Try.prog w r b0 22 v) (h : DataW.Trod enc Try.prog w base spare held 22 v d p) (hsz : (DataW.weightsEach Try.prog ts ds).all (· ≤ reachBytes) = true) (j : Nat) (hj : ts[j]? = some 22) (hd : ds[j]? = some d) :
    ∃ (A : Option Addr) (c d0 : Nat) (l : List Nat), v = .slice A l.length c ∧ ShowsG (natC .u16) w d0 (.slice A l.length c) l ∧ l.length ≤ 1000000000000000 ∧ ∀ y ∈ l, y < 65536 := by
  obtain ⟨A, c, d0, l, h1, h2, h3, h4⟩ := open_rowC (natC .u16) (fun y => y < 65536) 0 2 Try.underlying22 (by kernel_rfl) (by kernel_rfl) (fun {_ cs _} hl h => by
    obtain ⟨t0, e0, _, w0⟩ := DataW.trod_int Try.underlying29 h
    obtain ⟨a0, b0⟩ := q_u16_range w0
    obtain ⟨t0, rfl⟩ := Int.eq_ofNat_of_zero_le a0
    exact ⟨t0, by omega, e0⟩) hv h hsz j hj hd
  exact ⟨A, c, d0, l, h1, h2, by omega, h4⟩
theorem open_u8s (hv : Value.okWide Try.prog w r b0 23 v) (h : DataW.Trod enc Try.prog w base spare held 23 v d p) (hsz : (DataW.weightsEach Try.prog ts ds).all (· ≤ reachBytes) = true) (j : Nat) (hj : ts[j]? = some 23) (hd : ds[j]? = some d) :
    ∃ (A : Option Addr) (c d0 : Nat) (l : List Nat), v = .slice A l.length c ∧ ShowsG (natC .u8) w d0 (.slice A l.length c) l ∧ l.length ≤ 1000000000000000 ∧ ∀ y ∈ l, y < 256 := by
  obtain ⟨A, c, d0, l, h1, h2, h3, h4⟩ := open_rowC (natC .u8) (fun y => y < 256) 0 1 Try.underlying23 (by kernel_rfl) (by kernel_rfl) (fun {_ cs _} hl h => by
    obtain ⟨t0, e0, _, w0⟩ := DataW.trod_int Try.underlying5 h
    obtain ⟨a0, b0⟩ := u8_range w0
    obtain ⟨t0, rfl⟩ := Int.eq_ofNat_of_zero_le a0
    exact ⟨t0, by omega, e0⟩) hv h hsz j hj hd
  exact ⟨A, c, d0, l, h1, h2, by omega, h4⟩
end
end

end Go.Proofs.Ytgomlpmbmemkiaa

/-
  How an argument that is a slice of bytes is opened: it shows a list; its length is within the form's reach.
  Conditions: none.
-/
import Derived.ProofKit
import Derived.OpenShut
import Derived.ShutString
import Derived.ChangeOld
import Derived.SizedLaws
import Derived.Deep.Slices
import Derived.Deep.Fields
import Derived.Test.YtpmafabphlejeaaGreatRows
import Derived.Test.YtpmafabphlejeaaGreatMemZ
namespace Go.Proofs.YtpmafabphlejeaaGreat
open Go.ChangeShapes Go.WideShapes Go.ChangeAt Go.RowKit
open Go.ChangeMaps (open_string shut_string)
set_option linter.unusedVariables false
set_option linter.unusedSimpArgs false

theorem addr_plain {w : World} {a : Addr} {v : Value} (h : w.cell? a = some v) : ∃ b o, a = ⟨b, o, none⟩ := by
  obtain ⟨b, o, spot⟩ := a
  have := World.cell?_spot h
  simp at this
  subst this
  exact ⟨b, o, rfl⟩

section
variable {H : Type} {enc : TypeId × Value → H} {P : Program} {w : World} {base : Nat} {spare : Nat → Bool} {held : Bool}

theorem open_bytes {t e : TypeId} (ht : P.underlying t = some (.slice e)) (he : P.underlying e = some (.int .u8)) (hc : P.cellsOf e = 1) (hby : P.bytesOf e = 1) {r : Reach} {b0 : Nat} {v : Value} {d : DataW H} {p : List MemPlace}
    (hv : Value.okWide P w r b0 t v) (h : DataW.Trod enc P w base spare held t v d p) {ts : List TypeId} {ds : List (DataW H)} (hsz : (DataW.weightsEach P ts ds).all (· ≤ reachBytes) = true) (j : Nat) (hj : ts[j]? = some t) (hd : ds[j]? = some d) :
    ∃ (A : Option Addr) (c d0 : Nat) (l : List UInt8), v = .slice A l.length c ∧ Shows w d0 (.slice A l.length c) l ∧ l.length ≤ 140737488351232 := by
  obtain ⟨A, n, c, rfl⟩ := okWide_slice ht hv
  obtain ⟨fuel, hf⟩ := h
  rcases open_ints ht he hc hf with ⟨hcs, _⟩ | ⟨x, l, c', zs, hcs, _, hl, hm, hz, hx, hcell, hwz⟩
  · simp [Value.cells] at hcs
    obtain ⟨rfl, rfl, rfl⟩ := hcs
    exact ⟨none, 0, 0, [], rfl, Shows.nil_ _ _, by simp⟩
  · simp [Value.cells] at hcs
    obtain ⟨rfl, rfl, rfl⟩ := hcs
    simp only [Prod.mk.injEq] at hx
    obtain ⟨rfl, _⟩ := hx
    have hs := sized_slice hsz hj hd ht
    rw [hby] at hs
    have hzl : n ≤ zs.length := by rw [hz]; split <;> omega
    have hlen : n ≤ 140737488351232 := by
      simp only [lits, List.length_map, List.length_take, List.length_drop, reachBytes] at hs
      omega
    have hll : ((zs.take n).map fun q : Int => UInt8.ofNat q.toNat).length = n := by simp; omega
    refine ⟨some x, c, x.block, (zs.take n).map fun q => UInt8.ofNat q.toNat, by rw [hll], ?_, by omega⟩
    refine ⟨some x, c, rfl, by omega, hm, fun hp => ?_⟩
    obtain ⟨b, o, rfl⟩ := addr_plain (hcell 0 (by omega))
    have hc0 := hcell 0 (by omega)
    refine ⟨o, rfl, World.block_lt_of_cell? w _ hc0, fun k hk => ?_⟩
    have hk' : k < n := by omega
    have hcc := hcell k (by omega)
    rw [add_plain'] at hcc
    rw [hcc]
    have hw := hwz (zs.getD k 0) (by simp only [List.getD_eq_getElem?_getD, List.getElem?_eq_getElem (show k < zs.length by omega), Option.getD_some]; exact List.getElem_mem _)
    simp only [Lit.wf, IntKind.min, IntKind.max, IntKind.signed, IntKind.bits, Bool.and_eq_true, decide_eq_true_eq] at hw
    have e : ((zs.take n).map fun q : Int => UInt8.ofNat q.toNat)[k]'hk = UInt8.ofNat (zs.getD k 0).toNat := by
      simp [List.getD, show k < zs.length by omega]
    rw [e]
    clear e hcc
    generalize zs.getD k 0 = q at *
    simp at hw
    simp only [u8c, UInt8.toNat_ofNat']
    congr 2
    omega

/-- A slice of n structs of sz cells each: cell j of struct i holds f i j. -/
def ShowsN (w : World) (d : Nat) (v : Value) (n sz : Nat) (f : Nat → Nat → Value) : Prop :=
  ∃ (A : Option Addr) (c : Nat), v = .slice A n c ∧ n ≤ c ∧ c ≤ maxLen ∧
    (0 < n → ∃ o, A = some ⟨d, o, none⟩ ∧ d < w.heap.size ∧ ∀ i j, i < n → j < sz → w.cell? ⟨d, o + (i * sz + j), none⟩ = some (f i j))

theorem ShowsN.keep {w w' : World} {d n sz : Nat} {v : Value} {f : Nat → Nat → Value} (h : ShowsN w d v n sz f) (hs : w.heap.size ≤ w'.heap.size) (hk : d < w.heap.size → w'.heap[d]? = w.heap[d]?) : ShowsN w' d v n sz f := by
  obtain ⟨A, c, e1, e2, e3, e4⟩ := h
  refine ⟨A, c, e1, e2, e3, fun hp => ?_⟩
  obtain ⟨o, f1, f2, f3⟩ := e4 hp
  exact ⟨o, f1, by omega, fun i j hi hj => (World.cell?_of_block (w := w) (hk f2)).trans (f3 i j hi hj)⟩
theorem ShowsN.below {w w' : World} {d n sz : Nat} {v : Value} {f : Nat → Nat → Value} (h : ShowsN w d v n sz f) (hb : Below w.heap.size w w') : ShowsN w' d v n sz f := h.keep hb.size fun hd => hb.block _ hd
theorem ShowsN.at_ {w : World} {d n m sz c : Nat} {A : Option Addr} {f : Nat → Nat → Value} (h : ShowsN w d (.slice A m c) n sz f) (hp : 0 < n) : ∃ o, A = some ⟨d, o, none⟩ ∧ d < w.heap.size ∧ ∀ i j, i < n → j < sz → w.cell? ⟨d, o + (i * sz + j), none⟩ = some (f i j) := by
  obtain ⟨A', c', e, h2, h3, h4⟩ := h
  cases e
  exact h4 hp

theorem open_structs {t e : TypeId} {fs : Array Field} (ht : P.underlying t = some (.slice e)) (he : P.underlying e = some (.struct fs)) (hone : Deep.oneCellFields P fs = true) (hC : P.cellsOf e = fs.size) (hz : 0 < fs.size) {r : Reach} {b0 : Nat} {v : Value} {d : DataW H} {p : List MemPlace}
    (hv : Value.okWide P w r b0 t v) (h : DataW.Trod enc P w base spare held t v d p) {ts : List TypeId} {ds : List (DataW H)} (hsz : (DataW.weightsEach P ts ds).all (· ≤ reachBytes) = true) (j : Nat) (hj : ts[j]? = some t) (hd : ds[j]? = some d) :
    ∃ (A : Option Addr) (n c d0 : Nat) (F : Nat → Nat → Value), v = .slice A n c ∧ ShowsN w d0 (.slice A n c) n fs.size F ∧ n * P.bytesOf e ≤ 140737488351232 ∧
      ∀ i, i < n → ∀ (k : Nat) (f : Field), fs[k]? = some f → ∃ (fuel : Nat) (y : DataW H × List MemPlace), DataW.trod enc P w base spare held fuel f.type [F i k] = some y := by
  obtain ⟨A, n, c, rfl⟩ := okWide_slice ht hv
  obtain ⟨fuel, hf⟩ := h
  rcases Deep.open_slice ht hf with ⟨hcs, _⟩ | ⟨a, len, cap, m, fu, D, Pl, hcs, _, hl, hm, hmm, hx, hel⟩
  · simp [Value.cells] at hcs
    obtain ⟨rfl, rfl, rfl⟩ := hcs
    exact ⟨none, 0, 0, 0, fun _ _ => undef, rfl, ⟨none, 0, rfl, Nat.le_refl _, by simp [maxLen], fun hp => absurd hp (by omega)⟩, by simp, fun i hi => absurd hi (by omega)⟩
  · simp [Value.cells] at hcs
    obtain ⟨rfl, rfl, rfl⟩ := hcs
    simp only [Prod.mk.injEq] at hx
    obtain ⟨rfl, _⟩ := hx
    have hs := sized_slice hsz hj hd ht
    have hlen : n * P.bytesOf e ≤ 140737488351232 := by
      have h1 : n * P.bytesOf e ≤ (((List.range n).map D).length + ((List.range (m - n)).map fun j => D (n + j)).length) * P.bytesOf e := Nat.mul_le_mul_right _ (by simp)
      have h2 : reachBytes = 140737488351232 := by decide
      omega
    have hnm : n ≤ m := by rw [hmm]; split <;> omega
    have each : ∀ i, ∃ cs' : List Value, i < n → (∀ j, j < fs.size → w.cell? ((a.add (i * fs.size)).add j) = cs'[j]?) ∧ cs'.length = fs.size ∧ DataW.trod enc P w base spare held fu e cs' = some (D i, Pl i) := fun i => by
      by_cases hi : i < n
      · obtain ⟨cs', h1, h2⟩ := hel i (by omega)
        obtain ⟨_, h3, h4⟩ := World.cells?_some h1
        rw [hC] at h3 h4
        exact ⟨cs', fun _ => ⟨h4, h3, h2⟩⟩
      · exact ⟨[], fun h => absurd h hi⟩
    refine ⟨some a, n, c, a.block, fun i k => ((each i).choose).getD k undef, rfl, ⟨some a, c, rfl, hl, hm, fun hp => ?_⟩, hlen, fun i hi k f hk => ?_⟩
    · have hpos : ∀ i, i < n → ∀ k, k < fs.size → w.cell? ((a.add (i * fs.size)).add k) = some (((each i).choose).getD k undef) := fun i hi k hk => by
        obtain ⟨h1, h2, _⟩ := (each i).choose_spec hi
        rw [h1 k hk, List.getElem?_eq_getElem (by omega)]
        simp [List.getD, show k < ((each i).choose).length by omega]
      have h0 := hpos 0 hp 0 hz
      simp only [Nat.zero_mul] at h0
      obtain ⟨b, o, spot⟩ := a
      have hs : spot = none := by
        have := World.cell?_spot h0
        simpa [Addr.add] using this
      subst hs
      have hlt := World.block_lt_of_cell? w _ h0
      rw [add_plain', add_plain'] at hlt
      refine ⟨o, rfl, hlt, fun i k hi hk => ?_⟩
      have := hpos i hi k hk
      simpa only [add_plain', Nat.add_assoc] using this
    · obtain ⟨h1, h2, h3⟩ := (each i).choose_spec hi
      obtain ⟨xs, n', _, _, _, hxl, hff⟩ := DataW.trod_struct he h3
      have hkl : k < fs.size := (Array.getElem?_eq_some_iff.1 hk).1
      obtain ⟨ho, hc1⟩ := Deep.hone_of hone k f hk
      have g := hff k f hk
      rw [ho, hc1, Deep.take1_drop _ k undef (by omega), List.getElem?_eq_getElem (show k < xs.length by omega)] at g
      exact ⟨n', _, g⟩
/-- A value that reads as a slice of bytes shows a list. -/
theorem shows_of_trod {e u : TypeId} (he : P.underlying e = some (.slice u)) (hu : P.underlying u = some (.int .u8)) (hcu : P.cellsOf u = 1) {fuel : Nat} {v : Value} {x : DataW H × List MemPlace}
    (h : DataW.trod enc P w base spare held fuel e [v] = some x) : ∃ (d0 : Nat) (l : List UInt8), Shows w d0 v l := by
  rcases open_ints he hu hcu h with ⟨hcs, _⟩ | ⟨a, n, c, zs, hcs, _, hl, hm, hz, _, hcell, hwz⟩
  · simp at hcs
    subst hcs
    exact ⟨0, [], Shows.nil_ _ _⟩
  · simp at hcs
    subst hcs
    have hzl : n ≤ zs.length := by rw [hz]; split <;> omega
    have hll : ((zs.take n).map fun q : Int => UInt8.ofNat q.toNat).length = n := by simp; omega
    refine ⟨a.block, (zs.take n).map fun q => UInt8.ofNat q.toNat, some a, c, by rw [hll], by omega, hm, fun hp => ?_⟩
    obtain ⟨b, o, rfl⟩ := addr_plain (hcell 0 (by omega))
    have hc0 := hcell 0 (by omega)
    refine ⟨o, rfl, World.block_lt_of_cell? w _ hc0, fun k hk => ?_⟩
    have hk' : k < n := by omega
    have hcc := hcell k (by omega)
    rw [add_plain'] at hcc
    rw [hcc]
    have hw := hwz (zs.getD k 0) (by simp only [List.getD_eq_getElem?_getD, List.getElem?_eq_getElem (show k < zs.length by omega), Option.getD_some]; exact List.getElem_mem _)
    simp only [Lit.wf, IntKind.min, IntKind.max, IntKind.signed, IntKind.bits, Bool.and_eq_true, decide_eq_true_eq] at hw
    have e : ((zs.take n).map fun q : Int => UInt8.ofNat q.toNat)[k]'hk = UInt8.ofNat (zs.getD k 0).toNat := by
      simp [List.getD, show k < zs.length by omega]
    rw [e]
    clear e hcc
    generalize zs.getD k 0 = q at *
    simp at hw
    simp only [u8c, UInt8.toNat_ofNat']
    congr 2
    omega

theorem open_lists {t e u : TypeId} (ht : P.underlying t = some (.slice e)) (he : P.underlying e = some (.slice u)) (hu : P.underlying u = some (.int .u8)) (hC : P.cellsOf e = 1) (hcu : P.cellsOf u = 1) {r : Reach} {b0 : Nat} {v : Value} {d : DataW H} {p : List MemPlace}
    (hv : Value.okWide P w r b0 t v) (h : DataW.Trod enc P w base spare held t v d p) :
    ∃ (A : Option Addr) (n c d0 : Nat) (V : Nat → Value) (L : Nat → List UInt8) (D : Nat → Nat), v = .slice A n c ∧ ShowsN w d0 (.slice A n c) n 1 (fun i _ => V i) ∧ n ≤ c ∧ ∀ i, i < n → Shows w (D i) (V i) (L i) := by
  obtain ⟨A, n, c, rfl⟩ := okWide_slice ht hv
  obtain ⟨fuel, hf⟩ := h
  rcases Deep.open_slice1 ht hC hf with ⟨hcs, _⟩ | ⟨a, len, cap, m, fu, V, D, Pl, hcs, _, hl, hm, hmm, hx, hel⟩
  · simp [Value.cells] at hcs
    obtain ⟨rfl, rfl, rfl⟩ := hcs
    exact ⟨none, 0, 0, 0, fun _ => undef, fun _ => [], fun _ => 0, rfl, ⟨none, 0, rfl, Nat.le_refl _, by simp [maxLen], fun hp => absurd hp (by omega)⟩, by simp, fun i hi => absurd hi (by omega)⟩
  · simp [Value.cells] at hcs
    obtain ⟨rfl, rfl, rfl⟩ := hcs
    have hnm : n ≤ m := by rw [hmm]; split <;> omega
    have each : ∀ i, ∃ y : Nat × List UInt8, i < n → Shows w y.1 (V i) y.2 := fun i => by
      by_cases hi : i < n
      · obtain ⟨d0, l, h⟩ := shows_of_trod he hu hcu (hel i (by omega)).2
        exact ⟨(d0, l), fun _ => h⟩
      · exact ⟨(0, []), fun h => absurd h hi⟩
    refine ⟨some a, n, c, a.block, V, fun i => (each i).choose.2, fun i => (each i).choose.1, rfl, ⟨some a, c, rfl, hl, hm, fun hp => ?_⟩, hl, fun i hi => (each i).choose_spec hi⟩
    obtain ⟨b, o, rfl⟩ := addr_plain (hel 0 (by omega)).1
    refine ⟨o, rfl, World.block_lt_of_cell? w _ (hel 0 (by omega)).1, fun i k hi hk => ?_⟩
    have := (hel i (by omega)).1
    rw [add_plain'] at this
    rw [show i * 1 + k = i by omega]
    exact this
end
end Go.Proofs.YtpmafabphlejeaaGreat

/-
  How an argument is opened that is a row of a round's calls.
  Conditions: none.
-/
import Derived.Test.YtknfiiacalfelaaCdT
import Derived.Test.YtknfiiacalfelaaGenOpen
import Derived.Test.YtknfiiacalfelaaRowkit
import Derived.Test.YtknfiiacalfelaaRows
import Derived.Lib.SmallJoins
namespace Go.Proofs.Ytknfiiacalfelaa
open Go.ChangeShapes Go.WideShapes Go.ChangeAt Go.RowKit Go.Shelf
open Go.ChangeMaps (open_string shut_string)
set_option linter.unusedVariables false
set_option linter.unusedSimpArgs false
set_option maxRecDepth 100000

/-- A call that came in: where its tags lie. -/
structure CallC where
  what : Nat
  tag : Tg
  n : Nat
  Ak : Option Addr
  ck : Nat
  dk : Nat
  may : List Tg
def callC : Code CallC := { enc := fun e => [.int .u8 e.what, .string (str8 e.tag), .int .u32 e.n, .slice e.Ak e.may.length e.ck], sz := 4, len := fun _ => rfl, one := fun x u hu => by simp at hu; rcases hu with rfl | rfl | rfl | rfl <;> rfl, pos := by omega }
/-- What is known of it. -/
structure CallC.ok (w : World) (e : CallC) : Prop where
  what : e.what < 256
  tag : e.tag.length ≤ 140737488351232
  n : e.n < 4294967296
  may : ShowsG strC w e.dk (.slice e.Ak e.may.length e.ck) e.may
  kl : e.may.length ≤ 140737488351232
  tags : ∀ t ∈ e.may, t.length ≤ 140737488351232
theorem dk_weightsAll {H : Type} {P : Program} {e : TypeId} {x : Nat} : ∀ {l : List (DataW H)} {d : DataW H}, d ∈ l → x ∈ DataW.weights P e d → x ∈ DataW.weightsAll P e l
  | y :: l, d, hd, hx => by
    rw [DataW.weightsAll, List.mem_append]
    rcases List.mem_cons.1 hd with rfl | hd
    · exact .inl hx
    · exact .inr (dk_weightsAll hd hx)

section
variable {H : Type} {enc : TypeId × Value → H} {w : World} {base : Nat} {spare : Nat → Bool} {held : Bool}

/-- A slice's first elements, each with its cells. -/
theorem dk_open_first {t e : TypeId} (ht : Try.prog.underlying t = some (.slice e)) {fuel : Nat} {cs : List Value} {x : DataW H × List MemPlace} (h : DataW.trod enc Try.prog w base spare held fuel t cs = some x) :
    cs = [.slice none 0 0] ∨ ∃ (a : Addr) (len cap n : Nat) (elems rest : List (DataW H × List MemPlace)), fuel = n + 1 ∧ cs = [.slice (some a) len cap] ∧ len ≤ cap ∧ cap ≤ maxLen ∧ elems.length = len ∧ x.1 = .slice (elems.map (·.1)) (rest.map (·.1)) ∧
      ∀ i (hi : i < elems.length), ∃ cs', cs'.length = Try.prog.cellsOf e ∧ (∀ j, j < Try.prog.cellsOf e → w.cell? ((a.add (i * Try.prog.cellsOf e)).add j) = cs'[j]?) ∧ DataW.trod enc Try.prog w base spare held n e cs' = some elems[i] := by
  rcases DataW.trod_slice ht h with ⟨h0, _⟩ | ⟨a, len, cap, elems, rest, n, hf, rfl, rfl, _, hl, hm, hlen, hel, _⟩
  · exact .inl h0
  · refine .inr ⟨a, len, cap, n, elems, rest, hf, rfl, hl, hm, hlen, rfl, fun i hi => ?_⟩
    have h1 := hel i (by omega)
    rw [List.getElem?_eq_getElem hi] at h1
    obtain ⟨cs', h2, h3⟩ := Option.bind_eq_some_iff.1 h1
    obtain ⟨_, h4, h5⟩ := World.cells?_some h2
    exact ⟨cs', h4, h5, h3⟩

/-- A row of strings, by its cell. -/
theorem open_strs {fuel : Nat} {cs : List Value} {x : DataW H × List MemPlace} (hf : DataW.trod enc Try.prog w base spare held fuel 30 cs = some x) (hw : ∀ y, y ∈ DataW.weights (H := H) Try.prog 30 x.1 → y ≤ 140737488351232) :
    ∃ (A : Option Addr) (c d0 : Nat) (l : List Tg), cs = [.slice A l.length c] ∧ ShowsG strC w d0 (.slice A l.length c) l ∧ l.length ≤ 140737488351232 ∧ ∀ t ∈ l, t.length ≤ 140737488351232 := by
  have hC : Try.prog.cellsOf 9 = 1 := by kernel_rfl
  have hB : Try.prog.bytesOf 9 = 16 := by kernel_rfl
  rcases dk_open_first Try.underlying30 hf with h0 | ⟨a, len, cap, n', elems, rest, _, h0, hl, hm, hlen, hx, hel⟩
  · exact ⟨none, 0, 0, [], h0, ShowsG.nil_ _ _ _, by simp, fun t ht => absurd ht (by simp)⟩
  · rw [hx] at hw
    simp only [DataW.weights, Try.underlying30, List.mem_cons, List.mem_append] at hw
    have hn := hw _ (.inl rfl)
    rw [hB] at hn
    simp only [List.length_map] at hn
    have each : ∀ i, ∃ f : Tg, ∀ (hi : i < elems.length), f.length ≤ 140737488351232 ∧ w.cell? ((a.add (i * 1)).add 0) = some (.string (str8 f)) := fun i => by
      by_cases hi : i < elems.length
      · obtain ⟨cs', h1, h2, h3⟩ := hel i hi
        rw [hC] at h1 h2
        obtain ⟨s, e0, hs, _⟩ := DataW.trod_string Try.underlying9 h3
        have hsz : s.size ≤ 140737488351232 := by
          refine hw s.size (.inr (.inl (dk_weightsAll (List.mem_map.2 ⟨elems[i], List.getElem_mem hi, rfl⟩) ?_)))
          rw [hs]
          simp [DataW.weights]
        exact ⟨sb s, fun _ => ⟨by rw [sb_length]; exact hsz, by rw [h2 0 (by omega), e0, str8_sb]; rfl⟩⟩
      · exact ⟨[], fun h => absurd h hi⟩
    obtain ⟨l, hll⟩ : ∃ l : List Tg, l = (List.range len).map fun i => (each i).choose := ⟨_, rfl⟩
    have hlen' : l.length = len := by rw [hll]; simp
    have hget : ∀ i (hi : i < l.length), l[i].length ≤ 140737488351232 ∧ w.cell? ((a.add (i * 1)).add 0) = some (.string (str8 l[i])) := fun i hi => by
      have := (each i).choose_spec (by omega)
      simpa [hll] using this
    have hall : ∀ t ∈ l, t.length ≤ 140737488351232 := fun t ht => by
      obtain ⟨i, hi, rfl⟩ := List.getElem_of_mem ht
      exact (hget i hi).1
    clear hll each hel
    subst hlen'
    by_cases hp : 0 < l.length
    · have h0' := (hget 0 hp).2
      obtain ⟨b, o, spot⟩ := a
      have hs : spot = none := by
        have := World.cell?_spot h0'
        simpa [Addr.add] using this
      subst hs
      rw [add_plain', add_plain'] at h0'
      refine ⟨some ⟨b, o, none⟩, cap, b, l, h0, ⟨_, cap, rfl, hl, hm, fun _ => ⟨o, rfl, World.block_lt_of_cell? w _ h0', fun i hi q hq => ?_⟩⟩, by omega, hall⟩
      have hq1 : q < 1 := hq
      have := (hget i hi).2
      rw [add_plain', add_plain'] at this
      obtain rfl : q = 0 := by omega
      show w.cell? ⟨b, o + (i * 1 + 0), none⟩ = _
      rw [← Nat.add_assoc, this]
      rfl
    · exact ⟨some a, cap, 0, l, h0, ⟨_, cap, rfl, hl, hm, fun h => absurd h hp⟩, by omega, hall⟩

/-- A call's cells. -/
theorem open_callc {fuel : Nat} {cs : List Value} {x : DataW H × List MemPlace} (h : DataW.trod enc Try.prog w base spare held fuel 32 cs = some x) (hw : ∀ y, y ∈ DataW.weights (H := H) Try.prog 32 x.1 → y ≤ 140737488351232) : ∃ e : CallC, e.ok w ∧ cs = callC.enc e := by
  obtain ⟨xs, n, hfn, rfl, hl, hlen, hf⟩ := DataW.trod_struct Try.underlying32 h
  have hC : Try.prog.cellsOf 32 = 4 := by kernel_rfl
  have k5 : Try.prog.cellsOf 5 = 1 := by kernel_rfl
  have k9 : Try.prog.cellsOf 9 = 1 := by kernel_rfl
  have k3 : Try.prog.cellsOf 29 = 1 := by kernel_rfl
  have k28 : Try.prog.cellsOf 30 = 1 := by kernel_rfl
  rw [hC] at hl
  obtain ⟨c0, c1, c2, c3, rfl⟩ : ∃ c0 c1 c2 c3, cs = [c0, c1, c2, c3] := by
    match cs, hl with
    | [a, b, c, d], _ => exact ⟨a, b, c, d, rfl⟩
  obtain ⟨y0, y1, y2, y3, rfl⟩ : ∃ y0 y1 y2 y3, xs = [y0, y1, y2, y3] := by
    match xs, hlen with
    | [a, b, c, d], _ => exact ⟨a, b, c, d, rfl⟩
  have h0 : DataW.trod enc Try.prog w base spare held n 5 (([c0, c1, c2, c3].drop 0).take (Try.prog.cellsOf 5)) = some y0 := hf 0 _ rfl
  have h1 : DataW.trod enc Try.prog w base spare held n 9 (([c0, c1, c2, c3].drop 1).take (Try.prog.cellsOf 9)) = some y1 := hf 1 _ rfl
  have h2 : DataW.trod enc Try.prog w base spare held n 29 (([c0, c1, c2, c3].drop 2).take (Try.prog.cellsOf 29)) = some y2 := hf 2 _ rfl
  have h3 : DataW.trod enc Try.prog w base spare held n 30 (([c0, c1, c2, c3].drop 3).take (Try.prog.cellsOf 30)) = some y3 := hf 3 _ rfl
  simp only [k5, k9, k3, k28, List.drop_zero, List.drop_succ_cons, List.take_succ_cons, List.take_zero] at h0 h1 h2 h3
  obtain ⟨t, e0, _, wt⟩ := DataW.trod_int Try.underlying5 h0
  obtain ⟨p, e1, hp, _⟩ := DataW.trod_string Try.underlying9 h1
  obtain ⟨z, e2, _, wz⟩ := DataW.trod_int Try.underlying29 h2
  simp at e0 e1 e2
  subst e0 e1 e2
  obtain ⟨t0, t1⟩ := u8_range wt
  obtain ⟨z0, z1⟩ := u32_range wz
  obtain ⟨T, rfl⟩ := Int.eq_ofNat_of_zero_le t0
  obtain ⟨Z, rfl⟩ := Int.eq_ofNat_of_zero_le z0
  simp only [List.map_cons, List.map_nil] at hw
  have hs1 : p.size ≤ 140737488351232 := by
    refine hw p.size ?_
    simp only [DataW.weights, Try.underlying32, DataW.weightsEach, List.map_cons, List.map_nil, List.mem_append]
    refine .inr (.inl ?_)
    rw [hp]
    simp [DataW.weights]
  obtain ⟨Ak, ck, dk, may, e3, hsh, hkl, htg⟩ := open_strs h3 (fun y hy => hw y (by
    simp only [DataW.weights, Try.underlying32, DataW.weightsEach, List.map_cons, List.map_nil, List.mem_append]
    exact .inr (.inr (.inr (.inl hy)))))
  simp at e3
  subst e3
  refine ⟨⟨T, sb p, Z, Ak, ck, dk, may⟩, ⟨by show T < 256; omega, by show (sb p).length ≤ _; rw [sb_length]; exact hs1, by show Z < 4294967296; omega, hsh, hkl, htg⟩, ?_⟩
  simp [callC, str8_sb]

/-- A row of calls that came in. -/
theorem open_callcs {r : Reach} {b0 : Nat} {v : Value} {d : DataW H} {p : List MemPlace} (hv : Value.okWide Try.prog w r b0 22 v) (h : DataW.Trod enc Try.prog w base spare held 22 v d p)
    {ts : List TypeId} {ds : List (DataW H)} (hsz : (DataW.weightsEach Try.prog ts ds).all (· ≤ reachBytes) = true) (j : Nat) (hj : ts[j]? = some 22) (hd : ds[j]? = some d) :
    ∃ (A : Option Addr) (c d0 : Nat) (l : List CallC), v = .slice A l.length c ∧ ShowsG callC w d0 (.slice A l.length c) l ∧ l.length ≤ 4000000000000 ∧ ∀ e ∈ l, e.ok w := by
  have hb : reachBytes = 140737488351232 := by decide
  have hw : ∀ x, x ∈ DataW.weights (H := H) Try.prog 22 d → x ≤ 140737488351232 := fun x hx => by
    have := List.all_eq_true.1 hsz _ (DataW.weights_mem_each hj hd x hx)
    rw [← hb]
    simpa using this
  have hC : Try.prog.cellsOf 32 = 4 := by kernel_rfl
  have hB : Try.prog.bytesOf 32 = 56 := by kernel_rfl
  obtain ⟨fuel, hf⟩ := h
  obtain ⟨A, n, c, rfl⟩ := okWide_slice Try.underlying22 hv
  rcases dk_open_first Try.underlying22 hf with h0 | ⟨a, len, cap, n', elems, rest, _, h0, hl, hm, hlen, hx, hel⟩
  · simp [Value.cells] at h0
    obtain ⟨rfl, rfl, rfl⟩ := h0
    exact ⟨none, 0, 0, [], rfl, ShowsG.nil_ _ _ _, by simp, fun y hy => absurd hy (by simp)⟩
  · simp [Value.cells] at h0
    obtain ⟨rfl, rfl, rfl⟩ := h0
    simp only [] at hx
    rw [hx] at hw
    simp only [DataW.weights, Try.underlying22, List.mem_cons, List.mem_append] at hw
    have hn := hw _ (.inl rfl)
    rw [hB] at hn
    simp only [List.length_map] at hn
    have each : ∀ i, ∃ f : CallC, ∀ (hi : i < elems.length), f.ok w ∧ ∀ q, q < 4 → w.cell? ((a.add (i * 4)).add q) = (callC.enc f)[q]? := fun i => by
      by_cases hi : i < elems.length
      · obtain ⟨cs', h1, h2, h3⟩ := hel i hi
        rw [hC] at h1 h2
        obtain ⟨f, hok, rfl⟩ := open_callc h3 (fun y hy => hw y (.inr (.inl (dk_weightsAll (List.mem_map.2 ⟨elems[i], List.getElem_mem hi, rfl⟩) hy))))
        exact ⟨f, fun _ => ⟨hok, h2⟩⟩
      · exact ⟨⟨0, [], 0, none, 0, 0, []⟩, fun h => absurd h hi⟩
    obtain ⟨l, hll⟩ : ∃ l : List CallC, l = (List.range n).map fun i => (each i).choose := ⟨_, rfl⟩
    have hlen' : l.length = n := by rw [hll]; simp
    have hget : ∀ i (hi : i < l.length), l[i].ok w ∧ ∀ q, q < 4 → w.cell? ((a.add (i * 4)).add q) = (callC.enc l[i])[q]? := fun i hi => by
      have := (each i).choose_spec (by omega)
      simpa [hll] using this
    clear hll each hel
    subst hlen'
    refine ⟨some a, c, a.block, l, rfl, ⟨some a, c, rfl, hl, hm, fun hp => ?_⟩, by omega, fun y hy => ?_⟩
    · have h0 := (hget 0 hp).2 0 (by decide)
      obtain ⟨b, o, spot⟩ := a
      have hs : spot = none := by
        have : w.cell? (((⟨b, o, spot⟩ : Addr).add (0 * 4)).add 0) = some (.int .u8 (l[0].what : Nat)) := h0
        have := World.cell?_spot this
        simpa [Addr.add] using this
      subst hs
      have h00 : w.cell? (((⟨b, o, none⟩ : Addr).add (0 * 4)).add 0) = some (.int .u8 (l[0].what : Nat)) := h0
      rw [add_plain', add_plain'] at h00
      refine ⟨o, rfl, World.block_lt_of_cell? w _ h00, fun i hi q hq => ?_⟩
      have hq2 : q < 4 := hq
      have := (hget i hi).2 q hq2
      rw [add_plain', add_plain'] at this
      show w.cell? ⟨b, o + (i * 4 + q), none⟩ = _
      rw [← Nat.add_assoc, this]
    · obtain ⟨i, hi, rfl⟩ := List.getElem_of_mem hy
      exact (hget i hi).1
end

end Go.Proofs.Ytknfiiacalfelaa

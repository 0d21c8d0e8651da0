/-
  How arguments are opened that are a row of a disk's calls, or of integers.
  Conditions: none.
-/
import Derived.Test.YtngjmeohleoglaaDqR
import Derived.Test.YtngjmeohleoglaaGenOpen
import Derived.Test.YtngjmeohleoglaaRowkit
import Derived.Lib.SmallJoins
namespace Go.Proofs.Ytngjmeohleoglaa
open Go.ChangeShapes Go.WideShapes Go.ChangeAt Go.RowKit
open Go.ChangeMaps (open_string shut_string)
set_option linter.unusedVariables false
set_option linter.unusedSimpArgs false
set_option maxRecDepth 100000

/-- A call that came in: where its integers lie. -/
structure ActE where
  x : DAct
  Ak : Option Addr
  ck : Nat
  dk : Nat
def actC : Code ActE := { enc := fun e => [.int .u8 e.x.what, .string (str8 e.x.name), .string (str8 e.x.«to»), .int .i64 e.x.n, .slice e.Ak e.x.keep.length e.ck], sz := 5, len := fun _ => rfl, one := fun x u hu => by simp at hu; rcases hu with rfl | rfl | rfl | rfl | rfl <;> rfl, pos := by omega }
/-- What is known of it. -/
structure ActE.ok (w : World) (e : ActE) : Prop where
  what : e.x.what < 256
  name : e.x.name.length ≤ 140737488351232
  too : e.x.«to».length ≤ 140737488351232
  n : -9223372036854775808 ≤ e.x.n ∧ e.x.n ≤ 9223372036854775807
  keep : ShowsG intC w e.dk (.slice e.Ak e.x.keep.length e.ck) e.x.keep
  kl : e.x.keep.length ≤ 140737488351232
  dk : 0 < e.x.keep.length → e.dk < w.heap.size
  dz : e.x.keep.length = 0 → e.dk = 0
theorem act_cell {w : World} {d o : Nat} {l : List ActE} (h : ∀ j (h : j < l.length) k, k < actC.sz → w.cell? ⟨d, o + (j * actC.sz + k), none⟩ = (actC.enc l[j])[k]?) {k : Nat} (hk : k < l.length) :
    w.cell? ⟨d, o + k * 5, none⟩ = some (.int .u8 (l[k].x.what : Nat)) ∧ w.cell? ⟨d, o + k * 5 + 1, none⟩ = some (.string (str8 l[k].x.name)) ∧ w.cell? ⟨d, o + k * 5 + 2, none⟩ = some (.string (str8 l[k].x.«to»)) ∧ w.cell? ⟨d, o + k * 5 + 3, none⟩ = some (.int .i64 l[k].x.n) ∧ w.cell? ⟨d, o + k * 5 + 4, none⟩ = some (.slice l[k].Ak l[k].x.keep.length l[k].ck) :=
  ⟨h k hk 0 (by decide), h k hk 1 (by decide), h k hk 2 (by decide), h k hk 3 (by decide), h k hk 4 (by decide)⟩

theorem dk_weightsAll {H : Type} {P : Program} {e : TypeId} {x : Nat} : ∀ {l : List (DataW H)} {d : DataW H}, d ∈ l → x ∈ DataW.weights P e d → x ∈ DataW.weightsAll P e l
  | y :: l, d, hd, hx => by
    rw [DataW.weightsAll, List.mem_append]
    rcases List.mem_cons.1 hd with rfl | hd
    · exact .inl hx
    · exact .inr (dk_weightsAll hd hx)

section
variable {H : Type} {enc : TypeId × Value → H} {w : World} {base : Nat} {spare : Nat → Bool} {held : Bool}

/-- A slice's first elements, each with its cells. -/
theorem dk_open_first {t e : TypeId} (ht : Try.prog.underlying t = some (.slice e)) {fuel : Nat} {cs : List Value} {x : DataW H × List MemPlace} (h : DataW.trod enc Try.prog w base spare held fuel t cs = some x) :
    cs = [.slice none 0 0] ∨ ∃ (a : Addr) (len cap n : Nat) (elems rest : List (DataW H × List MemPlace)), fuel = n + 1 ∧ cs = [.slice (some a) len cap] ∧ len ≤ cap ∧ cap ≤ maxLen ∧ elems.length = len ∧ x.1 = .slice (elems.map (·.1)) (rest.map (·.1)) ∧
      ∀ i (hi : i < elems.length), ∃ cs', cs'.length = Try.prog.cellsOf e ∧ (∀ j, j < Try.prog.cellsOf e → w.cell? ((a.add (i * Try.prog.cellsOf e)).add j) = cs'[j]?) ∧ DataW.trod enc Try.prog w base spare held n e cs' = some elems[i] := by
  rcases DataW.trod_slice ht h with ⟨h0, _⟩ | ⟨a, len, cap, elems, rest, n, hf, rfl, rfl, _, hl, hm, hlen, hel, _⟩
  · exact .inl h0
  · refine .inr ⟨a, len, cap, n, elems, rest, hf, rfl, hl, hm, hlen, rfl, fun i hi => ?_⟩
    have h1 := hel i (by omega)
    rw [List.getElem?_eq_getElem hi] at h1
    obtain ⟨cs', h2, h3⟩ := Option.bind_eq_some_iff.1 h1
    obtain ⟨_, h4, h5⟩ := World.cells?_some h2
    exact ⟨cs', h4, h5, h3⟩

/-- A row of integers, by its cell. -/
theorem open_ints {fuel : Nat} {cs : List Value} {x : DataW H × List MemPlace} (hf : DataW.trod enc Try.prog w base spare held fuel 28 cs = some x) (hw : ∀ y, y ∈ DataW.weights (H := H) Try.prog 28 x.1 → y ≤ 140737488351232) :
    ∃ (A : Option Addr) (c d0 : Nat) (l : List Int), cs = [.slice A l.length c] ∧ ShowsG intC w d0 (.slice A l.length c) l ∧ l.length ≤ 17592186043904 ∧ (0 < l.length → d0 < w.heap.size) ∧ (l.length = 0 → d0 = 0) := by
  have hC : Try.prog.cellsOf 3 = 1 := by kernel_rfl
  have hB : Try.prog.bytesOf 3 = 8 := by kernel_rfl
  rcases dk_open_first Try.underlying28 hf with h0 | ⟨a, len, cap, n', elems, rest, _, h0, hl, hm, hlen, hx, hel⟩
  · exact ⟨none, 0, 0, [], h0, ShowsG.nil_ _ _ _, by simp, fun h => absurd h (by simp), fun _ => rfl⟩
  · rw [hx] at hw
    simp only [DataW.weights, Try.underlying28, List.mem_cons, List.mem_append] at hw
    have hn := hw _ (.inl rfl)
    rw [hB] at hn
    simp only [List.length_map] at hn
    have each : ∀ i, ∃ f : Int, ∀ (hi : i < elems.length), w.cell? ((a.add (i * 1)).add 0) = some (.int .i64 f) := fun i => by
      by_cases hi : i < elems.length
      · obtain ⟨cs', h1, h2, h3⟩ := hel i hi
        rw [hC] at h1 h2
        obtain ⟨t, e0, _, wt⟩ := DataW.trod_int Try.underlying3 h3
        exact ⟨t, fun _ => by rw [h2 0 (by omega), e0]; rfl⟩
      · exact ⟨0, fun h => absurd h hi⟩
    obtain ⟨l, hll⟩ : ∃ l : List Int, l = (List.range len).map fun i => (each i).choose := ⟨_, rfl⟩
    have hlen' : l.length = len := by rw [hll]; simp
    have hget : ∀ i (hi : i < l.length), w.cell? ((a.add (i * 1)).add 0) = some (.int .i64 l[i]) := fun i hi => by
      have := (each i).choose_spec (by omega)
      simpa [hll] using this
    clear hll each hel
    subst hlen'
    by_cases hp : 0 < l.length
    · have h0' := hget 0 hp
      obtain ⟨b, o, spot⟩ := a
      have hs : spot = none := by
        have := World.cell?_spot h0'
        simpa [Addr.add] using this
      subst hs
      rw [add_plain', add_plain'] at h0'
      refine ⟨some ⟨b, o, none⟩, cap, b, l, h0, ⟨_, cap, rfl, hl, hm, fun _ => ⟨o, rfl, World.block_lt_of_cell? w _ h0', fun i hi q hq => ?_⟩⟩, by omega, fun _ => World.block_lt_of_cell? w _ h0', fun h => by omega⟩
      have hq1 : q < 1 := hq
      have := hget i hi
      rw [add_plain', add_plain'] at this
      obtain rfl : q = 0 := by omega
      show w.cell? ⟨b, o + (i * 1 + 0), none⟩ = _
      rw [← Nat.add_assoc, this]
      rfl
    · exact ⟨some a, cap, 0, l, h0, ⟨_, cap, rfl, hl, hm, fun h => absurd h hp⟩, by omega, fun h => absurd h hp, fun _ => rfl⟩

/-- A call's cells. -/
theorem open_act {fuel : Nat} {cs : List Value} {x : DataW H × List MemPlace} (h : DataW.trod enc Try.prog w base spare held fuel 30 cs = some x) (hw : ∀ y, y ∈ DataW.weights (H := H) Try.prog 30 x.1 → y ≤ 140737488351232) : ∃ e : ActE, e.ok w ∧ cs = actC.enc e := by
  obtain ⟨xs, n, hfn, rfl, hl, hlen, hf⟩ := DataW.trod_struct Try.underlying30 h
  have hC : Try.prog.cellsOf 30 = 5 := by kernel_rfl
  have k5 : Try.prog.cellsOf 5 = 1 := by kernel_rfl
  have k9 : Try.prog.cellsOf 9 = 1 := by kernel_rfl
  have k3 : Try.prog.cellsOf 3 = 1 := by kernel_rfl
  have k28 : Try.prog.cellsOf 28 = 1 := by kernel_rfl
  rw [hC] at hl
  obtain ⟨c0, c1, c2, c3, c4, rfl⟩ : ∃ c0 c1 c2 c3 c4, cs = [c0, c1, c2, c3, c4] := by
    match cs, hl with
    | [a, b, c, d, e], _ => exact ⟨a, b, c, d, e, rfl⟩
  obtain ⟨y0, y1, y2, y3, y4, rfl⟩ : ∃ y0 y1 y2 y3 y4, xs = [y0, y1, y2, y3, y4] := by
    match xs, hlen with
    | [a, b, c, d, e], _ => exact ⟨a, b, c, d, e, rfl⟩
  have h0 : DataW.trod enc Try.prog w base spare held n 5 (([c0, c1, c2, c3, c4].drop 0).take (Try.prog.cellsOf 5)) = some y0 := hf 0 _ rfl
  have h1 : DataW.trod enc Try.prog w base spare held n 9 (([c0, c1, c2, c3, c4].drop 1).take (Try.prog.cellsOf 9)) = some y1 := hf 1 _ rfl
  have h2 : DataW.trod enc Try.prog w base spare held n 9 (([c0, c1, c2, c3, c4].drop 2).take (Try.prog.cellsOf 9)) = some y2 := hf 2 _ rfl
  have h3 : DataW.trod enc Try.prog w base spare held n 3 (([c0, c1, c2, c3, c4].drop 3).take (Try.prog.cellsOf 3)) = some y3 := hf 3 _ rfl
  have h4 : DataW.trod enc Try.prog w base spare held n 28 (([c0, c1, c2, c3, c4].drop 4).take (Try.prog.cellsOf 28)) = some y4 := hf 4 _ rfl
  simp only [k5, k9, k3, k28, List.drop_zero, List.drop_succ_cons, List.take_succ_cons, List.take_zero] at h0 h1 h2 h3 h4
  obtain ⟨t, e0, _, wt⟩ := DataW.trod_int Try.underlying5 h0
  obtain ⟨p, e1, hp, _⟩ := DataW.trod_string Try.underlying9 h1
  obtain ⟨q, e2, hq, _⟩ := DataW.trod_string Try.underlying9 h2
  obtain ⟨z, e3, _, wz⟩ := DataW.trod_int Try.underlying3 h3
  simp at e0 e1 e2 e3
  subst e0 e1 e2 e3
  obtain ⟨t0, t1⟩ := u8_range wt
  obtain ⟨z0, z1⟩ := i64_range wz
  obtain ⟨T, rfl⟩ := Int.eq_ofNat_of_zero_le t0
  simp only [List.map_cons, List.map_nil] at hw
  have hs1 : p.size ≤ 140737488351232 := by
    refine hw p.size ?_
    simp only [DataW.weights, Try.underlying30, DataW.weightsEach, List.map_cons, List.map_nil, List.mem_append]
    refine .inr (.inl ?_)
    rw [hp]
    simp [DataW.weights]
  have hs2 : q.size ≤ 140737488351232 := by
    refine hw q.size ?_
    simp only [DataW.weights, Try.underlying30, DataW.weightsEach, List.map_cons, List.map_nil, List.mem_append]
    refine .inr (.inr (.inl ?_))
    rw [hq]
    simp [DataW.weights]
  obtain ⟨Ak, ck, dk, keep, e4, hsh, hkl, hdk, hdz⟩ := open_ints h4 (fun y hy => hw y (by
    simp only [DataW.weights, Try.underlying30, DataW.weightsEach, List.map_cons, List.map_nil, List.mem_append]
    exact .inr (.inr (.inr (.inr (.inl hy))))))
  simp at e4
  subst e4
  refine ⟨⟨⟨T, sb p, sb q, z, keep⟩, Ak, ck, dk⟩, ⟨by show T < 256; omega, by show (sb p).length ≤ _; rw [sb_length]; exact hs1, by show (sb q).length ≤ _; rw [sb_length]; exact hs2, ⟨z0, z1⟩, hsh, Nat.le_trans hkl (by omega), hdk, hdz⟩, ?_⟩
  simp [actC, str8_sb]

/-- A row of calls that came in. -/
theorem open_acts {r : Reach} {b0 : Nat} {v : Value} {d : DataW H} {p : List MemPlace} (hv : Value.okWide Try.prog w r b0 22 v) (h : DataW.Trod enc Try.prog w base spare held 22 v d p)
    {ts : List TypeId} {ds : List (DataW H)} (hsz : (DataW.weightsEach Try.prog ts ds).all (· ≤ reachBytes) = true) (j : Nat) (hj : ts[j]? = some 22) (hd : ds[j]? = some d) :
    ∃ (A : Option Addr) (c d0 : Nat) (l : List ActE), v = .slice A l.length c ∧ ShowsG actC w d0 (.slice A l.length c) l ∧ l.length ≤ 1954687338211 ∧ ∀ e ∈ l, e.ok w := by
  have hb : reachBytes = 140737488351232 := by decide
  have hw : ∀ x, x ∈ DataW.weights (H := H) Try.prog 22 d → x ≤ 140737488351232 := fun x hx => by
    have := List.all_eq_true.1 hsz _ (DataW.weights_mem_each hj hd x hx)
    rw [← hb]
    simpa using this
  have hC : Try.prog.cellsOf 30 = 5 := by kernel_rfl
  have hB : Try.prog.bytesOf 30 = 72 := by kernel_rfl
  obtain ⟨fuel, hf⟩ := h
  obtain ⟨A, n, c, rfl⟩ := okWide_slice Try.underlying22 hv
  rcases dk_open_first Try.underlying22 hf with h0 | ⟨a, len, cap, n', elems, rest, _, h0, hl, hm, hlen, hx, hel⟩
  · simp [Value.cells] at h0
    obtain ⟨rfl, rfl, rfl⟩ := h0
    exact ⟨none, 0, 0, [], rfl, ShowsG.nil_ _ _ _, by simp, fun y hy => absurd hy (by simp)⟩
  · simp [Value.cells] at h0
    obtain ⟨rfl, rfl, rfl⟩ := h0
    simp only [] at hx
    rw [hx] at hw
    simp only [DataW.weights, Try.underlying22, List.mem_cons, List.mem_append] at hw
    have hn := hw _ (.inl rfl)
    rw [hB] at hn
    simp only [List.length_map] at hn
    have each : ∀ i, ∃ f : ActE, ∀ (hi : i < elems.length), f.ok w ∧ ∀ q, q < 5 → w.cell? ((a.add (i * 5)).add q) = (actC.enc f)[q]? := fun i => by
      by_cases hi : i < elems.length
      · obtain ⟨cs', h1, h2, h3⟩ := hel i hi
        rw [hC] at h1 h2
        obtain ⟨f, hok, rfl⟩ := open_act h3 (fun y hy => hw y (.inr (.inl (dk_weightsAll (List.mem_map.2 ⟨elems[i], List.getElem_mem hi, rfl⟩) hy))))
        exact ⟨f, fun _ => ⟨hok, h2⟩⟩
      · exact ⟨⟨⟨0, [], [], 0, []⟩, none, 0, 0⟩, fun h => absurd h hi⟩
    obtain ⟨l, hll⟩ : ∃ l : List ActE, l = (List.range n).map fun i => (each i).choose := ⟨_, rfl⟩
    have hlen' : l.length = n := by rw [hll]; simp
    have hget : ∀ i (hi : i < l.length), l[i].ok w ∧ ∀ q, q < 5 → w.cell? ((a.add (i * 5)).add q) = (actC.enc l[i])[q]? := fun i hi => by
      have := (each i).choose_spec (by omega)
      simpa [hll] using this
    clear hll each hel
    subst hlen'
    refine ⟨some a, c, a.block, l, rfl, ⟨some a, c, rfl, hl, hm, fun hp => ?_⟩, by omega, fun y hy => ?_⟩
    · have h0 := (hget 0 hp).2 0 (by decide)
      obtain ⟨b, o, spot⟩ := a
      have hs : spot = none := by
        have : w.cell? (((⟨b, o, spot⟩ : Addr).add (0 * 5)).add 0) = some (.int .u8 (l[0].x.what : Nat)) := h0
        have := World.cell?_spot this
        simpa [Addr.add] using this
      subst hs
      have h00 : w.cell? (((⟨b, o, none⟩ : Addr).add (0 * 5)).add 0) = some (.int .u8 (l[0].x.what : Nat)) := h0
      rw [add_plain', add_plain'] at h00
      refine ⟨o, rfl, World.block_lt_of_cell? w _ h00, fun i hi q hq => ?_⟩
      have hq2 : q < 5 := hq
      have := (hget i hi).2 q hq2
      rw [add_plain', add_plain'] at this
      show w.cell? ⟨b, o + (i * 5 + q), none⟩ = _
      rw [← Nat.add_assoc, this]
    · obtain ⟨i, hi, rfl⟩ := List.getElem_of_mem hy
      exact (hget i hi).1
end

end Go.Proofs.Ytngjmeohleoglaa

/-
  What the rows of this seat share: the table out of the row's condition; the witness's start; records and turns that came in.
  Conditions: none.
-/
import Derived.Test.YtmpcddljgcckcaaDoorRcD
import Derived.Test.YtmpcddljgcckcaaDoorRowkit
import Derived.LaidMore
import Derived.Stop.Joined
import Derived.Lib.LaidTab
import Derived.Lib.SmallJoins
namespace Go.Proofs.YtmpcddljgcckcaaDoor
open Go.ChangeShapes Go.WideShapes Go.ChangeAt Go.RowKit
open Go.ChangeMaps (open_string shut_string)
open Crc (sealD okSeal sealD_length sealD_ok okSeal_iff openD Tab tab)
set_option linter.unusedVariables false
set_option linter.unusedSimpArgs false

theorem gTab : Tryd.prog.globalNamed "posthouse/crc.effects" = some 0 := by kernel_rfl
theorem tTab : (Tryd.prog.globals[0]?).map (·.type) = some 89 := by kernel_rfl

/-- What the row lists. -/
def laid1 {H : Type} : List (String × DataW H) := [("posthouse/crc.effects", Rows.laid_posthouse_crc_effects)]

/-- The door's own heap meets the condition. -/
theorem door_met (os : Os) (args : Array Value) : laidMetH Tryd.prog laid1 ((World.doorLaid Tryd.prog 14 os).forCall (fun _ _ => 0) ⟨#[], args, []⟩).memory :=
  laidMetH_of_parts3 (fuel := 8) (laidMet_of_run' 8 (by kernel_rfl) (by kernel_rfl)) (by kernel_rfl) (by kernel_rfl)

theorem tab_of_laid {W : World} (h : laidMetH Tryd.prog laid1 W) : Tab W := by
  rw [MakeChecks.laidMetH_plain _ _ _ (by kernel_rfl)] at h
  have hT := Lib.tabIs_of_head (P := Tryd.prog) (W := W) (k := .u32) (zs := tab.map fun n : Nat => (n : Int)) (rest := []) gTab tTab Tryd.underlying89 Tryd.underlying44 (by kernel_rfl) (by kernel_rfl) h
  have hc : ∀ i, i < 16 → W.cell? ⟨0, i, none⟩ = some (.int .u32 (tab.getD i 0 : Nat)) := fun i hi => by
    rw [hT.cell gTab i (by simp [tab]; omega)]
    congr 2
    rw [List.getD_eq_getElem?_getD, List.getD_eq_getElem?_getD, List.getElem?_map]
    cases tab[i]? <;> rfl
  exact ⟨World.block_lt_of_cell? W _ (hc 0 (by omega)), hc⟩

theorem rc_u16_range {b : Int} (h : (Lit.int .u16 b).wf = true) : 0 ≤ b ∧ b < 65536 := by
  simp only [Lit.wf, IntKind.min, IntKind.max, IntKind.signed, IntKind.bits, Bool.and_eq_true, decide_eq_true_eq] at h
  simp at h
  omega
theorem rc_i8_range {b : Int} (h : (Lit.int .i8 b).wf = true) : -128 ≤ b ∧ b < 128 := by
  simp only [Lit.wf, IntKind.min, IntKind.max, IntKind.signed, IntKind.bits, Bool.and_eq_true, decide_eq_true_eq] at h
  simp at h
  omega

section
variable {H : Type} {enc : TypeId × Value → H} {w : World} {base : Nat} {spare : Nat → Bool} {held : Bool}

/-- A slice's first elements, each with its cells. -/
theorem rc_open_first {t e : TypeId} (ht : Tryd.prog.underlying t = some (.slice e)) {fuel : Nat} {cs : List Value} {x : DataW H × List MemPlace} (h : DataW.trod enc Tryd.prog w base spare held fuel t cs = some x) :
    cs = [.slice none 0 0] ∨ ∃ (a : Addr) (len cap n : Nat) (elems rest : List (DataW H × List MemPlace)), fuel = n + 1 ∧ cs = [.slice (some a) len cap] ∧ len ≤ cap ∧ cap ≤ maxLen ∧ elems.length = len ∧ x.1 = .slice (elems.map (·.1)) (rest.map (·.1)) ∧
      ∀ i (hi : i < elems.length), ∃ cs', cs'.length = Tryd.prog.cellsOf e ∧ (∀ j, j < Tryd.prog.cellsOf e → w.cell? ((a.add (i * Tryd.prog.cellsOf e)).add j) = cs'[j]?) ∧ DataW.trod enc Tryd.prog w base spare held n e cs' = some elems[i] := by
  rcases DataW.trod_slice ht h with ⟨h0, _⟩ | ⟨a, len, cap, elems, rest, n, hf, rfl, rfl, _, hl, hm, hlen, hel, _⟩
  · exact .inl h0
  · refine .inr ⟨a, len, cap, n, elems, rest, hf, rfl, hl, hm, hlen, rfl, fun i hi => ?_⟩
    have h1 := hel i (by omega)
    rw [List.getElem?_eq_getElem hi] at h1
    obtain ⟨cs', h2, h3⟩ := Option.bind_eq_some_iff.1 h1
    obtain ⟨_, h4, h5⟩ := World.cells?_some h2
    exact ⟨cs', h4, h5, h3⟩

set_option maxRecDepth 100000 in
/-- A record's cells. -/
theorem open_rc {fuel : Nat} {cs : List Value} {x : DataW H × List MemPlace} (h : DataW.trod enc Tryd.prog w base spare held fuel 33 cs = some x) : ∃ s : Rc, cs = rcC.enc s := by
  obtain ⟨xs, n, hfn, rfl, hl, hlen, hf⟩ := DataW.trod_struct Tryd.underlying33 h
  have hC : Tryd.prog.cellsOf 33 = 2 := by kernel_rfl
  have k5 : Tryd.prog.cellsOf 5 = 1 := by kernel_rfl
  have k9 : Tryd.prog.cellsOf 9 = 1 := by kernel_rfl
  rw [hC] at hl
  obtain ⟨c0, c1, rfl⟩ : ∃ c0 c1, cs = [c0, c1] := by
    match cs, hl with
    | [a, b], _ => exact ⟨a, b, rfl⟩
  obtain ⟨y0, y1, rfl⟩ : ∃ y0 y1, xs = [y0, y1] := by
    match xs, hlen with
    | [a, b], _ => exact ⟨a, b, rfl⟩
  have h0 : DataW.trod enc Tryd.prog w base spare held n 5 (([c0, c1].drop 0).take (Tryd.prog.cellsOf 5)) = some y0 := hf 0 _ rfl
  have h1 : DataW.trod enc Tryd.prog w base spare held n 9 (([c0, c1].drop 1).take (Tryd.prog.cellsOf 9)) = some y1 := hf 1 _ rfl
  simp only [k5, k9, List.drop_zero, List.drop_succ_cons, List.take_succ_cons, List.take_zero] at h0 h1
  obtain ⟨t, e0, _, wt⟩ := DataW.trod_int Tryd.underlying5 h0
  obtain ⟨p, e1, hp, _⟩ := DataW.trod_string Tryd.underlying9 h1
  simp at e0 e1
  subst e0 e1
  obtain ⟨t0, t1⟩ := u8_range wt
  obtain ⟨T, rfl⟩ := Int.eq_ofNat_of_zero_le t0
  refine ⟨⟨UInt8.ofNat T, p⟩, ?_⟩
  simp [rcC, u8c]
  omega

set_option maxRecDepth 100000 in
/-- A row of records that came in. -/
theorem open_recs {r : Reach} {b0 : Nat} {v : Value} {d : DataW H} {p : List MemPlace} (hv : Value.okWide Tryd.prog w r b0 22 v) (h : DataW.Trod enc Tryd.prog w base spare held 22 v d p)
    {ts : List TypeId} {ds : List (DataW H)} (hsz : (DataW.weightsEach Tryd.prog ts ds).all (· ≤ reachBytes) = true) (j : Nat) (hj : ts[j]? = some 22) (hd : ds[j]? = some d) :
    ∃ (A : Option Addr) (c d0 : Nat) (l : List Rc), v = .slice A l.length c ∧ ShowsG rcC w d0 (.slice A l.length c) l ∧ l.length ≤ 5864062014636 := by
  have hb : reachBytes = 140737488351232 := by decide
  have hw : ∀ x, x ∈ DataW.weights (H := H) Tryd.prog 22 d → x ≤ 140737488351232 := fun x hx => by
    have := List.all_eq_true.1 hsz _ (DataW.weights_mem_each hj hd x hx)
    rw [← hb]
    simpa using this
  have hC : Tryd.prog.cellsOf 33 = 2 := by kernel_rfl
  have hB : Tryd.prog.bytesOf 33 = 24 := by kernel_rfl
  obtain ⟨fuel, hf⟩ := h
  obtain ⟨A, n, c, rfl⟩ := okWide_slice Tryd.underlying22 hv
  rcases rc_open_first Tryd.underlying22 hf with h0 | ⟨a, len, cap, n', elems, rest, _, h0, hl, hm, hlen, hx, hel⟩
  · simp [Value.cells] at h0
    obtain ⟨rfl, rfl, rfl⟩ := h0
    exact ⟨none, 0, 0, [], rfl, ShowsG.nil_ _ _ _, by simp⟩
  · simp [Value.cells] at h0
    obtain ⟨rfl, rfl, rfl⟩ := h0
    simp only [] at hx
    rw [hx] at hw
    simp only [DataW.weights, Tryd.underlying22, List.mem_cons, List.mem_append] at hw
    have hn := hw _ (.inl rfl)
    rw [hB] at hn
    simp only [List.length_map] at hn
    have each : ∀ i, ∃ f : Rc, ∀ (hi : i < elems.length), ∀ q, q < 2 → w.cell? ((a.add (i * 2)).add q) = (rcC.enc f)[q]? := fun i => by
      by_cases hi : i < elems.length
      · obtain ⟨cs', h1, h2, h3⟩ := hel i hi
        rw [hC] at h1 h2
        obtain ⟨f, rfl⟩ := open_rc h3
        exact ⟨f, fun _ => h2⟩
      · exact ⟨Rc.zero, fun h => absurd h hi⟩
    obtain ⟨l, hll⟩ : ∃ l : List Rc, l = (List.range n).map fun i => (each i).choose := ⟨_, rfl⟩
    have hlen' : l.length = n := by rw [hll]; simp
    have hget : ∀ i (hi : i < l.length), ∀ q, q < 2 → w.cell? ((a.add (i * 2)).add q) = (rcC.enc l[i])[q]? := fun i hi => by
      have := (each i).choose_spec (by omega)
      simpa [hll] using this
    clear hll each hel
    subst hlen'
    refine ⟨some a, c, a.block, l, rfl, ⟨some a, c, rfl, hl, hm, fun hp => ?_⟩, by omega⟩
    have h0 := hget 0 hp 0 (by decide)
    obtain ⟨b, o, spot⟩ := a
    have hs : spot = none := by
      have : w.cell? (((⟨b, o, spot⟩ : Addr).add (0 * 2)).add 0) = some (u8c l[0].k) := h0
      have := World.cell?_spot this
      simpa [Addr.add] using this
    subst hs
    have h00 : w.cell? (((⟨b, o, none⟩ : Addr).add (0 * 2)).add 0) = some (u8c l[0].k) := h0
    rw [add_plain', add_plain'] at h00
    refine ⟨o, rfl, World.block_lt_of_cell? w _ h00, fun i hi q hq => ?_⟩
    have hq2 : q < 2 := hq
    have := hget i hi q hq2
    rw [add_plain', add_plain'] at this
    show w.cell? ⟨b, o + (i * 2 + q), none⟩ = _
    rw [← Nat.add_assoc, this]

set_option maxRecDepth 100000 in
/-- A turn that came in by value. -/
theorem open_turn {r : Reach} {b0 : Nat} {v : Value} {d : DataW H} {p : List MemPlace} (hv : Value.okWide Tryd.prog w r b0 46 v) (h : DataW.Trod enc Tryd.prog w base spare held 46 v d p) :
    ∃ (a b c : Nat), v = .agg #[.int .u8 a, .int .u16 b, .int .u32 c] ∧ a < 256 ∧ b < 65536 ∧ c < 4294967296 := by
  obtain ⟨c0, c1, c2, y0, y1, y2, m, rfl, rfl, rfl, hy0, hy1, hy2⟩ := Go.Joins.open_agg3 Tryd.underlying46 (by kernel_rfl) (by kernel_rfl) hv h
  obtain ⟨a, e0, rfl, wa⟩ := DataW.trod_int Tryd.underlying5 hy0
  obtain ⟨b, e1, rfl, wb⟩ := DataW.trod_int Tryd.underlying42 hy1
  obtain ⟨c, e2, rfl, wc⟩ := DataW.trod_int Tryd.underlying44 hy2
  simp at e0 e1 e2
  subst e0 e1 e2
  obtain ⟨a0, a1⟩ := u8_range wa
  obtain ⟨b0, b1⟩ := rc_u16_range wb
  obtain ⟨c0, c1⟩ := u32_range wc
  obtain ⟨a, rfl⟩ := Int.eq_ofNat_of_zero_le a0
  obtain ⟨b, rfl⟩ := Int.eq_ofNat_of_zero_le b0
  obtain ⟨c, rfl⟩ := Int.eq_ofNat_of_zero_le c0
  exact ⟨a, b, c, rfl, by omega, by omega, by omega⟩
end

theorem recsB_take_step (l : List Rc) (k : Nat) (h : k < l.length) : (recsB (l.take (k + 1))).length = (recsB (l.take k)).length + l[k].p.size + 13 := by
  rw [recsB_take l k h, List.length_append, recB_length]; omega

theorem rscan_len (s : ByteArray) (L : List Rc) (m n st : Nat) (hm : L.length = m) (w : World) (hT : Tab w) (hs : s.size ≤ 1000000) (h : scanR (sb s) = (L, n, st)) :
    Calls Tryd.prog 13 #[.string s] w fun e w' => ∃ A c, e = .returned (.tuple #[.slice A m c, .int .i64 n, .int .u8 st]) ∧ OwnG rcC 33 w' w.heap.size (.slice A m c) L ∧ Below w.heap.size w w' := by
  subst hm
  exact rscan_eq s L n st w hT hs h
theorem rsame_len (A1 A2 : Option Addr) (c1 c2 d1 d2 n1 n2 : Nat) (l m : List Rc) (h1 : l.length = n1) (h2 : m.length = n2) (W : World) (hs1 : ShowsG rcC W d1 (.slice A1 n1 c1) l) (hs2 : ShowsG rcC W d2 (.slice A2 n2 c2) m) (hb : n1 ≤ 17592186044416) (hb2 : n2 ≤ 17592186044416) :
    Calls Tryd.prog 15 #[.slice A1 n1 c1, .slice A2 n2 c2] W fun e w' => e = .returned (.bool (decide (l = m))) ∧ Below W.heap.size W w' := by
  subst h1 h2
  exact rsame_any A1 A2 c1 c2 d1 d2 l m W hs1 hs2 hb hb2

theorem rsame_self (A1 A2 : Option Addr) (c1 c2 d1 d2 n : Nat) (l : List Rc) (h1 : l.length = n) (W : World) (hs1 : ShowsG rcC W d1 (.slice A1 n c1) l) (hs2 : ShowsG rcC W d2 (.slice A2 n c2) l) (hb : n ≤ 17592186044416) :
    Calls Tryd.prog 15 #[.slice A1 n c1, .slice A2 n c2] W fun e w' => e = .returned (.bool true) ∧ Below W.heap.size W w' := by
  refine (rsame_len A1 A2 c1 c2 d1 d2 n n l l h1 h1 W hs1 hs2 hb hb).mono ?_
  rintro e w' ⟨rfl, hb⟩
  exact ⟨by simp, hb⟩

/-! ### a row that a conversion has made, and that is written -/
def TRow (g : Nat) (M : List UInt8) (w : World) : Prop := ∃ cur n, w.heap[g]? = some (.cells cur 5 (n, n + 1)) ∧ M.length ≤ n ∧ ∀ j (h : j < M.length), cur[j]? = some (u8c M[j])
theorem TRow.cell {g : Nat} {M : List UInt8} {w : World} (h : TRow g M w) (j : Nat) (hj : j < M.length) : w.cell? ⟨g, j, none⟩ = some (u8c M[j]) := by
  obtain ⟨cur, n, h1, h2, h3⟩ := h
  rw [cell_of_row w g j cur _ _ h1]
  exact h3 j hj
theorem TRow.frozen {g : Nat} {M : List UInt8} {w : World} (h : TRow g M w) (j : Nat) (hj : j < M.length) : w.frozen? ⟨g, j, none⟩ = false := by
  obtain ⟨cur, n, h1, h2, h3⟩ := h
  simp [World.frozen?, h1]
  omega
theorem TRow.lt {g : Nat} {M : List UInt8} {w : World} (h : TRow g M w) : g < w.heap.size := by
  obtain ⟨cur, n, h1, h2, h3⟩ := h
  exact (Array.getElem?_eq_some_iff.1 h1).1
theorem TRow.set {g : Nat} {M : List UInt8} {w : World} (h : TRow g M w) (j : Nat) (y : UInt8) : TRow g (M.set j y) (w.setCell ⟨g, j, none⟩ (u8c y)) := by
  obtain ⟨cur, n, h1, h2, h3⟩ := h
  refine ⟨cur.setIfInBounds j (u8c y), n, by simp [World.setCell, Array.getElem?_modify, h1], by rw [List.length_set]; exact h2, fun i hi => ?_⟩
  rw [List.length_set] at hi
  have h4 := h3 i hi
  rw [Array.getElem?_setIfInBounds]
  by_cases e : j = i
  · subst e
    have hlt : j < cur.size := (Array.getElem?_eq_some_iff.1 h4).1
    simp [hlt]
  · rw [if_neg e, h4]
    simp [List.getElem_set, e]
theorem TRow.shows {g c : Nat} {M : List UInt8} {w : World} (h : TRow g M w) (hc : M.length ≤ c) (hm : c ≤ maxLen) : Shows w g (.slice (some ⟨g, 0, none⟩) M.length c) M :=
  ⟨_, c, rfl, hc, hm, fun _ => ⟨0, rfl, h.lt, fun j hj => by rw [Nat.zero_add]; exact h.cell j hj⟩⟩
theorem tobytes_row (w : World) (s : ByteArray) (hs : s.size ≤ 140737488355328) : ∃ c w', (convert 9 31 (.string s)).run Tryd.prog w = .ok (.slice (some ⟨w.heap.size, 0, none⟩) s.size c) w' ∧ TRow w.heap.size (sb s) w' ∧ s.size ≤ c ∧ c ≤ maxLen ∧ Below w.heap.size w w' := by
  refine ⟨_, _, Lib.run_convert_string_bytes w 9 31 5 s Tryd.underlying9 Tryd.underlying31 Tryd.underlying5, ?_, grownCap_ge _ _ _ _, grownCap_le_maxLen _ _ _ _ (by simp only [maxLen]; omega), ?_⟩
  · refine ⟨_, _, Lib.bytesWorld_at_new _ _ _, by rw [sb_length]; simp [Lib.bytesCells], fun j hj => ?_⟩
    rw [sb_length] at hj
    have h1 : j < s.data.size := hj
    simp [Lib.bytesCells, Array.getElem?_append, hj, h1, u8c, sb]
  · exact ⟨rfl, rfl, rfl, by rw [Lib.bytesWorld_size]; omega, fun k hk => Lib.bytesWorld_at_old w _ s k hk⟩

end Go.Proofs.YtmpcddljgcckcaaDoor

/-
  The contract of value.hasRightKeys: a map has a key for each of its values, each of 1 to 255 bytes of UTF-8, each there once; what is no map has none.
  Conditions: none but sizes.
-/
import Derived.Test.YtnafibnhmhbfiaaValA
import Derived.Test.YtnafibnhmhbfiaaValC
import Derived.Maps.OwnSet
namespace Go.Proofs.Ytnafibnhmhbfiaa
open Go.RowKit Go.Maps Go.WideMaps
set_option linter.unusedVariables false
set_option linter.unusedSimpArgs false

/-! ### how many different ones -/
theorem addKey_len (L : List Lit) (x : Lit) : (addKey L x).length ≤ L.length + 1 := by
  unfold addKey; split <;> simp
theorem fold_len : ∀ (xs L : List Lit), (xs.foldl addKey L).length ≤ L.length + xs.length
  | [], L => by simp
  | x :: r, L => by
    have h1 := fold_len r (addKey L x)
    have h2 := addKey_len L x
    simp only [List.foldl_cons, List.length_cons]
    omega
def litS (s : ByteArray) : Lit := .string s.data.toList
theorem litS_same (a b : ByteArray) : (litS a).sameKey (litS b) = decide (a = b) := by
  by_cases h : a = b
  · subst h
    rw [WideAt.sameKey_self (show WideAt.IsKeyLit (litS a) from trivial)]
    simp
  · rw [sameKey_ne, decide_eq_false h]
    intro e
    apply h
    cases a with | mk a => cases b with | mk b =>
    simp [litS] at e
    rw [e]
theorem any_lit (x : ByteArray) (l : List ByteArray) : (l.map litS).any (fun y => y.sameKey (litS x)) = true ↔ x ∈ l := by
  rw [List.any_map, List.any_eq_true]
  constructor
  · rintro ⟨y, hy, h⟩
    simp only [Function.comp, litS_same, decide_eq_true_iff] at h
    subst h
    exact hy
  · intro h
    exact ⟨x, h, by simp [litS_same]⟩
theorem fold_full : ∀ (xs L : List ByteArray), ((xs.map litS).foldl addKey (L.map litS)).length = L.length + xs.length ↔ (xs.Nodup ∧ ∀ x ∈ xs, x ∉ L)
  | [], L => by simp
  | x :: r, L => by
    simp only [List.map_cons, List.foldl_cons]
    by_cases h : x ∈ L
    · have e : addKey (L.map litS) (litS x) = L.map litS := by unfold addKey; rw [if_pos ((any_lit x L).2 h)]
      rw [e]
      have h1 := fold_len (r.map litS) (L.map litS)
      rw [List.length_map, List.length_map] at h1
      constructor
      · intro h2
        simp only [List.length_cons] at h2
        omega
      · intro h2
        exact absurd h (h2.2 x (by simp))
    · have e : addKey (L.map litS) (litS x) = (L ++ [x]).map litS := by unfold addKey; rw [if_neg (fun h' => h ((any_lit x L).1 h'))]; simp
      rw [e]
      have h1 := fold_full r (L ++ [x])
      rw [List.length_append, List.length_singleton] at h1
      rw [List.length_cons, show L.length + (r.length + 1) = L.length + 1 + r.length by omega, h1, List.nodup_cons]
      constructor
      · rintro ⟨h2, h3⟩
        refine ⟨⟨fun hx => ?_, h2⟩, ?_⟩
        · exact h3 x hx (by simp)
        · intro y hy
          rcases List.mem_cons.1 hy with rfl | hy
          · exact h
          · exact fun hL => h3 y hy (by simp [hL])
      · rintro ⟨⟨h2, h3⟩, h4⟩
        refine ⟨h3, fun y hy hL => ?_⟩
        rcases List.mem_append.1 hL with hL | hL
        · exact h4 y (by simp [hy]) hL
        · simp at hL
          subst hL
          exact h2 hy

/-- A key that may be. -/
def keyB (x : ByteArray) : Prop := 1 ≤ x.size ∧ x.size ≤ 255 ∧ Lib.validD (sb x) = true
def keysP (l : List ByteArray) : Prop := (∀ x ∈ l, keyB x) ∧ l.Nodup
def rightKeys (k : Nat) (ks : List ByteArray) (n : Nat) : Prop := if (layD k).keys = true then ks.length = n ∧ keysP ks else ks = []

theorem law9 : Keyed Try.prog 9 := string_keyed Try.underlying9
theorem setS_succ {H : Type} (l : List ByteArray) (j : Nat) (h : j < l.length) : setOf (H := H) (.agg []) ((l.take (j + 1)).map litS) = (setOf (.agg []) ((l.take j).map litS)).put (litS l[j]) (.agg []) := by
  rw [List.take_succ_eq_append_getElem h, List.map_append, List.map_singleton, setOf_snoc]

theorem sizeS (l : List ByteArray) : Maps.size (setOf (H := Unit) (.agg []) (l.map litS)) = l.length ↔ l.Nodup := by
  rw [size_setOf _ _ (fun y hy => by obtain ⟨_, _, rfl⟩ := List.mem_map.1 hy; trivial)]
  have h := fold_full l []
  simp only [List.map_nil, List.length_nil, Nat.zero_add] at h
  rw [h]
  simp

theorem ownsMap_below {H : Type} {P : Program} {k : TypeId} {R : Value → Option (DataW H × List MemPlace)} {w w' : World} {b n : Nat} {D : DataW H} (h : w.ownsMap P k R b n D) (hb : Below w.heap.size w w') : w'.ownsMap P k R b n D := by
  obtain ⟨es, clock, hbk, r⟩ := h
  exact ⟨es, clock, (hb.block b (Array.getElem?_eq_some_iff.1 hbk).1).trans hbk, r⟩

def BoxL (w : World) (b : Nat) (y : Lay) : Prop := w.heap[b]? = some (.cells y.cells 115 (0, 0))

noncomputable instance (k : Nat) (ks : List ByteArray) (n : Nat) : Decidable (rightKeys k ks n) := Classical.propDecidable _

set_option maxRecDepth 100000 in
set_option maxHeartbeats 1000000 in
theorem rightKeys_none (k : Nat) (t : Tree) (vs : List Value) (w : World) (h : ShowsT w t vs) (hk : (layD k).keys = false) :
    Calls Try.prog 88 #[.agg vs.toArray, .agg (layD k).cells] w fun e w' => e = .returned (.bool (decide (rightKeys k t.ks t.l.length))) ∧ Below w.heap.size w w' := by
  obtain ⟨kv, A, c, d0, d1, cs, rfl, _, _, hks, _⟩ := h.open
  obtain ⟨A3, c3, rfl⟩ := str_form hks
  have hrk : rightKeys k t.ks t.l.length ↔ t.ks.length = 0 := by
    unfold rightKeys
    rw [if_neg (by rw [hk]; simp), List.length_eq_zero_iff]
  have hr : decide (rightKeys k t.ks t.l.length) = ((t.ks.length : Int) == 0) := by
    by_cases h0 : t.ks.length = 0
    · rw [decide_eq_true (hrk.2 h0), h0]; rfl
    · rw [decide_eq_false (fun h => h0 (hrk.1 h))]; exact (beq_eq_false_iff_ne.2 (by omega)).symm
  clear hrk
  rw [hr]
  clear hr h
  have hcells : (layD k).cells = #[.int .i64 (layD k).num, .int .u64 (layD k).most, .int .i64 (layD k).text, .int .i64 (layD k).bytes, .bool (layD k).list, .bool false] := by unfold Lay.cells; rw [hk]
  rw [hcells]
  generalize (layD k).num = n1 at *
  generalize (layD k).most = n2 at *
  generalize (layD k).text = n3 at *
  generalize (layD k).bytes = n4 at *
  generalize (layD k).list = n5 at *
  clear hcells hk
  go_enter Try.func88, Try.ntmps88
  go_wp2_with fail
  go_ret
  exact ⟨rfl, ((Below.refl _ _).alloc (Nat.le_refl _) _).alloc (by simp) _⟩

set_option maxRecDepth 100000 in
set_option maxHeartbeats 1000000 in
theorem rightKeys_map (k : Nat) (t : Tree) (vs : List Value) (w : World) (h : ShowsT w t vs) (hk : (layD k).keys = true) :
    Calls Try.prog 88 #[.agg vs.toArray, .agg (layD k).cells] w fun e w' => e = .returned (.bool (decide (rightKeys k t.ks t.l.length))) ∧ Below w.heap.size w w' := by
  obtain ⟨kv, A, c, d0, d1, cs, rfl, _, _, hks, hkl, hkz, _, hln, _⟩ := h.open
  obtain ⟨A3, c3, rfl⟩ := str_form hks
  have hcells : (layD k).cells = #[.int .i64 (layD k).num, .int .u64 (layD k).most, .int .i64 (layD k).text, .int .i64 (layD k).bytes, .bool (layD k).list, .bool true] := by unfold Lay.cells; rw [hk]
  have hRK : rightKeys k t.ks t.l.length ↔ (t.ks.length = t.l.length ∧ keysP t.ks) := by unfold rightKeys; rw [if_pos hk]
  rw [hcells]
  generalize (layD k).num = n1 at *
  generalize (layD k).most = n2 at *
  generalize (layD k).text = n3 at *
  generalize (layD k).bytes = n4 at *
  generalize (layD k).list = n5 at *
  clear hcells hk h
  by_cases hlen : t.ks.length = t.l.length
  · obtain ⟨R, hR⟩ : ∃ R, R = decide (rightKeys k t.ks t.l.length) := ⟨_, rfl⟩
    rw [← hR]
    have hR2 : R = true ↔ keysP t.ks := by
      rw [hR, decide_eq_true_iff, hRK]
      exact ⟨fun h => h.2, fun h => ⟨hlen, h⟩⟩
    have HR := Lib.hid hR2
    have hmm := @run_makeMap Try.prog
    have hlenI : ((t.ks.length : Int) != (t.l.length : Int)) = false := by simp; omega
    have IT := Lib.hid (fun s w h => isText_any s w h)
    clear hR hR2 hRK
    have HL := Lib.hid hlen
    clear hlen
    go_enter Try.func88, Try.ntmps88
    go_wp2_with fail
    go_loopw [26] (fun i wr => ∃ j : Nat, j ≤ t.ks.length ∧ i = .int .i64 j ∧ wr.ownsMap Try.prog 9 unitElem (w.heap.size + 1 + 1) j (setOf (H := Unit) (.agg []) ((t.ks.take j).map litS)) ∧ BoxV wr w.heap.size (.int .u8 t.k) (.int .u64 t.n) (.string t.s) (.slice A3 t.ks.length c3) (.slice A t.l.length c) ∧ Below w.heap.size w wr ∧ Hid (∀ q (h' : q < t.ks.length), q < j → keyB t.ks[q])) (fun i _ => t.ks.length - (intOf i).toNat)
    case atStart =>
      refine ⟨0, by omega, rfl, ?_, ?_, ?_, Lib.hid fun q _ h => absurd h (by omega)⟩
      · have := World.ownsMap_made (H := Unit) ((w.alloc (Obj.cells #[.int .u8 t.k, .int .u64 t.n, .string t.s, .slice A3 t.ks.length c3, .slice A t.l.length c] 27)).alloc (Obj.cells #[.int .i64 n1, .int .u64 n2, .int .i64 n3, .int .i64 n4, .bool n5, .bool true] 115)) Try.prog 9 unitElem
        rw [show ((w.alloc (Obj.cells #[.int .u8 t.k, .int .u64 t.n, .string t.s, .slice A3 t.ks.length c3, .slice A t.l.length c] 27)).alloc (Obj.cells #[.int .i64 n1, .int .u64 n2, .int .i64 n3, .int .i64 n4, .bool n5, .bool true] 115)).heap.size = w.heap.size + 1 + 1 by simp] at this
        exact this
      · exact (((BoxV.new w).kept ((Below.refl _ _).alloc (Nat.le_refl _) _) (Nat.le_refl _)).kept ((Below.refl _ _).alloc (Nat.le_refl _) _) (Nat.le_refl _))
      · exact (((Below.refl _ _).alloc (Nat.le_refl _) _).alloc (by simp) _).alloc (by simp; omega) _
    case round =>
      obtain ⟨j, hj, rfl, hown, hX, hb, HK⟩ := hrel
      rename World => wj
      have x3 := hX.c3
      by_cases hlt : j < t.ks.length
      · obtain ⟨o, c', hA3, hcell⟩ := str_cell (hks.below' hb (Nat.le_refl _)) j hlt
        simp only [Value.slice.injEq, true_and] at hA3
        obtain ⟨rfl, rfl⟩ := hA3
        have hjl : (j : Int) < (t.ks.length : Int) := by omega
        have hxz := hkz _ (List.getElem_mem hlt)
        have hset := setS_succ (H := Unit) t.ks j hlt
        have hall : keysP t.ks → keyB t.ks[j] := fun h => h.1 _ (List.getElem_mem hlt)
        have hnext : keyB t.ks[j] → Hid (∀ q (h' : q < t.ks.length), q < j + 1 → keyB t.ks[q]) := fun h => Lib.hid (by
          intro q hq hqj
          by_cases hqj2 : q < j
          · exact HK.out q hq hqj2
          · obtain rfl : q = j := by omega
            exact h)
        have HSET := Lib.hid hset
        have HN := Lib.hid hnext
        have HALL := Lib.hid hall
        clear hset hnext hall
        generalize t.ks[j] = x at *
        have hkey : keyOf Try.prog 9 (.string x) = some (litS x) := keyOf_string_mk Try.underlying9 (Nat.le_trans hxz (by decide))
        have HI := Lib.hid (fun w => IT.out x w hxz)
        by_cases h0 : x.size = 0
        · obtain rfl : x = ⟨#[]⟩ := by
            cases x with | mk d => 
              have : d = #[] := Array.eq_empty_of_size_eq_zero h0
              rw [this]
          have hfin : R = false := by
            cases R with
            | false => rfl
            | true => exact absurd (HALL.out (HR.out.1 rfl)).1 (by decide)
          subst hfin
          clear hkey
          go_wp2_with fail
          go_ret
          exact ⟨rfl, hb⟩
        · have hne : x ≠ ⟨#[]⟩ := fun h => h0 (by rw [h]; rfl)
          have hneB : x.toList.isEmpty = false := by
            rw [sb_toList, List.isEmpty_eq_false_iff]
            intro h
            have := congrArg List.length h
            rw [sb_length] at this
            exact h0 this
          by_cases h255 : x.size ≤ 255
          · have h255I : decide ((255 : Int) < (x.size : Int)) = false := by simp; omega
            cases hv : Lib.validD (sb x) with
            | false =>
              rw [hv] at HI
              have hfin : R = false := by
                cases R with
                | false => rfl
                | true => exact absurd (HALL.out (HR.out.1 rfl)).2.2 (by rw [hv]; simp)
              subst hfin
              clear hkey hne hv
              go_wp2_with fail
              refine (HI.out _).mono ?_
              rintro e w' ⟨rfl, hx⟩
              go_wp2_with fail
              go_ret
              exact ⟨rfl, hb.trans (hx.mono hb.size)⟩
            | true =>
              rw [hv] at HI
              have HK2 := HN.out ⟨by omega, h255, hv⟩
              clear hne hv
              go_wp2_with fail
              refine (HI.out _).mono ?_
              rintro e w' ⟨rfl, hx⟩
              have hown2 := ownsMap_below hown hx
              have hX2 := hX.kept hx (Nat.le_refl _)
              have hb2 := hb.trans (hx.mono hb.size)
              clear hX hown hb x3 hcell hx
              go_wp2_with (first
                | (at_mapUpdate; refine wpList_mapUpdate_own _ rfl _ _ _ 128 rfl 9 78 law9 Try.underlying128 (unitElem (H := Unit)) (w.heap.size + 1 + 1) j _ rfl hown2 (by unfold maxLen; omega) _ _ _ rfl rfl hkey _ [] unitElem_mk ?_; intro w1 hown1 hgrow1)
                | go_in)
              go_roundw
              case rel =>
                refine ⟨j + 1, by omega, by go_num, ?_, ?_, hb2.grown hgrow1 hb2.size (fun k hk => by cases hk; omega), HK2⟩
                · rw [HSET.out]; exact hown1
                · exact (hgrow1.block w.heap.size hX2.lt (by simp; omega)).trans hX2
              case measure => simp [intOf]; omega
          · have h255I : decide ((255 : Int) < (x.size : Int)) = true := by simp; omega
            have hfin : R = false := by
              cases R with
              | false => rfl
              | true => exact absurd (HALL.out (HR.out.1 rfl)).2.1 h255
            subst hfin
            clear hkey hne
            go_wp2_with fail
            go_ret
            exact ⟨rfl, hb⟩
      · obtain rfl : j = t.ks.length := by omega
        have hjl : ¬ ((t.ks.length : Nat) : Int) < (t.ks.length : Int) := by omega
        have hsz := sizeS t.ks
        rw [List.take_length] at hown
        generalize setOf (H := Unit) (.agg []) (t.ks.map litS) = D at *
        have hfin : R = ((Maps.size D : Int) == (t.ks.length : Int)) := by
          have h1 : keysP t.ks ↔ t.ks.Nodup := ⟨fun h => h.2, fun h => ⟨fun x hx => by obtain ⟨q, hq, rfl⟩ := List.getElem_of_mem hx; exact HK.out q hq hq, h⟩⟩
          have h2 := HR.out
          rw [h1, ← hsz] at h2
          by_cases h3 : Maps.size D = t.ks.length
          · rw [h2.2 h3, h3]; simp
          · cases R with
            | true => exact absurd (h2.1 rfl) h3
            | false => exact (beq_eq_false_iff_ne.2 (by omega)).symm
        have HF := Lib.hid hfin
        clear hfin hsz
        have hlenM := fun t => hown.len (t := 128) (e := 78) Try.underlying128 t
        go_wp2_with fail
        go_ret
        exact ⟨by rw [HF.out]; rfl, hb⟩
  · have hlenI : ((t.ks.length : Int) != (t.l.length : Int)) = true := by simp; omega
    rw [decide_eq_false (fun h => hlen (hRK.1 h).1)]
    clear hRK hlen
    go_enter Try.func88, Try.ntmps88
    go_wp2_with fail
    go_ret
    exact ⟨rfl, ((Below.refl _ _).alloc (Nat.le_refl _) _).alloc (by simp) _⟩

end Go.Proofs.Ytnafibnhmhbfiaa

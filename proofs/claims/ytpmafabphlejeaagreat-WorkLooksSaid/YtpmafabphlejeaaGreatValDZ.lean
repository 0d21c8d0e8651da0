/-
  Texts, together: ValD, ValE, ValF.
  Conditions: none but sizes.
-/
import Derived.Maps.OwnSet
import Derived.Test.YtpmafabphlejeaaGreatValAZ
import Derived.Deep.CutRange
import Derived.Test.YtpmafabphlejeaaGreatOctAZ
import Derived.Test.YtpmafabphlejeaaGreatV5AZ
/-
  The contract of value.hasRightKeys: a map has a key for each of its values, each of 1 to 255 bytes of UTF-8, each there once; what is no map has none.
  Conditions: none but sizes.
-/
namespace Go.Proofs.YtpmafabphlejeaaGreat
open Go.RowKit Go.Maps Go.WideMaps
set_option linter.unusedVariables false
set_option linter.unusedSimpArgs false

/-! ### how many different ones -/
theorem addKey_len (L : List Lit) (x : Lit) : (addKey L x).length ≤ L.length + 1 := by
  unfold addKey; split <;> simp
theorem fold_len : ∀ (xs L : List Lit), (xs.foldl addKey L).length ≤ L.length + xs.length
  | [], L => by simp
  | x :: r, L => by
    have h1 := fold_len r (addKey L x)
    have h2 := addKey_len L x
    simp only [List.foldl_cons, List.length_cons]
    omega
def litS (s : ByteArray) : Lit := .string s.data.toList
theorem litS_same (a b : ByteArray) : (litS a).sameKey (litS b) = decide (a = b) := by
  by_cases h : a = b
  · subst h
    rw [WideAt.sameKey_self (show WideAt.IsKeyLit (litS a) from trivial)]
    simp
  · rw [sameKey_ne, decide_eq_false h]
    intro e
    apply h
    cases a with | mk a => cases b with | mk b =>
    simp [litS] at e
    rw [e]
theorem any_lit (x : ByteArray) (l : List ByteArray) : (l.map litS).any (fun y => y.sameKey (litS x)) = true ↔ x ∈ l := by
  rw [List.any_map, List.any_eq_true]
  constructor
  · rintro ⟨y, hy, h⟩
    simp only [Function.comp, litS_same, decide_eq_true_iff] at h
    subst h
    exact hy
  · intro h
    exact ⟨x, h, by simp [litS_same]⟩
theorem fold_full : ∀ (xs L : List ByteArray), ((xs.map litS).foldl addKey (L.map litS)).length = L.length + xs.length ↔ (xs.Nodup ∧ ∀ x ∈ xs, x ∉ L)
  | [], L => by simp
  | x :: r, L => by
    simp only [List.map_cons, List.foldl_cons]
    by_cases h : x ∈ L
    · have e : addKey (L.map litS) (litS x) = L.map litS := by unfold addKey; rw [if_pos ((any_lit x L).2 h)]
      rw [e]
      have h1 := fold_len (r.map litS) (L.map litS)
      rw [List.length_map, List.length_map] at h1
      constructor
      · intro h2
        simp only [List.length_cons] at h2
        omega
      · intro h2
        exact absurd h (h2.2 x (by simp))
    · have e : addKey (L.map litS) (litS x) = (L ++ [x]).map litS := by unfold addKey; rw [if_neg (fun h' => h ((any_lit x L).1 h'))]; simp
      rw [e]
      have h1 := fold_full r (L ++ [x])
      rw [List.length_append, List.length_singleton] at h1
      rw [List.length_cons, show L.length + (r.length + 1) = L.length + 1 + r.length by omega, h1, List.nodup_cons]
      constructor
      · rintro ⟨h2, h3⟩
        refine ⟨⟨fun hx => ?_, h2⟩, ?_⟩
        · exact h3 x hx (by simp)
        · intro y hy
          rcases List.mem_cons.1 hy with rfl | hy
          · exact h
          · exact fun hL => h3 y hy (by simp [hL])
      · rintro ⟨⟨h2, h3⟩, h4⟩
        refine ⟨h3, fun y hy hL => ?_⟩
        rcases List.mem_append.1 hL with hL | hL
        · exact h4 y (by simp [hy]) hL
        · simp at hL
          subst hL
          exact h2 hy

/-- A key that may be. -/
def keyB (x : ByteArray) : Prop := 1 ≤ x.size ∧ x.size ≤ 255 ∧ Lib.validD (sb x) = true
def keysP (l : List ByteArray) : Prop := (∀ x ∈ l, keyB x) ∧ l.Nodup
def rightKeys (k : Nat) (ks : List ByteArray) (n : Nat) : Prop := if (layD k).keys = true then ks.length = n ∧ keysP ks else ks = []

theorem law9 : Keyed Tryz.prog 9 := string_keyed Tryz.underlying9
theorem setS_succ {H : Type} (l : List ByteArray) (j : Nat) (h : j < l.length) : setOf (H := H) (.agg []) ((l.take (j + 1)).map litS) = (setOf (.agg []) ((l.take j).map litS)).put (litS l[j]) (.agg []) := by
  rw [List.take_succ_eq_append_getElem h, List.map_append, List.map_singleton, setOf_snoc]

theorem sizeS (l : List ByteArray) : Maps.size (setOf (H := Unit) (.agg []) (l.map litS)) = l.length ↔ l.Nodup := by
  rw [size_setOf _ _ (fun y hy => by obtain ⟨_, _, rfl⟩ := List.mem_map.1 hy; trivial)]
  have h := fold_full l []
  simp only [List.map_nil, List.length_nil, Nat.zero_add] at h
  rw [h]
  simp

theorem ownsMap_below {H : Type} {P : Program} {k : TypeId} {R : Value → Option (DataW H × List MemPlace)} {w w' : World} {b n : Nat} {D : DataW H} (h : w.ownsMap P k R b n D) (hb : Below w.heap.size w w') : w'.ownsMap P k R b n D := by
  obtain ⟨es, clock, hbk, r⟩ := h
  exact ⟨es, clock, (hb.block b (Array.getElem?_eq_some_iff.1 hbk).1).trans hbk, r⟩

def BoxL (w : World) (b : Nat) (y : Lay) : Prop := w.heap[b]? = some (.cells y.cells 184 (0, 0))

noncomputable instance (k : Nat) (ks : List ByteArray) (n : Nat) : Decidable (rightKeys k ks n) := Classical.propDecidable _

set_option maxRecDepth 100000 in
set_option maxHeartbeats 1000000 in
theorem rightKeys_none (k : Nat) (t : Tree) (vs : List Value) (w : World) (h : ShowsT w t vs) (hk : (layD k).keys = false) :
    Calls Tryz.prog 156 #[.agg vs.toArray, .agg (layD k).cells] w fun e w' => e = .returned (.bool (decide (rightKeys k t.ks t.l.length))) ∧ Below w.heap.size w w' := by
  obtain ⟨kv, A, c, d0, d1, cs, rfl, _, _, hks, _⟩ := h.open
  obtain ⟨A3, c3, rfl⟩ := str_form hks
  have hrk : rightKeys k t.ks t.l.length ↔ t.ks.length = 0 := by
    unfold rightKeys
    rw [if_neg (by rw [hk]; simp), List.length_eq_zero_iff]
  have hr : decide (rightKeys k t.ks t.l.length) = ((t.ks.length : Int) == 0) := by
    by_cases h0 : t.ks.length = 0
    · rw [decide_eq_true (hrk.2 h0), h0]; rfl
    · rw [decide_eq_false (fun h => h0 (hrk.1 h))]; exact (beq_eq_false_iff_ne.2 (by omega)).symm
  clear hrk
  rw [hr]
  clear hr h
  have hcells : (layD k).cells = #[.int .i64 (layD k).num, .int .u64 (layD k).most, .int .i64 (layD k).text, .int .i64 (layD k).bytes, .bool (layD k).list, .bool false] := by unfold Lay.cells; rw [hk]
  rw [hcells]
  generalize (layD k).num = n1 at *
  generalize (layD k).most = n2 at *
  generalize (layD k).text = n3 at *
  generalize (layD k).bytes = n4 at *
  generalize (layD k).list = n5 at *
  clear hcells hk
  go_enter Tryz.func156, Tryz.ntmps156
  go_wp2_with fail
  go_ret
  exact ⟨rfl, ((Below.refl _ _).alloc (Nat.le_refl _) _).alloc (by simp) _⟩

set_option maxRecDepth 100000 in
set_option maxHeartbeats 1000000 in
theorem rightKeys_map (k : Nat) (t : Tree) (vs : List Value) (w : World) (h : ShowsT w t vs) (hk : (layD k).keys = true) :
    Calls Tryz.prog 156 #[.agg vs.toArray, .agg (layD k).cells] w fun e w' => e = .returned (.bool (decide (rightKeys k t.ks t.l.length))) ∧ Below w.heap.size w w' := by
  obtain ⟨kv, A, c, d0, d1, cs, rfl, _, _, hks, hkl, hkz, _, hln, _⟩ := h.open
  obtain ⟨A3, c3, rfl⟩ := str_form hks
  have hcells : (layD k).cells = #[.int .i64 (layD k).num, .int .u64 (layD k).most, .int .i64 (layD k).text, .int .i64 (layD k).bytes, .bool (layD k).list, .bool true] := by unfold Lay.cells; rw [hk]
  have hRK : rightKeys k t.ks t.l.length ↔ (t.ks.length = t.l.length ∧ keysP t.ks) := by unfold rightKeys; rw [if_pos hk]
  rw [hcells]
  generalize (layD k).num = n1 at *
  generalize (layD k).most = n2 at *
  generalize (layD k).text = n3 at *
  generalize (layD k).bytes = n4 at *
  generalize (layD k).list = n5 at *
  clear hcells hk h
  by_cases hlen : t.ks.length = t.l.length
  · obtain ⟨R, hR⟩ : ∃ R, R = decide (rightKeys k t.ks t.l.length) := ⟨_, rfl⟩
    rw [← hR]
    have hR2 : R = true ↔ keysP t.ks := by
      rw [hR, decide_eq_true_iff, hRK]
      exact ⟨fun h => h.2, fun h => ⟨hlen, h⟩⟩
    have HR := Lib.hid hR2
    have hmm := @run_makeMap Tryz.prog
    have hlenI : ((t.ks.length : Int) != (t.l.length : Int)) = false := by simp; omega
    have IT := Lib.hid (fun s w h => isText_any s w h)
    clear hR hR2 hRK
    have HL := Lib.hid hlen
    clear hlen
    go_enter Tryz.func156, Tryz.ntmps156
    go_wp2_with fail
    go_loopw [26] (fun i wr => ∃ j : Nat, j ≤ t.ks.length ∧ i = .int .i64 j ∧ wr.ownsMap Tryz.prog 9 unitElem (w.heap.size + 1 + 1) j (setOf (H := Unit) (.agg []) ((t.ks.take j).map litS)) ∧ BoxV wr w.heap.size (.int .u8 t.k) (.int .u64 t.n) (.string t.s) (.slice A3 t.ks.length c3) (.slice A t.l.length c) ∧ Below w.heap.size w wr ∧ Hid (∀ q (h' : q < t.ks.length), q < j → keyB t.ks[q])) (fun i _ => t.ks.length - (intOf i).toNat)
    case atStart =>
      refine ⟨0, by omega, rfl, ?_, ?_, ?_, Lib.hid fun q _ h => absurd h (by omega)⟩
      · have := World.ownsMap_made (H := Unit) ((w.alloc (Obj.cells #[.int .u8 t.k, .int .u64 t.n, .string t.s, .slice A3 t.ks.length c3, .slice A t.l.length c] 31)).alloc (Obj.cells #[.int .i64 n1, .int .u64 n2, .int .i64 n3, .int .i64 n4, .bool n5, .bool true] 184)) Tryz.prog 9 unitElem
        rw [show ((w.alloc (Obj.cells #[.int .u8 t.k, .int .u64 t.n, .string t.s, .slice A3 t.ks.length c3, .slice A t.l.length c] 31)).alloc (Obj.cells #[.int .i64 n1, .int .u64 n2, .int .i64 n3, .int .i64 n4, .bool n5, .bool true] 184)).heap.size = w.heap.size + 1 + 1 by simp] at this
        exact this
      · exact (((BoxV.new w).kept ((Below.refl _ _).alloc (Nat.le_refl _) _) (Nat.le_refl _)).kept ((Below.refl _ _).alloc (Nat.le_refl _) _) (Nat.le_refl _))
      · exact (((Below.refl _ _).alloc (Nat.le_refl _) _).alloc (by simp) _).alloc (by simp; omega) _
    case round =>
      obtain ⟨j, hj, rfl, hown, hX, hb, HK⟩ := hrel
      rename World => wj
      have x3 := hX.c3
      by_cases hlt : j < t.ks.length
      · obtain ⟨o, c', hA3, hcell⟩ := str_cell (hks.below' hb (Nat.le_refl _)) j hlt
        simp only [Value.slice.injEq, true_and] at hA3
        obtain ⟨rfl, rfl⟩ := hA3
        have hjl : (j : Int) < (t.ks.length : Int) := by omega
        have hxz := hkz _ (List.getElem_mem hlt)
        have hset := setS_succ (H := Unit) t.ks j hlt
        have hall : keysP t.ks → keyB t.ks[j] := fun h => h.1 _ (List.getElem_mem hlt)
        have hnext : keyB t.ks[j] → Hid (∀ q (h' : q < t.ks.length), q < j + 1 → keyB t.ks[q]) := fun h => Lib.hid (by
          intro q hq hqj
          by_cases hqj2 : q < j
          · exact HK.out q hq hqj2
          · obtain rfl : q = j := by omega
            exact h)
        have HSET := Lib.hid hset
        have HN := Lib.hid hnext
        have HALL := Lib.hid hall
        clear hset hnext hall
        generalize t.ks[j] = x at *
        have hkey : keyOf Tryz.prog 9 (.string x) = some (litS x) := keyOf_string_mk Tryz.underlying9 (Nat.le_trans hxz (by decide))
        have HI := Lib.hid (fun w => IT.out x w hxz)
        by_cases h0 : x.size = 0
        · obtain rfl : x = ⟨#[]⟩ := by
            cases x with | mk d => 
              have : d = #[] := Array.eq_empty_of_size_eq_zero h0
              rw [this]
          have hfin : R = false := by
            cases R with
            | false => rfl
            | true => exact absurd (HALL.out (HR.out.1 rfl)).1 (by decide)
          subst hfin
          clear hkey
          go_wp2_with fail
          go_ret
          exact ⟨rfl, hb⟩
        · have hne : x ≠ ⟨#[]⟩ := fun h => h0 (by rw [h]; rfl)
          have hneB : x.toList.isEmpty = false := by
            rw [sb_toList, List.isEmpty_eq_false_iff]
            intro h
            have := congrArg List.length h
            rw [sb_length] at this
            exact h0 this
          by_cases h255 : x.size ≤ 255
          · have h255I : decide ((255 : Int) < (x.size : Int)) = false := by simp; omega
            cases hv : Lib.validD (sb x) with
            | false =>
              rw [hv] at HI
              have hfin : R = false := by
                cases R with
                | false => rfl
                | true => exact absurd (HALL.out (HR.out.1 rfl)).2.2 (by rw [hv]; simp)
              subst hfin
              clear hkey hne hv
              go_wp2_with fail
              refine (HI.out _).mono ?_
              rintro e w' ⟨rfl, hx⟩
              go_wp2_with fail
              go_ret
              exact ⟨rfl, hb.trans (hx.mono hb.size)⟩
            | true =>
              rw [hv] at HI
              have HK2 := HN.out ⟨by omega, h255, hv⟩
              clear hne hv
              go_wp2_with fail
              refine (HI.out _).mono ?_
              rintro e w' ⟨rfl, hx⟩
              have hown2 := ownsMap_below hown hx
              have hX2 := hX.kept hx (Nat.le_refl _)
              have hb2 := hb.trans (hx.mono hb.size)
              clear hX hown hb x3 hcell hx
              go_wp2_with (first
                | (at_mapUpdate; refine wpList_mapUpdate_own _ rfl _ _ _ 91 rfl 9 92 law9 Tryz.underlying91 (unitElem (H := Unit)) (w.heap.size + 1 + 1) j _ rfl hown2 (by unfold maxLen; omega) _ _ _ rfl rfl hkey _ [] unitElem_mk ?_; intro w1 hown1 hgrow1)
                | go_in)
              go_roundw
              case rel =>
                refine ⟨j + 1, by omega, by go_num, ?_, ?_, hb2.grown hgrow1 hb2.size (fun k hk => by cases hk; omega), HK2⟩
                · rw [HSET.out]; exact hown1
                · exact (hgrow1.block w.heap.size hX2.lt (by simp; omega)).trans hX2
              case measure => simp [intOf]; omega
          · have h255I : decide ((255 : Int) < (x.size : Int)) = true := by simp; omega
            have hfin : R = false := by
              cases R with
              | false => rfl
              | true => exact absurd (HALL.out (HR.out.1 rfl)).2.1 h255
            subst hfin
            clear hkey hne
            go_wp2_with fail
            go_ret
            exact ⟨rfl, hb⟩
      · obtain rfl : j = t.ks.length := by omega
        have hjl : ¬ ((t.ks.length : Nat) : Int) < (t.ks.length : Int) := by omega
        have hsz := sizeS t.ks
        rw [List.take_length] at hown
        generalize setOf (H := Unit) (.agg []) (t.ks.map litS) = D at *
        have hfin : R = ((Maps.size D : Int) == (t.ks.length : Int)) := by
          have h1 : keysP t.ks ↔ t.ks.Nodup := ⟨fun h => h.2, fun h => ⟨fun x hx => by obtain ⟨q, hq, rfl⟩ := List.getElem_of_mem hx; exact HK.out q hq hq, h⟩⟩
          have h2 := HR.out
          rw [h1, ← hsz] at h2
          by_cases h3 : Maps.size D = t.ks.length
          · rw [h2.2 h3, h3]; simp
          · cases R with
            | true => exact absurd (h2.1 rfl) h3
            | false => exact (beq_eq_false_iff_ne.2 (by omega)).symm
        have HF := Lib.hid hfin
        clear hfin hsz
        have hlenM := fun t => hown.len (t := 91) (e := 92) Tryz.underlying91 t
        go_wp2_with fail
        go_ret
        exact ⟨by rw [HF.out]; rfl, hb⟩
  · have hlenI : ((t.ks.length : Int) != (t.l.length : Int)) = true := by simp; omega
    rw [decide_eq_false (fun h => hlen (hRK.1 h).1)]
    clear hRK hlen
    go_enter Tryz.func156, Tryz.ntmps156
    go_wp2_with fail
    go_ret
    exact ⟨rfl, ((Below.refl _ _).alloc (Nat.le_refl _) _).alloc (by simp) _⟩

end Go.Proofs.YtpmafabphlejeaaGreat
/-
  The contracts of value.isValid and value.Check: what may be encoded.
  Conditions: none but sizes.
-/
namespace Go.Proofs.YtpmafabphlejeaaGreat
open Go.RowKit
set_option linter.unusedVariables false
set_option linter.unusedSimpArgs false

/-- A value may be, but for those in it. -/
def headOK (t : Tree) : Prop := knownD t.k = true ∧ t.n ≤ (layD t.k).most ∧ t.s.size ≤ (layD t.k).bytes ∧ ((layD t.k).list = false → t.l = []) ∧ (t.k = 149 → Lib.validD (sb t.s) = true) ∧ rightKeys t.k t.ks t.l.length
noncomputable def headB (t : Tree) : Bool := @decide (headOK t) (Classical.propDecidable _)
theorem headB_iff (t : Tree) : headB t = true ↔ headOK t := by unfold headB; exact @decide_eq_true_iff _ (Classical.propDecidable _)
theorem headB_no {t : Tree} (h : ¬ headOK t) : headB t = false := by unfold headB; exact @decide_eq_false _ (Classical.propDecidable _) h
mutual
noncomputable def validT : Tree → Bool
  | .node k n s ks l => headB (.node k n s ks l) && validL l
noncomputable def validL : List Tree → Bool
  | [] => true
  | a :: r => validT a && validL r
end
theorem validT_eq (t : Tree) : validT t = (headB t && validL t.l) := by cases t; rfl
theorem validL_all : ∀ l : List Tree, validL l = !(l.any fun t => !validT t)
  | [] => rfl
  | a :: r => by
    show (validT a && validL r) = _
    rw [validL_all r, List.any_cons]
    cases validT a <;> simp
theorem validT_no {t : Tree} (h : ¬ headOK t) : validT t = false := by rw [validT_eq, headB_no h]; rfl

def LayBox (w : World) (b : Nat) (y : Lay) : Prop := w.heap[b]? = some (.cells y.cells 184 (0, 0))

set_option maxRecDepth 100000 in
set_option maxHeartbeats 4000000 in
theorem isValid_any (N : Nat) : ∀ (t : Tree) (vs : List Value) (w : World), cntT t = N → ShowsT w t vs →
    Calls Tryz.prog 149 #[.agg vs.toArray] w fun e w' => e = .returned (.bool (validT t)) ∧ Below w.heap.size w w' := by
  induction N using Nat.strongRecOn with
  | ind N ih =>
  intro t vs w hN h
  have IH : Hid (∀ j (hj : j < t.l.length) (vs : List Value) (w' : World), ShowsT w' (t.l[j]'hj) vs → Calls Tryz.prog 149 #[.agg vs.toArray] w' fun e w'' => e = .returned (.bool (validT (t.l[j]'hj))) ∧ Below w'.heap.size w' w'') :=
    Lib.hid (fun j hj vs w' hs => ih _ (by rw [← hN]; exact cnt_child t j hj) _ vs w' rfl hs)
  clear ih hN
  have hsh := h
  obtain ⟨kv, A, c, d0, d1, cs, rfl, hk, hn, hks, hkl, hkz, hsz, hln, hlc, hcm, _⟩ := h.open
  obtain ⟨A3, c3, rfl⟩ := str_form hks
  have HL := Lib.hid (fun w => layoutOf_any t.k w)
  have hcl : Hid (∀ w, Below w.heap.size w w → True) := Lib.hid fun _ _ => trivial
  -- the closure over the values in it
  have HC : Hid (∀ (w' : World), Below w.heap.size w w' → Calls Tryz.prog 153 #[.slice A t.l.length c, .func (.func 157) #[] #[]] w' fun e w'' => e = .returned (.bool (!validL t.l)) ∧ Below w'.heap.size w' w'') := Lib.hid (by
    intro w' hw'
    have hl : ListT w' t.l A c := hsh.list.kept hw' (Nat.le_refl _)
    have := containsFunc_valid (fun t => !validT t) t.l A c w' hl (by
      intro j hj vs w2 hw2 hs
      have hI := IH.out j hj vs
      obtain ⟨v0, v1, v2, v3, v4, rfl⟩ : ∃ v0 v1 v2 v3 v4, vs = [v0, v1, v2, v3, v4] := by
        have hl := hs.len
        match vs, hl with
        | [a, b, c, d, e], _ => exact ⟨a, b, c, d, e, rfl⟩
      have HI := Lib.hid hI
      clear hI
      have hs2 := hs.kept ((Below.refl w2.heap.size w2).alloc (Nat.le_refl _) (Obj.cells #[v0, v1, v2, v3, v4] 31)) (Nat.le_refl _)
      generalize validT (t.l[j]'hj) = r at *
      go_enter Tryz.func157, Tryz.ntmps157
      go_wp2_with fail
      refine (HI.out _ hs2).mono ?_
      rintro e wx ⟨rfl, hx⟩
      go_wp2_with fail
      go_ret
      exact ⟨rfl, ((Below.refl _ _).alloc (Nat.le_refl _) _).trans (hx.mono (by simp))⟩)
    rw [validL_all, Bool.not_not]
    exact this)
  obtain ⟨R, hR⟩ : ∃ R, R = validT t := ⟨_, rfl⟩
  rw [← hR]
  have HNO := Lib.hid (fun (hx : ¬ headOK t) => hR.trans (validT_no hx))
  have HYES := Lib.hid (fun (hx : headOK t) => (hR.trans (validT_eq t)).trans (by rw [(headB_iff t).2 hx, Bool.true_and] : (headB t && validL t.l) = validL t.l))
  clear hR
  have HRK := Lib.hid (fun w' vs (hs : ShowsT w' t vs) => (show Calls Tryz.prog 156 #[.agg vs.toArray, .agg (layD t.k).cells] w' fun e w'' => e = .returned (.bool (decide (rightKeys t.k t.ks t.l.length))) ∧ Below w'.heap.size w' w'' by
    cases hb : (layD t.k).keys with
    | false => exact rightKeys_none t.k t vs w' hs hb
    | true => exact rightKeys_map t.k t vs w' hs hb))
  have HT := Lib.hid (fun w => isText_any t.s w hsz)
  have HRK2 : Hid (headOK t ↔ knownD t.k = true ∧ t.n ≤ (layD t.k).most ∧ t.s.size ≤ (layD t.k).bytes ∧ ((layD t.k).list = false → t.l = []) ∧ (t.k = 149 → Lib.validD (sb t.s) = true) ∧ rightKeys t.k t.ks t.l.length) := Lib.hid Iff.rfl
  have HRI : Hid (decide (rightKeys t.k t.ks t.l.length) = true ↔ rightKeys t.k t.ks t.l.length) := Lib.hid decide_eq_true_iff
  generalize decide (rightKeys t.k t.ks t.l.length) = rk at *
  generalize hy : layD t.k = y at *
  obtain ⟨yn, ym, yt, yb, yl, yk⟩ := y
  simp only [Lay.cells] at *
  generalize hkn : knownD t.k = kn at *
  go_enter Tryz.func149, Tryz.ntmps149
  go_wp2_with fail
  refine (HL.out _).mono ?_
  rintro e w1 ⟨rfl, hb1⟩
  have hX1 := (BoxV.new (v0 := .int .u8 t.k) (v1 := .int .u64 t.n) (v2 := .string t.s) (v3 := .slice A3 t.ks.length c3) (v4 := .slice A t.l.length c) w).kept hb1 (Nat.le_refl _)
  have hB1 : Below w.heap.size w w1 := (below_boxV w _).trans (hb1.mono (by simp))
  have hlt1 := hX1.lt
  obtain ⟨W, hW⟩ : ∃ W, W = w1.alloc (Obj.cells #[.int .i64 yn, .int .u64 ym, .int .i64 yt, .int .i64 yb, .bool yl, .bool yk] 184) := ⟨_, rfl⟩
  have hbW : Below w1.heap.size w1 W := by rw [hW]; exact (Below.refl _ _).alloc (Nat.le_refl _) _
  have hXW : BoxV W w.heap.size (.int .u8 t.k) (.int .u64 t.n) (.string t.s) (.slice A3 t.ks.length c3) (.slice A t.l.length c) := hX1.kept hbW (Nat.le_refl _)
  have hLW : W.heap[w1.heap.size]? = some (.cells #[.int .i64 yn, .int .u64 ym, .int .i64 yt, .int .i64 yb, .bool yl, .bool yk] 184 (0, 0)) := by rw [hW]; exact heap_alloc_new _ _
  have hBW : Below w.heap.size w W := hB1.trans (hbW.mono hB1.size)
  have hcellW : ∀ (W' : World), W'.heap[w1.heap.size]? = some (.cells #[.int .i64 yn, .int .u64 ym, .int .i64 yt, .int .i64 yb, .bool yl, .bool yk] 184 (0, 0)) → ∀ i, W'.cell? ⟨w1.heap.size, i, none⟩ = (#[Value.int .i64 yn, .int .u64 ym, .int .i64 yt, .int .i64 yb, .bool yl, .bool yk] : Array Value)[i]? := fun W' h' i => by rw [cell_of_row W' _ i _ 184 (0, 0) h']
  have y1 : W.cell? ⟨w1.heap.size, 1, none⟩ = some (.int .u64 ym) := hcellW W hLW 1
  have y3 : W.cell? ⟨w1.heap.size, 3, none⟩ = some (.int .i64 yb) := hcellW W hLW 3
  have y4 : W.cell? ⟨w1.heap.size, 4, none⟩ = some (.bool yl) := hcellW W hLW 4
  have x0 := hXW.c0
  have x1 := hXW.c1
  have x2 := hXW.c2
  have x4 := hXW.c4
  clear hy hk hn hkl hlc
  go_upto_region 2 with fail
  rw [← hW]
  have HXW := Lib.hid hXW
  have HLW := Lib.hid hLW
  clear hXW hLW hX1 hW
  cases kn with
  | false =>
    have hfin := HNO.out (fun h => by have := (HRK2.out.1 h).1; simp at this)
    subst hfin
    go_wp2_with fail
    go_ret
    exact ⟨rfl, hBW⟩
  | true =>
  by_cases h1 : t.n ≤ ym
  case neg =>
    have h1N : ym < t.n := by omega
    have hfin := HNO.out (fun h => h1 (HRK2.out.1 h).2.1)
    subst hfin
    go_wp2_with fail
    go_ret
    exact ⟨rfl, hBW⟩
  have h1N : ¬ ym < t.n := by omega
  by_cases h2 : t.s.size ≤ yb
  case neg =>
    have h2N : yb < t.s.size := by omega
    have hfin := HNO.out (fun h => h2 (HRK2.out.1 h).2.2.1)
    subst hfin
    go_wp2_with fail
    go_ret
    exact ⟨rfl, hBW⟩
  have h2N : ¬ yb < t.s.size := by omega
  go_upto_region 4 with fail
  -- a list where there may be none
  by_cases h3 : yl = false ∧ 0 < t.l.length
  case pos =>
    obtain ⟨rfl, h3⟩ := h3
    have hfin := HNO.out (fun h => by have := (HRK2.out.1 h).2.2.2.1 rfl; rw [this] at h3; simp at h3)
    subst hfin
    go_wp2_with fail
    go_ret
    exact ⟨rfl, hBW⟩
  have h3L : yl = false → t.l = [] := fun hy => List.eq_nil_of_length_eq_zero (by
    by_cases h0 : 0 < t.l.length
    · exact absurd ⟨hy, h0⟩ h3
    · omega)
  have H3L := Lib.hid h3L
  have htail : Hid (∀ (W3 : World), Below W.heap.size W W3 → (rk = true → R = validL t.l) → (rk = false → R = false) → True) := Lib.hid fun _ _ _ _ => trivial
  go_cut [36] from 28 to 54 (fun s2 wx => s2 = .bool false ∧ wx = W)
  case first =>
    cases yl with
    | true =>
      clear h3 h3L
      go_wp2_with fail
      go_meet
      exact ⟨rfl, rfl⟩
    | false =>
      have h3N : ¬ 0 < t.l.length := by rw [h3L rfl]; simp
      clear h3 h3L
      go_wp2_with fail
      go_meet
      exact ⟨rfl, rfl⟩
  case rest =>
    obtain ⟨rfl, hwc⟩ := hcut
    subst hwc
    rename World => w'
    have H3 := Lib.hid h3
    clear h3 h3L htail
    go_upto_region 6 with fail
    by_cases hbad : t.k = 149 ∧ Lib.validD (sb t.s) = false
    case pos =>
      obtain ⟨hk1, hk2⟩ := hbad
      have hkI : ((t.k : Int) == 149) = true := by rw [hk1]; rfl
      have hfin := HNO.out (fun h => by have := (HRK2.out.1 h).2.2.2.2.1 hk1; rw [hk2] at this; simp at this)
      subst hfin
      rw [hk2] at HT
      have hk3 := Lib.hid hk1
      clear hk1 hk2
      go_wp2_with fail
      refine (HT.out _).mono ?_
      rintro e w2 ⟨rfl, hb2⟩
      go_wp2_with fail
      go_ret
      exact ⟨rfl, hBW.trans (hb2.mono hBW.size)⟩
    have H5 : Hid (t.k = 149 → Lib.validD (sb t.s) = true) := Lib.hid (fun hk => by
      cases hv : Lib.validD (sb t.s) with
      | true => rfl
      | false => exact absurd ⟨hk, hv⟩ hbad)
    go_cut [45] from 37 to 54 (fun s2 wx => s2 = .bool false ∧ Below w'.heap.size w' wx)
    case first =>
      by_cases hk1 : t.k = 149
      · have hkI : ((t.k : Int) == 149) = true := by rw [hk1]; rfl
        have hv := H5.out hk1
        rw [hv] at HT
        clear hk1 hv hbad
        go_wp2_with fail
        refine (HT.out _).mono ?_
        rintro e w2 ⟨rfl, hb2⟩
        go_wp2_with fail
        go_meet
        exact ⟨rfl, hb2⟩
      · have hkI : ((t.k : Int) == 149) = false := by simp; omega
        clear hk1 hbad
        go_wp2_with fail
        go_meet
        exact ⟨rfl, Below.refl _ _⟩
    case rest =>
      obtain ⟨rfl, hb3⟩ := hcut
      have hBc := hBW.trans (hb3.mono hBW.size)
      have hXc := HXW.out.kept hb3 (Nat.le_refl _)
      have hLc := (hb3.block w1.heap.size (Array.getElem?_eq_some_iff.1 HLW.out).1).trans HLW.out
      have hXc0 := hXc.c0
      have hXc1 := hXc.c1
      have hXc2 := hXc.c2
      have hXc3 := hXc.c3
      have hXc4 := hXc.c4
      have z0 : wc.cell? ⟨w1.heap.size, 0, none⟩ = some (.int .i64 yn) := hcellW wc hLc 0
      have z1 : wc.cell? ⟨w1.heap.size, 1, none⟩ = some (.int .u64 ym) := hcellW wc hLc 1
      have z2 : wc.cell? ⟨w1.heap.size, 2, none⟩ = some (.int .i64 yt) := hcellW wc hLc 2
      have z3 : wc.cell? ⟨w1.heap.size, 3, none⟩ = some (.int .i64 yb) := hcellW wc hLc 3
      have z4 : wc.cell? ⟨w1.heap.size, 4, none⟩ = some (.bool yl) := hcellW wc hLc 4
      have z5 : wc.cell? ⟨w1.heap.size, 5, none⟩ = some (.bool yk) := hcellW wc hLc 5
      have hshc := hsh.kept hBc (Nat.le_refl _)
      have hRK := HRK.out wc _ hshc
      have HRKc := Lib.hid hRK
      have HXC := Lib.hid hXc
      have HBC := Lib.hid hBc
      clear hRK hXc hLc x0 x1 x2 x4 y1 y3 y4 hb3 hBW hshc hbad hcellW hbW
      cases rk with
      | false =>
        have hfin := HNO.out (fun h => by have := HRI.out.2 (HRK2.out.1 h).2.2.2.2.2; simp at this)
        subst hfin
        go_wp2_with fail
        refine HRKc.out.mono ?_
        rintro e w4 ⟨rfl, hb4⟩
        go_wp2_with fail
        go_ret
        exact ⟨rfl, HBC.out.trans (hb4.mono HBC.out.size)⟩
      | true =>
        have hfin := HYES.out (HRK2.out.2 ⟨rfl, h1, h2, H3L.out, H5.out, HRI.out.1 rfl⟩)
        have HFIN := Lib.hid hfin
        clear hfin
        generalize validL t.l = vl at *
        go_wp2_with fail
        refine HRKc.out.mono ?_
        rintro e w4 ⟨rfl, hb4⟩
        have hX4 := (HXC.out.kept hb4 (Nat.le_refl _)).c4
        have hB4 := HBC.out.trans (hb4.mono HBC.out.size)
        go_wp2_with fail
        refine (HC.out _ hB4).mono ?_
        rintro e w5 ⟨rfl, hb5⟩
        go_wp2_with fail
        go_ret
        exact ⟨by rw [HFIN.out]; simp, hB4.trans (hb5.mono hB4.size)⟩

/-- What Check answers. -/
noncomputable def checkT (t : Tree) : Nat := if deepD 6 t = true then 51 else if 200 < cntT t then 3 else if validT t = false then 50 else 0

set_option maxRecDepth 100000 in
set_option maxHeartbeats 1000000 in
theorem check_any (t : Tree) (vs : List Value) (w : World) (h : ShowsT w t vs) :
    Calls Tryz.prog 142 #[.agg vs.toArray] w fun e w' => e = .returned (.int .i64 (checkT t)) ∧ Below w.heap.size w w' := by
  have hsh := h
  obtain ⟨kv, A, c, d0, d1, cs, rfl, hk, hn, hks, hkl, hkz, hsz, hln, hlc, hcm, _⟩ := h.open
  obtain ⟨A3, c3, rfl⟩ := str_form hks
  have HD := Lib.hid (fun w' (hw' : Below w.heap.size w w') => deeps_any 5 t.l A c w' (by omega) (hsh.list.kept hw' (Nat.le_refl _)))
  have HS := Lib.hid (fun w' (hw' : Below w.heap.size w w') => spare_any _ t.l A c 199 w' (Nat.le_refl _) (by omega) (hsh.list.kept hw' (Nat.le_refl _)))
  have HV := Lib.hid (fun w' (hw' : Below w.heap.size w w') => isValid_any _ t _ w' rfl (hsh.kept hw' (Nat.le_refl _)))
  obtain ⟨R, hR⟩ : ∃ R, R = checkT t := ⟨_, rfl⟩
  rw [← hR]
  unfold checkT at hR
  rw [show deepD 6 t = t.l.any (deepD 5) from rfl] at hR
  have hcl := cntT_eq t
  have HR := Lib.hid hR
  have HCL := Lib.hid hcl
  have hX := BoxV.new (v0 := .int .u8 t.k) (v1 := .int .u64 t.n) (v2 := .string t.s) (v3 := .slice A3 t.ks.length c3) (v4 := .slice A t.l.length c) w
  have hBX := below_boxV w (Obj.cells #[.int .u8 t.k, .int .u64 t.n, .string t.s, .slice A3 t.ks.length c3, .slice A t.l.length c] 31)
  generalize t.l.any (deepD 5) = dp at *
  have HX := Lib.hid hX
  have HBX := Lib.hid hBX
  clear hR hcl hX hBX
  go_enter Tryz.func142, Tryz.ntmps142
  go_wp2_with fail
  refine (HD.out _ HBX.out).mono ?_
  rintro e w1 ⟨rfl, hb1⟩
  have hX1 := HX.out.kept hb1 (Nat.le_refl _)
  have hB1 := HBX.out.trans (hb1.mono HBX.out.size)
  have x4 := hX1.c4
  cases dp with
  | true =>
    have hfin : R = 51 := by rw [HR.out]; simp
    subst hfin
    go_wp2_with fail
    go_ret
    exact ⟨rfl, hB1⟩
  | false =>
    go_wp2_with fail
    refine (HS.out _ hB1).mono ?_
    rintro e w2 ⟨r, rfl, h1, h2, _, _, hb2⟩
    have hX2 := hX1.kept hb2 (Nat.le_refl _)
    have hB2 := hB1.trans (hb2.mono hB1.size)
    clear x4
    by_cases hr : r < 0
    · have hfin : R = 3 := by rw [HR.out, if_neg (by simp), if_pos]; have := HCL.out; omega
      subst hfin
      go_wp2_with fail
      go_ret
      exact ⟨rfl, hB2⟩
    · have hfin : R = if validT t = false then 50 else 0 := by rw [HR.out, if_neg (by simp), if_neg]; have := HCL.out; omega
      have HF := Lib.hid hfin
      clear hfin
      have x0 := hX2.c0
      have x1 := hX2.c1
      have x2 := hX2.c2
      have x3 := hX2.c3
      have x4 := hX2.c4
      generalize validT t = vd at *
      go_wp2_with fail
      refine (HV.out _ hB2).mono ?_
      rintro e w3 ⟨rfl, hb3⟩
      cases vd with
      | true =>
        go_wp2_with fail
        go_ret
        exact ⟨by rw [HF.out]; rfl, hB2.trans (hb3.mono hB2.size)⟩
      | false =>
        go_wp2_with fail
        go_ret
        exact ⟨by rw [HF.out]; rfl, hB2.trans (hb3.mono hB2.size)⟩

end Go.Proofs.YtpmafabphlejeaaGreat
/-
  What bytes a value has; the contracts of value.elements, value.encoded and value.Put.
  Conditions: elements and encoded are spoken of at values that Check has nothing against.
-/
namespace Go.Proofs.YtpmafabphlejeaaGreat
open Go.RowKit
set_option linter.unusedVariables false
set_option linter.unusedSimpArgs false

/-! ### the bytes -/
def keyOf8 (ks : List ByteArray) (j : Nat) : List UInt8 := match ks[j]? with | none => [] | some x => be 1 x.size ++ sb x
/-- What stands behind a value's kind; el: the number of values, and these. -/
def bodyB (y : Lay) (n : Nat) (s : ByteArray) (el : List UInt8) : List UInt8 :=
  if 0 < y.num then be y.num n else if 0 < y.text then be y.text s.size ++ sb s else if y.list = true then be 4 el.length ++ el else []
mutual
def bytesT : Tree → List UInt8
  | .node k n s ks l => be 1 k ++ bodyB (layD k) n s (be 4 l.length ++ itemsB ks 0 l)
def itemsB (ks : List ByteArray) (i : Nat) : List Tree → List UInt8
  | [] => []
  | a :: r => keyOf8 ks i ++ bytesT a ++ itemsB ks (i + 1) r
end
def elemsB (t : Tree) : List UInt8 := be 4 t.l.length ++ itemsB t.ks 0 t.l
theorem bytesT_eq (t : Tree) : bytesT t = be 1 t.k ++ bodyB (layD t.k) t.n t.s (elemsB t) := by cases t; rfl

theorem items_snoc (ks : List ByteArray) : ∀ (l : List Tree) (i j : Nat) (h : j < l.length), itemsB ks i (l.take (j + 1)) = itemsB ks i (l.take j) ++ (keyOf8 ks (i + j) ++ bytesT l[j])
  | [], _, _, h => absurd h (by simp)
  | a :: r, i, 0, h => by simp [itemsB]
  | a :: r, i, j + 1, h => by
    have := items_snoc ks r (i + 1) j (by simpa using h)
    simp only [List.take_succ_cons, itemsB, List.getElem_cons_succ]
    rw [this, show i + 1 + j = i + (j + 1) by omega]
    simp
theorem items_append (ks : List ByteArray) : ∀ (a b : List Tree) (i : Nat), itemsB ks i (a ++ b) = itemsB ks i a ++ itemsB ks (i + a.length) b
  | [], b, i => by simp [itemsB]
  | x :: r, b, i => by
    simp only [List.cons_append, itemsB]
    rw [items_append ks r b (i + 1), show i + 1 + r.length = i + (x :: r).length by simp; omega]
    simp
theorem items_take_le (ks : List ByteArray) (l : List Tree) (i j : Nat) : (itemsB ks i (l.take j)).length ≤ (itemsB ks i l).length := by
  conv => rhs; rw [← List.take_append_drop j l, items_append, List.length_append]
  omega

/-- Which layouts there are. -/
theorem lay_cases (k : Nat) : layD k = ⟨1, 1, 0, 0, false, false⟩ ∨ layD k = ⟨1, 255, 0, 0, false, false⟩ ∨ layD k = ⟨8, 18446744073709551615, 0, 0, false, false⟩ ∨ layD k = ⟨0, 0, 2, 4096, false, false⟩ ∨ layD k = ⟨0, 0, 4, 4096, false, false⟩ ∨ layD k = ⟨0, 0, 0, 0, true, false⟩ ∨ layD k = ⟨0, 0, 0, 0, true, true⟩ ∨ layD k = ⟨0, 0, 0, 0, false, false⟩ := by
  unfold layD
  repeat' split
  all_goals simp

theorem validT_head {t : Tree} (h : validT t = true) : headOK t := by
  rw [validT_eq, Bool.and_eq_true] at h
  exact (headB_iff t).1 h.1
theorem validL_get : ∀ {l : List Tree} (h : validL l = true) (j : Nat) (hj : j < l.length), validT l[j] = true
  | a :: r, h, 0, _ => by
    have : (validT a && validL r) = true := h
    rw [Bool.and_eq_true] at this
    exact this.1
  | a :: r, h, j + 1, hj => by
    have : (validT a && validL r) = true := h
    rw [Bool.and_eq_true] at this
    exact validL_get this.2 j (by simpa using hj)
theorem validT_child {t : Tree} (h : validT t = true) (j : Nat) (hj : j < t.l.length) : validT t.l[j] = true := by
  rw [validT_eq, Bool.and_eq_true] at h
  exact validL_get h.2 j hj

theorem keyOf8_get (ks : List ByteArray) (j : Nat) (h : j < ks.length) : keyOf8 ks j = be 1 ks[j].size ++ sb ks[j] := by unfold keyOf8; rw [List.getElem?_eq_getElem h]
theorem keyOf8_none (ks : List ByteArray) (j : Nat) (h : ¬ j < ks.length) : keyOf8 ks j = [] := by unfold keyOf8; rw [List.getElem?_eq_none (by omega)]
theorem keyOf8_le {ks : List ByteArray} (h : ∀ x ∈ ks, x.size ≤ 255) (j : Nat) : (keyOf8 ks j).length ≤ 256 := by
  by_cases hj : j < ks.length
  · rw [keyOf8_get ks j hj, List.length_append, be_length, sb_length]
    have := h _ (List.getElem_mem hj)
    omega
  · rw [keyOf8_none ks j hj]; simp

theorem keys_le {t : Tree} (h : headOK t) : ∀ x ∈ t.ks, 1 ≤ x.size ∧ x.size ≤ 255 := by
  intro x hx
  have h6 := h.2.2.2.2.2
  unfold rightKeys at h6
  split at h6
  · have := h6.2.1 x hx
    exact ⟨this.1, this.2.1⟩
  · rw [h6] at hx; simp at hx

mutual
theorem bytes_len : ∀ t : Tree, validT t = true → (bytesT t).length + 256 ≤ 4361 * cntT t
  | .node k n s ks l, h => by
    have hh := validT_head h
    have hl : validL l = true := by
      rw [validT_eq, Bool.and_eq_true] at h
      exact h.2
    have hi := items_len ks (fun x hx => (keys_le hh x hx).2) l 0 hl
    have hs : s.size ≤ (layD k).bytes := hh.2.2.1
    have hel : (be 4 l.length ++ itemsB ks 0 l).length ≤ 4 + 4361 * cntL l := by rw [List.length_append, be_length]; omega
    show (be 1 k ++ bodyB (layD k) n s (be 4 l.length ++ itemsB ks 0 l)).length + 256 ≤ 4361 * cntT (.node k n s ks l)
    rw [cntT_eq, List.length_append, be_length]
    show _ ≤ 4361 * (1 + cntL l)
    generalize be 4 l.length ++ itemsB ks 0 l = el at *
    rcases lay_cases k with e | e | e | e | e | e | e | e <;> rw [e] at hs ⊢ <;> simp [bodyB, be_length, sb_length] at hs ⊢ <;> omega
theorem items_len (ks : List ByteArray) (hk : ∀ x ∈ ks, x.size ≤ 255) : ∀ (l : List Tree) (i : Nat), validL l = true → (itemsB ks i l).length ≤ 4361 * cntL l
  | [], _, _ => by simp [itemsB]
  | a :: r, i, h => by
    have h' : (validT a && validL r) = true := h
    rw [Bool.and_eq_true] at h'
    have h1 := bytes_len a h'.1
    have h2 := items_len ks hk r (i + 1) h'.2
    have h3 := keyOf8_le hk i
    have e : cntL (a :: r) = cntT a + cntL r := rfl
    simp only [itemsB, List.length_append]
    rw [e]
    omega
end

theorem putText_any (v : Value) (l : List UInt8) (d q : Nat) (s : ByteArray) (w : World) (hv : Shows w d v l) (hl : l.length + s.size ≤ 140737488355320) (hq : q = 1 ∨ q = 2 ∨ q = 4) (h : s.size < 256 ^ q) :
    Calls Tryz.prog 119 #[v, .string s, .int .i64 q] w fun e w' => ∃ v', e = .returned (.tuple #[v', .int .i64 0]) ∧ Own 5 w' w.heap.size v' (l ++ (be q s.size ++ sb s)) ∧ Below w.heap.size w w' := by
  rcases hq with rfl | rfl | rfl
  · exact putText_ok1 v l d s w hv hl h
  · exact putText_ok2 v l d s w hv hl h
  · exact putText_ok4 v l d s w hv hl h
theorem put_any2 (v : Value) (l : List UInt8) (d n q : Nat) (w : World) (h : Shows w d v l) (hl : l.length ≤ 140737488355320) (hq : q = 1 ∨ q = 2 ∨ q = 4 ∨ q = 8) :
    Calls Tryz.prog 117 #[v, .int .u64 n, .int .i64 q] w fun e w' => ∃ v', e = .returned v' ∧ Own 5 w' w.heap.size v' (l ++ be q n) ∧ Below w.heap.size w w' := by
  rcases hq with rfl | rfl | rfl | rfl
  · exact put_any v l d n 1 w h hl
  · exact put_any v l d n 2 w h hl
  · exact put_any v l d n 4 w h hl
  · exact put_any v l d n 8 w h hl

/-- What encoded says. -/
def EncSaid (t : Tree) (w : World) (e : Ending) (w' : World) : Prop := ∃ v, e = .returned v ∧ Own 5 w' w.heap.size v (bytesT t) ∧ Below w.heap.size w w'

set_option maxRecDepth 100000 in
set_option maxHeartbeats 4000000 in
theorem elements_any (t : Tree) (vs : List Value) (w : World) (h : ShowsT w t vs) (hv : validT t = true) (hc : cntT t ≤ 200)
    (hi : ∀ j (hj : j < t.l.length) (vs : List Value) (w' : World), ShowsT w' (t.l[j]'hj) vs → Calls Tryz.prog 144 #[.agg vs.toArray] w' (EncSaid (t.l[j]'hj) w')) :
    Calls Tryz.prog 152 #[.agg vs.toArray] w fun e w' => ∃ v, e = .returned v ∧ Own 5 w' w.heap.size v (elemsB t) ∧ Below w.heap.size w w' := by
  have hsh := h
  obtain ⟨kv, A, c, d0, d1, cs, rfl, hk, hn, hks, hkl, hkz, hsz, hln, hlc, hcm, _⟩ := h.open
  obtain ⟨A3, c3, rfl⟩ := str_form hks
  have hkey := keys_le (validT_head hv)
  have hlen : (elemsB t).length ≤ 880000 := by
    have h1 := items_len t.ks (fun x hx => (hkey x hx).2) t.l 0 (by rw [validT_eq, Bool.and_eq_true] at hv; exact hv.2)
    rw [cntT_eq] at hc
    unfold elemsB
    rw [List.length_append, be_length]
    omega
  have hstep := fun j (hj : j < t.l.length) => items_snoc t.ks t.l 0 j hj
  have hpre := fun j => items_take_le t.ks t.l 0 j
  have hel : elemsB t = be 4 t.l.length ++ itemsB t.ks 0 t.l := rfl
  have HI := Lib.hid hi
  have HK := Lib.hid hkey
  have HST := Lib.hid hstep
  have HPRE := Lib.hid hpre
  have HEL := Lib.hid hel
  have HLEN := Lib.hid hlen
  have hkg := Lib.hid (fun j (h : j < t.ks.length) => keyOf8_get t.ks j h)
  have hkn := Lib.hid (fun j (h : ¬ j < t.ks.length) => keyOf8_none t.ks j h)
  have hX := BoxV.new (v0 := .int .u8 t.k) (v1 := .int .u64 t.n) (v2 := .string t.s) (v3 := .slice A3 t.ks.length c3) (v4 := .slice A t.l.length c) w
  have hBX := below_boxV w (Obj.cells #[.int .u8 t.k, .int .u64 t.n, .string t.s, .slice A3 t.ks.length c3, .slice A t.l.length c] 31)
  have hXs : (w.alloc (Obj.cells #[.int .u8 t.k, .int .u64 t.n, .string t.s, .slice A3 t.ks.length c3, .slice A t.l.length c] 31)).heap.size = w.heap.size + 1 := by simp
  have HP0 := Lib.hid (fun W => put_any2 (.slice none 0 0) [] 0 t.l.length 4 W (Shows.nil_ _ _) (by simp) (by omega))
  have hu64 : IntKind.u64.wrap (t.l.length : Int) = (t.l.length : Int) := by rw [IntKind.wrap_u64]; omega
  clear hi hkey hstep hpre hel hlen hv hc
  go_enter Tryz.func152, Tryz.ntmps152
  go_wp2_with fail
  refine (HP0.out _).mono ?_
  rintro e w1 ⟨v1, rfl, ho1, hb1⟩
  have hX1 := hX.kept hb1 (Nat.le_refl _)
  have hB1 := hBX.trans (hb1.mono hBX.size)
  rw [hXs] at ho1
  rw [List.nil_append] at ho1
  have x4 := hX1.c4
  have hsz1 : w.heap.size < w1.heap.size := hX1.lt
  clear hX hBX hb1
  go_wp2_with fail
  go_loopw [3, 16] (fun out i wr => ∃ j : Nat, j ≤ t.l.length ∧ i = .int .i64 j ∧ Own 5 wr (w.heap.size + 1) out (be 4 t.l.length ++ itemsB t.ks 0 (t.l.take j)) ∧ BoxV wr w.heap.size (.int .u8 t.k) (.int .u64 t.n) (.string t.s) (.slice A3 t.ks.length c3) (.slice A t.l.length c) ∧ Below w.heap.size w wr) (fun _ i _ => t.l.length - (intOf i).toNat)
  case atStart => exact ⟨0, by omega, rfl, by simpa [itemsB] using ho1, hX1, hB1⟩
  case round =>
    obtain ⟨j, hj, rfl, ho, hX, hb⟩ := hrel
    rename World => wj
    have x3 := hX.c3
    have hXlt := hX.lt
    by_cases hlt : j < t.l.length
    · obtain ⟨d, o, v0, v1, v2, v3, v4, rfl, hd, hch, a0, a1, a2, a3, a4⟩ := hsh.child j hlt
      have e0 := cell_kept a0 hb (Nat.le_refl _) hd
      have e1 := cell_kept a1 hb (Nat.le_refl _) hd
      have e2 := cell_kept a2 hb (Nat.le_refl _) hd
      have e3 := cell_kept a3 hb (Nat.le_refl _) hd
      have e4 := cell_kept a4 hb (Nat.le_refl _) hd
      clear a0 a1 a2 a3 a4
      have hjl : (j : Int) < (t.l.length : Int) := by omega
      obtain ⟨kv', A', c', d0', d1', cs', hvs, _, _, hks', _⟩ := hch.open
      simp only [List.cons.injEq, and_true] at hvs
      obtain ⟨rfl, rfl, rfl, rfl, rfl⟩ := hvs
      obtain ⟨A4, c4, rfl⟩ := str_form hks'
      have HCH := Lib.hid hch
      have hlenj : (be 4 t.l.length ++ itemsB t.ks 0 (t.l.take j)).length ≤ 880000 := by
        have h1 := HPRE.out j
        have h2 := HLEN.out
        rw [HEL.out, List.length_append] at h2
        rw [List.length_append]
        omega
      have hlenj1 : (be 4 t.l.length ++ itemsB t.ks 0 (t.l.take (j + 1))).length ≤ 880000 := by
        have h1 := HPRE.out (j + 1)
        have h2 := HLEN.out
        rw [HEL.out, List.length_append] at h2
        rw [List.length_append]
        omega
      obtain ⟨W, hW⟩ : ∃ W, W = wj.alloc (Obj.cells #[.int .u8 (t.l[j]'hlt).k, .int .u64 (t.l[j]'hlt).n, .string (t.l[j]'hlt).s, .slice A4 (t.l[j]'hlt).ks.length c4, .slice A' (t.l[j]'hlt).l.length c'] 31) := ⟨_, rfl⟩
      have hbW : Below wj.heap.size wj W := by rw [hW]; exact below_boxV _ _
      have hEB : BoxV W wj.heap.size (.int .u8 (t.l[j]'hlt).k) (.int .u64 (t.l[j]'hlt).n) (.string (t.l[j]'hlt).s) (.slice A4 (t.l[j]'hlt).ks.length c4) (.slice A' (t.l[j]'hlt).l.length c') := by rw [hW]; exact BoxV.new wj
      have hXW := hX.kept hbW (Nat.le_refl _)
      have hoW : Own 5 W (w.heap.size + 1) _ _ := ho.keep fun g hg => hbW.block g (ho.block g hg).2
      have hbWw := hb.trans (hbW.mono hb.size)
      have hoB := Lib.hid ho.block
      have x3 := hXW.c3
      have HEB := Lib.hid hEB
      have HXW := Lib.hid hXW
      clear hEB hX hXW ho
      go_upto_if 25 with fail
      rw [← hW]
      have HW := Lib.hid hW
      clear hW
      have hsW := hbW.size
      go_cut [3] from 25 to 42 (fun out wx => Own 5 wx (w.heap.size + 1) out (be 4 t.l.length ++ itemsB t.ks 0 (t.l.take j) ++ keyOf8 t.ks j) ∧ BoxV wx w.heap.size (.int .u8 t.k) (.int .u64 t.n) (.string t.s) (.slice A3 t.ks.length c3) (.slice (some ⟨d, o, none⟩) t.l.length c) ∧ BoxV wx wj.heap.size (.int .u8 (t.l[j]'hlt).k) (.int .u64 (t.l[j]'hlt).n) (.string (t.l[j]'hlt).s) (.slice A4 (t.l[j]'hlt).ks.length c4) (.slice A' (t.l[j]'hlt).l.length c') ∧ Below w.heap.size w wx)
      case first =>
        by_cases hjk : j < t.ks.length
        · have hjkI : (j : Int) < (t.ks.length : Int) := by omega
          have hjkN := hjk
          obtain ⟨o3, c3', hA3, hcell⟩ := str_cell (hks.below' hbWw (Nat.le_refl _)) j hjk
          simp only [Value.slice.injEq, true_and] at hA3
          obtain ⟨rfl, rfl⟩ := hA3
          have hkb := hkg.out j hjk
          have hks2 := HK.out _ (List.getElem_mem hjk)
          have HPT := Lib.hid (fun w => putText_any (.slice none 0 0) [] 0 1 t.ks[j] w (Shows.nil_ _ _) (by simp; omega) (.inl rfl) (by omega))
          rw [List.nil_append, ← hkb] at HPT
          have hklen : (keyOf8 t.ks j).length ≤ 256 := keyOf8_le (fun x hx => (HK.out x hx).2) j
          clear hkb hks2
          generalize t.ks[j] = x at *
          generalize keyOf8 t.ks j = kb at *
          go_wp2_with fail
          refine (HPT.out _).mono ?_
          rintro e w2 ⟨vk, rfl, hok, hb2⟩
          obtain ⟨gk, hgk, hsk⟩ := hok.shows
          have ho2 : Own 5 w2 (w.heap.size + 1) _ _ := hoW.keep fun g hg => hb2.block g (by have := (hoB.out g hg).2; omega)
          have hbw2 := hbWw.trans (hb2.mono hbWw.size)
          have hX2 := Lib.hid (HXW.out.kept hb2 (Nat.le_refl _))
          have hE2 := Lib.hid (HEB.out.kept hb2 (Nat.le_refl _))
          have hs2 := hb2.size
          go_wp2_with (at_builtin; refine wpList_append8 _ rfl (.tmp 35) (.tmp 36) 133 rfl (w.heap.size + 1) 5 Tryz.underlying133 info5 u3 _ rfl ho2 gk vk _ rfl hsk (by omega) (by omega) ?_; intro v3 w3 ho3 hg3)
          go_meet
          refine ⟨ho3, ?_, ?_, hbw2.grown hg3 (by omega) (fun k hk => by have := (hoB.out k hk).1; omega)⟩
          · exact (hg3.block _ (by omega) (fun hk => by have := (hoB.out _ hk.symm).1; omega)).trans hX2.out
          · exact (hg3.block _ hE2.out.lt (fun hk => by have := (hoB.out _ hk.symm).2; omega)).trans hE2.out
        · have hjkI : ¬ (j : Int) < (t.ks.length : Int) := by omega
          have hkb := Lib.hid (hkn.out j hjk)
          have hjkN := hjk
          go_wp2_with fail
          go_meet
          refine ⟨?_, HXW.out, HEB.out, hbWw⟩
          rw [hkb.out, List.append_nil]
          exact hoW
      case rest =>
        obtain ⟨hoc, hXc, hEc, hbc⟩ := hcut
        have f0 := hEc.c0
        have f1 := hEc.c1
        have f2 := hEc.c2
        have f3 := hEc.c3
        have f4 := hEc.c4
        have HCC := Lib.hid (HI.out j hlt _ wc (HCH.out.kept hbc (Nat.le_refl _)))
        have hocB := Lib.hid hoc.block
        have HXC := Lib.hid hXc
        have HSTj := Lib.hid (HST.out j hlt)
        clear hXc hEc
        go_wp2_with fail
        refine HCC.out.mono ?_
        rintro e w4 ⟨vb, rfl, hob, hb4⟩
        obtain ⟨gb, hgb, hsb⟩ := hob.shows
        have ho4 : Own 5 w4 (w.heap.size + 1) _ _ := hoc.keep fun g hg => hb4.block g (hocB.out g hg).2
        have hbw4 := hbc.trans (hb4.mono hbc.size)
        have hX4 := Lib.hid (HXC.out.kept hb4 (Nat.le_refl _))
        have hs4 := hb4.size
        have hs0 := HXC.out.lt
        have hcat : be 4 t.l.length ++ itemsB t.ks 0 (t.l.take j) ++ keyOf8 t.ks j ++ bytesT (t.l[j]'hlt) = be 4 t.l.length ++ itemsB t.ks 0 (t.l.take (j + 1)) := by rw [HSTj.out, Nat.zero_add]; simp
        have hcl : (be 4 t.l.length ++ itemsB t.ks 0 (t.l.take j) ++ keyOf8 t.ks j).length + (bytesT (t.l[j]'hlt)).length ≤ 880000 := by rw [← List.length_append, hcat]; exact hlenj1
        have HCAT := Lib.hid hcat
        have HX4 := hX4
        clear hcat
        go_wp2_with (at_builtin; refine wpList_append8 _ rfl (.tmp 38) (.tmp 40) 133 rfl (w.heap.size + 1) 5 Tryz.underlying133 info5 _ _ rfl ho4 gb vb _ rfl hsb (by omega) (by omega) ?_; intro v5 w5 ho5 hg5)
        go_roundw
        case rel =>
          refine ⟨j + 1, by omega, by go_num, ?_, ?_, hbw4.grown hg5 (by omega) (fun k hk => by have := (hocB.out k hk).1; omega)⟩
          · rw [← HCAT.out]; exact ho5
          · exact (hg5.block _ (by omega) (fun hk => by have := (hocB.out _ hk.symm).1; omega)).trans hX4.out
        case measure => simp [intOf]; omega
    · have hjl : ¬ (j : Int) < (t.l.length : Int) := by omega
      obtain rfl : j = t.l.length := by omega
      have hfin : Own 5 wj w.heap.size u3 (elemsB t) := by
        rw [HEL.out]
        rw [List.take_length] at ho
        exact ho.mono (by omega)
      have HF := Lib.hid hfin
      clear hfin ho
      go_wp2_with fail
      go_ret
      exact ⟨_, rfl, HF.out, hb⟩

theorem be1_lt (k : Nat) (hk : k < 256) : IntKind.u64.wrap (k : Int) = (k : Int) := by rw [IntKind.wrap_u64]; omega

set_option maxRecDepth 100000 in
set_option maxHeartbeats 4000000 in
theorem encoded_any (N : Nat) : ∀ (t : Tree) (vs : List Value) (w : World), cntT t = N → ShowsT w t vs → validT t = true → cntT t ≤ 200 →
    Calls Tryz.prog 144 #[.agg vs.toArray] w (EncSaid t w) := by
  induction N using Nat.strongRecOn with
  | ind N ih =>
  intro t vs w hN h hv hc
  have HE := Lib.hid (fun w' (hw' : Below w.heap.size w w') => elements_any t vs w' (h.kept hw' (Nat.le_refl _)) hv hc
    (fun j hj vs w' hs => ih _ (by rw [← hN]; exact cnt_child t j hj) _ vs w' rfl hs (validT_child hv j hj) (by have := cnt_child t j hj; omega)))
  have hblen := bytes_len t hv
  have hhead := validT_head hv
  have hbe := bytesT_eq t
  have hss : t.s.size ≤ (layD t.k).bytes := hhead.2.2.1
  have helen : (elemsB t).length ≤ 880000 := by
    have h1 := items_len t.ks (fun x hx => (keys_le hhead x hx).2) t.l 0 (by rw [validT_eq, Bool.and_eq_true] at hv; exact hv.2)
    rw [cntT_eq] at hc
    unfold elemsB
    rw [List.length_append, be_length]
    omega
  unfold EncSaid
  rw [hbe] at hblen ⊢
  clear ih hN hv hhead hbe
  have hsh := h
  obtain ⟨kv, A, c, d0, d1, cs, rfl, hk, hn, hks, hkl, hkz, hsz, hln, hlc, hcm, _⟩ := h.open
  obtain ⟨A3, c3, rfl⟩ := str_form hks
  have HL := Lib.hid (fun w => layoutOf_any t.k w)
  have HP1 := Lib.hid (fun W => put_any2 (.slice none 0 0) [] 0 t.k 1 W (Shows.nil_ _ _) (by simp) (.inl rfl))
  have hwk := be1_lt t.k hk
  have hb1len : (be 1 t.k).length = 1 := be_length _ _
  have HPN := Lib.hid (fun v d W q (hq : q = 1 ∨ q = 2 ∨ q = 4 ∨ q = 8) (hs : Shows W d v (be 1 t.k)) => put_any2 v (be 1 t.k) d t.n q W hs (by omega) hq)
  have HPS := Lib.hid (fun v d W q (hq : q = 1 ∨ q = 2 ∨ q = 4) (hz : t.s.size < 256 ^ q) (hs : Shows W d v (be 1 t.k)) => putText_any v (be 1 t.k) d q t.s W hs (by omega) hq hz)
  have HPE := Lib.hid (fun v d W (s : ByteArray) (hz : s.size ≤ 880000) (hs : Shows W d v (be 1 t.k)) => putText_any v (be 1 t.k) d 4 s W hs (by omega) (.inr (.inr rfl)) (by omega))
  have hbd : ∀ y, layD t.k = y → bodyB (layD t.k) t.n t.s (elemsB t) = bodyB y t.n t.s (elemsB t) := fun y h => by rw [h]
  have hlc8 := lay_cases t.k
  have HELEN := Lib.hid helen
  have hX := BoxV.new (v0 := .int .u8 t.k) (v1 := .int .u64 t.n) (v2 := .string t.s) (v3 := .slice A3 t.ks.length c3) (v4 := .slice A t.l.length c) w
  have hBX := below_boxV w (Obj.cells #[.int .u8 t.k, .int .u64 t.n, .string t.s, .slice A3 t.ks.length c3, .slice A t.l.length c] 31)
  have hXs : (w.alloc (Obj.cells #[.int .u8 t.k, .int .u64 t.n, .string t.s, .slice A3 t.ks.length c3, .slice A t.l.length c] 31)).heap.size = w.heap.size + 1 := by simp
  obtain ⟨BD, hBD⟩ : ∃ BD, BD = bodyB (layD t.k) t.n t.s (elemsB t) := ⟨_, rfl⟩
  rw [← hBD] at hblen ⊢
  have HBD := Lib.hid hBD
  have HBLEN := Lib.hid hblen
  generalize hy : layD t.k = y at *
  obtain ⟨yn, ym, yt, yb, yl, yk⟩ := y
  simp only [Lay.cells] at HL
  clear hbd hblen helen hk hn hkl hlc hBD
  go_enter Tryz.func144, Tryz.ntmps144
  go_wp2_with fail
  refine (HP1.out _).mono ?_
  rintro e w1 ⟨v1, rfl, ho1, hb1⟩
  rw [hXs, List.nil_append] at ho1
  have hX1 := hX.kept hb1 (Nat.le_refl _)
  have hB1 := hBX.trans (hb1.mono hBX.size)
  have x0 := hX1.c0
  clear hX hBX hb1
  go_wp2_with fail
  refine (HL.out _).mono ?_
  rintro e w2 ⟨rfl, hb2⟩
  have hX2 := hX1.kept hb2 (Nat.le_refl _)
  have hB2 := hB1.trans (hb2.mono hB1.size)
  have ho2 : Own 5 w2 (w.heap.size + 1) _ _ := ho1.keep fun g hg => hb2.block g (ho1.block g hg).2
  obtain ⟨W, hW⟩ : ∃ W, W = w2.alloc (Obj.cells #[.int .i64 yn, .int .u64 ym, .int .i64 yt, .int .i64 yb, .bool yl, .bool yk] 184) := ⟨_, rfl⟩
  have hbW : Below w2.heap.size w2 W := by rw [hW]; exact (Below.refl _ _).alloc (Nat.le_refl _) _
  have hXW := hX2.kept hbW (Nat.le_refl _)
  have hBW := hB2.trans (hbW.mono hB2.size)
  have hoW : Own 5 W (w.heap.size + 1) _ _ := ho2.keep fun g hg => hbW.block g (ho2.block g hg).2
  have hLW : W.heap[w2.heap.size]? = some (.cells #[.int .i64 yn, .int .u64 ym, .int .i64 yt, .int .i64 yb, .bool yl, .bool yk] 184 (0, 0)) := by rw [hW]; exact heap_alloc_new _ _
  have hcellW : ∀ (W' : World), W'.heap[w2.heap.size]? = some (.cells #[.int .i64 yn, .int .u64 ym, .int .i64 yt, .int .i64 yb, .bool yl, .bool yk] 184 (0, 0)) → ∀ i, W'.cell? ⟨w2.heap.size, i, none⟩ = (#[Value.int .i64 yn, .int .u64 ym, .int .i64 yt, .int .i64 yb, .bool yl, .bool yk] : Array Value)[i]? := fun W' h' i => by rw [cell_of_row W' _ i _ 184 (0, 0) h']
  have y0 : W.cell? ⟨w2.heap.size, 0, none⟩ = some (.int .i64 yn) := hcellW W hLW 0
  have y2 : W.cell? ⟨w2.heap.size, 2, none⟩ = some (.int .i64 yt) := hcellW W hLW 2
  have y4 : W.cell? ⟨w2.heap.size, 4, none⟩ = some (.bool yl) := hcellW W hLW 4
  have f0 := hXW.c0
  have f1 := hXW.c1
  have f2 := hXW.c2
  have f3 := hXW.c3
  have f4 := hXW.c4
  obtain ⟨g1, hg1, hs1⟩ := hoW.shows
  clear hcellW hLW x0 hX1
  go_upto_region 3 with fail
  rw [← hW]
  have hsW := hBW.size
  clear hW hb2 hX2
  rcases hlc8 with e | e | e | e | e | e | e | e <;> obtain ⟨rfl, rfl, rfl, rfl, rfl, rfl⟩ := Lay.mk.inj e <;> clear e
  case inl =>
    go_wp2_with fail
    refine (HPN.out v1 g1 W 1 (by omega) hs1).mono ?_
    rintro e w3 ⟨v3, rfl, ho3, hb3⟩
    go_wp2_with fail
    go_ret
    exact ⟨v3, rfl, by rw [HBD.out]; exact ho3.mono hsW, hBW.trans (hb3.mono hsW)⟩
  case inr.inl =>
    go_wp2_with fail
    refine (HPN.out v1 g1 W 1 (by omega) hs1).mono ?_
    rintro e w3 ⟨v3, rfl, ho3, hb3⟩
    go_wp2_with fail
    go_ret
    exact ⟨v3, rfl, by rw [HBD.out]; exact ho3.mono hsW, hBW.trans (hb3.mono hsW)⟩
  case inr.inr.inl =>
    go_wp2_with fail
    refine (HPN.out v1 g1 W 8 (by omega) hs1).mono ?_
    rintro e w3 ⟨v3, rfl, ho3, hb3⟩
    go_wp2_with fail
    go_ret
    exact ⟨v3, rfl, by rw [HBD.out]; exact ho3.mono hsW, hBW.trans (hb3.mono hsW)⟩
  case inr.inr.inr.inl =>
    go_wp2_with fail
    refine (HPS.out v1 g1 W 2 (by omega) (by omega) hs1).mono ?_
    rintro e w3 ⟨v3, rfl, ho3, hb3⟩
    go_wp2_with fail
    go_ret
    exact ⟨v3, rfl, by rw [HBD.out]; exact ho3.mono hsW, hBW.trans (hb3.mono hsW)⟩
  case inr.inr.inr.inr.inl =>
    go_wp2_with fail
    refine (HPS.out v1 g1 W 4 (by omega) (by omega) hs1).mono ?_
    rintro e w3 ⟨v3, rfl, ho3, hb3⟩
    go_wp2_with fail
    go_ret
    exact ⟨v3, rfl, by rw [HBD.out]; exact ho3.mono hsW, hBW.trans (hb3.mono hsW)⟩
  case inr.inr.inr.inr.inr.inl =>
    have HEW := Lib.hid (HE.out W hBW)
    clear HE
    go_wp2_with fail
    refine HEW.out.mono ?_
    rintro e w3 ⟨v3, rfl, ho3, hb3⟩
    obtain ⟨g3, hg3, hs3⟩ := ho3.shows
    have hcv := conv_at hs3
    have hoW3 := hs1.keep hb3.size (fun hp => hb3.block g1 (hs1.lt hp))
    have hsz3 : (str8 (elemsB t)).size ≤ 880000 := by rw [str8_size]; exact HELEN.out
    have HPW := Lib.hid (HPE.out v1 g1 w3 (str8 (elemsB t)) hsz3 hoW3)
    have hb3w := hBW.trans (hb3.mono hsW)
    have hsw3 := hb3w.size
    clear hoW3 hsz3
    go_wp2_with fail
    refine HPW.out.mono ?_
    rintro e w4 ⟨v4, rfl, ho4, hb4⟩
    go_wp2_with fail
    go_ret
    refine ⟨v4, rfl, ?_, hb3w.trans (hb4.mono hsw3)⟩
    rw [HBD.out]
    rw [sb_str8, str8_size] at ho4
    exact ho4.mono hsw3
  case inr.inr.inr.inr.inr.inr.inl =>
    have HEW := Lib.hid (HE.out W hBW)
    clear HE
    go_wp2_with fail
    refine HEW.out.mono ?_
    rintro e w3 ⟨v3, rfl, ho3, hb3⟩
    obtain ⟨g3, hg3, hs3⟩ := ho3.shows
    have hcv := conv_at hs3
    have hoW3 := hs1.keep hb3.size (fun hp => hb3.block g1 (hs1.lt hp))
    have hsz3 : (str8 (elemsB t)).size ≤ 880000 := by rw [str8_size]; exact HELEN.out
    have HPW := Lib.hid (HPE.out v1 g1 w3 (str8 (elemsB t)) hsz3 hoW3)
    have hb3w := hBW.trans (hb3.mono hsW)
    have hsw3 := hb3w.size
    clear hoW3 hsz3
    go_wp2_with fail
    refine HPW.out.mono ?_
    rintro e w4 ⟨v4, rfl, ho4, hb4⟩
    go_wp2_with fail
    go_ret
    refine ⟨v4, rfl, ?_, hb3w.trans (hb4.mono hsw3)⟩
    rw [HBD.out]
    rw [sb_str8, str8_size] at ho4
    exact ho4.mono hsw3
  case inr.inr.inr.inr.inr.inr.inr =>
    go_wp2_with fail
    go_ret
    refine ⟨v1, rfl, ?_, hBW⟩
    rw [HBD.out]
    have : bodyB ⟨0, 0, 0, 0, false, false⟩ t.n t.s (elemsB t) = [] := rfl
    rw [this, List.append_nil]
    exact hoW.mono (by omega)

set_option maxRecDepth 100000 in
set_option maxHeartbeats 1000000 in
theorem put_ok (t : Tree) (vs : List Value) (w : World) (h : ShowsT w t vs) (hc : checkT t = 0) :
    Calls Tryz.prog 139 #[.agg vs.toArray] w fun e w' => ∃ v, e = .returned (.tuple #[v, .int .i64 0]) ∧ Own 5 w' w.heap.size v (bytesT t) ∧ Below w.heap.size w w' := by
  have hv : validT t = true ∧ cntT t ≤ 200 := by
    unfold checkT at hc
    repeat' split at hc
    all_goals first | (exact absurd hc (by decide)) | skip
    rename_i h1 h2 h3
    exact ⟨by simpa using h3, by omega⟩
  have HC := Lib.hid (fun w' (hw' : Below w.heap.size w w') => check_any t vs w' (h.kept hw' (Nat.le_refl _)))
  rw [hc] at HC
  have HE := Lib.hid (fun w' (hw' : Below w.heap.size w w') => encoded_any _ t vs w' rfl (h.kept hw' (Nat.le_refl _)) hv.1 hv.2)
  obtain ⟨kv, A, c, d0, d1, cs, rfl, _⟩ := h.open
  have hX := BoxV.new (v0 := .int .u8 t.k) (v1 := .int .u64 t.n) (v2 := .string t.s) (v3 := kv) (v4 := .slice A t.l.length c) w
  have hBX := below_boxV w (Obj.cells #[.int .u8 t.k, .int .u64 t.n, .string t.s, kv, .slice A t.l.length c] 31)
  unfold EncSaid at HE
  generalize bytesT t = B at *
  clear hc hv
  go_enter Tryz.func139, Tryz.ntmps139
  go_wp2_with fail
  refine (HC.out _ hBX).mono ?_
  rintro e w1 ⟨rfl, hb1⟩
  have hX1 := hX.kept hb1 (Nat.le_refl _)
  have hB1 := hBX.trans (hb1.mono hBX.size)
  have x0 := hX1.c0
  have x1 := hX1.c1
  have x2 := hX1.c2
  have x3 := hX1.c3
  have x4 := hX1.c4
  have HE1 := Lib.hid (HE.out w1 hB1)
  clear hX hBX HE
  go_wp2_with fail
  refine HE1.out.mono ?_
  rintro e w2 ⟨v, rfl, ho, hb2⟩
  go_wp2_with fail
  go_ret2
  exact ⟨v, rfl, ho.mono hB1.size, hB1.trans (hb2.mono hB1.size)⟩

set_option maxRecDepth 100000 in
set_option maxHeartbeats 1000000 in
theorem put_no (t : Tree) (vs : List Value) (w : World) (h : ShowsT w t vs) (hc : checkT t ≠ 0) :
    Calls Tryz.prog 139 #[.agg vs.toArray] w fun e w' => e = .returned (.tuple #[.slice none 0 0, .int .i64 (checkT t)]) ∧ Below w.heap.size w w' := by
  have HC := Lib.hid (fun w' (hw' : Below w.heap.size w w') => check_any t vs w' (h.kept hw' (Nat.le_refl _)))
  obtain ⟨kv, A, c, d0, d1, cs, rfl, _⟩ := h.open
  have hBX := below_boxV w (Obj.cells #[.int .u8 t.k, .int .u64 t.n, .string t.s, kv, .slice A t.l.length c] 31)
  generalize checkT t = R at *
  have hR : ((R : Int) != 0) = true := by simp; omega
  go_enter Tryz.func139, Tryz.ntmps139
  go_wp2_with fail
  refine (HC.out _ hBX).mono ?_
  rintro e w1 ⟨rfl, hb1⟩
  go_wp2_with fail
  go_ret2
  exact ⟨rfl, hBX.trans (hb1.mono hBX.size)⟩

end Go.Proofs.YtpmafabphlejeaaGreat

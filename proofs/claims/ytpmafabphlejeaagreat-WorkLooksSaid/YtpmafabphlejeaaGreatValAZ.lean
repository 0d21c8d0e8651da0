/-
  Texts, together: ValB, ValA, ValC.
  Conditions: none but sizes.
-/
import Derived.WalkKit
import Derived.Deep.LoopGhost
import Derived.Test.YtpmafabphlejeaaGreatV5AZ
import Derived.Laws.RangeAny
import Derived.Lib.OthersKept
import Derived.Lib.ValidLaws
import Derived.WalkSpells
/-
  Rows of values in memory; the contracts of value.tooDeep (with slices.ContainsFunc, IndexFunc and its closure) and value.spare.
  Conditions: none but sizes.
-/
namespace Go.Proofs.YtpmafabphlejeaaGreat
open Go.RowKit
set_option linter.unusedVariables false
set_option linter.unusedSimpArgs false

/-- These values lie there, one behind the other. -/
structure ListT (w : World) (l : List Tree) (A : Option Addr) (c : Nat) : Prop where
  lm : l.length ≤ 2199023255552
  lc : l.length ≤ c
  cm : c ≤ maxLen
  at_ : ∀ j (hj : j < l.length), ∃ (d o : Nat) (v0 v1 v2 v3 v4 : Value), A = some ⟨d, o, none⟩ ∧ d < w.heap.size ∧ ShowsT w l[j] [v0, v1, v2, v3, v4] ∧ w.cell? ⟨d, o + j * 5, none⟩ = some v0 ∧ w.cell? ⟨d, o + j * 5 + 1, none⟩ = some v1 ∧
      w.cell? ⟨d, o + j * 5 + 2, none⟩ = some v2 ∧ w.cell? ⟨d, o + j * 5 + 3, none⟩ = some v3 ∧ w.cell? ⟨d, o + j * 5 + 4, none⟩ = some v4

theorem ListT.kept {w w' : World} {B : Nat} {l : List Tree} {A : Option Addr} {c : Nat} (h : ListT w l A c) (hb : Below B w w') (hB : w.heap.size ≤ B) : ListT w' l A c :=
  ⟨h.lm, h.lc, h.cm, fun j hj => by
    obtain ⟨d, o, v0, v1, v2, v3, v4, rfl, hd, hs, c0, c1, c2, c3, c4⟩ := h.at_ j hj
    have hc : ∀ k, w'.cell? ⟨d, k, none⟩ = w.cell? ⟨d, k, none⟩ := fun k => World.cell?_of_block (w := w) (hb.block d (Nat.lt_of_lt_of_le hd hB))
    exact ⟨d, o, v0, v1, v2, v3, v4, rfl, Nat.lt_of_lt_of_le hd hb.size, hs.kept hb hB, (hc _).trans c0, (hc _).trans c1, (hc _).trans c2, (hc _).trans c3, (hc _).trans c4⟩⟩

theorem ShowsT.list {w : World} {t : Tree} {kv : Value} {A : Option Addr} {c : Nat} {a b s : Value} (h : ShowsT w t [a, b, s, kv, .slice A t.l.length c]) : ListT w t.l A c := by
  have h' := h
  obtain ⟨kv', A', c', d0, d1, cs, e, _, _, _, _, _, _, h1, h2, h3, _⟩ := h'.open
  simp only [List.cons.injEq, Value.slice.injEq, and_true] at e
  obtain ⟨_, _, _, _, e1, _, e2⟩ := e
  subst e1 e2
  exact ⟨h1, h2, h3, fun j hj => h.child j hj⟩

/-- A value's cells, from parts. -/
theorem ShowsT.make {w : World} {k n : Nat} {s : ByteArray} {ks : List ByteArray} {l : List Tree} {kv : Value} {A : Option Addr} {c d0 : Nat} (hk : k < 256) (hn : n < 18446744073709551616) (hks : ShowsG strC w d0 kv ks) (hkl : ks.length ≤ 8796093022208) (hkz : ∀ x ∈ ks, x.size ≤ 140737488351232) (hsz : s.size ≤ 140737488351232) (hl : ListT w l A c) :
    ShowsT w (.node k n s ks l) [.int .u8 k, .int .u64 n, .string s, kv, .slice A l.length c] := by
  by_cases h0 : 0 < l.length
  · obtain ⟨d, o, _, _, _, _, _, hA, hd, _⟩ := hl.at_ 0 h0
    have hex : ∀ j, ∃ vs : List Value, ∀ (hj : j < l.length), ShowsT w l[j] vs ∧ ∀ q, q < 5 → w.cell? ⟨d, o + (j * 5 + q), none⟩ = vs[q]? := fun j => by
      by_cases hj : j < l.length
      · obtain ⟨d', o', v0, v1, v2, v3, v4, hA', _, hs, c0, c1, c2, c3, c4⟩ := hl.at_ j hj
        rw [hA] at hA'
        simp only [Option.some.injEq, Addr.mk.injEq, and_true] at hA'
        obtain ⟨rfl, rfl⟩ := hA'
        refine ⟨_, fun _ => ⟨hs, fun q hq => ?_⟩⟩
        match q, hq with
        | 0, _ => exact c0
        | 1, _ => exact c1
        | 2, _ => exact c2
        | 3, _ => exact c3
        | 4, _ => exact c4
      · exact ⟨[], fun h => absurd h hj⟩
    exact .mk (d0 := d0) (d1 := d) (fun j => (hex j).choose) hk hn hks hkl hkz hsz hl.lm hl.lc hl.cm (fun _ => ⟨o, hA, hd, fun j hj q hq => ((hex j).choose_spec hj).2 q hq⟩) fun j hj => ((hex j).choose_spec hj).1
  · exact .mk (d0 := d0) (d1 := 0) (fun _ => []) hk hn hks hkl hkz hsz hl.lm hl.lc hl.cm (fun h => absurd h h0) fun j hj => absurd hj (by omega)

theorem ListT.nil (w : World) : ListT w [] none 0 := ⟨by simp, by simp, by simp, fun j hj => nomatch hj⟩

set_option maxRecDepth 100000 in
set_option maxHeartbeats 2000000 in
theorem indexFunc_deep (bb : Nat) (p : Tree → Bool) (l : List Tree) (A : Option Addr) (c : Nat) (w : World) (hl : ListT w l A c)
    (hf : ∀ j (hj : j < l.length) (vs : List Value) (w' : World), Below w.heap.size w w' → ShowsT w' (l[j]'hj) vs → Calls Tryz.prog 154 #[.agg vs.toArray, .pointer (some ⟨bb, 0, none⟩)] w' fun e w'' => e = .returned (.bool (p (l[j]'hj))) ∧ Below w'.heap.size w' w'') :
    Calls Tryz.prog 159 #[.slice A l.length c, .func (.func 154) #[] #[.pointer (some ⟨bb, 0, none⟩)]] w fun e w' => ∃ r : Int, e = .returned (.int .i64 r) ∧ decide (0 ≤ r) = l.any p ∧ Below w.heap.size w w' := by
  have hlm := hl.lm
  have HF := Lib.hid hf
  clear hf
  go_enter Tryz.func159, Tryz.ntmps159
  go_wp2_with fail
  go_loopw [8] (fun i wr => ∃ j : Nat, j ≤ l.length ∧ i = .int .i64 j ∧ Below w.heap.size w wr ∧ ∀ q (h' : q < l.length), q < j → p l[q] = false) (fun i _ => l.length - (intOf i).toNat)
  case atStart => exact ⟨0, by omega, rfl, Below.refl _ _, fun q _ h => absurd h (by omega)⟩
  case round =>
    obtain ⟨j, hj, rfl, hb, hlo⟩ := hrel
    rename World => wj
    by_cases hlt : j < l.length
    · obtain ⟨d, o, v0, v1, v2, v3, v4, rfl, hd, hch, e0, e1, e2, e3, e4⟩ := (hl.kept hb (Nat.le_refl _)).at_ j hlt
      have hjl : (j : Int) < (l.length : Int) := by omega
      have hc := HF.out j hlt _ wj hb hch
      cases hp : p l[j] with
      | true =>
        have hfin : l.any p = true := List.any_eq_true.2 ⟨_, List.getElem_mem hlt, hp⟩
        rw [hp] at hc
        have HC := Lib.hid hc
        have HFI := Lib.hid hfin
        clear hc hlo hp hfin
        go_wp2_with fail
        refine HC.out.mono ?_
        rintro e wx ⟨rfl, hx⟩
        go_wp2_with fail
        go_ret
        exact ⟨(j : Int), rfl, by rw [HFI.out]; simp, hb.trans (hx.mono hb.size)⟩
      | false =>
        rw [hp] at hc
        have HC := Lib.hid hc
        have HLO : Hid (∀ q (h' : q < l.length), q < j + 1 → p l[q] = false) := by
          show ∀ q (h' : q < l.length), q < j + 1 → p l[q] = false
          intro q hq hqj
          by_cases hqj2 : q < j
          · exact hlo q hq hqj2
          · obtain rfl : q = j := by omega
            exact hp
        clear hc hlo hp
        go_wp2_with fail
        refine HC.out.mono ?_
        rintro e wx ⟨rfl, hx⟩
        go_wp2_with fail
        go_roundw
        case rel => exact ⟨j + 1, by omega, by go_num, hb.trans (hx.mono hb.size), HLO.out⟩
        case measure => simp [intOf]; omega
    · have hjl : ¬ (j : Int) < (l.length : Int) := by omega
      have hfin : l.any p = false := by
        rw [List.any_eq_false]
        intro x hx
        obtain ⟨q, hq, rfl⟩ := List.getElem_of_mem hx
        rw [hlo q hq (by omega)]
        simp
      have HFI := Lib.hid hfin
      clear hlo hfin
      go_wp2_with fail
      go_ret
      exact ⟨-1, rfl, by rw [HFI.out]; rfl, hb⟩

set_option maxRecDepth 100000 in
theorem containsFunc_deep (bb : Nat) (p : Tree → Bool) (l : List Tree) (A : Option Addr) (c : Nat) (w : World) (hl : ListT w l A c)
    (hf : ∀ j (hj : j < l.length) (vs : List Value) (w' : World), Below w.heap.size w w' → ShowsT w' (l[j]'hj) vs → Calls Tryz.prog 154 #[.agg vs.toArray, .pointer (some ⟨bb, 0, none⟩)] w' fun e w'' => e = .returned (.bool (p (l[j]'hj))) ∧ Below w'.heap.size w' w'') :
    Calls Tryz.prog 153 #[.slice A l.length c, .func (.func 154) #[] #[.pointer (some ⟨bb, 0, none⟩)]] w fun e w' => e = .returned (.bool (l.any p)) ∧ Below w.heap.size w w' := by
  have hi := Lib.hid (indexFunc_deep bb p l A c w hl hf)
  clear hf
  generalize l.any p = r at *
  go_enter Tryz.func153, Tryz.ntmps153
  go_wp2_with fail
  refine hi.out.mono ?_
  rintro e w' ⟨x, rfl, hx, hb⟩
  have HX := Lib.hid hx
  clear hx
  go_wp2_with fail
  go_ret
  exact ⟨by rw [← HX.out]; rfl, hb⟩

set_option maxRecDepth 100000 in
set_option maxHeartbeats 2000000 in
theorem indexFunc_valid (p : Tree → Bool) (l : List Tree) (A : Option Addr) (c : Nat) (w : World) (hl : ListT w l A c)
    (hf : ∀ j (hj : j < l.length) (vs : List Value) (w' : World), Below w.heap.size w w' → ShowsT w' (l[j]'hj) vs → Calls Tryz.prog 157 #[.agg vs.toArray] w' fun e w'' => e = .returned (.bool (p (l[j]'hj))) ∧ Below w'.heap.size w' w'') :
    Calls Tryz.prog 159 #[.slice A l.length c, .func (.func 157) #[] #[]] w fun e w' => ∃ r : Int, e = .returned (.int .i64 r) ∧ decide (0 ≤ r) = l.any p ∧ Below w.heap.size w w' := by
  have hlm := hl.lm
  have HF := Lib.hid hf
  clear hf
  go_enter Tryz.func159, Tryz.ntmps159
  go_wp2_with fail
  go_loopw [8] (fun i wr => ∃ j : Nat, j ≤ l.length ∧ i = .int .i64 j ∧ Below w.heap.size w wr ∧ ∀ q (h' : q < l.length), q < j → p l[q] = false) (fun i _ => l.length - (intOf i).toNat)
  case atStart => exact ⟨0, by omega, rfl, Below.refl _ _, fun q _ h => absurd h (by omega)⟩
  case round =>
    obtain ⟨j, hj, rfl, hb, hlo⟩ := hrel
    rename World => wj
    by_cases hlt : j < l.length
    · obtain ⟨d, o, v0, v1, v2, v3, v4, rfl, hd, hch, e0, e1, e2, e3, e4⟩ := (hl.kept hb (Nat.le_refl _)).at_ j hlt
      have hjl : (j : Int) < (l.length : Int) := by omega
      have hc := HF.out j hlt _ wj hb hch
      cases hp : p l[j] with
      | true =>
        have hfin : l.any p = true := List.any_eq_true.2 ⟨_, List.getElem_mem hlt, hp⟩
        rw [hp] at hc
        have HC := Lib.hid hc
        have HFI := Lib.hid hfin
        clear hc hlo hp hfin
        go_wp2_with fail
        refine HC.out.mono ?_
        rintro e wx ⟨rfl, hx⟩
        go_wp2_with fail
        go_ret
        exact ⟨(j : Int), rfl, by rw [HFI.out]; simp, hb.trans (hx.mono hb.size)⟩
      | false =>
        rw [hp] at hc
        have HC := Lib.hid hc
        have HLO : Hid (∀ q (h' : q < l.length), q < j + 1 → p l[q] = false) := by
          show ∀ q (h' : q < l.length), q < j + 1 → p l[q] = false
          intro q hq hqj
          by_cases hqj2 : q < j
          · exact hlo q hq hqj2
          · obtain rfl : q = j := by omega
            exact hp
        clear hc hlo hp
        go_wp2_with fail
        refine HC.out.mono ?_
        rintro e wx ⟨rfl, hx⟩
        go_wp2_with fail
        go_roundw
        case rel => exact ⟨j + 1, by omega, by go_num, hb.trans (hx.mono hb.size), HLO.out⟩
        case measure => simp [intOf]; omega
    · have hjl : ¬ (j : Int) < (l.length : Int) := by omega
      have hfin : l.any p = false := by
        rw [List.any_eq_false]
        intro x hx
        obtain ⟨q, hq, rfl⟩ := List.getElem_of_mem hx
        rw [hlo q hq (by omega)]
        simp
      have HFI := Lib.hid hfin
      clear hlo hfin
      go_wp2_with fail
      go_ret
      exact ⟨-1, rfl, by rw [HFI.out]; rfl, hb⟩

set_option maxRecDepth 100000 in
theorem containsFunc_valid (p : Tree → Bool) (l : List Tree) (A : Option Addr) (c : Nat) (w : World) (hl : ListT w l A c)
    (hf : ∀ j (hj : j < l.length) (vs : List Value) (w' : World), Below w.heap.size w w' → ShowsT w' (l[j]'hj) vs → Calls Tryz.prog 157 #[.agg vs.toArray] w' fun e w'' => e = .returned (.bool (p (l[j]'hj))) ∧ Below w'.heap.size w' w'') :
    Calls Tryz.prog 153 #[.slice A l.length c, .func (.func 157) #[] #[]] w fun e w' => e = .returned (.bool (l.any p)) ∧ Below w.heap.size w w' := by
  have hi := Lib.hid (indexFunc_valid p l A c w hl hf)
  clear hf
  generalize l.any p = r at *
  go_enter Tryz.func153, Tryz.ntmps153
  go_wp2_with fail
  refine hi.out.mono ?_
  rintro e w' ⟨x, rfl, hx, hb⟩
  have HX := Lib.hid hx
  clear hx
  go_wp2_with fail
  go_ret
  exact ⟨by rw [← HX.out]; rfl, hb⟩

set_option maxRecDepth 100000 in
set_option maxHeartbeats 2000000 in
/-- Does something in the row lie too deep? -/
theorem deeps_any (m : Nat) : ∀ (l : List Tree) (A : Option Addr) (c : Nat) (w : World), m ≤ 5 → ListT w l A c →
    Calls Tryz.prog 147 #[.slice A l.length c, .int .i64 (6 - m : Int)] w fun e w' => e = .returned (.bool (l.any (deepD m))) ∧ Below w.heap.size w w' := by
  induction m with
  | zero =>
    intro l A c w hm hl
    have hd : l.any (deepD 0) = decide (0 < l.length) := by
      cases l with
      | nil => rfl
      | cons a r => simp [deepD]
    rw [hd]
    clear hd
    go_enter Tryz.func147, Tryz.ntmps147
    go_wp2_with fail
    go_ret
    exact ⟨rfl, (Below.refl _ _).alloc (Nat.le_refl _) _⟩
  | succ m ih =>
    intro l A c w hm hl
    have IH := Lib.hid ih
    clear ih
    have hlt : decide (6 ≤ (6 : Int) - ((m + 1 : Nat) : Int)) = false := by simp; omega
    generalize hx : (6 : Int) - ((m + 1 : Nat) : Int) = x at *
    have hxm : (x : Int) + 1 = 6 - (m : Int) := by omega
    have HX := Lib.hid hxm
    have hb1 : 1 ≤ x := by omega
    have hb2 : x ≤ 5 := by omega
    clear hx hxm
    obtain ⟨W, hW⟩ : ∃ W, W = w.alloc (.cells #[.int .i64 x] 3) := ⟨_, rfl⟩
    have hB : Below w.heap.size w W := by rw [hW]; exact (Below.refl _ _).alloc (Nat.le_refl _) _
    have hlt2 : w.heap.size < W.heap.size := by rw [hW]; simp
    have cx : W.cell? ⟨w.heap.size, 0, none⟩ = some (.int .i64 x) := by rw [hW]; exact cell_of_row _ _ 0 _ 3 (0, 0) (heap_alloc_new w _)
    have hC := Lib.hid (containsFunc_deep w.heap.size (deepD (m + 1)) l A c W (hl.kept hB (Nat.le_refl _)) (by
      intro j hj vs w' hw' hs
      have hsh := hs
      obtain ⟨kv, A', c', d0, d1, cs, rfl, _⟩ := hs.open
      have cx' : w'.cell? ⟨w.heap.size, 0, none⟩ = some (.int .i64 x) := (hw'.cell (p := ⟨w.heap.size, 0, none⟩) hlt2).trans cx
      have cx2 : ∀ o, (w'.alloc o).cell? ⟨w.heap.size, 0, none⟩ = some (.int .i64 x) := fun o => by rw [World.cell?_alloc_lt _ _ _ (by have := hw'.size; simp; omega)]; exact cx'
      have hI := fun w'' (h'' : Below w'.heap.size w' w'') => IH.out (l[j]'hj).l A' c' w'' (by omega) (hsh.list.kept h'' (Nat.le_refl _))
      rw [← HX.out] at hI
      have HI := Lib.hid hI
      clear hI
      generalize hr : (l[j]'hj).l.any (deepD m) = r at *
      have hr2 : deepD (m + 1) (l[j]'hj) = r := hr
      rw [hr2]
      clear hr hr2
      go_enter Tryz.func154, Tryz.ntmps154
      go_wp2_with fail
      refine (HI.out _ ((Below.refl _ _).alloc (Nat.le_refl _) _)).mono ?_
      rintro e wx ⟨rfl, hx⟩
      go_wp2_with fail
      go_ret
      exact ⟨rfl, ((Below.refl _ _).alloc (Nat.le_refl _) _).trans (hx.mono (by simp))⟩))
    go_enter Tryz.func147, Tryz.ntmps147
    go_wp2_with fail
    rw [← hW]
    refine hC.out.mono ?_
    rintro e w' ⟨rfl, hb⟩
    go_wp2_with fail
    go_ret
    exact ⟨rfl, hB.trans (hb.mono hB.size)⟩

/-- How many values there are inside those of a row, and the row's own. -/
theorem cnt_split (l : List Tree) (j : Nat) (h : j < l.length) : cntL (l.take (j + 1)) = cntL (l.take j) + 1 + cntL (l[j]).l := by
  rw [cntL_take l j h, cntT_eq]; omega
theorem cntL_len : ∀ l : List Tree, l.length ≤ cntL l
  | [] => Nat.zero_le _
  | a :: r => by
    have := cntL_len r
    have h : cntL (a :: r) = cntT a + cntL r := rfl
    rw [h, cntT_eq, List.length_cons]
    omega
theorem cntL_drop_len (l : List Tree) (j : Nat) (h : j ≤ l.length) : cntL (l.take j) + (l.length - j) ≤ cntL l := by
  have h1 : cntL l = cntL (l.take j) + cntL (l.drop j) := by rw [← cntL_append, List.take_append_drop]
  have h2 := cntL_len (l.drop j)
  rw [List.length_drop] at h2
  omega

set_option maxRecDepth 100000 in
set_option maxHeartbeats 2000000 in
/-- How many more values there may be. -/
theorem spare_any (N : Nat) : ∀ (l : List Tree) (A : Option Addr) (c m : Nat) (w : World), cntL l ≤ N → m ≤ 1000 → ListT w l A c →
    Calls Tryz.prog 148 #[.slice A l.length c, .int .i64 m] w fun e w' => ∃ r : Int, e = .returned (.int .i64 r) ∧ (cntL l ≤ m → r = (m : Int) - (cntL l : Int)) ∧ (m < cntL l → r < 0) ∧ -2199023255552 ≤ r ∧ r ≤ 1000 ∧ Below w.heap.size w w' := by
  induction N with
  | zero =>
    intro l A c m w hN hm hl
    have h0 : l.length = 0 := by have := cntL_len l; omega
    obtain rfl : l = [] := List.eq_nil_of_length_eq_zero h0
    go_enter Tryz.func148, Tryz.ntmps148
    go_wp2_with fail
    refine wp_loop_rounds 1 ?_
    rw [rounds_succ]
    go_wp2_with fail
    go_ret
    exact ⟨(m : Int), rfl, fun _ => by simp [cntL], fun h => by simp [cntL] at h, by omega, by omega, Below.refl _ _⟩
  | succ N ih =>
    intro l A c m w hN hm hl
    have hlm := hl.lm
    have hnl := cntL_len l
    have IH := Lib.hid ih
    have HN := Lib.hid hN
    clear ih hN
    have HT := Lib.hid (cntL_drop_len l)
    have hval : ∀ j (hj : j < l.length), cntL l[j].l ≤ N := fun j hj => by
      have h1 := cntL_mem hj
      rw [cntT_eq] at h1
      have := HN.out
      omega
    have HV := Lib.hid hval
    clear hval hnl
    go_enter Tryz.func148, Tryz.ntmps148
    go_wp2_with fail
    go_loopw [1, 13] (fun x i wr => ∃ (j : Nat) (r : Int), j ≤ l.length ∧ i = .int .i64 j ∧ x = .int .i64 r ∧ Below w.heap.size w wr ∧ -2199023255552 ≤ r ∧ r ≤ 1000 ∧ Hid ((cntL (l.take j) + (l.length - j) ≤ m → r = (m : Int) - (cntL (l.take j) : Int) - ((l.length : Int) - j)) ∧ (m < cntL (l.take j) + (l.length - j) → r < 0))) (fun _ i _ => l.length - (intOf i).toNat)
    case atStart => exact ⟨0, (m : Int) - (l.length : Int), by omega, rfl, by go_num, Below.refl _ _, by omega, by omega, Lib.hid ⟨fun _ => by simp [cntL], fun h => by simp [cntL] at h; omega⟩⟩
    case round =>
      obtain ⟨j, r, hj, rfl, rfl, hb, hr1, hr2, HR⟩ := hrel
      rename World => wj
      by_cases hlt : j < l.length
      · obtain ⟨d, o, v0, v1, v2, v3, v4, rfl, hd, hch, e0, e1, e2, e3, e4⟩ := (hl.kept hb (Nat.le_refl _)).at_ j hlt
        have hjl : (j : Int) < (l.length : Int) := by omega
        obtain ⟨kv, A', c', d0, d1, cs, hvs, _, _, hks, _⟩ := hch.open
        simp only [List.cons.injEq, and_true] at hvs
        obtain ⟨rfl, rfl, rfl, rfl, rfl⟩ := hvs
        obtain ⟨A3, c3, rfl⟩ := str_form hks
        by_cases hr0 : r < 0
        · have hfin : m < cntL l := by
            have h1 := HT.out j hj
            have h2 := HR.out.1
            omega
          have HF := Lib.hid hfin
          clear hfin
          go_wp2_with fail
          go_ret
          exact ⟨r, rfl, fun h => absurd HF.out (by omega), fun _ => hr0, hr1, hr2, hb.trans ((Below.refl _ _).alloc (Nat.le_refl _) _ |>.mono hb.size)⟩
        · obtain ⟨q, rfl⟩ := Int.eq_ofNat_of_zero_le (show 0 ≤ r by omega)
          have hc := fun w' (hw' : Below wj.heap.size wj w') => IH.out (l[j]'hlt).l A' c' q w' (HV.out j hlt) (by omega) (hch.list.kept hw' (Nat.le_refl _))
          have HC := Lib.hid hc
          have HS := Lib.hid (cnt_split l j hlt)
          clear hc hch
          go_wp2_with fail
          refine (HC.out _ ((Below.refl _ _).alloc (Nat.le_refl _) _)).mono ?_
          rintro e wx ⟨r', rfl, h1, h2, h3, h4, hx⟩
          have HR2 : Hid ((cntL (l.take (j + 1)) + (l.length - (j + 1)) ≤ m → r' = (m : Int) - (cntL (l.take (j + 1)) : Int) - ((l.length : Int) - ((j + 1 : Nat) : Int))) ∧ (m < cntL (l.take (j + 1)) + (l.length - (j + 1)) → r' < 0)) := Lib.hid (by
            have a1 := HR.out
            rw [HS.out]
            constructor
            · intro h
              have := a1.1 (by omega)
              have := h1 (by omega)
              omega
            · intro h
              apply h2
              have a2 := a1.1
              have a3 := a1.2
              omega)
          clear h1 h2 HR
          go_wp2_with fail
          go_roundw
          case rel => exact ⟨j + 1, r', by omega, by go_num, rfl, hb.trans (((Below.refl _ _).alloc (Nat.le_refl _) _ |>.trans (hx.mono (by simp))).mono hb.size), h3, h4, HR2⟩
          case measure => simp [intOf]; omega
      · have hjl : ¬ (j : Int) < (l.length : Int) := by omega
        obtain rfl : j = l.length := by omega
        have hfin : (cntL l ≤ m → r = (m : Int) - (cntL l : Int)) ∧ (m < cntL l → r < 0) := by
          have := HR.out
          rw [List.take_length] at this
          exact ⟨fun h => by have := this.1 (by omega); omega, fun h => this.2 (by omega)⟩
        have HF := Lib.hid hfin
        clear hfin
        go_wp2_with fail
        go_ret
        exact ⟨r, rfl, HF.out.1, HF.out.2, hr1, hr2, hb⟩

end Go.Proofs.YtpmafabphlejeaaGreat
/-
  How each kind is laid out (value.layoutOf).
  Conditions: none.
-/
namespace Go.Proofs.YtpmafabphlejeaaGreat
open Go.RowKit
set_option linter.unusedVariables false
set_option linter.unusedSimpArgs false

/-- A layout. -/
structure Lay where
  num : Nat
  most : Nat
  text : Nat
  bytes : Nat
  list : Bool
  keys : Bool
def layD (k : Nat) : Lay :=
  if k = 8 then ⟨1, 1, 0, 0, false, false⟩ else if k = 2 then ⟨1, 255, 0, 0, false, false⟩ else if k = 50 ∨ k = 49 then ⟨8, 18446744073709551615, 0, 0, false, false⟩
  else if k = 149 then ⟨0, 0, 2, 4096, false, false⟩ else if k = 160 then ⟨0, 0, 4, 4096, false, false⟩ else if k = 169 then ⟨0, 0, 0, 0, true, false⟩ else if k = 168 then ⟨0, 0, 0, 0, true, true⟩ else ⟨0, 0, 0, 0, false, false⟩
def knownD (k : Nat) : Bool := decide (k = 240 ∨ k = 8 ∨ k = 2 ∨ k = 50 ∨ k = 49 ∨ k = 149 ∨ k = 160 ∨ k = 169 ∨ k = 168)
def Lay.cells (y : Lay) : Array Value := #[.int .i64 y.num, .int .u64 y.most, .int .i64 y.text, .int .i64 y.bytes, .bool y.list, .bool y.keys]

theorem results_row_tmp {P : Program} {fn : Func} {p u : Tmp} {ty : TypeId} (h : fn.results = #[.cell p ty, .tmp u]) (tmps : Array Value) (w : World) (g : Nat) (t : TypeId) (cs : Array Value) (fr : Nat × Nat) (d : TypeDesc)
    (hp : tmps.getD p undef = .pointer (some ⟨g, 0, none⟩)) (hg : w.heap[g]? = some (.cells cs t fr))
    (hu : P.underlying ty = some d) (hd : (match d with | .struct _ | .array _ _ => true | _ => false) = true) (hi : (P.info? ty).map (·.size) = some cs.size) :
    (results fn tmps).run P w = .ok (.tuple #[.agg cs, tmps.getD u undef]) w := by
  have hp' : tmps[p]?.getD undef = .pointer (some ⟨g, 0, none⟩) := by simpa using hp
  simp [results, h, hp', asAddr, run_loadVar_row w g t ty cs fr d hg hu hd hi]

set_option maxRecDepth 100000 in
set_option maxHeartbeats 1000000 in
theorem layoutOf_any (k : Nat) (w : World) : Calls Tryz.prog 151 #[.int .u8 k] w fun e w' => e = .returned (.tuple #[.agg (layD k).cells, .bool (knownD k)]) ∧ Below w.heap.size w w' := by
  by_cases h240 : k = 240
  · subst h240
    go_enter Tryz.func151, Tryz.ntmps151
    go_wp2_with fail
    exact bodyPost_ret (results_row_tmp rfl _ _ w.heap.size 184 _ (0, 0) _ rfl (heap_alloc_new w _) Tryz.underlying184 rfl (by kernel_rfl)) rfl ⟨rfl, (Below.refl _ _).alloc (Nat.le_refl _) _⟩
  by_cases h8 : k = 8
  · subst h8
    go_enter Tryz.func151, Tryz.ntmps151
    go_wp2_with fail
    exact bodyPost_ret (results_row_tmp rfl _ _ w.heap.size 184 _ (0, 0) _ rfl (heap_alloc_new w _) Tryz.underlying184 rfl (by kernel_rfl)) rfl ⟨rfl, (Below.refl _ _).alloc (Nat.le_refl _) _⟩
  by_cases h2 : k = 2
  · subst h2
    go_enter Tryz.func151, Tryz.ntmps151
    go_wp2_with fail
    exact bodyPost_ret (results_row_tmp rfl _ _ w.heap.size 184 _ (0, 0) _ rfl (heap_alloc_new w _) Tryz.underlying184 rfl (by kernel_rfl)) rfl ⟨rfl, (Below.refl _ _).alloc (Nat.le_refl _) _⟩
  by_cases h50 : k = 50
  · subst h50
    go_enter Tryz.func151, Tryz.ntmps151
    go_wp2_with fail
    exact bodyPost_ret (results_row_tmp rfl _ _ w.heap.size 184 _ (0, 0) _ rfl (heap_alloc_new w _) Tryz.underlying184 rfl (by kernel_rfl)) rfl ⟨rfl, (Below.refl _ _).alloc (Nat.le_refl _) _⟩
  by_cases h49 : k = 49
  · subst h49
    go_enter Tryz.func151, Tryz.ntmps151
    go_wp2_with fail
    exact bodyPost_ret (results_row_tmp rfl _ _ w.heap.size 184 _ (0, 0) _ rfl (heap_alloc_new w _) Tryz.underlying184 rfl (by kernel_rfl)) rfl ⟨rfl, (Below.refl _ _).alloc (Nat.le_refl _) _⟩
  by_cases h149 : k = 149
  · subst h149
    go_enter Tryz.func151, Tryz.ntmps151
    go_wp2_with fail
    exact bodyPost_ret (results_row_tmp rfl _ _ w.heap.size 184 _ (0, 0) _ rfl (heap_alloc_new w _) Tryz.underlying184 rfl (by kernel_rfl)) rfl ⟨rfl, (Below.refl _ _).alloc (Nat.le_refl _) _⟩
  by_cases h160 : k = 160
  · subst h160
    go_enter Tryz.func151, Tryz.ntmps151
    go_wp2_with fail
    exact bodyPost_ret (results_row_tmp rfl _ _ w.heap.size 184 _ (0, 0) _ rfl (heap_alloc_new w _) Tryz.underlying184 rfl (by kernel_rfl)) rfl ⟨rfl, (Below.refl _ _).alloc (Nat.le_refl _) _⟩
  by_cases h169 : k = 169
  · subst h169
    go_enter Tryz.func151, Tryz.ntmps151
    go_wp2_with fail
    exact bodyPost_ret (results_row_tmp rfl _ _ w.heap.size 184 _ (0, 0) _ rfl (heap_alloc_new w _) Tryz.underlying184 rfl (by kernel_rfl)) rfl ⟨rfl, (Below.refl _ _).alloc (Nat.le_refl _) _⟩
  by_cases h168 : k = 168
  · subst h168
    go_enter Tryz.func151, Tryz.ntmps151
    go_wp2_with fail
    exact bodyPost_ret (results_row_tmp rfl _ _ w.heap.size 184 _ (0, 0) _ rfl (heap_alloc_new w _) Tryz.underlying184 rfl (by kernel_rfl)) rfl ⟨rfl, (Below.refl _ _).alloc (Nat.le_refl _) _⟩
  have e240 : ((k : Int) == 240) = false := by simp; omega
  have e8 : ((k : Int) == 8) = false := by simp; omega
  have e2 : ((k : Int) == 2) = false := by simp; omega
  have e50 : ((k : Int) == 50) = false := by simp; omega
  have e49 : ((k : Int) == 49) = false := by simp; omega
  have e149 : ((k : Int) == 149) = false := by simp; omega
  have e160 : ((k : Int) == 160) = false := by simp; omega
  have e169 : ((k : Int) == 169) = false := by simp; omega
  have e168 : ((k : Int) == 168) = false := by simp; omega
  have hl : layD k = ⟨0, 0, 0, 0, false, false⟩ := by simp [layD, *]
  have hk : knownD k = false := by simp [knownD, *]
  rw [hl, hk]
  clear hl hk h240 h8 h2 h50 h49 h149 h160 h169 h168
  go_enter Tryz.func151, Tryz.ntmps151
  go_wp2_with fail
  exact bodyPost_ret (results_row_tmp rfl _ _ w.heap.size 184 _ (0, 0) _ rfl (heap_alloc_new w _) Tryz.underlying184 rfl (by kernel_rfl)) rfl ⟨rfl, (Below.refl _ _).alloc (Nat.le_refl _) _⟩

end Go.Proofs.YtpmafabphlejeaaGreat
/-
  The contracts of strings.HasPrefix and value.isText: a string is UTF-8 just if no step of the decoder answers the rune of an error that stands there in one byte.
  Conditions: at most 2^47 bytes.
-/
namespace Go.Proofs.YtpmafabphlejeaaGreat
open Go.RowKit
set_option linter.unusedVariables false
set_option linter.unusedSimpArgs false

theorem decodeN_err (n b0 b1 b2 b3 : Nat) (h : (Lib.decodeN n b0 b1 b2 b3).1 = 65533) (h1 : b1 < 256) (h2 : b2 < 256) (h0 : b0 < 256) : ((Lib.decodeN n b0 b1 b2 b3).2 = 1 ∧ ¬ (2 < n ∧ b0 = 239 ∧ b1 = 191 ∧ b2 = 189)) ∨ ((Lib.decodeN n b0 b1 b2 b3).2 = 3 ∧ 2 < n ∧ b0 = 239 ∧ b1 = 191 ∧ b2 = 189) := by
  unfold Lib.decodeN at h ⊢
  repeat' split
  all_goals (simp_all <;> omega)

/-- The rune that stands for an error, in its three bytes. -/
def errS : ByteArray := ⟨#[239, 191, 189]⟩
def preD (s p : ByteArray) : Bool := decide (p.size ≤ s.size ∧ s.extract 0 p.size = p)

theorem hasPrefix1 (s p : ByteArray) (w : World) : Calls Tryz.prog 161 #[.string s, .string p] w fun e w' => e = .returned (.bool (preD s p)) ∧ w = w' := by
  unfold preD
  by_cases h1 : p.size ≤ s.size
  · have hI : (p.size : Int) ≤ (s.size : Int) := by omega
    by_cases h2 : s.extract 0 p.size = p
    · rw [show decide (p.size ≤ s.size ∧ s.extract 0 p.size = p) = true from decide_eq_true ⟨h1, h2⟩]
      go_enter Tryz.func161, Tryz.ntmps161
      go_wp2_with fail
      go_ret
      exact ⟨rfl, rfl⟩
    · rw [show decide (p.size ≤ s.size ∧ s.extract 0 p.size = p) = false from decide_eq_false fun h => h2 h.2]
      have h3 := toListNe h2
      go_enter Tryz.func161, Tryz.ntmps161
      go_wp2_with fail
      go_ret
      exact ⟨rfl, rfl⟩
  · rw [show decide (p.size ≤ s.size ∧ s.extract 0 p.size = p) = false from decide_eq_false fun h => h1 h.1]
    have hI : ¬ (p.size : Int) ≤ (s.size : Int) := by omega
    go_enter Tryz.func161, Tryz.ntmps161
    go_wp2_with fail
    go_ret
    exact ⟨rfl, rfl⟩

theorem hasPrefix_any (s p : ByteArray) (w : World) : Calls Tryz.prog 160 #[.string s, .string p] w fun e w' => e = .returned (.bool (preD s p)) ∧ w = w' := by
  have h := fun w => hasPrefix1 s p w
  have HH := Lib.hid h
  clear h
  generalize preD s p = r at *
  go_enter Tryz.func160, Tryz.ntmps160
  go_wp2_with fail
  refine (HH.out _).mono ?_
  rintro e w' ⟨rfl, rfl⟩
  go_wp2_with fail
  go_ret
  exact ⟨rfl, rfl⟩

theorem sb_extract (s : ByteArray) (a b : Nat) : sb (s.extract a b) = ((sb s).take b).drop a := by
  simp [sb, ByteArray.data_extract, Array.toList_extract, List.extract, List.drop_take]
theorem sb_inj {a b : ByteArray} (h : sb a = sb b) : a = b := by rw [← str8_sb a, h, str8_sb]
theorem pre_err (s : ByteArray) (pos : Nat) : preD (s.extract pos s.size) errS = true ↔ (2 < ((sb s).drop pos).length ∧ (((sb s).drop pos).getD 0 0).toNat = 239 ∧ (((sb s).drop pos).getD 1 0).toNat = 191 ∧ (((sb s).drop pos).getD 2 0).toNat = 189) := by
  have ht : sb (s.extract pos s.size) = (sb s).drop pos := by rw [sb_extract, List.take_of_length_le (by rw [sb_length]; exact Nat.le_refl _)]
  generalize s.extract pos s.size = t at *
  rw [← ht]
  have h3 : errS.size = 3 := rfl
  unfold preD
  rw [decide_eq_true_iff, h3, ← sb_length t]
  have he : t.extract 0 3 = errS ↔ (sb t).take 3 = [239, 191, 189] := by
    constructor
    · intro h
      have := congrArg sb h
      rw [sb_extract, List.drop_zero] at this
      exact this
    · intro h
      apply sb_inj
      rw [sb_extract, List.drop_zero]
      exact h
  rw [he]
  have hb : ∀ (x : UInt8) (n : Nat), n < 256 → (x.toNat = n ↔ x = UInt8.ofNat n) := fun x n hn => ⟨fun h => by rw [← h]; simp, fun h => by rw [h]; simp; omega⟩
  rw [hb _ 239 (by decide), hb _ 191 (by decide), hb _ 189 (by decide)]
  match sb t with
  | [] => simp
  | [a] => simp
  | [a, b] => simp
  | a :: b :: c :: r => simp [List.getD]

/-- What the program asks of a rune that may be an error's. -/
theorem text_step (s : ByteArray) (pos : Nat) (h : pos < s.size) :
    Lib.validD ((sb s).drop pos) = if (Utf8.decode s pos).1 = 65533 ∧ preD (s.extract pos s.size) errS = false then false else Lib.validD ((sb s).drop (pos + (Utf8.decode s pos).2)) := by
  have hl : pos < (sb s).length := by rw [sb_length]; exact h
  have hne : (sb s).drop pos ≠ [] := fun h0 => by have := congrArg List.length h0; simp at this; omega
  have hd : Lib.decodeL ((sb s).drop pos) = Utf8.decode s pos := Lib.decodeL_drop s pos
  rw [Lib.validD_step _ hne, hd, List.drop_drop]
  have key : (Utf8.decode s pos).1 = 65533 → ((Utf8.decode s pos).2 = 1 ↔ preD (s.extract pos s.size) errS = false) := by
    intro h1
    have hp := pre_err s pos
    rw [← hd, Lib.decodeL_N] at h1 ⊢
    have hd := decodeN_err _ _ _ _ _ h1 (((sb s).drop pos).getD 1 0).toNat_lt (((sb s).drop pos).getD 2 0).toNat_lt (((sb s).drop pos).getD 0 0).toNat_lt
    rcases hd with ⟨h2, h3⟩ | ⟨h2, h3⟩
    · rw [h2]
      simp only [true_iff]
      cases hb : preD (s.extract pos s.size) errS with
      | false => rfl
      | true => exact absurd (hp.1 hb) h3
    · rw [hp.2 h3, h2]
      simp
  by_cases h1 : (Utf8.decode s pos).1 = 65533
  · by_cases h2 : (Utf8.decode s pos).2 = 1
    · rw [if_pos ⟨h1, h2⟩, if_pos ⟨h1, (key h1).1 h2⟩]
    · rw [if_neg fun h => h2 h.2, if_neg fun h => h2 ((key h1).2 h.2)]
  · rw [if_neg fun h => h1 h.1, if_neg fun h => h1 h.1]

theorem decode_end (s : ByteArray) (pos : Nat) (h : pos < s.size) : pos + (Utf8.decode s pos).2 ≤ s.size ∧ 1 ≤ (Utf8.decode s pos).2 := by
  have hl : pos < (sb s).length := by rw [sb_length]; exact h
  have hne : (sb s).drop pos ≠ [] := fun h0 => by have := congrArg List.length h0; simp at this; omega
  have hd : Lib.decodeL ((sb s).drop pos) = Utf8.decode s pos := Lib.decodeL_drop s pos
  have h1 := Lib.decodeL_le _ hne
  have h2 := Lib.decodeL_width ((sb s).drop pos)
  rw [hd] at h1 h2
  rw [List.length_drop, sb_length] at h1
  omega

set_option maxRecDepth 100000 in
set_option maxHeartbeats 1000000 in
theorem isText_any (s : ByteArray) (w : World) (hs : s.size ≤ 140737488351232) :
    Calls Tryz.prog 155 #[.string s] w fun e w' => e = .returned (.bool (Lib.validD (sb s))) ∧ Below w.heap.size w w' := by
  have HP := Lib.hid (fun t w => hasPrefix_any t errS w)
  have HE := Lib.hid (show errS = ⟨#[239, 191, 189]⟩ from rfl)
  have HS := Lib.hid (text_step s)
  have HD := Lib.hid (decode_end s)
  obtain ⟨R, hR⟩ : ∃ R, R = Lib.validD (sb s) := ⟨_, rfl⟩
  rw [← hR]
  have HR := Lib.hid hR
  clear hR
  go_enter Tryz.func155, Tryz.ntmps155
  go_wp2_with fail
  go_loopw [] (fun w' => ∃ pos : Nat, pos ≤ s.size ∧ w' = w.iter s pos ∧ Hid (R = Lib.validD ((sb s).drop pos))) (fun w' => s.size - w'.iterPos w.heap.size)
  case atStart => exact ⟨0, by omega, rfl, HR⟩
  case round =>
    obtain ⟨pos, hp, rfl, H⟩ := hrel
    by_cases hlt : pos < s.size
    · have hnx : ∀ ty, (Instr.next (.pointer (some ⟨w.heap.size, 0, none⟩)) true ty).run Tryz.prog (w.iter s pos) = _ := fun ty => run_next_any w s pos ty hlt
      obtain ⟨d1, d2⟩ := HD.out pos hlt
      have hst := HS.out pos hlt
      have hpr := HP.out (s.extract pos s.size)
      rw [HE.out] at hpr hst
      generalize (Utf8.decode s pos).2 = wd at *
      generalize (Utf8.decode s pos).1 = rn at *
      generalize preD (s.extract pos s.size) ⟨#[239, 191, 189]⟩ = pr at *
      have HPR := Lib.hid hpr
      have hpI : (pos : Int) ≤ (s.size : Int) := by omega
      clear hpr
      by_cases hr : rn = 65533
      · subst hr
        cases pr with
        | true =>
          rw [if_neg (by simp)] at hst
          have HST := Lib.hid hst
          clear hst
          go_wp2_with fail
          refine (HPR.out _).mono ?_
          rintro e w' ⟨rfl, rfl⟩
          go_wp2_with fail
          go_roundw
          case rel => exact ⟨pos + wd, d1, rfl, Lib.hid (H.out.trans HST.out)⟩
          case measure => simp; omega
        | false =>
          rw [if_pos ⟨rfl, rfl⟩] at hst
          have HST := Lib.hid hst
          clear hst
          go_wp2_with fail
          refine (HPR.out _).mono ?_
          rintro e w' ⟨rfl, rfl⟩
          go_wp2_with fail
          go_ret
          exact ⟨by rw [H.out, HST.out]; rfl, (Below.refl _ _).alloc (Nat.le_refl _) _⟩
      · have hr2 : ((rn : Int) == 65533) = false := by simp; omega
        rw [if_neg (fun h => hr h.1)] at hst
        have HST := Lib.hid hst
        clear hst
        go_wp2_with fail
        go_roundw
        case rel => exact ⟨pos + wd, d1, rfl, Lib.hid (H.out.trans HST.out)⟩
        case measure => simp; omega
    · have hnx : ∀ ty, (Instr.next (.pointer (some ⟨w.heap.size, 0, none⟩)) true ty).run Tryz.prog (w.iter s pos) = _ := fun ty => run_next_end w s pos ty hlt
      have hfin : R = true := by
        rw [H.out, List.drop_eq_nil_of_le (by rw [sb_length]; omega)]
        rfl
      subst hfin
      go_wp2_with fail
      go_ret
      exact ⟨rfl, (Below.refl _ _).alloc (Nat.le_refl _) _⟩

end Go.Proofs.YtpmafabphlejeaaGreat

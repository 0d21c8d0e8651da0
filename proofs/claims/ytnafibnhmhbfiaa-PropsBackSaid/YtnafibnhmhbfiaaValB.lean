/-
  Rows of values in memory; the contracts of value.tooDeep (with slices.ContainsFunc, IndexFunc and its closure) and value.spare.
  Conditions: none but sizes.
-/
import Derived.Test.YtnafibnhmhbfiaaV5C
import Derived.WalkKit
import Derived.Deep.LoopGhost
namespace Go.Proofs.Ytnafibnhmhbfiaa
open Go.RowKit
set_option linter.unusedVariables false
set_option linter.unusedSimpArgs false

/-- These values lie there, one behind the other. -/
structure ListT (w : World) (l : List Tree) (A : Option Addr) (c : Nat) : Prop where
  lm : l.length ≤ 2199023255552
  lc : l.length ≤ c
  cm : c ≤ maxLen
  at_ : ∀ j (hj : j < l.length), ∃ (d o : Nat) (v0 v1 v2 v3 v4 : Value), A = some ⟨d, o, none⟩ ∧ d < w.heap.size ∧ ShowsT w l[j] [v0, v1, v2, v3, v4] ∧ w.cell? ⟨d, o + j * 5, none⟩ = some v0 ∧ w.cell? ⟨d, o + j * 5 + 1, none⟩ = some v1 ∧
      w.cell? ⟨d, o + j * 5 + 2, none⟩ = some v2 ∧ w.cell? ⟨d, o + j * 5 + 3, none⟩ = some v3 ∧ w.cell? ⟨d, o + j * 5 + 4, none⟩ = some v4

theorem ListT.kept {w w' : World} {B : Nat} {l : List Tree} {A : Option Addr} {c : Nat} (h : ListT w l A c) (hb : Below B w w') (hB : w.heap.size ≤ B) : ListT w' l A c :=
  ⟨h.lm, h.lc, h.cm, fun j hj => by
    obtain ⟨d, o, v0, v1, v2, v3, v4, rfl, hd, hs, c0, c1, c2, c3, c4⟩ := h.at_ j hj
    have hc : ∀ k, w'.cell? ⟨d, k, none⟩ = w.cell? ⟨d, k, none⟩ := fun k => World.cell?_of_block (w := w) (hb.block d (Nat.lt_of_lt_of_le hd hB))
    exact ⟨d, o, v0, v1, v2, v3, v4, rfl, Nat.lt_of_lt_of_le hd hb.size, hs.kept hb hB, (hc _).trans c0, (hc _).trans c1, (hc _).trans c2, (hc _).trans c3, (hc _).trans c4⟩⟩

theorem ShowsT.list {w : World} {t : Tree} {kv : Value} {A : Option Addr} {c : Nat} {a b s : Value} (h : ShowsT w t [a, b, s, kv, .slice A t.l.length c]) : ListT w t.l A c := by
  have h' := h
  obtain ⟨kv', A', c', d0, d1, cs, e, _, _, _, _, _, _, h1, h2, h3, _⟩ := h'.open
  simp only [List.cons.injEq, Value.slice.injEq, and_true] at e
  obtain ⟨_, _, _, _, e1, _, e2⟩ := e
  subst e1 e2
  exact ⟨h1, h2, h3, fun j hj => h.child j hj⟩

/-- A value's cells, from parts. -/
theorem ShowsT.make {w : World} {k n : Nat} {s : ByteArray} {ks : List ByteArray} {l : List Tree} {kv : Value} {A : Option Addr} {c d0 : Nat} (hk : k < 256) (hn : n < 18446744073709551616) (hks : ShowsG strC w d0 kv ks) (hkl : ks.length ≤ 8796093022208) (hkz : ∀ x ∈ ks, x.size ≤ 140737488351232) (hsz : s.size ≤ 140737488351232) (hl : ListT w l A c) :
    ShowsT w (.node k n s ks l) [.int .u8 k, .int .u64 n, .string s, kv, .slice A l.length c] := by
  by_cases h0 : 0 < l.length
  · obtain ⟨d, o, _, _, _, _, _, hA, hd, _⟩ := hl.at_ 0 h0
    have hex : ∀ j, ∃ vs : List Value, ∀ (hj : j < l.length), ShowsT w l[j] vs ∧ ∀ q, q < 5 → w.cell? ⟨d, o + (j * 5 + q), none⟩ = vs[q]? := fun j => by
      by_cases hj : j < l.length
      · obtain ⟨d', o', v0, v1, v2, v3, v4, hA', _, hs, c0, c1, c2, c3, c4⟩ := hl.at_ j hj
        rw [hA] at hA'
        simp only [Option.some.injEq, Addr.mk.injEq, and_true] at hA'
        obtain ⟨rfl, rfl⟩ := hA'
        refine ⟨_, fun _ => ⟨hs, fun q hq => ?_⟩⟩
        match q, hq with
        | 0, _ => exact c0
        | 1, _ => exact c1
        | 2, _ => exact c2
        | 3, _ => exact c3
        | 4, _ => exact c4
      · exact ⟨[], fun h => absurd h hj⟩
    exact .mk (d0 := d0) (d1 := d) (fun j => (hex j).choose) hk hn hks hkl hkz hsz hl.lm hl.lc hl.cm (fun _ => ⟨o, hA, hd, fun j hj q hq => ((hex j).choose_spec hj).2 q hq⟩) fun j hj => ((hex j).choose_spec hj).1
  · exact .mk (d0 := d0) (d1 := 0) (fun _ => []) hk hn hks hkl hkz hsz hl.lm hl.lc hl.cm (fun h => absurd h h0) fun j hj => absurd hj (by omega)

theorem ListT.nil (w : World) : ListT w [] none 0 := ⟨by simp, by simp, by simp, fun j hj => nomatch hj⟩

set_option maxRecDepth 100000 in
set_option maxHeartbeats 2000000 in
theorem indexFunc_deep (bb : Nat) (p : Tree → Bool) (l : List Tree) (A : Option Addr) (c : Nat) (w : World) (hl : ListT w l A c)
    (hf : ∀ j (hj : j < l.length) (vs : List Value) (w' : World), Below w.heap.size w w' → ShowsT w' (l[j]'hj) vs → Calls Try.prog 86 #[.agg vs.toArray, .pointer (some ⟨bb, 0, none⟩)] w' fun e w'' => e = .returned (.bool (p (l[j]'hj))) ∧ Below w'.heap.size w' w'') :
    Calls Try.prog 94 #[.slice A l.length c, .func (.func 86) #[] #[.pointer (some ⟨bb, 0, none⟩)]] w fun e w' => ∃ r : Int, e = .returned (.int .i64 r) ∧ decide (0 ≤ r) = l.any p ∧ Below w.heap.size w w' := by
  have hlm := hl.lm
  have HF := Lib.hid hf
  clear hf
  go_enter Try.func94, Try.ntmps94
  go_wp2_with fail
  go_loopw [8] (fun i wr => ∃ j : Nat, j ≤ l.length ∧ i = .int .i64 j ∧ Below w.heap.size w wr ∧ ∀ q (h' : q < l.length), q < j → p l[q] = false) (fun i _ => l.length - (intOf i).toNat)
  case atStart => exact ⟨0, by omega, rfl, Below.refl _ _, fun q _ h => absurd h (by omega)⟩
  case round =>
    obtain ⟨j, hj, rfl, hb, hlo⟩ := hrel
    rename World => wj
    by_cases hlt : j < l.length
    · obtain ⟨d, o, v0, v1, v2, v3, v4, rfl, hd, hch, e0, e1, e2, e3, e4⟩ := (hl.kept hb (Nat.le_refl _)).at_ j hlt
      have hjl : (j : Int) < (l.length : Int) := by omega
      have hc := HF.out j hlt _ wj hb hch
      cases hp : p l[j] with
      | true =>
        have hfin : l.any p = true := List.any_eq_true.2 ⟨_, List.getElem_mem hlt, hp⟩
        rw [hp] at hc
        have HC := Lib.hid hc
        have HFI := Lib.hid hfin
        clear hc hlo hp hfin
        go_wp2_with fail
        refine HC.out.mono ?_
        rintro e wx ⟨rfl, hx⟩
        go_wp2_with fail
        go_ret
        exact ⟨(j : Int), rfl, by rw [HFI.out]; simp, hb.trans (hx.mono hb.size)⟩
      | false =>
        rw [hp] at hc
        have HC := Lib.hid hc
        have HLO : Hid (∀ q (h' : q < l.length), q < j + 1 → p l[q] = false) := by
          show ∀ q (h' : q < l.length), q < j + 1 → p l[q] = false
          intro q hq hqj
          by_cases hqj2 : q < j
          · exact hlo q hq hqj2
          · obtain rfl : q = j := by omega
            exact hp
        clear hc hlo hp
        go_wp2_with fail
        refine HC.out.mono ?_
        rintro e wx ⟨rfl, hx⟩
        go_wp2_with fail
        go_roundw
        case rel => exact ⟨j + 1, by omega, by go_num, hb.trans (hx.mono hb.size), HLO.out⟩
        case measure => simp [intOf]; omega
    · have hjl : ¬ (j : Int) < (l.length : Int) := by omega
      have hfin : l.any p = false := by
        rw [List.any_eq_false]
        intro x hx
        obtain ⟨q, hq, rfl⟩ := List.getElem_of_mem hx
        rw [hlo q hq (by omega)]
        simp
      have HFI := Lib.hid hfin
      clear hlo hfin
      go_wp2_with fail
      go_ret
      exact ⟨-1, rfl, by rw [HFI.out]; rfl, hb⟩

set_option maxRecDepth 100000 in
theorem containsFunc_deep (bb : Nat) (p : Tree → Bool) (l : List Tree) (A : Option Addr) (c : Nat) (w : World) (hl : ListT w l A c)
    (hf : ∀ j (hj : j < l.length) (vs : List Value) (w' : World), Below w.heap.size w w' → ShowsT w' (l[j]'hj) vs → Calls Try.prog 86 #[.agg vs.toArray, .pointer (some ⟨bb, 0, none⟩)] w' fun e w'' => e = .returned (.bool (p (l[j]'hj))) ∧ Below w'.heap.size w' w'') :
    Calls Try.prog 85 #[.slice A l.length c, .func (.func 86) #[] #[.pointer (some ⟨bb, 0, none⟩)]] w fun e w' => e = .returned (.bool (l.any p)) ∧ Below w.heap.size w w' := by
  have hi := Lib.hid (indexFunc_deep bb p l A c w hl hf)
  clear hf
  generalize l.any p = r at *
  go_enter Try.func85, Try.ntmps85
  go_wp2_with fail
  refine hi.out.mono ?_
  rintro e w' ⟨x, rfl, hx, hb⟩
  have HX := Lib.hid hx
  clear hx
  go_wp2_with fail
  go_ret
  exact ⟨by rw [← HX.out]; rfl, hb⟩

set_option maxRecDepth 100000 in
set_option maxHeartbeats 2000000 in
theorem indexFunc_valid (p : Tree → Bool) (l : List Tree) (A : Option Addr) (c : Nat) (w : World) (hl : ListT w l A c)
    (hf : ∀ j (hj : j < l.length) (vs : List Value) (w' : World), Below w.heap.size w w' → ShowsT w' (l[j]'hj) vs → Calls Try.prog 89 #[.agg vs.toArray] w' fun e w'' => e = .returned (.bool (p (l[j]'hj))) ∧ Below w'.heap.size w' w'') :
    Calls Try.prog 94 #[.slice A l.length c, .func (.func 89) #[] #[]] w fun e w' => ∃ r : Int, e = .returned (.int .i64 r) ∧ decide (0 ≤ r) = l.any p ∧ Below w.heap.size w w' := by
  have hlm := hl.lm
  have HF := Lib.hid hf
  clear hf
  go_enter Try.func94, Try.ntmps94
  go_wp2_with fail
  go_loopw [8] (fun i wr => ∃ j : Nat, j ≤ l.length ∧ i = .int .i64 j ∧ Below w.heap.size w wr ∧ ∀ q (h' : q < l.length), q < j → p l[q] = false) (fun i _ => l.length - (intOf i).toNat)
  case atStart => exact ⟨0, by omega, rfl, Below.refl _ _, fun q _ h => absurd h (by omega)⟩
  case round =>
    obtain ⟨j, hj, rfl, hb, hlo⟩ := hrel
    rename World => wj
    by_cases hlt : j < l.length
    · obtain ⟨d, o, v0, v1, v2, v3, v4, rfl, hd, hch, e0, e1, e2, e3, e4⟩ := (hl.kept hb (Nat.le_refl _)).at_ j hlt
      have hjl : (j : Int) < (l.length : Int) := by omega
      have hc := HF.out j hlt _ wj hb hch
      cases hp : p l[j] with
      | true =>
        have hfin : l.any p = true := List.any_eq_true.2 ⟨_, List.getElem_mem hlt, hp⟩
        rw [hp] at hc
        have HC := Lib.hid hc
        have HFI := Lib.hid hfin
        clear hc hlo hp hfin
        go_wp2_with fail
        refine HC.out.mono ?_
        rintro e wx ⟨rfl, hx⟩
        go_wp2_with fail
        go_ret
        exact ⟨(j : Int), rfl, by rw [HFI.out]; simp, hb.trans (hx.mono hb.size)⟩
      | false =>
        rw [hp] at hc
        have HC := Lib.hid hc
        have HLO : Hid (∀ q (h' : q < l.length), q < j + 1 → p l[q] = false) := by
          show ∀ q (h' : q < l.length), q < j + 1 → p l[q] = false
          intro q hq hqj
          by_cases hqj2 : q < j
          · exact hlo q hq hqj2
          · obtain rfl : q = j := by omega
            exact hp
        clear hc hlo hp
        go_wp2_with fail
        refine HC.out.mono ?_
        rintro e wx ⟨rfl, hx⟩
        go_wp2_with fail
        go_roundw
        case rel => exact ⟨j + 1, by omega, by go_num, hb.trans (hx.mono hb.size), HLO.out⟩
        case measure => simp [intOf]; omega
    · have hjl : ¬ (j : Int) < (l.length : Int) := by omega
      have hfin : l.any p = false := by
        rw [List.any_eq_false]
        intro x hx
        obtain ⟨q, hq, rfl⟩ := List.getElem_of_mem hx
        rw [hlo q hq (by omega)]
        simp
      have HFI := Lib.hid hfin
      clear hlo hfin
      go_wp2_with fail
      go_ret
      exact ⟨-1, rfl, by rw [HFI.out]; rfl, hb⟩

set_option maxRecDepth 100000 in
theorem containsFunc_valid (p : Tree → Bool) (l : List Tree) (A : Option Addr) (c : Nat) (w : World) (hl : ListT w l A c)
    (hf : ∀ j (hj : j < l.length) (vs : List Value) (w' : World), Below w.heap.size w w' → ShowsT w' (l[j]'hj) vs → Calls Try.prog 89 #[.agg vs.toArray] w' fun e w'' => e = .returned (.bool (p (l[j]'hj))) ∧ Below w'.heap.size w' w'') :
    Calls Try.prog 85 #[.slice A l.length c, .func (.func 89) #[] #[]] w fun e w' => e = .returned (.bool (l.any p)) ∧ Below w.heap.size w w' := by
  have hi := Lib.hid (indexFunc_valid p l A c w hl hf)
  clear hf
  generalize l.any p = r at *
  go_enter Try.func85, Try.ntmps85
  go_wp2_with fail
  refine hi.out.mono ?_
  rintro e w' ⟨x, rfl, hx, hb⟩
  have HX := Lib.hid hx
  clear hx
  go_wp2_with fail
  go_ret
  exact ⟨by rw [← HX.out]; rfl, hb⟩

set_option maxRecDepth 100000 in
set_option maxHeartbeats 2000000 in
/-- Does something in the row lie too deep? -/
theorem deeps_any (m : Nat) : ∀ (l : List Tree) (A : Option Addr) (c : Nat) (w : World), m ≤ 5 → ListT w l A c →
    Calls Try.prog 72 #[.slice A l.length c, .int .i64 (6 - m : Int)] w fun e w' => e = .returned (.bool (l.any (deepD m))) ∧ Below w.heap.size w w' := by
  induction m with
  | zero =>
    intro l A c w hm hl
    have hd : l.any (deepD 0) = decide (0 < l.length) := by
      cases l with
      | nil => rfl
      | cons a r => simp [deepD]
    rw [hd]
    clear hd
    go_enter Try.func72, Try.ntmps72
    go_wp2_with fail
    go_ret
    exact ⟨rfl, (Below.refl _ _).alloc (Nat.le_refl _) _⟩
  | succ m ih =>
    intro l A c w hm hl
    have IH := Lib.hid ih
    clear ih
    have hlt : decide (6 ≤ (6 : Int) - ((m + 1 : Nat) : Int)) = false := by simp; omega
    generalize hx : (6 : Int) - ((m + 1 : Nat) : Int) = x at *
    have hxm : (x : Int) + 1 = 6 - (m : Int) := by omega
    have HX := Lib.hid hxm
    have hb1 : 1 ≤ x := by omega
    have hb2 : x ≤ 5 := by omega
    clear hx hxm
    obtain ⟨W, hW⟩ : ∃ W, W = w.alloc (.cells #[.int .i64 x] 3) := ⟨_, rfl⟩
    have hB : Below w.heap.size w W := by rw [hW]; exact (Below.refl _ _).alloc (Nat.le_refl _) _
    have hlt2 : w.heap.size < W.heap.size := by rw [hW]; simp
    have cx : W.cell? ⟨w.heap.size, 0, none⟩ = some (.int .i64 x) := by rw [hW]; exact cell_of_row _ _ 0 _ 3 (0, 0) (heap_alloc_new w _)
    have hC := Lib.hid (containsFunc_deep w.heap.size (deepD (m + 1)) l A c W (hl.kept hB (Nat.le_refl _)) (by
      intro j hj vs w' hw' hs
      have hsh := hs
      obtain ⟨kv, A', c', d0, d1, cs, rfl, _⟩ := hs.open
      have cx' : w'.cell? ⟨w.heap.size, 0, none⟩ = some (.int .i64 x) := (hw'.cell (p := ⟨w.heap.size, 0, none⟩) hlt2).trans cx
      have cx2 : ∀ o, (w'.alloc o).cell? ⟨w.heap.size, 0, none⟩ = some (.int .i64 x) := fun o => by rw [World.cell?_alloc_lt _ _ _ (by have := hw'.size; simp; omega)]; exact cx'
      have hI := fun w'' (h'' : Below w'.heap.size w' w'') => IH.out (l[j]'hj).l A' c' w'' (by omega) (hsh.list.kept h'' (Nat.le_refl _))
      rw [← HX.out] at hI
      have HI := Lib.hid hI
      clear hI
      generalize hr : (l[j]'hj).l.any (deepD m) = r at *
      have hr2 : deepD (m + 1) (l[j]'hj) = r := hr
      rw [hr2]
      clear hr hr2
      go_enter Try.func86, Try.ntmps86
      go_wp2_with fail
      refine (HI.out _ ((Below.refl _ _).alloc (Nat.le_refl _) _)).mono ?_
      rintro e wx ⟨rfl, hx⟩
      go_wp2_with fail
      go_ret
      exact ⟨rfl, ((Below.refl _ _).alloc (Nat.le_refl _) _).trans (hx.mono (by simp))⟩))
    go_enter Try.func72, Try.ntmps72
    go_wp2_with fail
    rw [← hW]
    refine hC.out.mono ?_
    rintro e w' ⟨rfl, hb⟩
    go_wp2_with fail
    go_ret
    exact ⟨rfl, hB.trans (hb.mono hB.size)⟩

/-- How many values there are inside those of a row, and the row's own. -/
theorem cnt_split (l : List Tree) (j : Nat) (h : j < l.length) : cntL (l.take (j + 1)) = cntL (l.take j) + 1 + cntL (l[j]).l := by
  rw [cntL_take l j h, cntT_eq]; omega
theorem cntL_len : ∀ l : List Tree, l.length ≤ cntL l
  | [] => Nat.zero_le _
  | a :: r => by
    have := cntL_len r
    have h : cntL (a :: r) = cntT a + cntL r := rfl
    rw [h, cntT_eq, List.length_cons]
    omega
theorem cntL_drop_len (l : List Tree) (j : Nat) (h : j ≤ l.length) : cntL (l.take j) + (l.length - j) ≤ cntL l := by
  have h1 : cntL l = cntL (l.take j) + cntL (l.drop j) := by rw [← cntL_append, List.take_append_drop]
  have h2 := cntL_len (l.drop j)
  rw [List.length_drop] at h2
  omega

set_option maxRecDepth 100000 in
set_option maxHeartbeats 2000000 in
/-- How many more values there may be. -/
theorem spare_any (N : Nat) : ∀ (l : List Tree) (A : Option Addr) (c m : Nat) (w : World), cntL l ≤ N → m ≤ 1000 → ListT w l A c →
    Calls Try.prog 73 #[.slice A l.length c, .int .i64 m] w fun e w' => ∃ r : Int, e = .returned (.int .i64 r) ∧ (cntL l ≤ m → r = (m : Int) - (cntL l : Int)) ∧ (m < cntL l → r < 0) ∧ -2199023255552 ≤ r ∧ r ≤ 1000 ∧ Below w.heap.size w w' := by
  induction N with
  | zero =>
    intro l A c m w hN hm hl
    have h0 : l.length = 0 := by have := cntL_len l; omega
    obtain rfl : l = [] := List.eq_nil_of_length_eq_zero h0
    go_enter Try.func73, Try.ntmps73
    go_wp2_with fail
    refine wp_loop_rounds 1 ?_
    rw [rounds_succ]
    go_wp2_with fail
    go_ret
    exact ⟨(m : Int), rfl, fun _ => by simp [cntL], fun h => by simp [cntL] at h, by omega, by omega, Below.refl _ _⟩
  | succ N ih =>
    intro l A c m w hN hm hl
    have hlm := hl.lm
    have hnl := cntL_len l
    have IH := Lib.hid ih
    have HN := Lib.hid hN
    clear ih hN
    have HT := Lib.hid (cntL_drop_len l)
    have hval : ∀ j (hj : j < l.length), cntL l[j].l ≤ N := fun j hj => by
      have h1 := cntL_mem hj
      rw [cntT_eq] at h1
      have := HN.out
      omega
    have HV := Lib.hid hval
    clear hval hnl
    go_enter Try.func73, Try.ntmps73
    go_wp2_with fail
    go_loopw [1, 13] (fun x i wr => ∃ (j : Nat) (r : Int), j ≤ l.length ∧ i = .int .i64 j ∧ x = .int .i64 r ∧ Below w.heap.size w wr ∧ -2199023255552 ≤ r ∧ r ≤ 1000 ∧ Hid ((cntL (l.take j) + (l.length - j) ≤ m → r = (m : Int) - (cntL (l.take j) : Int) - ((l.length : Int) - j)) ∧ (m < cntL (l.take j) + (l.length - j) → r < 0))) (fun _ i _ => l.length - (intOf i).toNat)
    case atStart => exact ⟨0, (m : Int) - (l.length : Int), by omega, rfl, by go_num, Below.refl _ _, by omega, by omega, Lib.hid ⟨fun _ => by simp [cntL], fun h => by simp [cntL] at h; omega⟩⟩
    case round =>
      obtain ⟨j, r, hj, rfl, rfl, hb, hr1, hr2, HR⟩ := hrel
      rename World => wj
      by_cases hlt : j < l.length
      · obtain ⟨d, o, v0, v1, v2, v3, v4, rfl, hd, hch, e0, e1, e2, e3, e4⟩ := (hl.kept hb (Nat.le_refl _)).at_ j hlt
        have hjl : (j : Int) < (l.length : Int) := by omega
        obtain ⟨kv, A', c', d0, d1, cs, hvs, _, _, hks, _⟩ := hch.open
        simp only [List.cons.injEq, and_true] at hvs
        obtain ⟨rfl, rfl, rfl, rfl, rfl⟩ := hvs
        obtain ⟨A3, c3, rfl⟩ := str_form hks
        by_cases hr0 : r < 0
        · have hfin : m < cntL l := by
            have h1 := HT.out j hj
            have h2 := HR.out.1
            omega
          have HF := Lib.hid hfin
          clear hfin
          go_wp2_with fail
          go_ret
          exact ⟨r, rfl, fun h => absurd HF.out (by omega), fun _ => hr0, hr1, hr2, hb.trans ((Below.refl _ _).alloc (Nat.le_refl _) _ |>.mono hb.size)⟩
        · obtain ⟨q, rfl⟩ := Int.eq_ofNat_of_zero_le (show 0 ≤ r by omega)
          have hc := fun w' (hw' : Below wj.heap.size wj w') => IH.out (l[j]'hlt).l A' c' q w' (HV.out j hlt) (by omega) (hch.list.kept hw' (Nat.le_refl _))
          have HC := Lib.hid hc
          have HS := Lib.hid (cnt_split l j hlt)
          clear hc hch
          go_wp2_with fail
          refine (HC.out _ ((Below.refl _ _).alloc (Nat.le_refl _) _)).mono ?_
          rintro e wx ⟨r', rfl, h1, h2, h3, h4, hx⟩
          have HR2 : Hid ((cntL (l.take (j + 1)) + (l.length - (j + 1)) ≤ m → r' = (m : Int) - (cntL (l.take (j + 1)) : Int) - ((l.length : Int) - ((j + 1 : Nat) : Int))) ∧ (m < cntL (l.take (j + 1)) + (l.length - (j + 1)) → r' < 0)) := Lib.hid (by
            have a1 := HR.out
            rw [HS.out]
            constructor
            · intro h
              have := a1.1 (by omega)
              have := h1 (by omega)
              omega
            · intro h
              apply h2
              have a2 := a1.1
              have a3 := a1.2
              omega)
          clear h1 h2 HR
          go_wp2_with fail
          go_roundw
          case rel => exact ⟨j + 1, r', by omega, by go_num, rfl, hb.trans (((Below.refl _ _).alloc (Nat.le_refl _) _ |>.trans (hx.mono (by simp))).mono hb.size), h3, h4, HR2⟩
          case measure => simp [intOf]; omega
      · have hjl : ¬ (j : Int) < (l.length : Int) := by omega
        obtain rfl : j = l.length := by omega
        have hfin : (cntL l ≤ m → r = (m : Int) - (cntL l : Int)) ∧ (m < cntL l → r < 0) := by
          have := HR.out
          rw [List.take_length] at this
          exact ⟨fun h => by have := this.1 (by omega); omega, fun h => this.2 (by omega)⟩
        have HF := Lib.hid hfin
        clear hfin
        go_wp2_with fail
        go_ret
        exact ⟨r, rfl, HF.out.1, HF.out.2, hr1, hr2, hb⟩

end Go.Proofs.Ytnafibnhmhbfiaa

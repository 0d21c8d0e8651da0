/-
  Texts, together: ValI, ValJ, ValK.
  Conditions: none but sizes.
-/
import Derived.Test.YtdjahdnaihijjaaGreatDoorValGZ
import Derived.Defers
import Derived.Recover
import Derived.Deep.RegionHeld3
/-
  The contract of the reader's method elements of package value.
  Conditions: at most 880000 bytes are left, at most 200 values.
-/
namespace Go.Proofs.YtdjahdnaihijjaaGreatDoor
open Go.RowKit
set_option linter.unusedVariables false
set_option linter.unusedSimpArgs false

/-! ### what reading leaves -/
theorem finP_some {t t' : Tree} {m m' : Nat} {s s' : St} (h : finP t m s = some (t', m', s')) : t' = t ∧ m' = m ∧ s' = s ∧ s ≠ none := by
  unfold finP at h
  split at h
  · cases h
  · rename_i hs
    simp only [Option.some.injEq, Prod.mk.injEq] at h
    exact ⟨h.1.symm, h.2.1.symm, h.2.2.symm, hs⟩
theorem textT_lenS (most : Int) (p : Nat × St) : lenS (textT most p).2 ≤ lenS p.2 := by
  unfold textT
  split
  · exact takeS_lenS _ _
  · exact takeS_lenS _ _
theorem textS_lenS (q most : Int) (s : St) : lenS (textS q most s).2 ≤ lenS s := Nat.le_trans (textT_lenS _ _) (numS_lenS _ _)
/-- What a way of reading one value must keep. -/
def LeavesV (v : Nat → St → Option (Tree × Nat × St)) : Prop := ∀ m s t m' s', v m s = some (t, m', s') → m' < m ∧ lenS s' ≤ lenS s ∧ s' ≠ none
theorem itemsP_leaves {v : Nat → St → Option (Tree × Nat × St)} (hv : LeavesV v) (keys : Bool) : ∀ (c m : Nat) (s : St) (ks : List ByteArray) (l : List Tree) (m' : Nat) (s' : St), itemsP v keys c m s = some (ks, l, m', s') → m' + c ≤ m ∧ lenS s' ≤ lenS s ∧ l.length = c
  | 0, m, s, ks, l, m', s', h => by
    simp only [itemsP, Option.some.injEq, Prod.mk.injEq] at h
    obtain ⟨rfl, rfl, rfl, rfl⟩ := h
    exact ⟨Nat.le_refl _, Nat.le_refl _, rfl⟩
  | c + 1, m, s, ks, l, m', s', h => by
    unfold itemsP at h
    have hs0 : lenS (if keys = true then (textS 1 255 s).2 else s) ≤ lenS s := by
      split
      · exact textS_lenS _ _ _
      · exact Nat.le_refl _
    cases h1 : v m (if keys = true then (textS 1 255 s).2 else s) with
    | none => rw [h1] at h; cases h
    | some p =>
      obtain ⟨t, m1, s1⟩ := p
      rw [h1] at h
      obtain ⟨a1, a2, a3⟩ := hv _ _ _ _ _ h1
      cases h2 : itemsP v keys c m1 s1 with
      | none => simp only [h2] at h; cases h
      | some p =>
        obtain ⟨ks2, l2, m2, s2⟩ := p
        simp only [h2, Option.some.injEq, Prod.mk.injEq] at h
        obtain ⟨rfl, rfl, rfl, rfl⟩ := h
        obtain ⟨b1, b2, b3⟩ := itemsP_leaves hv keys c m1 s1 _ _ _ _ h2
        exact ⟨by omega, by omega, by simp [b3]⟩
theorem listP_leaves {v : Nat → St → Option (Tree × Nat × St)} (hv : LeavesV v) (k : Nat) (keys : Bool) (m : Nat) (s : St) (t : Tree) (m' : Nat) (s' : St) (h : listP v k keys m s = some (t, m', s')) : m' ≤ m ∧ lenS s' ≤ lenS s ∧ s' ≠ none := by
  unfold listP at h
  cases h1 : itemsP v keys (numS 4 (numS 4 s).2).1 m (numS 4 (numS 4 s).2).2 with
  | none => rw [h1] at h; cases h
  | some p =>
    obtain ⟨ks, l, m1, s1⟩ := p
    simp only [h1] at h
    split at h
    · obtain ⟨_, rfl, rfl, hn⟩ := finP_some h
      obtain ⟨b1, b2, b3⟩ := itemsP_leaves hv keys _ _ _ _ _ _ _ h1
      have := numS_lenS 4 s
      have := numS_lenS 4 (numS 4 s).2
      exact ⟨by omega, by omega, hn⟩
    · cases h
theorem valP_leaves : ∀ f, LeavesV (valP f)
  | 0 => fun m s t m' s' h => by cases h
  | f + 1 => fun m s t m' s' h => by
    cases m with
    | zero => cases h
    | succ m =>
      have hk := numS_lenS 1 s
      unfold valP at h
      split at h
      · obtain ⟨_, rfl, rfl, hn⟩ := finP_some h
        have := numS_lenS (layD (numS 1 s).1).num (numS 1 s).2
        exact ⟨by omega, by omega, hn⟩
      · split at h
        · obtain ⟨_, rfl, rfl, hn⟩ := finP_some h
          have := textS_lenS (layD (numS 1 s).1).text (layD (numS 1 s).1).bytes (numS 1 s).2
          exact ⟨by omega, by omega, hn⟩
        · split at h
          · obtain ⟨a1, a2, a3⟩ := listP_leaves (valP_leaves f) _ _ _ _ _ _ _ h
            exact ⟨by omega, by omega, a3⟩
          · obtain ⟨_, rfl, rfl, hn⟩ := finP_some h
            exact ⟨by omega, by omega, hn⟩

/-- A beginning that has been read. -/
def pre3 (ks0 : List ByteArray) (l0 : List Tree) (p : Option (List ByteArray × List Tree × Nat × St)) : Option (List ByteArray × List Tree × Nat × St) :=
  match p with
  | none => none
  | some (ks, l, r) => some (ks0 ++ ks, l0 ++ l, r)
theorem pre3_nil (p : Option (List ByteArray × List Tree × Nat × St)) : pre3 [] [] p = p := by
  match p with
  | none => rfl
  | some (ks, l, r) => rfl
theorem itemsP_step (v : Nat → St → Option (Tree × Nat × St)) (keys : Bool) (c m : Nat) (s : St) (ks0 : List ByteArray) (l0 : List Tree) (t : Tree) (m' : Nat) (s' : St) (h : v m (if keys = true then (textS 1 255 s).2 else s) = some (t, m', s')) :
    pre3 ks0 l0 (itemsP v keys (c + 1) m s) = pre3 (ks0 ++ (if keys = true then [str8 (textS 1 255 s).1] else [])) (l0 ++ [t]) (itemsP v keys c m' s') := by
  rw [itemsP, h]
  show pre3 ks0 l0 (match itemsP v keys c m' s' with | none => none | some (ks, l, r) => some ((if keys = true then [str8 (textS 1 255 s).1] else []) ++ ks, t :: l, r)) = _
  match itemsP v keys c m' s' with
  | none => rfl
  | some (ks, l, r) => simp [pre3]
theorem itemsP_stop (v : Nat → St → Option (Tree × Nat × St)) (keys : Bool) (c m : Nat) (s : St) (ks0 : List ByteArray) (l0 : List Tree) (h : v m (if keys = true then (textS 1 255 s).2 else s) = none) :
    pre3 ks0 l0 (itemsP v keys (c + 1) m s) = none := by
  rw [itemsP, h]
  rfl

theorem own_frm2 {α : Type} {C : Code α} {e : TypeId} {b g B : Nat} {w w' : World} {v : Value} {l : List α} (h : OwnG C e w B v l) (hf : Frm2 b g w w') (hb : b < B) (hg : g < B) : OwnG C e w' B v l :=
  h.keep fun q hq => hf.block q (h.block q hq).2 (by have := (h.block q hq).1; omega) (by have := (h.block q hq).1; omega)

theorem free_frm2 {b g B : Nat} {v1 v2 : Value} {w w' : World} (hf : Frm2 b g w w') (hb : b < B) (hg : g < B) : Sub (pm (Free B v1 v2) w) (pm (Free B v1 v2) w') :=
  pm_pm hf.size fun k hk hkw => ⟨hk, hf.block k hkw (by have := hk.1; omega) (by have := hk.1; omega)⟩

def LBox (w : World) (b : Nat) (y : Lay) : Prop := w.heap[b]? = some (.cells y.cells 147 (0, 0))

set_option maxRecDepth 100000 in
set_option maxHeartbeats 4000000 in
theorem relements_any (f b g d k m : Nat) (s : St) (w : World) (hR : VR w b g d m s) (hk : k < 256) (hm : m ≤ 200) (hs : lenS s ≤ 880000)
    (hv : ∀ m1 s1 w1, m1 ≤ m → lenS s1 ≤ 880000 → VR w1 b g d m1 s1 → Calls Tryz.prog 89 #[.pointer (some ⟨b, 0, none⟩)] w1 (ValSaid b g d w1 (valP f m1 s1))) :
    Calls Tryz.prog 101 #[.pointer (some ⟨b, 0, none⟩), .agg (layD k).cells] w (ItemsSaid b g d k w (listP (valP f) k (layD k).keys m s)) := by
  have hblt := hR.lt
  have hglt := hR.rs.lt
  obtain ⟨r, hr⟩ : ∃ r, r = listP (valP f) k (layD k).keys m s := ⟨_, rfl⟩
  rw [← hr]
  unfold listP at hr
  have HV := Lib.hid hv
  have HLV := Lib.hid (valP_leaves f)
  have HST := Lib.hid (fun c m s ks0 l0 t m' s' h => itemsP_step (valP f) (layD k).keys c m s ks0 l0 t m' s' h)
  have HSP := Lib.hid (fun c m s ks0 l0 h => itemsP_stop (valP f) (layD k).keys c m s ks0 l0 h)
  have hsz1 : lenS (numS 4 s).2 ≤ 880000 := Nat.le_trans (numS_lenS 4 s) hs
  have hsz2 : lenS (numS 4 (numS 4 s).2).2 ≤ lenS (numS 4 s).2 := numS_lenS 4 _
  have hC : (numS 4 (numS 4 s).2).1 < 18446744073709551616 := numS_lt 4 _
  have hS : (numS 4 s).1 < 18446744073709551616 := numS_lt 4 _
  have hnum := Lib.hid (fun s w (h : RS w g d s) (hl : lenS s ≤ 880000) => num_any g d s 4 w h (by omega))
  have hleft := Lib.hid (fun w (h : RS w g d (numS 4 s).2) => (show Calls Tryz.prog 60 #[.pointer (some ⟨g, 0, none⟩)] w fun e w' => e = .returned (.int .i64 (lenS (numS 4 s).2)) ∧ w = w' by
    cases hx : (numS 4 s).2 with
    | none => rw [hx] at h; exact left_none g d w h
    | some l => rw [hx] at h; exact left_some g d l w h))
  have hleft2 := Lib.hid (fun s w (h : RS w g d s) => (show Calls Tryz.prog 60 #[.pointer (some ⟨g, 0, none⟩)] w fun e w' => e = .returned (.int .i64 (lenS s)) ∧ w = w' by
    cases s with
    | none => exact left_none g d w h
    | some l => exact left_some g d l w h))
  have HT := Lib.hid (fun s w (h : RS w g d s) (hl : lenS s ≤ 880000) => text_any g d s 1 255 w h (by omega) (by omega) (by omega))
  generalize hy : (layD k).keys = yk at *
  have hcells : (layD k).cells = #[.int .i64 (layD k).num, .int .u64 (layD k).most, .int .i64 (layD k).text, .int .i64 (layD k).bytes, .bool (layD k).list, .bool yk] := by unfold Lay.cells; rw [hy]
  rw [hcells]
  generalize (layD k).num = n1 at *
  generalize (layD k).most = n2 at *
  generalize (layD k).text = n3 at *
  generalize (layD k).bytes = n4 at *
  generalize (layD k).list = n5 at *
  obtain ⟨W0, hW0⟩ : ∃ W0, W0 = w.alloc (Obj.cells #[.int .i64 n1, .int .u64 n2, .int .i64 n3, .int .i64 n4, .bool n5, .bool yk] 147) := ⟨_, rfl⟩
  have hb0 : Below w.heap.size w W0 := by rw [hW0]; exact (Below.refl _ _).alloc (Nat.le_refl _) _
  have hL0 : W0.heap[w.heap.size]? = some (.cells #[.int .i64 n1, .int .u64 n2, .int .i64 n3, .int .i64 n4, .bool n5, .bool yk] 147 (0, 0)) := by rw [hW0]; exact heap_alloc_new _ _
  have hs0 : W0.heap.size = w.heap.size + 1 := by rw [hW0]; simp
  have hR0 := hR.keep hb0
  have hF0 : Frm2 b g w W0 := Frm2.of_below hb0
  have c0 := hR0.c0
  have hcA : ∀ o, (w.alloc o).cell? ⟨b, 0, none⟩ = some (.pointer (some ⟨g, 0, none⟩)) := fun o => by rw [World.cell?_alloc_lt _ _ _ hblt]; exact hR.c0
  have HHR := Lib.hid hr
  clear hcells hy hr hv hR hb0
  go_enter Tryz.func101, Tryz.ntmps101
  go_wp2_with fail
  rw [← hW0]
  have HW0 := Lib.hid hW0
  clear hW0 hcA
  refine (hnum.out s W0 hR0.rs hs).mono ?_
  rintro e w1 ⟨rfl, hr1, hg1⟩
  have hR1 := hR0.read hr1 hg1
  have hF1 := hF0.trans (Frm2.of_grown hg1)
  have hL1 := (hg1.block w.heap.size (by omega) (fun e => by have := Option.some.inj e; omega)).trans hL0
  have c1 := hR1.c0
  clear hr1 hg1 hR0 hF0 hL0 c0
  go_wp2_with fail
  refine (hleft.out w1 hR1.rs).mono ?_
  rintro e w2 ⟨rfl, rfl⟩
  go_wp2_with fail
  refine (hnum.out _ w1 hR1.rs hsz1).mono ?_
  rintro e w2 ⟨rfl, hr2, hg2⟩
  have hR2 := hR1.read hr2 hg2
  have hF2 := hF1.trans (Frm2.of_grown hg2)
  have hL2 := (hg2.block w.heap.size (by have := hF1.size; exact (Array.getElem?_eq_some_iff.1 hL1).1) (fun e => by have := Option.some.inj e; omega)).trans hL1
  clear hr2 hg2 hR1 hF1 hL1 c1
  generalize (numS 4 (numS 4 s).2).2 = s2 at *
  generalize (numS 4 (numS 4 s).2).1 = C at *
  generalize lenS (numS 4 s).2 = L0 at *
  generalize (numS 4 s).1 = S0 at *
  go_wp2_with fail
  go_loopw [4, 5, 23] (fun kv lv i wr => ∃ (j : Nat) (ksL : List ByteArray) (lT : List Tree) (xs : List Cell5) (mj : Nat) (sj : St), j ≤ C ∧ i = .int .u64 j ∧ OwnG strC 9 wr (w.heap.size + 1) kv ksL ∧ OwnG valC 27 wr (w.heap.size + 1) lv xs ∧
      xs.length = j ∧ lT.length = j ∧ ksL.length ≤ j ∧ (∀ x ∈ ksL, x.size ≤ 880000) ∧ Hid (∀ q (h1 : q < lT.length) (h2 : q < xs.length), ShowsT (pm (Free (w.heap.size + 1) kv lv) wr) lT[q] xs[q].vs) ∧ Apart kv lv ∧ VR wr b g d mj sj ∧ Frm2 b g w wr ∧ mj + j ≤ m ∧ lenS sj ≤ 880000 ∧ lenS sj ≤ L0 ∧
      wr.heap[w.heap.size]? = some (.cells #[.int .i64 n1, .int .u64 n2, .int .i64 n3, .int .i64 n4, .bool n5, .bool yk] 147 (0, 0)) ∧
      Hid (itemsP (valP f) yk C m s2 = pre3 ksL lT (itemsP (valP f) yk (C - j) mj sj))) (fun _ _ i _ => C - (intOf i).toNat)
  case atStart => exact ⟨0, [], [], [], m, s2, by omega, rfl, OwnG.nil_ _ _ _ _, OwnG.nil_ _ _ _ _, rfl, rfl, by simp, by simp, Lib.hid (fun q h => absurd h (by simp)), fun k h => by simp [Value.ownBlock] at h, hR2, hF2, by omega, by omega, hsz2, hL2, Lib.hid (by rw [Nat.sub_zero, pre3_nil])⟩
  case round =>
    obtain ⟨j, ksL, lT, xs, mj, sj, hj, rfl, hok, hol, hxl, hll, hkl, hkz, HSH, hAP, hRj, hFj, hmj, hsj, hsj0, hLj, HIT⟩ := hrel
    rename World => wj
    have c0 := hRj.c0
    have hszj := (Array.getElem?_eq_some_iff.1 hLj).1
    have y5 : wj.cell? ⟨w.heap.size, 5, none⟩ = some (.bool yk) := by rw [cell_of_row wj w.heap.size 5 _ 147 (0, 0) hLj]; rfl
    by_cases hlt : j < C
    · have hjl : (j : Int) < (C : Int) := by omega
      have hj64 : IntKind.u64.wrap ((j : Int) + 1) = ((j + 1 : Nat) : Int) := by rw [IntKind.wrap_u64]; omega
      have HITn : Hid (∀ p, itemsP (valP f) yk C m s2 = pre3 ksL lT (itemsP (valP f) yk (C - (j + 1) + 1) mj sj) → p → p) := Lib.hid (fun _ _ h => h)
      have hCj : C - j = C - (j + 1) + 1 := by omega
      have HIT2 : Hid (itemsP (valP f) yk C m s2 = pre3 ksL lT (itemsP (valP f) yk (C - (j + 1) + 1) mj sj)) := by rw [← hCj]; exact HIT
      have hokB := Lib.hid hok.block
      have holB := Lib.hid hol.block
      clear HIT HITn hCj
      go_upto_if 26 with fail
      go_cut [4] from 26 to 40 (fun kv2 wx => ∃ (ksN : List ByteArray) (s' : St), OwnG strC 9 wx (w.heap.size + 1) kv2 ksN ∧ OwnG valC 27 wx (w.heap.size + 1) u5 xs ∧ ksN.length ≤ j + 1 ∧ (∀ x ∈ ksN, x.size ≤ 880000) ∧ Hid (∀ q (h1 : q < lT.length) (h2 : q < xs.length), ShowsT (pm (Free (w.heap.size + 1) kv2 u5) wx) lT[q] xs[q].vs) ∧ Apart kv2 u5 ∧ VR wx b g d mj s' ∧ Frm2 b g w wx ∧ lenS s' ≤ lenS sj ∧
        wx.heap[w.heap.size]? = some (.cells #[.int .i64 n1, .int .u64 n2, .int .i64 n3, .int .i64 n4, .bool n5, .bool yk] 147 (0, 0)) ∧
        Hid (s' = (if yk = true then (textS 1 255 sj).2 else sj) ∧ ksN = ksL ++ (if yk = true then [str8 (textS 1 255 sj).1] else [])))
      case first =>
        cases yk with
        | false =>
          go_wp2_with fail
          go_meet
          exact ⟨ksL, sj, hok, hol, by omega, hkz, HSH, hAP, hRj, hFj, Nat.le_refl _, hLj, Lib.hid ⟨rfl, by simp⟩⟩
        | true =>
          have HTj := Lib.hid (HT.out sj wj hRj.rs hsj)
          have htl := textS_lenS 1 255 sj
          have htf := textS_fst_le 1 255 sj
          generalize (textS 1 255 sj).2 = s3 at *
          generalize (textS 1 255 sj).1 = tx at *
          go_wp2_with fail
          refine HTj.out.mono ?_
          rintro e w3 ⟨rfl, hr3, hg3⟩
          have hF3 : Frm2 b g wj w3 := Frm2.of_grown hg3
          have hok3 := own_frm2 hok hF3 (by omega) (by omega)
          have hol3 := own_frm2 hol hF3 (by omega) (by omega)
          have hR3 := hRj.read hr3 hg3
          have hL3 := (hF3.block w.heap.size hszj (by omega) (by omega)).trans hLj
          have hFw3 := hFj.trans hF3
          have hs3 := hF3.size
          have HSH3 : Hid (∀ q (h1 : q < lT.length) (h2 : q < xs.length), ShowsT (pm (Free (w.heap.size + 1) u4 u5) w3) lT[q] xs[q].vs) := Lib.hid fun q h1 h2 => (HSH.out q h1 h2).sub (free_frm2 hF3 (by omega) (by omega))
          have HP3 := Lib.hid (And.intro hol3 (And.intro hR3 (And.intro hL3 hFw3)))
          clear hr3 hg3 hF3 hR3 hL3 hFw3 hol3 hol hok
          go_wp2_with (at_builtin; refine wpList_appendW strC _ rfl (.tmp 27) (.tmp 33) 24 rfl (w.heap.size + 1) 9 (.string ⟨#[]⟩) 16 Tryz.underlying24 infoStr rfl _ ksL rfl (hok3.alloc_ _) w3.heap.size (.slice (some ⟨w3.heap.size, 0, none⟩) 1 1) [str8 tx] rfl (ShowsG.lit (C := strC) [str8 tx] (by simp [Code.all, strC]) (by simp [maxLen])) (by simp) (by simp; omega) (by simp; omega) (by simp; omega) ?_; intro v4 w4 ho4 hg4 hwh4)
          go_meet
          obtain ⟨hol3, hR3, hL3, hFw3⟩ := HP3.out
          have hbA : Below w3.heap.size w3 (w3.alloc (Obj.cells #[.string (str8 tx)] 9)) := (Below.refl _ _).alloc (Nat.le_refl _) _
          have hF34 : Frm2 b g w w4 := (hFw3.trans (Frm2.of_below hbA)).grown hg4 (fun k hk => by have := (hokB.out k hk).1; omega)
          have hkeep : ∀ k, k < w3.heap.size → u4.ownBlock ≠ some k → w4.heap[k]? = w3.heap[k]? := fun k hk hne => (hg4.block k (by simp; omega) (fun e => hne e.symm)).trans (hbA.block k hk)
          have hAP4 : Apart v4 u5 := apart_left hAP hwh4 (fun k hk => by have := (holB.out k hk).2; simp; omega)
          have hSub : Sub (pm (Free (w.heap.size + 1) u4 u5) w3) (pm (Free (w.heap.size + 1) v4 u5) w4) := free_left hbA hg4 hwh4
          refine ⟨ksL ++ [str8 tx], s3, ho4, hol3.keep (fun k hk => hkeep k (by have := (holB.out k hk).2; omega) (fun e => hAP k e hk)), by simp; omega, ?_, Lib.hid fun q h1 h2 => (HSH3.out q h1 h2).sub hSub, hAP4, ?_, hF34, htl, ?_, Lib.hid ⟨by simp, by simp⟩⟩
          · intro x hx
            rcases List.mem_append.1 hx with hx | hx
            · exact hkz x hx
            · simp at hx
              subst hx
              rw [str8_size]
              omega
          · have hdg := hR3.dg
            refine ⟨(hkeep b hR3.lt (fun e => by have := (hokB.out b e).1; omega)).trans hR3.box, hR3.rs.keep ?_ (hkeep g hR3.rs.lt (fun e => by have := (hokB.out g e).1; omega)) (fun hd => hkeep d hd (fun e => by have := (hokB.out d e).1; omega)), hR3.bg, hR3.bd, hR3.dg⟩
            have := hg4.size
            simp at this
            omega
          · exact (hkeep w.heap.size (by omega) (fun e => by have := (hokB.out _ e).1; omega)).trans hL3
      case rest =>
        obtain ⟨ksN, s', hok, hol, hkl2, hkz2, HSH2, hAP2, hR, hF, hss, hL, HEQ⟩ := hcut
        have hszc := (Array.getElem?_eq_some_iff.1 hL).1
        have hkB := Lib.hid hok.block
        have hlB := Lib.hid hol.block
        have hcall := HV.out mj s' wc (by omega) (by omega) hR
        have HCA := Lib.hid hcall
        have HP := Lib.hid (And.intro hok (And.intro hol (And.intro hR (And.intro hF hL))))
        clear hcall hok hol hR hF hL
        cases hval : valP f mj s' with
        | none =>
          have hrn : r = none := by
            have h1 := HIT2.out
            have h2 := HEQ.out.1
            rw [HSP.out _ _ _ _ _ (by rw [← h2]; exact hval)] at h1
            rw [HHR.out, h1]
          subst hrn
          rw [hval] at HCA
          go_wp2_with fail
          refine HCA.out.mono ?_
          rintro e w5 ⟨hF5, rfl⟩
          exact ⟨rfl, HP.out.2.2.2.1.trans hF5, .inl rfl⟩
        | some p =>
          obtain ⟨t, m2, s5⟩ := p
          rw [hval] at HCA
          obtain ⟨hlv1, hlv2, hlv3⟩ := HLV.out _ _ _ _ _ hval
          have HIT3 : Hid (itemsP (valP f) yk C m s2 = pre3 ksN (lT ++ [t]) (itemsP (valP f) yk (C - (j + 1)) m2 s5)) := Lib.hid (by
            rw [HIT2.out, HEQ.out.2]
            exact HST.out _ _ _ _ _ _ _ _ (by rw [← HEQ.out.1]; exact hval))
          go_wp2_with fail
          refine HCA.out.mono ?_
          rintro e w5 ⟨hF5, vs, rfl, hSH5, hR5⟩
          obtain ⟨x5k, x5n, x5s, x5a, x5b, x5c, x5d, x5e, x5f, rfl⟩ := hSH5.cells5
          have hs5 := hF5.size
          have hol5 := own_frm2 HP.out.2.1 hF5 (by omega) (by omega)
          have hok5 := Lib.hid (own_frm2 HP.out.1 hF5 (by omega) (by omega))
          have hFw5 := Lib.hid (HP.out.2.2.2.1.trans hF5)
          have hL5 := Lib.hid ((hF5.block w.heap.size hszc (by omega) (by omega)).trans HP.out.2.2.2.2)
          have HSH5 := Lib.hid hSH5
          have HR5 := Lib.hid hR5
          have HF5 := Lib.hid hF5
          clear hF5 hSH5 hR5
          go_wp2_with (at_builtin; refine wpList_appendW valC _ rfl (.tmp 35) (.tmp 38) 25 rfl (w.heap.size + 1) 27 (.agg #[.int .u8 0, .int .u64 0, .string ⟨#[]⟩, .slice none 0 0, .slice none 0 0]) 80 Tryz.underlying25 infoVal rfl _ xs rfl (hol5.alloc_ _) w5.heap.size (.slice (some ⟨w5.heap.size, 0, none⟩) 1 1) [⟨x5k, x5n, x5s, x5a, x5b, x5c, x5d, x5e, x5f⟩] rfl (ShowsG.lit (C := valC) [⟨x5k, x5n, x5s, x5a, x5b, x5c, x5d, x5e, x5f⟩] (by simp [Code.all, valC, Cell5.vs]) (by simp [maxLen])) (by simp) (by simp; omega) (by simp; omega) (by simp; omega) ?_; intro v6 w6 ho6 hg6 hwh6)
          have hbA : Below w5.heap.size w5 (w5.alloc (Obj.cells #[.int .u8 x5k, .int .u64 x5n, .string x5s, .slice x5a x5b x5c, .slice x5d x5e x5f] 27)) := (Below.refl _ _).alloc (Nat.le_refl _) _
          have hlB5 : ∀ k, u5.ownBlock = some k → w.heap.size + 1 ≤ k ∧ k < w5.heap.size := fun k hk => by have := hlB.out k hk; omega
          have hkeep : ∀ k, k < w5.heap.size → u5.ownBlock ≠ some k → w6.heap[k]? = w5.heap[k]? := fun k hk hne => (hg6.block k (by simp; omega) (fun e => hne e.symm)).trans (hbA.block k hk)
          have hF6 : Frm2 b g w w6 := (hFw5.out.trans (Frm2.of_below hbA)).grown hg6 (fun k hk => by have := (hlB5 k hk).1; omega)
          have hAP6 : Apart u4 v6 := (apart_left hAP2.symm hwh6 (fun k hk => by have := (hkB.out k hk).2; simp; omega)).symm
          have hSub : Sub (pm (Free (w.heap.size + 1) u4 u5) w5) (pm (Free (w.heap.size + 1) u4 v6) w6) := free_right hbA hg6 hwh6
          have hs6 : w5.heap.size ≤ w6.heap.size := by have := hg6.size; simp at this; omega
          have hlow : Sub (lowm wc.heap.size w5) (pm (Free (w.heap.size + 1) u4 v6) w6) := (low_pm (B := wc.heap.size) (Q := Free (w.heap.size + 1) u4 u5) (Nat.le_refl _) (fun k hk _ => ⟨⟨by omega, fun e => by have := (hkB.out k e).2; omega, fun e => by have := (hlB.out k e).2; omega⟩, rfl⟩)).trans hSub
          have hR6 : VR w6 b g d m2 s5 := by
            have h5 := HR5.out
            exact ⟨(hkeep b h5.lt (fun e => by have := (hlB5 b e).1; omega)).trans h5.box, h5.rs.keep hs6 (hkeep g h5.rs.lt (fun e => by have := (hlB5 g e).1; omega)) (fun hd => hkeep d hd (fun e => by have := (hlB5 d e).1; have := h5.dg; omega)), h5.bg, h5.bd, h5.dg⟩
          have hL6 := (hkeep w.heap.size (by omega) (fun e => by have := (hlB5 _ e).1; omega)).trans hL5.out
          have hok6 : OwnG strC 9 w6 (w.heap.size + 1) u4 ksN := hok5.out.keep (fun k hk => hkeep k (by have := (hkB.out k hk).2; omega) (fun e => hAP2 k hk e))
          have HALL : Hid (∀ q (h1 : q < (lT ++ [t]).length) (h2 : q < (xs ++ [(⟨x5k, x5n, x5s, x5a, x5b, x5c, x5d, x5e, x5f⟩ : Cell5)]).length), ShowsT (pm (Free (w.heap.size + 1) u4 v6) w6) (lT ++ [t])[q] (xs ++ [(⟨x5k, x5n, x5s, x5a, x5b, x5c, x5d, x5e, x5f⟩ : Cell5)])[q].vs) := Lib.hid (by
            intro q h1 h2
            by_cases hq : q < lT.length
            · have hq2 : q < xs.length := by omega
              rw [List.getElem_append_left hq, List.getElem_append_left hq2]
              exact ((HSH2.out q hq hq2).sub (free_frm2 HF5.out (by omega) (by omega))).sub hSub
            · have hq2 : ¬ q < xs.length := by omega
              rw [List.getElem_append_right (by omega), List.getElem_append_right (by omega)]
              simp only [List.getElem_singleton]
              exact HSH5.out.sub hlow)
          go_roundw
          case rel => exact ⟨j + 1, ksN, lT ++ [t], _, m2, s5, by omega, by go_num, hok6, ho6, by simp [hxl], by simp [hll], by omega, hkz2, HALL, hAP6, hR6, hF6, by omega, by omega, by omega, hL6, HIT3⟩
          case measure => simp [intOf]; omega
    · have hjl : ¬ (j : Int) < (C : Int) := by omega
      obtain rfl : j = C := by omega
      have hfin : itemsP (valP f) yk j m s2 = some (ksL, lT, mj, sj) := by
        rw [HIT.out, Nat.sub_self]
        simp [itemsP, pre3]
      have hrf : r = if L0 - lenS sj = S0 then finP (.node k 0 ⟨#[]⟩ ksL lT) mj sj else none := by
        rw [HHR.out, hfin]
      have HRF := Lib.hid hrf
      have hle := Lib.hid (hleft2.out sj wj hRj.rs)
      have hconv : IntKind.u64.wrap ((L0 : Int) - (lenS sj : Int)) = ((L0 - lenS sj : Nat) : Int) := by rw [IntKind.wrap_u64]; omega
      have hshow : Hid (∃ a3 n3 c3 a4 n4 c4, u4 = .slice a3 n3 c3 ∧ u5 = .slice a4 n4 c4 ∧ ShowsT (lowm w.heap.size wj) (.node k 0 ⟨#[]⟩ ksL lT) [.int .u8 k, .int .u64 (0 : Nat), .string ⟨#[]⟩, .slice a3 n3 c3, .slice a4 n4 c4]) := Lib.hid (by
        have hol' := (hol.low (Nat.le_refl _))
        have hok' := (hok.low (Nat.le_refl _))
        obtain ⟨A, c, e1, hLT⟩ := listT_own hol' (by omega) (by omega) (fun q hq => (HSH.out q hq (by omega)).sub (pm_low fun k hk => hk.1))
        obtain ⟨gk, _, hks⟩ := hok'.shows
        obtain ⟨A3, c3, e2⟩ := str_form hks
        subst e1
        subst e2
        refine ⟨_, _, _, _, _, _, rfl, rfl, ?_⟩
        exact (ShowsT.make hk (by decide) hks (by omega) (fun x hx => by have := hkz x hx; omega) (by decide) hLT).sub (low_anti (Nat.le_succ _)))
      have HFJ := Lib.hid hFj
      have HRJ := Lib.hid hRj
      clear hfin hrf hol hok HSH HIT
      by_cases hsz : L0 - lenS sj = S0
      · have hszI : (((L0 - lenS sj : Nat) : Int) == (S0 : Int)) = true := by rw [hsz]; simp
        go_wp2_with fail
        refine hle.out.mono ?_
        rintro e w3 ⟨rfl, rfl⟩
        go_wp2_with fail
        refine (must_yes _).mono ?_
        rintro e w3 ⟨rfl, rfl⟩
        obtain ⟨a3, n3', c3, a4, n4', c4, rfl, rfl, hSHF⟩ := hshow.out
        have HSHF := Lib.hid hSHF
        have hrf := HRF.out
        rw [if_pos hsz] at hrf
        clear hSHF HRF
        go_wp2_with fail
        go_ret2
        cases sj with
        | none =>
          rw [show r = none from hrf]
          exact ⟨HFJ.out, .inr ⟨_, _, _, _, _, _, mj, rfl, HRJ.out⟩⟩
        | some lx =>
          rw [show r = some (.node k 0 ⟨#[]⟩ ksL lT, mj, some lx) from hrf]
          exact ⟨HFJ.out, _, _, _, _, _, _, ksL, lT, rfl, by simp, rfl, HSHF.out, HRJ.out⟩
      · have hszI : (((L0 - lenS sj : Nat) : Int) == (S0 : Int)) = false := by simp; omega
        have hrf := HRF.out
        rw [if_neg hsz] at hrf
        subst hrf
        clear HRF
        go_wp2_with fail
        refine hle.out.mono ?_
        rintro e w3 ⟨rfl, rfl⟩
        go_wp2_with fail
        refine (must_no _).mono ?_
        rintro e w3 ⟨rfl, rfl⟩
        exact ⟨rfl, HFJ.out, .inl rfl⟩

/-- Reading a value, whatever it holds. -/
theorem rvalue_any : ∀ (f b g d m : Nat) (s : St) (w : World), m ≤ f → m ≤ 200 → lenS s ≤ 880000 → VR w b g d m s →
    Calls Tryz.prog 89 #[.pointer (some ⟨b, 0, none⟩)] w (ValSaid b g d w (valP f m s))
  | 0, b, g, d, m, s, w, hf, hm, hs, hR => by
    obtain rfl : m = 0 := by omega
    have := value_any 0 b g d 0 s w hR (by omega) hs (fun m1 _ _ _ h => by omega)
    exact this
  | f + 1, b, g, d, m, s, w, hf, hm, hs, hR => by
    refine value_any f b g d m s w hR hm hs fun m1 s1 w1 k h1 _ h3 h4 h5 => ?_
    refine relements_any f b g d k m1 s1 w1 h5 h4 (by omega) h3 fun m2 s2 w2 h6 h7 h8 => ?_
    exact rvalue_any f b g d m2 s2 w2 (by omega) (by omega) h7 h8

end Go.Proofs.YtdjahdnaihijjaaGreatDoor
/-
  The contracts of value.Get's deferred closure and of value.Get.
  Conditions: at most 2^47 bytes.
-/
namespace Go.Proofs.YtdjahdnaihijjaaGreatDoor
open Go.RowKit
set_option linter.unusedVariables false
set_option linter.unusedSimpArgs false

/-- Three results in their cells. -/
structure Res3 (w : World) (r n er : Nat) (v0 v1 v2 v3 v4 x y : Value) : Prop where
  r : BoxV w r v0 v1 v2 v3 v4
  n : w.heap[n]? = some (.cells #[x] 3 (0, 0))
  e : w.heap[er]? = some (.cells #[y] 33 (0, 0))

theorem run_assert (w : World) : (Instr.typeAssert (.iface 160 (.agg #[])) 20 160 true).run Tryz.prog w = .ok (.tuple #[.agg #[], .bool true]) w := by kernel_rfl

set_option maxRecDepth 100000 in
theorem catch_panicking (r n er : Nat) (v0 v1 v2 v3 v4 x y : Value) (w : World) (hv : v3 = .slice none 0 0 ∨ True) (h : Res3 w r n er v0 v1 v2 v3 v4 x y) (h1 : r ≠ n) (h2 : r ≠ er) (h3 : n ≠ er) :
    CallsD Tryz.prog 88 #[.pointer (some ⟨r, 0, none⟩), .pointer (some ⟨n, 0, none⟩), .pointer (some ⟨er, 0, none⟩)] (.panicking refu) w fun e u' w' =>
      e = .returned (.tuple #[]) ∧ u' = .panicking [{ v := .iface 160 (.agg #[]), recovered := true }] ∧ Res3 w' r n er (.int .u8 0) (.int .u64 0) (.string ⟨#[]⟩) (.slice none 0 0) (.slice none 0 0) (.int .i64 0) (.int .i64 5) ∧ ∀ B, B ≤ r → B ≤ n → B ≤ er → Below B w w' := by
  refine callsD_of_wpS Tryz.func88 rfl fun c₀ cs hu => ?_
  apply wpS_seq
  apply wpS_region
  simp [wpOpsS, go_sem, recoverD, hu, Tryz.ntmps88, Exit.thenS, refu]
  refine wpS_of_wp ?_
  change Code.wp _ _ _ { tmps := #[.pointer (some ⟨r, 0, none⟩), .pointer (some ⟨n, 0, none⟩), .pointer (some ⟨er, 0, none⟩), .iface 160 (.agg #[]), undef, undef, .iface 160 (.agg #[]), undef, undef, undef, undef, undef, undef, undef, undef, undef, undef, undef], defers := [] } w
  obtain ⟨Q, hQ⟩ : ∃ Q : Exit → Act → World → Prop, Q = (fun e a' w' => bodyPostS Tryz.prog Tryz.f88 c₀ cs (fun e u' w' => e = Ending.returned (Value.tuple #[]) ∧ u' = FrameMode.panicking [{ v := Value.iface 160 (Value.agg #[]), recovered := true }] ∧ Res3 w' r n er (.int .u8 0) (.int .u64 0) (.string ⟨#[]⟩) (.slice none 0 0) (.slice none 0 0) (.int .i64 0) (.int .i64 5) ∧ ∀ B, B ≤ r → B ≤ n → B ≤ er → Below B w w') e a' ({ fn := c₀.fn, tmps := c₀.tmps, todo := c₀.todo, defers := c₀.defers, mode := FrameMode.panicking [{ v := Value.iface 160 (Value.agg #[]), recovered := true }], kind := c₀.kind, roundOf := c₀.roundOf } :: cs) w') := ⟨_, rfl⟩
  rw [← hQ]
  have HQ := Lib.hid hQ
  have hta := run_assert
  obtain ⟨W, hW⟩ : ∃ W, W = w.alloc (Obj.cells #[] 160) := ⟨_, rfl⟩
  have hbW : Below w.heap.size w W := by rw [hW]; exact (Below.refl _ _).alloc (Nat.le_refl _) _
  have hR : BoxV W r v0 v1 v2 v3 v4 := h.r.kept hbW (Nat.le_refl _)
  have hN : W.heap[n]? = some (.cells #[x] 3 (0, 0)) := (hbW.block n (Array.getElem?_eq_some_iff.1 h.n).1).trans h.n
  have hE : W.heap[er]? = some (.cells #[y] 33 (0, 0)) := (hbW.block er (Array.getElem?_eq_some_iff.1 h.e).1).trans h.e
  have hbB : ∀ B, B ≤ r → Below B w W := fun B hB => hbW.mono (by have := h.r.lt; omega)
  have c0 := hR.c0
  have c1 := hR.c1
  have c2 := hR.c2
  have c3 := hR.c3
  have c4 := hR.c4
  have cn : W.cell? ⟨n, 0, none⟩ = some x := by rw [cell_of_row W n 0 _ 3 (0, 0) hN]; rfl
  have ce : W.cell? ⟨er, 0, none⟩ = some y := by rw [cell_of_row W er 0 _ 33 (0, 0) hE]; rfl
  have fr : ∀ i, W.frozen? ⟨r, i, none⟩ = false := fun i => frozen_of_row W r i _ 27 hR
  have fn : ∀ i, W.frozen? ⟨n, i, none⟩ = false := fun i => frozen_of_row W n i _ 3 hN
  have fe : ∀ i, W.frozen? ⟨er, i, none⟩ = false := fun i => frozen_of_row W er i _ 33 hE
  have r1 := heap_setCell_same _ r 0 _ 27 (.int .u8 0) hR
  have r2 := heap_setCell_same _ r 1 _ 27 (.int .u64 0) r1
  have r3 := heap_setCell_same _ r 2 _ 27 (.string ⟨#[]⟩) r2
  have r4 := heap_setCell_same _ r 3 _ 27 (.slice none 0 0) r3
  have r5 := heap_setCell_same _ r 4 _ 27 (.slice none 0 0) r4
  have HALL := Lib.hid (And.intro r5 (And.intro hN (And.intro hE hbB)))
  clear hQ h r1 r2 r3 r4 r5 hR hN hE hbW hbB hv
  subst hW
  go_wp2_with fail
  rw [HQ.out]
  obtain ⟨g1, g2, g3, g4⟩ := HALL.out
  refine ⟨rfl, _, rfl, .tuple #[], results_none rfl _ _ _, rfl, rfl, ⟨?_, ?_, ?_⟩, fun B h1' h2' h3' => ?_⟩
  · exact (Below.heap_setCell _ _ _ _ h2).trans ((Below.heap_setCell _ _ _ _ h1).trans g1)
  · refine (Below.heap_setCell _ _ _ _ h3).trans ?_
    refine heap_setCell_same _ n 0 #[x] 3 (.int .i64 0) ?_
    exact (Below.heap_setCell _ _ _ _ (Ne.symm h1)).trans ((Below.heap_setCell _ _ _ _ (Ne.symm h1)).trans ((Below.heap_setCell _ _ _ _ (Ne.symm h1)).trans ((Below.heap_setCell _ _ _ _ (Ne.symm h1)).trans ((Below.heap_setCell _ _ _ _ (Ne.symm h1)).trans g2))))
  · refine heap_setCell_same _ er 0 #[y] 33 (.int .i64 5) ?_
    exact (Below.heap_setCell _ _ _ _ (Ne.symm h3)).trans ((Below.heap_setCell _ _ _ _ (Ne.symm h2)).trans ((Below.heap_setCell _ _ _ _ (Ne.symm h2)).trans ((Below.heap_setCell _ _ _ _ (Ne.symm h2)).trans ((Below.heap_setCell _ _ _ _ (Ne.symm h2)).trans ((Below.heap_setCell _ _ _ _ (Ne.symm h2)).trans g3)))))
  · exact below_set (below_set (below_set (below_set (below_set (below_set (below_set (g4 B h1') h1' _) h1' _) h1' _) h1' _) h1' _) h2' _) h3' _

theorem catch_idle (r n er : Nat) (w : World) :
    CallsD Tryz.prog 88 #[.pointer (some ⟨r, 0, none⟩), .pointer (some ⟨n, 0, none⟩), .pointer (some ⟨er, 0, none⟩)] .returning w fun e u' w' =>
      e = .returned (.tuple #[]) ∧ u' = .returning ∧ w' = w := by
  refine callsD_of_wpS Tryz.func88 rfl fun c₀ cs hu => ?_
  apply wpS_seq
  apply wpS_region
  simp [wpOpsS, go_sem, recoverD, hu, Tryz.ntmps88, Exit.thenS]
  refine wpS_of_wp ?_
  change Code.wp _ _ _ { tmps := #[.pointer (some ⟨r, 0, none⟩), .pointer (some ⟨n, 0, none⟩), .pointer (some ⟨er, 0, none⟩), .nilIface, undef, undef, .nilIface, undef, undef, undef, undef, undef, undef, undef, undef, undef, undef, undef], defers := [] } w
  obtain ⟨Q, hQ⟩ : ∃ Q : Exit → Act → World → Prop, Q = (fun e a' w' => bodyPostS Tryz.prog Tryz.f88 c₀ cs (fun e u' w' => e = Ending.returned (Value.tuple #[]) ∧ u' = FrameMode.returning ∧ w' = w) e a' (c₀ :: cs) w') := ⟨_, rfl⟩
  rw [← hQ]
  have HQ := Lib.hid hQ
  clear hQ
  go_wp2_with fail
  rw [HQ.out]
  refine ⟨rfl, _, ?_, .tuple #[], results_none rfl _ _ _, rfl, rfl, rfl⟩
  cases c₀
  simp_all

end Go.Proofs.YtdjahdnaihijjaaGreatDoor
/-
  The contract of value.Get.
  Conditions: at most 2^47 bytes.
-/
namespace Go.Proofs.YtdjahdnaihijjaaGreatDoor
open Go.RowKit
set_option linter.unusedVariables false
set_option linter.unusedSimpArgs false

/-- What Get tells. -/
noncomputable def getP (l : List UInt8) : Option (Tree × Nat) :=
  match valP 200 200 (some (l.take 872200)) with
  | none => none
  | some (t, _, s) => if checkT t = 0 then some (t, (l.take 872200).length - lenS s) else none
def GetSaid (l : List UInt8) (w : World) (r : Option (Tree × Nat)) (e : Ending) (w' : World) : Prop :=
  Below w.heap.size w w' ∧ match r with
    | none => e = .returned (.tuple #[.agg #[.int .u8 0, .int .u64 0, .string ⟨#[]⟩, .slice none 0 0, .slice none 0 0], .int .i64 0, .int .i64 5])
    | some (t, n) => ∃ vs, e = .returned (.tuple #[.agg vs.toArray, .int .i64 n, .int .i64 0]) ∧ ShowsT (lowm w.heap.size w') t vs

theorem Shows.head2 {w : World} {d k n c : Nat} {A : Option Addr} {l : List UInt8} (h : Shows w d (.slice A n c) l) (hk : k ≤ l.length) : Shows w d (.slice A k c) (l.take k) := by
  obtain ⟨A', c', e, h2, h3, h4⟩ := h
  simp only [Value.slice.injEq] at e
  obtain ⟨rfl, rfl, rfl⟩ := e
  refine ⟨A, c, by rw [List.length_take, Nat.min_eq_left hk], by rw [List.length_take]; omega, h3, fun hp => ?_⟩
  rw [List.length_take] at hp
  obtain ⟨o, rfl, hd, hc⟩ := h4 (by omega)
  refine ⟨o, rfl, hd, fun j hj => ?_⟩
  rw [List.length_take] at hj
  rw [List.getElem_take]
  exact hc j (by omega)

theorem Res3.kept {w w' : World} {r n er : Nat} {v0 v1 v2 v3 v4 x y : Value} (h : Res3 w r n er v0 v1 v2 v3 v4 x y) (hb : Below w.heap.size w w') : Res3 w' r n er v0 v1 v2 v3 v4 x y :=
  ⟨h.r.kept hb (Nat.le_refl _), (hb.block n (Array.getElem?_eq_some_iff.1 h.n).1).trans h.n, (hb.block er (Array.getElem?_eq_some_iff.1 h.e).1).trans h.e⟩
theorem Res3.frm {w w' : World} {b g r n er : Nat} {v0 v1 v2 v3 v4 x y : Value} (h : Res3 w r n er v0 v1 v2 v3 v4 x y) (hf : Frm2 b g w w') (hb : r < b ∧ n < b ∧ er < b) (hg : r < g ∧ n < g ∧ er < g) : Res3 w' r n er v0 v1 v2 v3 v4 x y :=
  ⟨(hf.block r h.r.lt (by omega) (by omega)).trans h.r, (hf.block n (Array.getElem?_eq_some_iff.1 h.n).1 (by omega) (by omega)).trans h.n, (hf.block er (Array.getElem?_eq_some_iff.1 h.e).1 (by omega) (by omega)).trans h.e⟩
theorem below_frm {B : Nat} {w0 w w' : World} {b g : Nat} (h : Below B w0 w) (hf : Frm2 b g w w') (hb : B ≤ b) (hg : B ≤ g) (hs : B ≤ w.heap.size) : Below B w0 w' :=
  h.trans ⟨hf.os, hf.tape, hf.output, hf.size, fun k hk => hf.block k (by omega) (by omega) (by omega)⟩

theorem results_get (tmps : Array Value) (w : World) (r n er : Nat) {v0 v1 v2 v3 v4 x y : Value} (h : Res3 w r n er v0 v1 v2 v3 v4 x y) (h0 : tmps.getD 2 undef = .pointer (some ⟨r, 0, none⟩)) (h1 : tmps.getD 3 undef = .pointer (some ⟨n, 0, none⟩)) (h2 : tmps.getD 4 undef = .pointer (some ⟨er, 0, none⟩)) :
    (results Tryz.f77 tmps).run Tryz.prog w = .ok (.tuple #[.agg #[v0, v1, v2, v3, v4], x, y]) w := by
  have h0' : tmps[2]?.getD undef = .pointer (some ⟨r, 0, none⟩) := by simpa using h0
  have h1' : tmps[3]?.getD undef = .pointer (some ⟨n, 0, none⟩) := by simpa using h1
  have h2' : tmps[4]?.getD undef = .pointer (some ⟨er, 0, none⟩) := by simpa using h2
  have c1 : w.cell? ⟨n, 0, none⟩ = some x := by rw [cell_of_row w n 0 _ 3 (0, 0) h.n]; rfl
  have c2 : w.cell? ⟨er, 0, none⟩ = some y := by rw [cell_of_row w er 0 _ 33 (0, 0) h.e]; rfl
  have e0 := run_loadVar_row (P := Tryz.prog) w r 27 27 #[v0, v1, v2, v3, v4] (0, 0) _ h.r Tryz.underlying27 rfl (by kernel_rfl)
  have e1 : (loadVar 3 ⟨n, 0, none⟩).run Tryz.prog w = .ok x w := by
    have hagg : (isAgg 3).run Tryz.prog w = .ok false w := by kernel_rfl
    simp [loadVar, hagg, c1, go_sem]
  have e2 : (loadVar 33 ⟨er, 0, none⟩).run Tryz.prog w = .ok y w := by
    have hagg : (isAgg 33).run Tryz.prog w = .ok false w := by kernel_rfl
    simp [loadVar, hagg, c2, go_sem]
  simp [results, Tryz.results77, h0', h1', h2', asAddr, e0, e1, e2]

set_option maxRecDepth 100000 in
set_option maxHeartbeats 4000000 in
theorem get_any (v : Value) (d0 : Nat) (l : List UInt8) (w : World) (hv : Shows w d0 v l) (hl : l.length ≤ 140737488351232) :
    Calls Tryz.prog 77 #[v] w (GetSaid l w (getP l)) := by
  obtain ⟨A, c, rfl, hlc, hcm, _⟩ := id hv
  obtain ⟨R, hR⟩ : ∃ R, R = getP l := ⟨_, rfl⟩
  rw [← hR]
  have HR := Lib.hid hR
  obtain ⟨k, hk⟩ : ∃ k, k = (l.take 872200).length := ⟨_, rfl⟩
  have hkmin : (if (l.length : Int) ≤ 872200 then (l.length : Int) else 872200) = (k : Int) := by rw [hk, List.length_take]; split <;> omega
  have hkl : k ≤ l.length := by rw [hk, List.length_take]; omega
  have hkb : k ≤ 872200 := by rw [hk, List.length_take]; omega
  have hhd := hv.head2 hkl
  have htk : l.take k = l.take 872200 := by rw [hk, List.length_take]; apply List.take_eq_take_iff.2; omega
  rw [htk] at hhd
  have hmf : ∀ (fn : Fn) (first cap : Array Value) (w : World), (Instr.makeFunc fn first cap).run Tryz.prog w = .ok (.func fn first cap) w := fun _ _ _ _ => rfl
  obtain ⟨W0, hW0⟩ : ∃ W0, W0 = ((w.alloc (Obj.cells #[.int .u8 0, .int .u64 0, .string ⟨#[]⟩, .slice none 0 0, .slice none 0 0] 27)).alloc (Obj.cells #[.int .i64 0] 3)).alloc (Obj.cells #[.int .i64 0] 33) := ⟨_, rfl⟩
  have hbA : Below w.heap.size w (w.alloc (Obj.cells #[.int .u8 0, .int .u64 0, .string ⟨#[]⟩, .slice none 0 0, .slice none 0 0] 27)) := below_boxV _ _
  have hsA : (w.alloc (Obj.cells #[.int .u8 0, .int .u64 0, .string ⟨#[]⟩, .slice none 0 0, .slice none 0 0] 27)).heap.size = w.heap.size + 1 := by simp
  have hbW : Below w.heap.size w W0 := by rw [hW0]; exact (hbA.alloc (by simp) _).alloc (by simp; omega) _
  have hsW : W0.heap.size = w.heap.size + 3 := by rw [hW0]; simp
  have h3 : Res3 W0 w.heap.size (w.heap.size + 1) (w.heap.size + 1 + 1) (.int .u8 0) (.int .u64 0) (.string ⟨#[]⟩) (.slice none 0 0) (.slice none 0 0) (.int .i64 0) (.int .i64 0) := by
    rw [hW0]
    refine ⟨?_, ?_, ?_⟩
    · exact ((BoxV.new w).kept ((Below.refl _ _).alloc (Nat.le_refl _) _) (Nat.le_refl _)).kept ((Below.refl _ _).alloc (Nat.le_refl _) _) (Nat.le_refl _)
    · rw [Below.heap_alloc _ _ _ (by simp)]
      have := heap_alloc_new (w.alloc (Obj.cells #[.int .u8 0, .int .u64 0, .string ⟨#[]⟩, .slice none 0 0, .slice none 0 0] 27)) (Obj.cells #[.int .i64 0] 3)
      rw [hsA] at this
      exact this
    · have := heap_alloc_new ((w.alloc (Obj.cells #[.int .u8 0, .int .u64 0, .string ⟨#[]⟩, .slice none 0 0, .slice none 0 0] 27)).alloc (Obj.cells #[.int .i64 0] 3)) (Obj.cells #[.int .i64 0] 33)
      rw [show ((w.alloc (Obj.cells #[.int .u8 0, .int .u64 0, .string ⟨#[]⟩, .slice none 0 0, .slice none 0 0] 27)).alloc (Obj.cells #[.int .i64 0] 3)).heap.size = w.heap.size + 1 + 1 by simp] at this
      exact this
  have hhd0 : Shows W0 d0 (.slice A k c) (l.take 872200) := hhd.keep hbW.size (fun hp => hbW.block d0 (hhd.lt hp))
  have hfl : (l.take 872200).length = k := hk.symm
  have HOP := Lib.hid (open_any (.slice A k c) (l.take 872200) d0 W0 hhd0 (by omega))
  have H3 := Lib.hid h3
  have HBW := Lib.hid hbW
  have HR2 : Hid (R = match valP 200 200 (some (l.take 872200)) with | none => none | some (t, _, s) => if checkT t = 0 then some (t, k - lenS s) else none) := Lib.hid (by rw [hR]; unfold getP; rw [hfl])
  have HHK := Lib.hid hk
  clear hR hk htk hhd hhd0 hbA hsA hbW h3 hv
  go_enter_defers Tryz.func77, Tryz.ntmps77
  go_upto_region 2 with fail
  rw [← hW0]
  have HW0 := Lib.hid hW0
  clear hW0
  go_cut [5] from 8 to 12 (fun s5 wx => s5 = .slice A k c ∧ wx = W0)
  case first =>
    by_cases hle : (l.length : Int) ≤ 872200
    · rw [if_pos hle] at hkmin
      have hle2 : ¬ (872200 : Int) < (l.length : Int) := by omega
      go_wp2_with fail
      go_meet
      exact ⟨rfl, rfl⟩
    · rw [if_neg hle] at hkmin
      have hle2 : (872200 : Int) < (l.length : Int) := by omega
      have hle3 : (872200 : Int) ≤ (c : Int) := by omega
      go_wp2_with fail
      go_meet
      exact ⟨rfl, rfl⟩
  case rest =>
    obtain ⟨rfl, hwc⟩ := hcut
    subst hwc
    rename World => W0
    go_wp2_with fail
    refine HOP.out.mono ?_
    rintro e w1 ⟨g, d', rfl, hRS, hgw, ⟨hd1, hd2⟩, hb1⟩
    obtain ⟨W2, hW2⟩ : ∃ W2, W2 = w1.alloc (Obj.cells #[.pointer (some ⟨g, 0, none⟩), .int .i64 200] 163) := ⟨_, rfl⟩
    have hb12 : Below w1.heap.size w1 W2 := by rw [hW2]; exact (Below.refl _ _).alloc (Nat.le_refl _) _
    have hglt := hRS.lt
    have hs1 := hb1.size
    have hVR : VR W2 w1.heap.size g d' 200 (some (l.take 872200)) := by
      refine ⟨by rw [hW2]; exact heap_alloc_new _ _, hRS.keep hb12.size (hb12.block g hglt) (fun hd => hb12.block d' hd), by omega, by omega, hd2⟩
    have hb02 : Below W0.heap.size W0 W2 := hb1.trans (hb12.mono hs1)
    have h32 := H3.out.kept hb02
    have hcall := rvalue_any 200 w1.heap.size g d' 200 (some (l.take 872200)) W2 (by omega) (by omega) (by simp only [lenS]; omega) hVR
    have HCALL := Lib.hid hcall
    have H32 := Lib.hid h32
    have HB02 := Lib.hid hb02
    have hsW2 : W2.heap.size = w1.heap.size + 1 := by rw [hW2]; simp
    clear hcall h32 hb02 hb1 hb12 hRS hVR
    cases hval : valP 200 200 (some (l.take 872200)) with
    | none =>
      rw [hval] at HCALL HR2
      have hRn : R = none := HR2.out
      subst hRn
      go_wp2_with fail
      rw [← hW2]
      refine HCALL.out.mono ?_
      rintro e w3 ⟨hF3, rfl⟩
      have h33 := H32.out.frm hF3 (by omega) (by omega)
      have hB3 := below_frm (HBW.out.trans (HB02.out.mono HBW.out.size)) hF3 (by omega) (by omega) (by omega)
      refine leaves_cons (f := 88) (args := #[.pointer (some ⟨w.heap.size, 0, none⟩), .pointer (some ⟨w.heap.size + 1, 0, none⟩), .pointer (some ⟨w.heap.size + 1 + 1, 0, none⟩)]) (by simp) (by simp [go_sem]) ?_
      refine (catch_panicking w.heap.size (w.heap.size + 1) (w.heap.size + 1 + 1) _ _ _ _ _ _ _ w3 (.inr trivial) h33 (by omega) (by omega) (by omega)).mono ?_
      rintro e u' w4 ⟨rfl, rfl, h34, hB4⟩
      exact ⟨_, results_get _ w4 _ _ _ h34 rfl rfl rfl, hB3.trans (hB4 w.heap.size (Nat.le_refl _) (by omega) (by omega)), rfl⟩
    | some p =>
      obtain ⟨t, m', s'⟩ := p
      rw [hval] at HCALL HR2
      go_wp2_with fail
      rw [← hW2]
      refine HCALL.out.mono ?_
      rintro e w3 ⟨hF3, vs, rfl, hSH, hVR3⟩
      obtain ⟨k5, n5, s5, a3, n3, c3, a4, n4, c4, rfl⟩ := hSH.cells5
      have h33 := H32.out.frm hF3 (by omega) (by omega)
      have hB3 := below_frm (HBW.out.trans (HB02.out.mono HBW.out.size)) hF3 (by omega) (by omega) (by omega)
      have c0 := h33.r.c0
      have c1 := h33.r.c1
      have c2 := h33.r.c2
      have c3' := h33.r.c3
      have c4' := h33.r.c4
      have fz : ∀ i, w3.frozen? ⟨w.heap.size, i, none⟩ = false := fun i => frozen_of_row w3 w.heap.size i _ 27 h33.r
      obtain ⟨W4, hW4⟩ : ∃ W4, W4 = ((((w3.setCell ⟨w.heap.size, 0, none⟩ (.int .u8 k5)).setCell ⟨w.heap.size, 1, none⟩ (.int .u64 n5)).setCell ⟨w.heap.size, 2, none⟩ (.string s5)).setCell ⟨w.heap.size, 3, none⟩ (.slice a3 n3 c3)).setCell ⟨w.heap.size, 4, none⟩ (.slice a4 n4 c4) := ⟨_, rfl⟩
      have hR4 : BoxV W4 w.heap.size (.int .u8 k5) (.int .u64 n5) (.string s5) (.slice a3 n3 c3) (.slice a4 n4 c4) := by
        have r1 := heap_setCell_same _ w.heap.size 0 _ 27 (.int .u8 k5) h33.r
        have r2 := heap_setCell_same _ w.heap.size 1 _ 27 (.int .u64 n5) r1
        have r3 := heap_setCell_same _ w.heap.size 2 _ 27 (.string s5) r2
        have r4 := heap_setCell_same _ w.heap.size 3 _ 27 (.slice a3 n3 c3) r3
        have r5 := heap_setCell_same _ w.heap.size 4 _ 27 (.slice a4 n4 c4) r4
        rw [hW4]
        exact r5
      have hoth : ∀ q, q ≠ w.heap.size → W4.heap[q]? = w3.heap[q]? := fun q hq => by
        rw [hW4]
        exact (Below.heap_setCell _ _ _ _ hq).trans ((Below.heap_setCell _ _ _ _ hq).trans ((Below.heap_setCell _ _ _ _ hq).trans ((Below.heap_setCell _ _ _ _ hq).trans (Below.heap_setCell _ _ _ _ hq))))
      have hs34 : W4.heap.size = w3.heap.size := by rw [hW4]; simp
      have h34 : Res3 W4 w.heap.size (w.heap.size + 1) (w.heap.size + 1 + 1) (.int .u8 k5) (.int .u64 n5) (.string s5) (.slice a3 n3 c3) (.slice a4 n4 c4) (.int .i64 0) (.int .i64 0) := ⟨hR4, (hoth _ (by omega)).trans h33.n, (hoth _ (by omega)).trans h33.e⟩
      have hB4 : Below w.heap.size w W4 := by
        rw [hW4]
        exact below_set (below_set (below_set (below_set (below_set hB3 (Nat.le_refl _) _) (Nat.le_refl _) _) (Nat.le_refl _) _) (Nat.le_refl _) _) (Nat.le_refl _) _
      have hSH4 : ShowsT (lowm (w.heap.size + 3) W4) t [.int .u8 k5, .int .u64 n5, .string s5, .slice a3 n3 c3, .slice a4 n4 c4] := (hSH.sub (low_anti (B := w.heap.size + 3) (by omega))).sub (low_sub (by omega) fun q hq _ => hoth q (by omega))
      have hVR4 : VR W4 w1.heap.size g d' m' s' := ⟨(hoth _ (by omega)).trans hVR3.box, hVR3.rs.keep (by omega) (hoth _ (by omega)) (fun _ => hoth _ (by omega)), hVR3.bg, hVR3.bd, hVR3.dg⟩
      have hck := Lib.hid (check_any t _ W4 (hSH4.sub (low_out _ _)))
      have HH34 := Lib.hid h34
      have HB4 := Lib.hid hB4
      have HSH4 := Lib.hid hSH4
      have HVR4 := Lib.hid hVR4
      have hsz3 := hF3.size
      clear hoth hB3 hSH hVR3 hF3 h33 hSH4 hVR4 h34 hB4
      go_upto_region 5 with fail
      rw [← hW4]
      clear hW4 c0 c1 c2 c3' c4' fz
      have c0 := hR4.c0
      have c1 := hR4.c1
      have c2 := hR4.c2
      have c3' := hR4.c3
      have c4' := hR4.c4
      clear hR4
      go_wp2_with fail
      refine hck.out.mono ?_
      rintro e w5 ⟨rfl, hb5⟩
      have h35 := HH34.out.kept hb5
      have hB5 := HB4.out.trans (hb5.mono HB4.out.size)
      by_cases hc0 : checkT t = 0
      · have hcI : ((checkT t : Int) == 0) = true := by rw [hc0]; rfl
        obtain ⟨_, hlx, hsn⟩ := valP_leaves 200 _ _ _ _ _ hval
        obtain ⟨lx, rfl⟩ := Option.ne_none_iff_exists'.1 hsn
        have hRs : R = some (t, k - lx.length) := by rw [HR2.out]; simp [hc0, lenS]
        have hlk : lx.length ≤ k := by simp only [lenS] at hlx; omega
        have hVR5 := HVR4.out.keep hb5
        have hSH5 : ShowsT (lowm (w.heap.size + 3) w5) t [.int .u8 k5, .int .u64 n5, .string s5, .slice a3 n3 c3, .slice a4 n4 c4] := HSH4.out.sub (low_sub hb5.size fun q _ hq => hb5.block q hq)
        have HLF := Lib.hid (fun w (h : RS w g d' (some lx)) => left_some g d' lx w h)
        have HSH5 := Lib.hid hSH5
        have HB5 := Lib.hid hB5
        have H35 := Lib.hid h35
        have HVR5 := Lib.hid hVR5
        have d0' := h35.r.c0
        have d1 := h35.r.c1
        have d2 := h35.r.c2
        have d3 := h35.r.c3
        have d4 := h35.r.c4
        have dn : w5.cell? ⟨w.heap.size + 1, 0, none⟩ = some (.int .i64 0) := by rw [cell_of_row w5 _ 0 _ 3 (0, 0) h35.n]; rfl
        have de : w5.cell? ⟨w.heap.size + 1 + 1, 0, none⟩ = some (.int .i64 0) := by rw [cell_of_row w5 _ 0 _ 33 (0, 0) h35.e]; rfl
        have fr : ∀ i, w5.frozen? ⟨w.heap.size, i, none⟩ = false := fun i => frozen_of_row w5 w.heap.size i _ 27 h35.r
        have fn : ∀ i, w5.frozen? ⟨w.heap.size + 1, i, none⟩ = false := fun i => frozen_of_row w5 _ i _ 3 h35.n
        have fe : ∀ i, w5.frozen? ⟨w.heap.size + 1 + 1, i, none⟩ = false := fun i => frozen_of_row w5 _ i _ 33 h35.e
        have db := hVR5.c0
        have hrs5 := hVR5.rs
        have HRS := Lib.hid hRs
        clear hSH5 hB5 h35 hVR5 hcI hRs c0 c1 c2 c3' c4'
        have hcI : ((checkT t : Int) == 0) = true := by rw [hc0]; rfl
        go_wp2_with fail
        refine (must_yes _).mono ?_
        rintro e w6 ⟨rfl, rfl⟩
        obtain ⟨W6, hW6⟩ : ∃ W6, W6 = ((((((w5.setCell ⟨w.heap.size, 0, none⟩ (.int .u8 k5)).setCell ⟨w.heap.size, 1, none⟩ (.int .u64 n5)).setCell ⟨w.heap.size, 2, none⟩ (.string s5)).setCell ⟨w.heap.size, 3, none⟩ (.slice a3 n3 c3)).setCell ⟨w.heap.size, 4, none⟩ (.slice a4 n4 c4)).setCell ⟨w.heap.size + 1, 0, none⟩ (.int .i64 ((k : Int) - (lx.length : Int)))).setCell ⟨w.heap.size + 1 + 1, 0, none⟩ (.int .i64 0) := ⟨_, rfl⟩
        have hfin : Res3 W6 w.heap.size (w.heap.size + 1) (w.heap.size + 1 + 1) (.int .u8 k5) (.int .u64 n5) (.string s5) (.slice a3 n3 c3) (.slice a4 n4 c4) (.int .i64 ((k : Int) - (lx.length : Int))) (.int .i64 0) ∧ ShowsT (lowm w.heap.size W6) t [.int .u8 k5, .int .u64 n5, .string s5, .slice a3 n3 c3, .slice a4 n4 c4] ∧ Below w.heap.size w W6 := by
          have n01 : w.heap.size ≠ w.heap.size + 1 := by omega
          have n02 : w.heap.size ≠ w.heap.size + 1 + 1 := by omega
          have n12 : w.heap.size + 1 ≠ w.heap.size + 1 + 1 := by omega
          have r1 := heap_setCell_same _ w.heap.size 0 _ 27 (.int .u8 k5) H35.out.r
          have r2 := heap_setCell_same _ w.heap.size 1 _ 27 (.int .u64 n5) r1
          have r3 := heap_setCell_same _ w.heap.size 2 _ 27 (.string s5) r2
          have r4 := heap_setCell_same _ w.heap.size 3 _ 27 (.slice a3 n3 c3) r3
          have r5 := heap_setCell_same _ w.heap.size 4 _ 27 (.slice a4 n4 c4) r4
          have p5 := (Below.heap_setCell _ ⟨w.heap.size, 4, none⟩ (.slice a4 n4 c4) _ (Ne.symm n01)).trans ((Below.heap_setCell _ ⟨w.heap.size, 3, none⟩ (.slice a3 n3 c3) _ (Ne.symm n01)).trans ((Below.heap_setCell _ ⟨w.heap.size, 2, none⟩ (.string s5) _ (Ne.symm n01)).trans ((Below.heap_setCell _ ⟨w.heap.size, 1, none⟩ (.int .u64 n5) _ (Ne.symm n01)).trans ((Below.heap_setCell _ ⟨w.heap.size, 0, none⟩ (.int .u8 k5) _ (Ne.symm n01)).trans H35.out.n))))
          have q5 := (Below.heap_setCell _ ⟨w.heap.size, 4, none⟩ (.slice a4 n4 c4) _ (Ne.symm n02)).trans ((Below.heap_setCell _ ⟨w.heap.size, 3, none⟩ (.slice a3 n3 c3) _ (Ne.symm n02)).trans ((Below.heap_setCell _ ⟨w.heap.size, 2, none⟩ (.string s5) _ (Ne.symm n02)).trans ((Below.heap_setCell _ ⟨w.heap.size, 1, none⟩ (.int .u64 n5) _ (Ne.symm n02)).trans ((Below.heap_setCell _ ⟨w.heap.size, 0, none⟩ (.int .u8 k5) _ (Ne.symm n02)).trans H35.out.e))))
          have p6 := heap_setCell_same _ (w.heap.size + 1) 0 #[Value.int .i64 0] 3 (.int .i64 ((k : Int) - (lx.length : Int))) p5
          have q6 := (Below.heap_setCell _ ⟨w.heap.size + 1, 0, none⟩ (.int .i64 ((k : Int) - (lx.length : Int))) _ (Ne.symm n12)).trans q5
          refine ⟨⟨?_, ?_, ?_⟩, ?_, ?_⟩
          · rw [hW6]
            exact (Below.heap_setCell _ _ _ _ n02).trans ((Below.heap_setCell _ _ _ _ n01).trans r5)
          · rw [hW6]
            exact (Below.heap_setCell _ _ _ _ n12).trans p6
          · rw [hW6]
            exact heap_setCell_same _ (w.heap.size + 1 + 1) 0 #[Value.int .i64 0] 33 (.int .i64 0) q6
          · rw [hW6]
            exact (((((((HSH5.out.sub (low_set (by omega) _ _)).sub (low_set (by omega) _ _)).sub (low_set (by omega) _ _)).sub (low_set (by omega) _ _)).sub (low_set (by omega) _ _)).sub (low_set (by omega) _ _)).sub (low_set (by omega) _ _)).sub (low_anti (by omega))
          · rw [hW6]
            exact below_set (below_set (below_set (below_set (below_set (below_set (below_set HB5.out (Nat.le_refl _) _) (Nat.le_refl _) _) (Nat.le_refl _) _) (Nat.le_refl _) _) (Nat.le_refl _) _) (by omega) _) (by omega) _
        have HFIN := Lib.hid hfin
        have hwrap : IntKind.i64.wrap ((k : Int) - (lx.length : Int)) = (k : Int) - (lx.length : Int) := i64_id _ (by omega) (by omega)
        clear hfin
        go_upto_region 6 with fail
        refine wp_region_noPanic ?_
        go_region_with (go_at_call 60; refine (HLF.out _ (by first | exact hrs5 | exact hrs5.keep (Nat.le_refl _) rfl (fun _ => rfl))).mono ?_; rintro e wl ⟨rfl, rfl⟩)
        all_goals
          refine NoPanic.normal ?_
          go_wp2_with fail
          rw [← hW6]
          refine leaves_cons (f := 88) (args := #[.pointer (some ⟨w.heap.size, 0, none⟩), .pointer (some ⟨w.heap.size + 1, 0, none⟩), .pointer (some ⟨w.heap.size + 1 + 1, 0, none⟩)]) (by simp) (by simp [go_sem]) ?_
          refine (catch_idle w.heap.size (w.heap.size + 1) (w.heap.size + 1 + 1) _).mono ?_
          rintro e u' w7 ⟨rfl, rfl, rfl⟩
          refine ⟨_, results_get _ _ _ _ _ (⟨HFIN.out.1.r, HFIN.out.1.n, HFIN.out.1.e⟩ : Res3 W6.drew _ _ _ _ _ _ _ _ _ _) rfl rfl rfl, ?_⟩
          rw [HRS.out]
          have hcast : ((k : Int) - (lx.length : Int)) = ((k - lx.length : Nat) : Int) := by omega
          rw [hcast]
          exact ⟨below_drew1 HFIN.out.2.2, [.int .u8 k5, .int .u64 n5, .string s5, .slice a3 n3 c3, .slice a4 n4 c4], rfl, HFIN.out.2.1.sub (low_sub (Nat.le_refl _) (fun _ _ _ => rfl))⟩
      · have hcI : ((checkT t : Int) == 0) = false := by simp; omega
        have hRn : R = none := by rw [HR2.out]; simp [hc0]
        subst hRn
        go_wp2_with fail
        refine (must_no _).mono ?_
        rintro e w6 ⟨rfl, rfl⟩
        refine leaves_cons (f := 88) (args := #[.pointer (some ⟨w.heap.size, 0, none⟩), .pointer (some ⟨w.heap.size + 1, 0, none⟩), .pointer (some ⟨w.heap.size + 1 + 1, 0, none⟩)]) (by simp) (by simp [go_sem]) ?_
        refine (catch_panicking w.heap.size (w.heap.size + 1) (w.heap.size + 1 + 1) _ _ _ _ _ _ _ w5 (.inr trivial) h35 (by omega) (by omega) (by omega)).mono ?_
        rintro e u' w7 ⟨rfl, rfl, h37, hB7⟩
        exact ⟨_, results_get _ w7 _ _ _ h37 rfl rfl rfl, hB5.trans (hB7 w.heap.size (Nat.le_refl _) (by omega) (by omega)), rfl⟩

end Go.Proofs.YtdjahdnaihijjaaGreatDoor

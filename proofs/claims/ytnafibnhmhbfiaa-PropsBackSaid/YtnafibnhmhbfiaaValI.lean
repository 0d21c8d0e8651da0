/-
  The contract of the reader's method elements of package value.
  Conditions: at most 880000 bytes are left, at most 200 values.
-/
import Derived.Test.YtnafibnhmhbfiaaValH
import Derived.Test.YtnafibnhmhbfiaaValW
namespace Go.Proofs.Ytnafibnhmhbfiaa
open Go.RowKit
set_option linter.unusedVariables false
set_option linter.unusedSimpArgs false

/-! ### what reading leaves -/
theorem finP_some {t t' : Tree} {m m' : Nat} {s s' : St} (h : finP t m s = some (t', m', s')) : t' = t ∧ m' = m ∧ s' = s ∧ s ≠ none := by
  unfold finP at h
  split at h
  · cases h
  · rename_i hs
    simp only [Option.some.injEq, Prod.mk.injEq] at h
    exact ⟨h.1.symm, h.2.1.symm, h.2.2.symm, hs⟩
theorem textT_lenS (most : Int) (p : Nat × St) : lenS (textT most p).2 ≤ lenS p.2 := by
  unfold textT
  split
  · exact takeS_lenS _ _
  · exact takeS_lenS _ _
theorem textS_lenS (q most : Int) (s : St) : lenS (textS q most s).2 ≤ lenS s := Nat.le_trans (textT_lenS _ _) (numS_lenS _ _)
/-- What a way of reading one value must keep. -/
def LeavesV (v : Nat → St → Option (Tree × Nat × St)) : Prop := ∀ m s t m' s', v m s = some (t, m', s') → m' < m ∧ lenS s' ≤ lenS s ∧ s' ≠ none
theorem itemsP_leaves {v : Nat → St → Option (Tree × Nat × St)} (hv : LeavesV v) (keys : Bool) : ∀ (c m : Nat) (s : St) (ks : List ByteArray) (l : List Tree) (m' : Nat) (s' : St), itemsP v keys c m s = some (ks, l, m', s') → m' + c ≤ m ∧ lenS s' ≤ lenS s ∧ l.length = c
  | 0, m, s, ks, l, m', s', h => by
    simp only [itemsP, Option.some.injEq, Prod.mk.injEq] at h
    obtain ⟨rfl, rfl, rfl, rfl⟩ := h
    exact ⟨Nat.le_refl _, Nat.le_refl _, rfl⟩
  | c + 1, m, s, ks, l, m', s', h => by
    unfold itemsP at h
    have hs0 : lenS (if keys = true then (textS 1 255 s).2 else s) ≤ lenS s := by
      split
      · exact textS_lenS _ _ _
      · exact Nat.le_refl _
    cases h1 : v m (if keys = true then (textS 1 255 s).2 else s) with
    | none => rw [h1] at h; cases h
    | some p =>
      obtain ⟨t, m1, s1⟩ := p
      rw [h1] at h
      obtain ⟨a1, a2, a3⟩ := hv _ _ _ _ _ h1
      cases h2 : itemsP v keys c m1 s1 with
      | none => simp only [h2] at h; cases h
      | some p =>
        obtain ⟨ks2, l2, m2, s2⟩ := p
        simp only [h2, Option.some.injEq, Prod.mk.injEq] at h
        obtain ⟨rfl, rfl, rfl, rfl⟩ := h
        obtain ⟨b1, b2, b3⟩ := itemsP_leaves hv keys c m1 s1 _ _ _ _ h2
        exact ⟨by omega, by omega, by simp [b3]⟩
theorem listP_leaves {v : Nat → St → Option (Tree × Nat × St)} (hv : LeavesV v) (k : Nat) (keys : Bool) (m : Nat) (s : St) (t : Tree) (m' : Nat) (s' : St) (h : listP v k keys m s = some (t, m', s')) : m' ≤ m ∧ lenS s' ≤ lenS s ∧ s' ≠ none := by
  unfold listP at h
  cases h1 : itemsP v keys (numS 4 (numS 4 s).2).1 m (numS 4 (numS 4 s).2).2 with
  | none => rw [h1] at h; cases h
  | some p =>
    obtain ⟨ks, l, m1, s1⟩ := p
    simp only [h1] at h
    split at h
    · obtain ⟨_, rfl, rfl, hn⟩ := finP_some h
      obtain ⟨b1, b2, b3⟩ := itemsP_leaves hv keys _ _ _ _ _ _ _ h1
      have := numS_lenS 4 s
      have := numS_lenS 4 (numS 4 s).2
      exact ⟨by omega, by omega, hn⟩
    · cases h
theorem valP_leaves : ∀ f, LeavesV (valP f)
  | 0 => fun m s t m' s' h => by cases h
  | f + 1 => fun m s t m' s' h => by
    cases m with
    | zero => cases h
    | succ m =>
      have hk := numS_lenS 1 s
      unfold valP at h
      split at h
      · obtain ⟨_, rfl, rfl, hn⟩ := finP_some h
        have := numS_lenS (layD (numS 1 s).1).num (numS 1 s).2
        exact ⟨by omega, by omega, hn⟩
      · split at h
        · obtain ⟨_, rfl, rfl, hn⟩ := finP_some h
          have := textS_lenS (layD (numS 1 s).1).text (layD (numS 1 s).1).bytes (numS 1 s).2
          exact ⟨by omega, by omega, hn⟩
        · split at h
          · obtain ⟨a1, a2, a3⟩ := listP_leaves (valP_leaves f) _ _ _ _ _ _ _ h
            exact ⟨by omega, by omega, a3⟩
          · obtain ⟨_, rfl, rfl, hn⟩ := finP_some h
            exact ⟨by omega, by omega, hn⟩

/-- A beginning that has been read. -/
def pre3 (ks0 : List ByteArray) (l0 : List Tree) (p : Option (List ByteArray × List Tree × Nat × St)) : Option (List ByteArray × List Tree × Nat × St) :=
  match p with
  | none => none
  | some (ks, l, r) => some (ks0 ++ ks, l0 ++ l, r)
theorem pre3_nil (p : Option (List ByteArray × List Tree × Nat × St)) : pre3 [] [] p = p := by
  match p with
  | none => rfl
  | some (ks, l, r) => rfl
theorem itemsP_step (v : Nat → St → Option (Tree × Nat × St)) (keys : Bool) (c m : Nat) (s : St) (ks0 : List ByteArray) (l0 : List Tree) (t : Tree) (m' : Nat) (s' : St) (h : v m (if keys = true then (textS 1 255 s).2 else s) = some (t, m', s')) :
    pre3 ks0 l0 (itemsP v keys (c + 1) m s) = pre3 (ks0 ++ (if keys = true then [str8 (textS 1 255 s).1] else [])) (l0 ++ [t]) (itemsP v keys c m' s') := by
  rw [itemsP, h]
  show pre3 ks0 l0 (match itemsP v keys c m' s' with | none => none | some (ks, l, r) => some ((if keys = true then [str8 (textS 1 255 s).1] else []) ++ ks, t :: l, r)) = _
  match itemsP v keys c m' s' with
  | none => rfl
  | some (ks, l, r) => simp [pre3]
theorem itemsP_stop (v : Nat → St → Option (Tree × Nat × St)) (keys : Bool) (c m : Nat) (s : St) (ks0 : List ByteArray) (l0 : List Tree) (h : v m (if keys = true then (textS 1 255 s).2 else s) = none) :
    pre3 ks0 l0 (itemsP v keys (c + 1) m s) = none := by
  rw [itemsP, h]
  rfl

theorem own_frm2 {α : Type} {C : Code α} {e : TypeId} {b g B : Nat} {w w' : World} {v : Value} {l : List α} (h : OwnG C e w B v l) (hf : Frm2 b g w w') (hb : b < B) (hg : g < B) : OwnG C e w' B v l :=
  h.keep fun q hq => hf.block q (h.block q hq).2 (by have := (h.block q hq).1; omega) (by have := (h.block q hq).1; omega)

theorem free_frm2 {b g B : Nat} {v1 v2 : Value} {w w' : World} (hf : Frm2 b g w w') (hb : b < B) (hg : g < B) : Sub (pm (Free B v1 v2) w) (pm (Free B v1 v2) w') :=
  pm_pm hf.size fun k hk hkw => ⟨hk, hf.block k hkw (by have := hk.1; omega) (by have := hk.1; omega)⟩

def LBox (w : World) (b : Nat) (y : Lay) : Prop := w.heap[b]? = some (.cells y.cells 115 (0, 0))

set_option maxRecDepth 100000 in
set_option maxHeartbeats 4000000 in
theorem relements_any (f b g d k m : Nat) (s : St) (w : World) (hR : VR w b g d m s) (hk : k < 256) (hm : m ≤ 200) (hs : lenS s ≤ 880000)
    (hv : ∀ m1 s1 w1, m1 ≤ m → lenS s1 ≤ 880000 → VR w1 b g d m1 s1 → Calls Try.prog 49 #[.pointer (some ⟨b, 0, none⟩)] w1 (ValSaid b g d w1 (valP f m1 s1))) :
    Calls Try.prog 78 #[.pointer (some ⟨b, 0, none⟩), .agg (layD k).cells] w (ItemsSaid b g d k w (listP (valP f) k (layD k).keys m s)) := by
  have hblt := hR.lt
  have hglt := hR.rs.lt
  obtain ⟨r, hr⟩ : ∃ r, r = listP (valP f) k (layD k).keys m s := ⟨_, rfl⟩
  rw [← hr]
  unfold listP at hr
  have HV := Lib.hid hv
  have HLV := Lib.hid (valP_leaves f)
  have HST := Lib.hid (fun c m s ks0 l0 t m' s' h => itemsP_step (valP f) (layD k).keys c m s ks0 l0 t m' s' h)
  have HSP := Lib.hid (fun c m s ks0 l0 h => itemsP_stop (valP f) (layD k).keys c m s ks0 l0 h)
  have hsz1 : lenS (numS 4 s).2 ≤ 880000 := Nat.le_trans (numS_lenS 4 s) hs
  have hsz2 : lenS (numS 4 (numS 4 s).2).2 ≤ lenS (numS 4 s).2 := numS_lenS 4 _
  have hC : (numS 4 (numS 4 s).2).1 < 18446744073709551616 := numS_lt 4 _
  have hS : (numS 4 s).1 < 18446744073709551616 := numS_lt 4 _
  have hnum := Lib.hid (fun s w (h : RS w g d s) (hl : lenS s ≤ 880000) => num_any g d s 4 w h (by omega))
  have hleft := Lib.hid (fun w (h : RS w g d (numS 4 s).2) => (show Calls Try.prog 51 #[.pointer (some ⟨g, 0, none⟩)] w fun e w' => e = .returned (.int .i64 (lenS (numS 4 s).2)) ∧ w = w' by
    cases hx : (numS 4 s).2 with
    | none => rw [hx] at h; exact left_none g d w h
    | some l => rw [hx] at h; exact left_some g d l w h))
  have hleft2 := Lib.hid (fun s w (h : RS w g d s) => (show Calls Try.prog 51 #[.pointer (some ⟨g, 0, none⟩)] w fun e w' => e = .returned (.int .i64 (lenS s)) ∧ w = w' by
    cases s with
    | none => exact left_none g d w h
    | some l => exact left_some g d l w h))
  have HT := Lib.hid (fun s w (h : RS w g d s) (hl : lenS s ≤ 880000) => text_any g d s 1 255 w h (by omega) (by omega) (by omega))
  generalize hy : (layD k).keys = yk at *
  have hcells : (layD k).cells = #[.int .i64 (layD k).num, .int .u64 (layD k).most, .int .i64 (layD k).text, .int .i64 (layD k).bytes, .bool (layD k).list, .bool yk] := by unfold Lay.cells; rw [hy]
  rw [hcells]
  generalize (layD k).num = n1 at *
  generalize (layD k).most = n2 at *
  generalize (layD k).text = n3 at *
  generalize (layD k).bytes = n4 at *
  generalize (layD k).list = n5 at *
  obtain ⟨W0, hW0⟩ : ∃ W0, W0 = w.alloc (Obj.cells #[.int .i64 n1, .int .u64 n2, .int .i64 n3, .int .i64 n4, .bool n5, .bool yk] 115) := ⟨_, rfl⟩
  have hb0 : Below w.heap.size w W0 := by rw [hW0]; exact (Below.refl _ _).alloc (Nat.le_refl _) _
  have hL0 : W0.heap[w.heap.size]? = some (.cells #[.int .i64 n1, .int .u64 n2, .int .i64 n3, .int .i64 n4, .bool n5, .bool yk] 115 (0, 0)) := by rw [hW0]; exact heap_alloc_new _ _
  have hs0 : W0.heap.size = w.heap.size + 1 := by rw [hW0]; simp
  have hR0 := hR.keep hb0
  have hF0 : Frm2 b g w W0 := Frm2.of_below hb0
  have c0 := hR0.c0
  have hcA : ∀ o, (w.alloc o).cell? ⟨b, 0, none⟩ = some (.pointer (some ⟨g, 0, none⟩)) := fun o => by rw [World.cell?_alloc_lt _ _ _ hblt]; exact hR.c0
  have HHR := Lib.hid hr
  clear hcells hy hr hv hR hb0
  go_enter Try.func78, Try.ntmps78
  go_wp2_with fail
  rw [← hW0]
  have HW0 := Lib.hid hW0
  clear hW0 hcA
  refine (hnum.out s W0 hR0.rs hs).mono ?_
  rintro e w1 ⟨rfl, hr1, hg1⟩
  have hR1 := hR0.read hr1 hg1
  have hF1 := hF0.trans (Frm2.of_grown hg1)
  have hL1 := (hg1.block w.heap.size (by omega) (fun e => by have := Option.some.inj e; omega)).trans hL0
  have c1 := hR1.c0
  clear hr1 hg1 hR0 hF0 hL0 c0
  go_wp2_with fail
  refine (hleft.out w1 hR1.rs).mono ?_
  rintro e w2 ⟨rfl, rfl⟩
  go_wp2_with fail
  refine (hnum.out _ w1 hR1.rs hsz1).mono ?_
  rintro e w2 ⟨rfl, hr2, hg2⟩
  have hR2 := hR1.read hr2 hg2
  have hF2 := hF1.trans (Frm2.of_grown hg2)
  have hL2 := (hg2.block w.heap.size (by have := hF1.size; exact (Array.getElem?_eq_some_iff.1 hL1).1) (fun e => by have := Option.some.inj e; omega)).trans hL1
  clear hr2 hg2 hR1 hF1 hL1 c1
  generalize (numS 4 (numS 4 s).2).2 = s2 at *
  generalize (numS 4 (numS 4 s).2).1 = C at *
  generalize lenS (numS 4 s).2 = L0 at *
  generalize (numS 4 s).1 = S0 at *
  go_wp2_with fail
  go_loopw [4, 5, 23] (fun kv lv i wr => ∃ (j : Nat) (ksL : List ByteArray) (lT : List Tree) (xs : List Cell5) (mj : Nat) (sj : St), j ≤ C ∧ i = .int .u64 j ∧ OwnG strC 9 wr (w.heap.size + 1) kv ksL ∧ OwnG valC 27 wr (w.heap.size + 1) lv xs ∧
      xs.length = j ∧ lT.length = j ∧ ksL.length ≤ j ∧ (∀ x ∈ ksL, x.size ≤ 880000) ∧ Hid (∀ q (h1 : q < lT.length) (h2 : q < xs.length), ShowsT (pm (Free (w.heap.size + 1) kv lv) wr) lT[q] xs[q].vs) ∧ Apart kv lv ∧ VR wr b g d mj sj ∧ Frm2 b g w wr ∧ mj + j ≤ m ∧ lenS sj ≤ 880000 ∧ lenS sj ≤ L0 ∧
      wr.heap[w.heap.size]? = some (.cells #[.int .i64 n1, .int .u64 n2, .int .i64 n3, .int .i64 n4, .bool n5, .bool yk] 115 (0, 0)) ∧
      Hid (itemsP (valP f) yk C m s2 = pre3 ksL lT (itemsP (valP f) yk (C - j) mj sj))) (fun _ _ i _ => C - (intOf i).toNat)
  case atStart => exact ⟨0, [], [], [], m, s2, by omega, rfl, OwnG.nil_ _ _ _ _, OwnG.nil_ _ _ _ _, rfl, rfl, by simp, by simp, Lib.hid (fun q h => absurd h (by simp)), fun k h => by simp [Value.ownBlock] at h, hR2, hF2, by omega, by omega, hsz2, hL2, Lib.hid (by rw [Nat.sub_zero, pre3_nil])⟩
  case round =>
    obtain ⟨j, ksL, lT, xs, mj, sj, hj, rfl, hok, hol, hxl, hll, hkl, hkz, HSH, hAP, hRj, hFj, hmj, hsj, hsj0, hLj, HIT⟩ := hrel
    rename World => wj
    have c0 := hRj.c0
    have hszj := (Array.getElem?_eq_some_iff.1 hLj).1
    have y5 : wj.cell? ⟨w.heap.size, 5, none⟩ = some (.bool yk) := by rw [cell_of_row wj w.heap.size 5 _ 115 (0, 0) hLj]; rfl
    by_cases hlt : j < C
    · have hjl : (j : Int) < (C : Int) := by omega
      have hj64 : IntKind.u64.wrap ((j : Int) + 1) = ((j + 1 : Nat) : Int) := by rw [IntKind.wrap_u64]; omega
      have HITn : Hid (∀ p, itemsP (valP f) yk C m s2 = pre3 ksL lT (itemsP (valP f) yk (C - (j + 1) + 1) mj sj) → p → p) := Lib.hid (fun _ _ h => h)
      have hCj : C - j = C - (j + 1) + 1 := by omega
      have HIT2 : Hid (itemsP (valP f) yk C m s2 = pre3 ksL lT (itemsP (valP f) yk (C - (j + 1) + 1) mj sj)) := by rw [← hCj]; exact HIT
      have hokB := Lib.hid hok.block
      have holB := Lib.hid hol.block
      clear HIT HITn hCj
      go_upto_if 26 with fail
      go_cut [4] from 26 to 40 (fun kv2 wx => ∃ (ksN : List ByteArray) (s' : St), OwnG strC 9 wx (w.heap.size + 1) kv2 ksN ∧ OwnG valC 27 wx (w.heap.size + 1) u5 xs ∧ ksN.length ≤ j + 1 ∧ (∀ x ∈ ksN, x.size ≤ 880000) ∧ Hid (∀ q (h1 : q < lT.length) (h2 : q < xs.length), ShowsT (pm (Free (w.heap.size + 1) kv2 u5) wx) lT[q] xs[q].vs) ∧ Apart kv2 u5 ∧ VR wx b g d mj s' ∧ Frm2 b g w wx ∧ lenS s' ≤ lenS sj ∧
        wx.heap[w.heap.size]? = some (.cells #[.int .i64 n1, .int .u64 n2, .int .i64 n3, .int .i64 n4, .bool n5, .bool yk] 115 (0, 0)) ∧
        Hid (s' = (if yk = true then (textS 1 255 sj).2 else sj) ∧ ksN = ksL ++ (if yk = true then [str8 (textS 1 255 sj).1] else [])))
      case first =>
        cases yk with
        | false =>
          go_wp2_with fail
          go_meet
          exact ⟨ksL, sj, hok, hol, by omega, hkz, HSH, hAP, hRj, hFj, Nat.le_refl _, hLj, Lib.hid ⟨rfl, by simp⟩⟩
        | true =>
          have HTj := Lib.hid (HT.out sj wj hRj.rs hsj)
          have htl := textS_lenS 1 255 sj
          have htf := textS_fst_le 1 255 sj
          generalize (textS 1 255 sj).2 = s3 at *
          generalize (textS 1 255 sj).1 = tx at *
          go_wp2_with fail
          refine HTj.out.mono ?_
          rintro e w3 ⟨rfl, hr3, hg3⟩
          have hF3 : Frm2 b g wj w3 := Frm2.of_grown hg3
          have hok3 := own_frm2 hok hF3 (by omega) (by omega)
          have hol3 := own_frm2 hol hF3 (by omega) (by omega)
          have hR3 := hRj.read hr3 hg3
          have hL3 := (hF3.block w.heap.size hszj (by omega) (by omega)).trans hLj
          have hFw3 := hFj.trans hF3
          have hs3 := hF3.size
          have HSH3 : Hid (∀ q (h1 : q < lT.length) (h2 : q < xs.length), ShowsT (pm (Free (w.heap.size + 1) u4 u5) w3) lT[q] xs[q].vs) := Lib.hid fun q h1 h2 => (HSH.out q h1 h2).sub (free_frm2 hF3 (by omega) (by omega))
          have HP3 := Lib.hid (And.intro hol3 (And.intro hR3 (And.intro hL3 hFw3)))
          clear hr3 hg3 hF3 hR3 hL3 hFw3 hol3 hol hok
          go_wp2_with (at_builtin; refine wpList_appendW strC _ rfl (.tmp 27) (.tmp 33) 24 rfl (w.heap.size + 1) 9 (.string ⟨#[]⟩) 16 Try.underlying24 infoStr rfl _ ksL rfl (hok3.alloc_ _) w3.heap.size (.slice (some ⟨w3.heap.size, 0, none⟩) 1 1) [str8 tx] rfl (ShowsG.lit (C := strC) [str8 tx] (by simp [Code.all, strC]) (by simp [maxLen])) (by simp) (by simp; omega) (by simp; omega) (by simp; omega) ?_; intro v4 w4 ho4 hg4 hwh4)
          go_meet
          obtain ⟨hol3, hR3, hL3, hFw3⟩ := HP3.out
          have hbA : Below w3.heap.size w3 (w3.alloc (Obj.cells #[.string (str8 tx)] 9)) := (Below.refl _ _).alloc (Nat.le_refl _) _
          have hF34 : Frm2 b g w w4 := (hFw3.trans (Frm2.of_below hbA)).grown hg4 (fun k hk => by have := (hokB.out k hk).1; omega)
          have hkeep : ∀ k, k < w3.heap.size → u4.ownBlock ≠ some k → w4.heap[k]? = w3.heap[k]? := fun k hk hne => (hg4.block k (by simp; omega) (fun e => hne e.symm)).trans (hbA.block k hk)
          have hAP4 : Apart v4 u5 := apart_left hAP hwh4 (fun k hk => by have := (holB.out k hk).2; simp; omega)
          have hSub : Sub (pm (Free (w.heap.size + 1) u4 u5) w3) (pm (Free (w.heap.size + 1) v4 u5) w4) := free_left hbA hg4 hwh4
          refine ⟨ksL ++ [str8 tx], s3, ho4, hol3.keep (fun k hk => hkeep k (by have := (holB.out k hk).2; omega) (fun e => hAP k e hk)), by simp; omega, ?_, Lib.hid fun q h1 h2 => (HSH3.out q h1 h2).sub hSub, hAP4, ?_, hF34, htl, ?_, Lib.hid ⟨by simp, by simp⟩⟩
          · intro x hx
            rcases List.mem_append.1 hx with hx | hx
            · exact hkz x hx
            · simp at hx
              subst hx
              rw [str8_size]
              omega
          · have hdg := hR3.dg
            refine ⟨(hkeep b hR3.lt (fun e => by have := (hokB.out b e).1; omega)).trans hR3.box, hR3.rs.keep ?_ (hkeep g hR3.rs.lt (fun e => by have := (hokB.out g e).1; omega)) (fun hd => hkeep d hd (fun e => by have := (hokB.out d e).1; omega)), hR3.bg, hR3.bd, hR3.dg⟩
            have := hg4.size
            simp at this
            omega
          · exact (hkeep w.heap.size (by omega) (fun e => by have := (hokB.out _ e).1; omega)).trans hL3
      case rest =>
        obtain ⟨ksN, s', hok, hol, hkl2, hkz2, HSH2, hAP2, hR, hF, hss, hL, HEQ⟩ := hcut
        have hszc := (Array.getElem?_eq_some_iff.1 hL).1
        have hkB := Lib.hid hok.block
        have hlB := Lib.hid hol.block
        have hcall := HV.out mj s' wc (by omega) (by omega) hR
        have HCA := Lib.hid hcall
        have HP := Lib.hid (And.intro hok (And.intro hol (And.intro hR (And.intro hF hL))))
        clear hcall hok hol hR hF hL
        cases hval : valP f mj s' with
        | none =>
          have hrn : r = none := by
            have h1 := HIT2.out
            have h2 := HEQ.out.1
            rw [HSP.out _ _ _ _ _ (by rw [← h2]; exact hval)] at h1
            rw [HHR.out, h1]
          subst hrn
          rw [hval] at HCA
          go_wp2_with fail
          refine HCA.out.mono ?_
          rintro e w5 ⟨hF5, rfl⟩
          exact ⟨rfl, HP.out.2.2.2.1.trans hF5, .inl rfl⟩
        | some p =>
          obtain ⟨t, m2, s5⟩ := p
          rw [hval] at HCA
          obtain ⟨hlv1, hlv2, hlv3⟩ := HLV.out _ _ _ _ _ hval
          have HIT3 : Hid (itemsP (valP f) yk C m s2 = pre3 ksN (lT ++ [t]) (itemsP (valP f) yk (C - (j + 1)) m2 s5)) := Lib.hid (by
            rw [HIT2.out, HEQ.out.2]
            exact HST.out _ _ _ _ _ _ _ _ (by rw [← HEQ.out.1]; exact hval))
          go_wp2_with fail
          refine HCA.out.mono ?_
          rintro e w5 ⟨hF5, vs, rfl, hSH5, hR5⟩
          obtain ⟨x5k, x5n, x5s, x5a, x5b, x5c, x5d, x5e, x5f, rfl⟩ := hSH5.cells5
          have hs5 := hF5.size
          have hol5 := own_frm2 HP.out.2.1 hF5 (by omega) (by omega)
          have hok5 := Lib.hid (own_frm2 HP.out.1 hF5 (by omega) (by omega))
          have hFw5 := Lib.hid (HP.out.2.2.2.1.trans hF5)
          have hL5 := Lib.hid ((hF5.block w.heap.size hszc (by omega) (by omega)).trans HP.out.2.2.2.2)
          have HSH5 := Lib.hid hSH5
          have HR5 := Lib.hid hR5
          have HF5 := Lib.hid hF5
          clear hF5 hSH5 hR5
          go_wp2_with (at_builtin; refine wpList_appendW valC _ rfl (.tmp 35) (.tmp 38) 25 rfl (w.heap.size + 1) 27 (.agg #[.int .u8 0, .int .u64 0, .string ⟨#[]⟩, .slice none 0 0, .slice none 0 0]) 80 Try.underlying25 infoVal rfl _ xs rfl (hol5.alloc_ _) w5.heap.size (.slice (some ⟨w5.heap.size, 0, none⟩) 1 1) [⟨x5k, x5n, x5s, x5a, x5b, x5c, x5d, x5e, x5f⟩] rfl (ShowsG.lit (C := valC) [⟨x5k, x5n, x5s, x5a, x5b, x5c, x5d, x5e, x5f⟩] (by simp [Code.all, valC, Cell5.vs]) (by simp [maxLen])) (by simp) (by simp; omega) (by simp; omega) (by simp; omega) ?_; intro v6 w6 ho6 hg6 hwh6)
          have hbA : Below w5.heap.size w5 (w5.alloc (Obj.cells #[.int .u8 x5k, .int .u64 x5n, .string x5s, .slice x5a x5b x5c, .slice x5d x5e x5f] 27)) := (Below.refl _ _).alloc (Nat.le_refl _) _
          have hlB5 : ∀ k, u5.ownBlock = some k → w.heap.size + 1 ≤ k ∧ k < w5.heap.size := fun k hk => by have := hlB.out k hk; omega
          have hkeep : ∀ k, k < w5.heap.size → u5.ownBlock ≠ some k → w6.heap[k]? = w5.heap[k]? := fun k hk hne => (hg6.block k (by simp; omega) (fun e => hne e.symm)).trans (hbA.block k hk)
          have hF6 : Frm2 b g w w6 := (hFw5.out.trans (Frm2.of_below hbA)).grown hg6 (fun k hk => by have := (hlB5 k hk).1; omega)
          have hAP6 : Apart u4 v6 := (apart_left hAP2.symm hwh6 (fun k hk => by have := (hkB.out k hk).2; simp; omega)).symm
          have hSub : Sub (pm (Free (w.heap.size + 1) u4 u5) w5) (pm (Free (w.heap.size + 1) u4 v6) w6) := free_right hbA hg6 hwh6
          have hs6 : w5.heap.size ≤ w6.heap.size := by have := hg6.size; simp at this; omega
          have hlow : Sub (lowm wc.heap.size w5) (pm (Free (w.heap.size + 1) u4 v6) w6) := (low_pm (B := wc.heap.size) (Q := Free (w.heap.size + 1) u4 u5) (Nat.le_refl _) (fun k hk _ => ⟨⟨by omega, fun e => by have := (hkB.out k e).2; omega, fun e => by have := (hlB.out k e).2; omega⟩, rfl⟩)).trans hSub
          have hR6 : VR w6 b g d m2 s5 := by
            have h5 := HR5.out
            exact ⟨(hkeep b h5.lt (fun e => by have := (hlB5 b e).1; omega)).trans h5.box, h5.rs.keep hs6 (hkeep g h5.rs.lt (fun e => by have := (hlB5 g e).1; omega)) (fun hd => hkeep d hd (fun e => by have := (hlB5 d e).1; have := h5.dg; omega)), h5.bg, h5.bd, h5.dg⟩
          have hL6 := (hkeep w.heap.size (by omega) (fun e => by have := (hlB5 _ e).1; omega)).trans hL5.out
          have hok6 : OwnG strC 9 w6 (w.heap.size + 1) u4 ksN := hok5.out.keep (fun k hk => hkeep k (by have := (hkB.out k hk).2; omega) (fun e => hAP2 k hk e))
          have HALL : Hid (∀ q (h1 : q < (lT ++ [t]).length) (h2 : q < (xs ++ [(⟨x5k, x5n, x5s, x5a, x5b, x5c, x5d, x5e, x5f⟩ : Cell5)]).length), ShowsT (pm (Free (w.heap.size + 1) u4 v6) w6) (lT ++ [t])[q] (xs ++ [(⟨x5k, x5n, x5s, x5a, x5b, x5c, x5d, x5e, x5f⟩ : Cell5)])[q].vs) := Lib.hid (by
            intro q h1 h2
            by_cases hq : q < lT.length
            · have hq2 : q < xs.length := by omega
              rw [List.getElem_append_left hq, List.getElem_append_left hq2]
              exact ((HSH2.out q hq hq2).sub (free_frm2 HF5.out (by omega) (by omega))).sub hSub
            · have hq2 : ¬ q < xs.length := by omega
              rw [List.getElem_append_right (by omega), List.getElem_append_right (by omega)]
              simp only [List.getElem_singleton]
              exact HSH5.out.sub hlow)
          go_roundw
          case rel => exact ⟨j + 1, ksN, lT ++ [t], _, m2, s5, by omega, by go_num, hok6, ho6, by simp [hxl], by simp [hll], by omega, hkz2, HALL, hAP6, hR6, hF6, by omega, by omega, by omega, hL6, HIT3⟩
          case measure => simp [intOf]; omega
    · have hjl : ¬ (j : Int) < (C : Int) := by omega
      obtain rfl : j = C := by omega
      have hfin : itemsP (valP f) yk j m s2 = some (ksL, lT, mj, sj) := by
        rw [HIT.out, Nat.sub_self]
        simp [itemsP, pre3]
      have hrf : r = if L0 - lenS sj = S0 then finP (.node k 0 ⟨#[]⟩ ksL lT) mj sj else none := by
        rw [HHR.out, hfin]
      have HRF := Lib.hid hrf
      have hle := Lib.hid (hleft2.out sj wj hRj.rs)
      have hconv : IntKind.u64.wrap ((L0 : Int) - (lenS sj : Int)) = ((L0 - lenS sj : Nat) : Int) := by rw [IntKind.wrap_u64]; omega
      have hshow : Hid (∃ a3 n3 c3 a4 n4 c4, u4 = .slice a3 n3 c3 ∧ u5 = .slice a4 n4 c4 ∧ ShowsT (lowm w.heap.size wj) (.node k 0 ⟨#[]⟩ ksL lT) [.int .u8 k, .int .u64 (0 : Nat), .string ⟨#[]⟩, .slice a3 n3 c3, .slice a4 n4 c4]) := Lib.hid (by
        have hol' := (hol.low (Nat.le_refl _))
        have hok' := (hok.low (Nat.le_refl _))
        obtain ⟨A, c, e1, hLT⟩ := listT_own hol' (by omega) (by omega) (fun q hq => (HSH.out q hq (by omega)).sub (pm_low fun k hk => hk.1))
        obtain ⟨gk, _, hks⟩ := hok'.shows
        obtain ⟨A3, c3, e2⟩ := str_form hks
        subst e1
        subst e2
        refine ⟨_, _, _, _, _, _, rfl, rfl, ?_⟩
        exact (ShowsT.make hk (by decide) hks (by omega) (fun x hx => by have := hkz x hx; omega) (by decide) hLT).sub (low_anti (Nat.le_succ _)))
      have HFJ := Lib.hid hFj
      have HRJ := Lib.hid hRj
      clear hfin hrf hol hok HSH HIT
      by_cases hsz : L0 - lenS sj = S0
      · have hszI : (((L0 - lenS sj : Nat) : Int) == (S0 : Int)) = true := by rw [hsz]; simp
        go_wp2_with fail
        refine hle.out.mono ?_
        rintro e w3 ⟨rfl, rfl⟩
        go_wp2_with fail
        refine (must_yes _).mono ?_
        rintro e w3 ⟨rfl, rfl⟩
        obtain ⟨a3, n3', c3, a4, n4', c4, rfl, rfl, hSHF⟩ := hshow.out
        have HSHF := Lib.hid hSHF
        have hrf := HRF.out
        rw [if_pos hsz] at hrf
        clear hSHF HRF
        go_wp2_with fail
        go_ret2
        cases sj with
        | none =>
          rw [show r = none from hrf]
          exact ⟨HFJ.out, .inr ⟨_, _, _, _, _, _, mj, rfl, HRJ.out⟩⟩
        | some lx =>
          rw [show r = some (.node k 0 ⟨#[]⟩ ksL lT, mj, some lx) from hrf]
          exact ⟨HFJ.out, _, _, _, _, _, _, ksL, lT, rfl, by simp, rfl, HSHF.out, HRJ.out⟩
      · have hszI : (((L0 - lenS sj : Nat) : Int) == (S0 : Int)) = false := by simp; omega
        have hrf := HRF.out
        rw [if_neg hsz] at hrf
        subst hrf
        clear HRF
        go_wp2_with fail
        refine hle.out.mono ?_
        rintro e w3 ⟨rfl, rfl⟩
        go_wp2_with fail
        refine (must_no _).mono ?_
        rintro e w3 ⟨rfl, rfl⟩
        exact ⟨rfl, HFJ.out, .inl rfl⟩

/-- Reading a value, whatever it holds. -/
theorem rvalue_any : ∀ (f b g d m : Nat) (s : St) (w : World), m ≤ f → m ≤ 200 → lenS s ≤ 880000 → VR w b g d m s →
    Calls Try.prog 49 #[.pointer (some ⟨b, 0, none⟩)] w (ValSaid b g d w (valP f m s))
  | 0, b, g, d, m, s, w, hf, hm, hs, hR => by
    obtain rfl : m = 0 := by omega
    have := value_any 0 b g d 0 s w hR (by omega) hs (fun m1 _ _ _ h => by omega)
    exact this
  | f + 1, b, g, d, m, s, w, hf, hm, hs, hR => by
    refine value_any f b g d m s w hR hm hs fun m1 s1 w1 k h1 _ h3 h4 h5 => ?_
    refine relements_any f b g d k m1 s1 w1 h5 h4 (by omega) h3 fun m2 s2 w2 h6 h7 h8 => ?_
    exact rvalue_any f b g d m2 s2 w2 (by omega) (by omega) h7 h8

end Go.Proofs.Ytnafibnhmhbfiaa

/-
  The contracts of value.isValid and value.Check: what may be encoded.
  Conditions: none but sizes.
-/
import Derived.Test.YtnafibnhmhbfiaaValB
import Derived.Deep.CutRange
import Derived.Test.YtnafibnhmhbfiaaValD
namespace Go.Proofs.Ytnafibnhmhbfiaa
open Go.RowKit
set_option linter.unusedVariables false
set_option linter.unusedSimpArgs false

/-- A value may be, but for those in it. -/
def headOK (t : Tree) : Prop := knownD t.k = true ∧ t.n ≤ (layD t.k).most ∧ t.s.size ≤ (layD t.k).bytes ∧ ((layD t.k).list = false → t.l = []) ∧ (t.k = 149 → Lib.validD (sb t.s) = true) ∧ rightKeys t.k t.ks t.l.length
noncomputable def headB (t : Tree) : Bool := @decide (headOK t) (Classical.propDecidable _)
theorem headB_iff (t : Tree) : headB t = true ↔ headOK t := by unfold headB; exact @decide_eq_true_iff _ (Classical.propDecidable _)
theorem headB_no {t : Tree} (h : ¬ headOK t) : headB t = false := by unfold headB; exact @decide_eq_false _ (Classical.propDecidable _) h
mutual
noncomputable def validT : Tree → Bool
  | .node k n s ks l => headB (.node k n s ks l) && validL l
noncomputable def validL : List Tree → Bool
  | [] => true
  | a :: r => validT a && validL r
end
theorem validT_eq (t : Tree) : validT t = (headB t && validL t.l) := by cases t; rfl
theorem validL_all : ∀ l : List Tree, validL l = !(l.any fun t => !validT t)
  | [] => rfl
  | a :: r => by
    show (validT a && validL r) = _
    rw [validL_all r, List.any_cons]
    cases validT a <;> simp
theorem validT_no {t : Tree} (h : ¬ headOK t) : validT t = false := by rw [validT_eq, headB_no h]; rfl

def LayBox (w : World) (b : Nat) (y : Lay) : Prop := w.heap[b]? = some (.cells y.cells 115 (0, 0))

set_option maxRecDepth 100000 in
set_option maxHeartbeats 4000000 in
theorem isValid_any (N : Nat) : ∀ (t : Tree) (vs : List Value) (w : World), cntT t = N → ShowsT w t vs →
    Calls Try.prog 74 #[.agg vs.toArray] w fun e w' => e = .returned (.bool (validT t)) ∧ Below w.heap.size w w' := by
  induction N using Nat.strongRecOn with
  | ind N ih =>
  intro t vs w hN h
  have IH : Hid (∀ j (hj : j < t.l.length) (vs : List Value) (w' : World), ShowsT w' (t.l[j]'hj) vs → Calls Try.prog 74 #[.agg vs.toArray] w' fun e w'' => e = .returned (.bool (validT (t.l[j]'hj))) ∧ Below w'.heap.size w' w'') :=
    Lib.hid (fun j hj vs w' hs => ih _ (by rw [← hN]; exact cnt_child t j hj) _ vs w' rfl hs)
  clear ih hN
  have hsh := h
  obtain ⟨kv, A, c, d0, d1, cs, rfl, hk, hn, hks, hkl, hkz, hsz, hln, hlc, hcm, _⟩ := h.open
  obtain ⟨A3, c3, rfl⟩ := str_form hks
  have HL := Lib.hid (fun w => layoutOf_any t.k w)
  have hcl : Hid (∀ w, Below w.heap.size w w → True) := Lib.hid fun _ _ => trivial
  -- the closure over the values in it
  have HC : Hid (∀ (w' : World), Below w.heap.size w w' → Calls Try.prog 85 #[.slice A t.l.length c, .func (.func 89) #[] #[]] w' fun e w'' => e = .returned (.bool (!validL t.l)) ∧ Below w'.heap.size w' w'') := Lib.hid (by
    intro w' hw'
    have hl : ListT w' t.l A c := hsh.list.kept hw' (Nat.le_refl _)
    have := containsFunc_valid (fun t => !validT t) t.l A c w' hl (by
      intro j hj vs w2 hw2 hs
      have hI := IH.out j hj vs
      obtain ⟨v0, v1, v2, v3, v4, rfl⟩ : ∃ v0 v1 v2 v3 v4, vs = [v0, v1, v2, v3, v4] := by
        have hl := hs.len
        match vs, hl with
        | [a, b, c, d, e], _ => exact ⟨a, b, c, d, e, rfl⟩
      have HI := Lib.hid hI
      clear hI
      have hs2 := hs.kept ((Below.refl w2.heap.size w2).alloc (Nat.le_refl _) (Obj.cells #[v0, v1, v2, v3, v4] 27)) (Nat.le_refl _)
      generalize validT (t.l[j]'hj) = r at *
      go_enter Try.func89, Try.ntmps89
      go_wp2_with fail
      refine (HI.out _ hs2).mono ?_
      rintro e wx ⟨rfl, hx⟩
      go_wp2_with fail
      go_ret
      exact ⟨rfl, ((Below.refl _ _).alloc (Nat.le_refl _) _).trans (hx.mono (by simp))⟩)
    rw [validL_all, Bool.not_not]
    exact this)
  obtain ⟨R, hR⟩ : ∃ R, R = validT t := ⟨_, rfl⟩
  rw [← hR]
  have HNO := Lib.hid (fun (hx : ¬ headOK t) => hR.trans (validT_no hx))
  have HYES := Lib.hid (fun (hx : headOK t) => (hR.trans (validT_eq t)).trans (by rw [(headB_iff t).2 hx, Bool.true_and] : (headB t && validL t.l) = validL t.l))
  clear hR
  have HRK := Lib.hid (fun w' vs (hs : ShowsT w' t vs) => (show Calls Try.prog 88 #[.agg vs.toArray, .agg (layD t.k).cells] w' fun e w'' => e = .returned (.bool (decide (rightKeys t.k t.ks t.l.length))) ∧ Below w'.heap.size w' w'' by
    cases hb : (layD t.k).keys with
    | false => exact rightKeys_none t.k t vs w' hs hb
    | true => exact rightKeys_map t.k t vs w' hs hb))
  have HT := Lib.hid (fun w => isText_any t.s w hsz)
  have HRK2 : Hid (headOK t ↔ knownD t.k = true ∧ t.n ≤ (layD t.k).most ∧ t.s.size ≤ (layD t.k).bytes ∧ ((layD t.k).list = false → t.l = []) ∧ (t.k = 149 → Lib.validD (sb t.s) = true) ∧ rightKeys t.k t.ks t.l.length) := Lib.hid Iff.rfl
  have HRI : Hid (decide (rightKeys t.k t.ks t.l.length) = true ↔ rightKeys t.k t.ks t.l.length) := Lib.hid decide_eq_true_iff
  generalize decide (rightKeys t.k t.ks t.l.length) = rk at *
  generalize hy : layD t.k = y at *
  obtain ⟨yn, ym, yt, yb, yl, yk⟩ := y
  simp only [Lay.cells] at *
  generalize hkn : knownD t.k = kn at *
  go_enter Try.func74, Try.ntmps74
  go_wp2_with fail
  refine (HL.out _).mono ?_
  rintro e w1 ⟨rfl, hb1⟩
  have hX1 := (BoxV.new (v0 := .int .u8 t.k) (v1 := .int .u64 t.n) (v2 := .string t.s) (v3 := .slice A3 t.ks.length c3) (v4 := .slice A t.l.length c) w).kept hb1 (Nat.le_refl _)
  have hB1 : Below w.heap.size w w1 := (below_boxV w _).trans (hb1.mono (by simp))
  have hlt1 := hX1.lt
  obtain ⟨W, hW⟩ : ∃ W, W = w1.alloc (Obj.cells #[.int .i64 yn, .int .u64 ym, .int .i64 yt, .int .i64 yb, .bool yl, .bool yk] 115) := ⟨_, rfl⟩
  have hbW : Below w1.heap.size w1 W := by rw [hW]; exact (Below.refl _ _).alloc (Nat.le_refl _) _
  have hXW : BoxV W w.heap.size (.int .u8 t.k) (.int .u64 t.n) (.string t.s) (.slice A3 t.ks.length c3) (.slice A t.l.length c) := hX1.kept hbW (Nat.le_refl _)
  have hLW : W.heap[w1.heap.size]? = some (.cells #[.int .i64 yn, .int .u64 ym, .int .i64 yt, .int .i64 yb, .bool yl, .bool yk] 115 (0, 0)) := by rw [hW]; exact heap_alloc_new _ _
  have hBW : Below w.heap.size w W := hB1.trans (hbW.mono hB1.size)
  have hcellW : ∀ (W' : World), W'.heap[w1.heap.size]? = some (.cells #[.int .i64 yn, .int .u64 ym, .int .i64 yt, .int .i64 yb, .bool yl, .bool yk] 115 (0, 0)) → ∀ i, W'.cell? ⟨w1.heap.size, i, none⟩ = (#[Value.int .i64 yn, .int .u64 ym, .int .i64 yt, .int .i64 yb, .bool yl, .bool yk] : Array Value)[i]? := fun W' h' i => by rw [cell_of_row W' _ i _ 115 (0, 0) h']
  have y1 : W.cell? ⟨w1.heap.size, 1, none⟩ = some (.int .u64 ym) := hcellW W hLW 1
  have y3 : W.cell? ⟨w1.heap.size, 3, none⟩ = some (.int .i64 yb) := hcellW W hLW 3
  have y4 : W.cell? ⟨w1.heap.size, 4, none⟩ = some (.bool yl) := hcellW W hLW 4
  have x0 := hXW.c0
  have x1 := hXW.c1
  have x2 := hXW.c2
  have x4 := hXW.c4
  clear hy hk hn hkl hlc
  go_upto_region 2 with fail
  rw [← hW]
  have HXW := Lib.hid hXW
  have HLW := Lib.hid hLW
  clear hXW hLW hX1 hW
  cases kn with
  | false =>
    have hfin := HNO.out (fun h => by have := (HRK2.out.1 h).1; simp at this)
    subst hfin
    go_wp2_with fail
    go_ret
    exact ⟨rfl, hBW⟩
  | true =>
  by_cases h1 : t.n ≤ ym
  case neg =>
    have h1N : ym < t.n := by omega
    have hfin := HNO.out (fun h => h1 (HRK2.out.1 h).2.1)
    subst hfin
    go_wp2_with fail
    go_ret
    exact ⟨rfl, hBW⟩
  have h1N : ¬ ym < t.n := by omega
  by_cases h2 : t.s.size ≤ yb
  case neg =>
    have h2N : yb < t.s.size := by omega
    have hfin := HNO.out (fun h => h2 (HRK2.out.1 h).2.2.1)
    subst hfin
    go_wp2_with fail
    go_ret
    exact ⟨rfl, hBW⟩
  have h2N : ¬ yb < t.s.size := by omega
  go_upto_region 4 with fail
  -- a list where there may be none
  by_cases h3 : yl = false ∧ 0 < t.l.length
  case pos =>
    obtain ⟨rfl, h3⟩ := h3
    have hfin := HNO.out (fun h => by have := (HRK2.out.1 h).2.2.2.1 rfl; rw [this] at h3; simp at h3)
    subst hfin
    go_wp2_with fail
    go_ret
    exact ⟨rfl, hBW⟩
  have h3L : yl = false → t.l = [] := fun hy => List.eq_nil_of_length_eq_zero (by
    by_cases h0 : 0 < t.l.length
    · exact absurd ⟨hy, h0⟩ h3
    · omega)
  have H3L := Lib.hid h3L
  have htail : Hid (∀ (W3 : World), Below W.heap.size W W3 → (rk = true → R = validL t.l) → (rk = false → R = false) → True) := Lib.hid fun _ _ _ _ => trivial
  go_cut [36] from 28 to 54 (fun s2 wx => s2 = .bool false ∧ wx = W)
  case first =>
    cases yl with
    | true =>
      clear h3 h3L
      go_wp2_with fail
      go_meet
      exact ⟨rfl, rfl⟩
    | false =>
      have h3N : ¬ 0 < t.l.length := by rw [h3L rfl]; simp
      clear h3 h3L
      go_wp2_with fail
      go_meet
      exact ⟨rfl, rfl⟩
  case rest =>
    obtain ⟨rfl, hwc⟩ := hcut
    subst hwc
    rename World => w'
    have H3 := Lib.hid h3
    clear h3 h3L htail
    go_upto_region 6 with fail
    by_cases hbad : t.k = 149 ∧ Lib.validD (sb t.s) = false
    case pos =>
      obtain ⟨hk1, hk2⟩ := hbad
      have hkI : ((t.k : Int) == 149) = true := by rw [hk1]; rfl
      have hfin := HNO.out (fun h => by have := (HRK2.out.1 h).2.2.2.2.1 hk1; rw [hk2] at this; simp at this)
      subst hfin
      rw [hk2] at HT
      have hk3 := Lib.hid hk1
      clear hk1 hk2
      go_wp2_with fail
      refine (HT.out _).mono ?_
      rintro e w2 ⟨rfl, hb2⟩
      go_wp2_with fail
      go_ret
      exact ⟨rfl, hBW.trans (hb2.mono hBW.size)⟩
    have H5 : Hid (t.k = 149 → Lib.validD (sb t.s) = true) := Lib.hid (fun hk => by
      cases hv : Lib.validD (sb t.s) with
      | true => rfl
      | false => exact absurd ⟨hk, hv⟩ hbad)
    go_cut [45] from 37 to 54 (fun s2 wx => s2 = .bool false ∧ Below w'.heap.size w' wx)
    case first =>
      by_cases hk1 : t.k = 149
      · have hkI : ((t.k : Int) == 149) = true := by rw [hk1]; rfl
        have hv := H5.out hk1
        rw [hv] at HT
        clear hk1 hv hbad
        go_wp2_with fail
        refine (HT.out _).mono ?_
        rintro e w2 ⟨rfl, hb2⟩
        go_wp2_with fail
        go_meet
        exact ⟨rfl, hb2⟩
      · have hkI : ((t.k : Int) == 149) = false := by simp; omega
        clear hk1 hbad
        go_wp2_with fail
        go_meet
        exact ⟨rfl, Below.refl _ _⟩
    case rest =>
      obtain ⟨rfl, hb3⟩ := hcut
      have hBc := hBW.trans (hb3.mono hBW.size)
      have hXc := HXW.out.kept hb3 (Nat.le_refl _)
      have hLc := (hb3.block w1.heap.size (Array.getElem?_eq_some_iff.1 HLW.out).1).trans HLW.out
      have hXc0 := hXc.c0
      have hXc1 := hXc.c1
      have hXc2 := hXc.c2
      have hXc3 := hXc.c3
      have hXc4 := hXc.c4
      have z0 : wc.cell? ⟨w1.heap.size, 0, none⟩ = some (.int .i64 yn) := hcellW wc hLc 0
      have z1 : wc.cell? ⟨w1.heap.size, 1, none⟩ = some (.int .u64 ym) := hcellW wc hLc 1
      have z2 : wc.cell? ⟨w1.heap.size, 2, none⟩ = some (.int .i64 yt) := hcellW wc hLc 2
      have z3 : wc.cell? ⟨w1.heap.size, 3, none⟩ = some (.int .i64 yb) := hcellW wc hLc 3
      have z4 : wc.cell? ⟨w1.heap.size, 4, none⟩ = some (.bool yl) := hcellW wc hLc 4
      have z5 : wc.cell? ⟨w1.heap.size, 5, none⟩ = some (.bool yk) := hcellW wc hLc 5
      have hshc := hsh.kept hBc (Nat.le_refl _)
      have hRK := HRK.out wc _ hshc
      have HRKc := Lib.hid hRK
      have HXC := Lib.hid hXc
      have HBC := Lib.hid hBc
      clear hRK hXc hLc x0 x1 x2 x4 y1 y3 y4 hb3 hBW hshc hbad hcellW hbW
      cases rk with
      | false =>
        have hfin := HNO.out (fun h => by have := HRI.out.2 (HRK2.out.1 h).2.2.2.2.2; simp at this)
        subst hfin
        go_wp2_with fail
        refine HRKc.out.mono ?_
        rintro e w4 ⟨rfl, hb4⟩
        go_wp2_with fail
        go_ret
        exact ⟨rfl, HBC.out.trans (hb4.mono HBC.out.size)⟩
      | true =>
        have hfin := HYES.out (HRK2.out.2 ⟨rfl, h1, h2, H3L.out, H5.out, HRI.out.1 rfl⟩)
        have HFIN := Lib.hid hfin
        clear hfin
        generalize validL t.l = vl at *
        go_wp2_with fail
        refine HRKc.out.mono ?_
        rintro e w4 ⟨rfl, hb4⟩
        have hX4 := (HXC.out.kept hb4 (Nat.le_refl _)).c4
        have hB4 := HBC.out.trans (hb4.mono HBC.out.size)
        go_wp2_with fail
        refine (HC.out _ hB4).mono ?_
        rintro e w5 ⟨rfl, hb5⟩
        go_wp2_with fail
        go_ret
        exact ⟨by rw [HFIN.out]; simp, hB4.trans (hb5.mono hB4.size)⟩

/-- What Check answers. -/
noncomputable def checkT (t : Tree) : Nat := if deepD 6 t = true then 51 else if 200 < cntT t then 3 else if validT t = false then 50 else 0

set_option maxRecDepth 100000 in
set_option maxHeartbeats 1000000 in
theorem check_any (t : Tree) (vs : List Value) (w : World) (h : ShowsT w t vs) :
    Calls Try.prog 46 #[.agg vs.toArray] w fun e w' => e = .returned (.int .i64 (checkT t)) ∧ Below w.heap.size w w' := by
  have hsh := h
  obtain ⟨kv, A, c, d0, d1, cs, rfl, hk, hn, hks, hkl, hkz, hsz, hln, hlc, hcm, _⟩ := h.open
  obtain ⟨A3, c3, rfl⟩ := str_form hks
  have HD := Lib.hid (fun w' (hw' : Below w.heap.size w w') => deeps_any 5 t.l A c w' (by omega) (hsh.list.kept hw' (Nat.le_refl _)))
  have HS := Lib.hid (fun w' (hw' : Below w.heap.size w w') => spare_any _ t.l A c 199 w' (Nat.le_refl _) (by omega) (hsh.list.kept hw' (Nat.le_refl _)))
  have HV := Lib.hid (fun w' (hw' : Below w.heap.size w w') => isValid_any _ t _ w' rfl (hsh.kept hw' (Nat.le_refl _)))
  obtain ⟨R, hR⟩ : ∃ R, R = checkT t := ⟨_, rfl⟩
  rw [← hR]
  unfold checkT at hR
  rw [show deepD 6 t = t.l.any (deepD 5) from rfl] at hR
  have hcl := cntT_eq t
  have HR := Lib.hid hR
  have HCL := Lib.hid hcl
  have hX := BoxV.new (v0 := .int .u8 t.k) (v1 := .int .u64 t.n) (v2 := .string t.s) (v3 := .slice A3 t.ks.length c3) (v4 := .slice A t.l.length c) w
  have hBX := below_boxV w (Obj.cells #[.int .u8 t.k, .int .u64 t.n, .string t.s, .slice A3 t.ks.length c3, .slice A t.l.length c] 27)
  generalize t.l.any (deepD 5) = dp at *
  have HX := Lib.hid hX
  have HBX := Lib.hid hBX
  clear hR hcl hX hBX
  go_enter Try.func46, Try.ntmps46
  go_wp2_with fail
  refine (HD.out _ HBX.out).mono ?_
  rintro e w1 ⟨rfl, hb1⟩
  have hX1 := HX.out.kept hb1 (Nat.le_refl _)
  have hB1 := HBX.out.trans (hb1.mono HBX.out.size)
  have x4 := hX1.c4
  cases dp with
  | true =>
    have hfin : R = 51 := by rw [HR.out]; simp
    subst hfin
    go_wp2_with fail
    go_ret
    exact ⟨rfl, hB1⟩
  | false =>
    go_wp2_with fail
    refine (HS.out _ hB1).mono ?_
    rintro e w2 ⟨r, rfl, h1, h2, _, _, hb2⟩
    have hX2 := hX1.kept hb2 (Nat.le_refl _)
    have hB2 := hB1.trans (hb2.mono hB1.size)
    clear x4
    by_cases hr : r < 0
    · have hfin : R = 3 := by rw [HR.out, if_neg (by simp), if_pos]; have := HCL.out; omega
      subst hfin
      go_wp2_with fail
      go_ret
      exact ⟨rfl, hB2⟩
    · have hfin : R = if validT t = false then 50 else 0 := by rw [HR.out, if_neg (by simp), if_neg]; have := HCL.out; omega
      have HF := Lib.hid hfin
      clear hfin
      have x0 := hX2.c0
      have x1 := hX2.c1
      have x2 := hX2.c2
      have x3 := hX2.c3
      have x4 := hX2.c4
      generalize validT t = vd at *
      go_wp2_with fail
      refine (HV.out _ hB2).mono ?_
      rintro e w3 ⟨rfl, hb3⟩
      cases vd with
      | true =>
        go_wp2_with fail
        go_ret
        exact ⟨by rw [HF.out]; rfl, hB2.trans (hb3.mono hB2.size)⟩
      | false =>
        go_wp2_with fail
        go_ret
        exact ⟨by rw [HF.out]; rfl, hB2.trans (hb3.mono hB2.size)⟩

end Go.Proofs.Ytnafibnhmhbfiaa
